/- Nodes within events: what the program gathers of all nodes is what the specification answers. -/
import Derived.Test.YtmbbmibkjnlkkaaPnr
namespace Go.Proofs.Ytmbbmibkjnlkkaa
open Go.RowKit
def fEnd (i : Int) (f : Int) (n : Sp) : Int := if (n.at_ : Int) = i then n.end_ else f
def ahead (n : Sp) (i : Int) : Bool := decide (n.end_ ≠ -1) && decide (n.end_ < i)
def fUp (i : Int) (f : Int) (n : Sp) : Int := if (n.at_ : Int) < i ∧ ahead n i = false then (n.at_ : Int) else f
def fIn (u : Int) (f : List Nat) (n : Sp) : List Nat := if n.up = u then f ++ [n.at_] else f
/-- What is gathered of the nodes ahead of k. -/
def gat {α : Type} (l : List Ev) (F : α → Sp → α) (a : α) (k : Nat) : α := ((nodesTo l k).map (fin l)).foldl F a
section
variable {α : Type} {l : List Ev} {F : α → Sp → α} {a : α} {k : Nat}
theorem gat_zero : gat l F a 0 = a := rfl
theorem gat_yes (h : nodB l k = true) : gat l F a (k + 1) = F (gat l F a k) (fin l k) := by
  unfold gat
  rw [nodesTo_yes h, List.map_append, List.foldl_append]
  rfl
theorem gat_no (h : nodB l k = false) : gat l F a (k + 1) = gat l F a k := by
  unfold gat
  rw [nodesTo_no h]
theorem gat_all : (spansF l).foldl F a = gat l F a l.length := rfl
end
theorem gat_end (l : List Ev) (i : Int) : ∀ k, gat l (fEnd i) (-1) k = if 0 ≤ i ∧ i < (k : Int) ∧ nodB l i.toNat = true then endN l i.toNat else -1
  | 0 => by rw [gat_zero, if_neg (by omega)]
  | k + 1 => by
    have ih := gat_end l i k
    cases hb : nodB l k
    · rw [gat_no hb, ih]
      by_cases h : 0 ≤ i ∧ i < (k : Int) ∧ nodB l i.toNat = true
      · rw [if_pos h, if_pos ⟨h.1, by omega, h.2.2⟩]
      · rw [if_neg h, if_neg]
        rintro ⟨h1, h2, h3⟩
        by_cases e : i = (k : Int)
        · subst e
          rw [show (k : Int).toNat = k by omega, hb] at h3
          cases h3
        · exact h ⟨h1, by omega, h3⟩
    · rw [gat_yes hb, ih]
      unfold fEnd fin
      by_cases e : (k : Int) = i
      · subst e
        rw [if_pos rfl, if_pos ⟨by omega, by omega, by rw [show (k : Int).toNat = k by omega]; exact hb⟩]
        rw [show (k : Int).toNat = k by omega]
      · rw [if_neg e]
        by_cases h : 0 ≤ i ∧ i < (k : Int) ∧ nodB l i.toNat = true
        · rw [if_pos h, if_pos ⟨h.1, by omega, h.2.2⟩]
        · rw [if_neg h, if_neg (fun h' => h ⟨h'.1, by omega, h'.2.2⟩)]
theorem end_gat {l : List Ev} (h : nested l = true) (i : Int) : gat l (fEnd i) (-1) l.length = endOf l i := by
  rw [gat_end]
  unfold endOf
  by_cases hi : i < 0 ∨ (l.length : Int) ≤ i
  · rw [if_neg (by omega), if_pos (by omega)]
  · have hno : ¬ (nested l = false ∨ i < 0 ∨ (l.length : Int) ≤ i) := by rw [h]; simp; omega
    rw [if_neg (c := nested l = false ∨ i < 0 ∨ (l.length : Int) ≤ i) hno]
    by_cases hb : nodB l i.toNat = true
    · rw [if_pos ⟨by omega, by omega, hb⟩]
    · rw [if_neg (fun h' => hb h'.2.2)]
      unfold endN
      unfold nodB at hb
      split
      · rfl
      · rename_i e he
        rw [he] at hb
        simp at hb
        rw [if_pos hb]
theorem head_max {l : List Ev} {k x : Nat} (h : x ∈ stk l k) : (x : Int) ≤ headI (stk l k) := by
  have hp := stk_down l k
  cases hs : stk l k with
  | nil => rw [hs] at h; simp at h
  | cons a r =>
    rw [hs] at h hp
    rcases List.mem_cons.1 h with rfl | h'
    · exact Int.le_refl _
    · have := (List.pairwise_cons.1 hp).1 x h'
      show (x : Int) ≤ (a : Int)
      omega
theorem ahead_open {l : List Ev} {j i : Nat} {e : Ev} (he : l[j]? = some e) (hn : nodE e = true) (hji : j < i) (hi : i ≤ l.length) : ahead (fin l j) i = false ↔ j ∈ stk l i := by
  rw [open_iff he hn hji hi]
  have hj : j < l.length := (List.getElem?_eq_some_iff.1 he).1
  have := endN_le l j (by omega)
  unfold ahead fin
  simp
  omega
/-- The greatest one that is open at i, of those ahead of k. -/
theorem gat_up (l : List Ev) (i : Nat) (hi : i < l.length) : ∀ k, k ≤ i → ((gat l (fUp i) (-1) k = -1 ∧ ∀ x ∈ stk l i, ¬ x < k) ∨ ∃ m : Nat, gat l (fUp i) (-1) k = (m : Int) ∧ m ∈ stk l i ∧ m < k ∧ ∀ x ∈ stk l i, x < k → x ≤ m)
  | 0, _ => .inl ⟨rfl, fun x _ => by omega⟩
  | k + 1, hk => by
    have ih := gat_up l i hi k (by omega)
    obtain ⟨e, he⟩ : ∃ e, l[k]? = some e := ⟨_, List.getElem?_eq_getElem (by omega)⟩
    have hnb := nodB_some he
    by_cases hm : k ∈ stk l i
    · obtain ⟨e', he', hc'⟩ := stk_is l i k hm
      rw [he] at he'
      injection he' with he'
      subst he'
      have hn := col_node hc'
      right
      refine ⟨k, ?_, hm, by omega, fun x _ hx => by omega⟩
      rw [gat_yes (by rw [hnb]; exact hn)]
      unfold fUp
      rw [if_pos ⟨by show (k : Int) < i; omega, (ahead_open he hn (by omega) (by omega)).2 hm⟩]
      rfl
    · have hsame : gat l (fUp i) (-1) (k + 1) = gat l (fUp i) (-1) k := by
        cases hn : nodE e
        · exact gat_no (by rw [hnb]; exact hn)
        · rw [gat_yes (by rw [hnb]; exact hn)]
          unfold fUp
          rw [if_neg]
          rintro ⟨_, h⟩
          exact hm ((ahead_open he hn (by omega) (by omega)).1 h)
      rw [hsame]
      have hx : ∀ x ∈ stk l i, x < k + 1 → x < k := by
        intro x hx1 hx2
        have : x ≠ k := fun e => hm (e ▸ hx1)
        omega
      rcases ih with ⟨h1, h2⟩ | ⟨m, h1, h2, h3, h4⟩
      · exact .inl ⟨h1, fun x h h' => h2 x h (hx x h h')⟩
      · exact .inr ⟨m, h1, h2, by omega, fun x h h' => h4 x h (hx x h h')⟩
theorem gat_up_on (l : List Ev) (i : Int) : ∀ (d k : Nat), (k : Int) ≥ i → gat l (fUp i) (-1) (k + d) = gat l (fUp i) (-1) k
  | 0, k, _ => rfl
  | d + 1, k, hk => by
    rw [show k + (d + 1) = (k + d) + 1 by omega, ← gat_up_on l i d k hk]
    cases hb : nodB l (k + d)
    · exact gat_no hb
    · rw [gat_yes hb]
      unfold fUp
      rw [if_neg]
      rintro ⟨h, _⟩
      have : ((fin l (k + d)).at_ : Int) = ((k + d : Nat) : Int) := rfl
      omega
theorem up_gat {l : List Ev} (h : nested l = true) (i : Int) (hi : i < (l.length : Int)) : gat l (fUp i) (-1) l.length = upOf l i := by
  unfold upOf
  by_cases h0 : i < 0
  · rw [if_pos (by omega)]
    have := gat_up_on l i l.length 0 (by omega)
    rw [Nat.zero_add] at this
    rw [this]
    rfl
  · rw [if_neg (by rw [h]; simp; omega)]
    obtain ⟨n, rfl⟩ : ∃ n : Nat, i = (n : Int) := ⟨i.toNat, by omega⟩
    have h1 := gat_up_on l n (l.length - n) n (by omega)
    rw [show n + (l.length - n) = l.length by omega] at h1
    rw [h1, show (n : Int).toNat = n by omega, up_head l n (by omega)]
    rcases gat_up l n (by omega) n (Nat.le_refl _) with ⟨h2, h3⟩ | ⟨m, h2, h3, h4, h5⟩
    · rw [h2]
      cases hs : stk l n with
      | nil => rfl
      | cons a r => exact absurd (stk_lt l n a (by rw [hs]; exact List.mem_cons_self)) (h3 a (by rw [hs]; exact List.mem_cons_self))
    · rw [h2]
      have hmx := head_max h3
      cases hs : stk l n with
      | nil => rw [hs] at h3; simp at h3
      | cons a r =>
        have ha : a ∈ stk l n := by rw [hs]; exact List.mem_cons_self
        have := h5 a ha (stk_lt l n a ha)
        rw [hs] at hmx
        have hh : headI (a :: r) = (a : Int) := rfl
        rw [hh] at hmx ⊢
        omega
/-- The members are those that have it around them. -/
def inAt (l : List Ev) (u : Int) (j : Nat) : Bool := nodB l j && decide (upG l j 0 = u)
theorem gat_in (l : List Ev) (u : Int) : ∀ k, gat l (fIn u) [] k = (List.range k).filter (inAt l u)
  | 0 => rfl
  | k + 1 => by
    have ih := gat_in l u k
    rw [List.range_succ, List.filter_append, ← ih]
    cases hb : nodB l k
    · rw [gat_no hb]
      simp [inAt, hb]
    · rw [gat_yes hb]
      unfold fIn
      show (if upG l k 0 = u then gat l _ [] k ++ [k] else gat l _ [] k) = _
      by_cases e : upG l k 0 = u
      · simp [inAt, hb, e]
      · simp [inAt, hb, e]
theorem roots_gat {l : List Ev} (h : nested l = true) : gat l (fIn (-1)) [] l.length = rootsOf l := by
  rw [gat_in]
  unfold rootsOf rootsTo
  apply List.filter_congr
  intro j hj
  have hjl : j < l.length := by simpa using hj
  obtain ⟨e, he⟩ : ∃ e, l[j]? = some e := ⟨_, List.getElem?_eq_getElem hjl⟩
  have hN := ns_at h he
  unfold inAt rootAt
  rw [nodB_some he, he, h]
  cases hn : nodE e
  · simp [hn]
  · have hr := hN.root hn
    rw [up_head l j (by omega)]
    have hh : headI (stk l j) = -1 ↔ stk l j = [] := by
      cases stk l j with
      | nil => simp [headI]
      | cons a r => simp [headI]
    rw [← hh] at hr
    by_cases h1 : headI (stk l j) = -1
    · have := hr.1 h1
      simp [h1, this, hn]
    · have : ¬ (0 < j ∧ kindAt l (j - 1) = 2) := fun h' => h1 (hr.2 h')
      simp [h1, hn]
      intro h3 h4
      exact this ⟨h3, h4⟩
/-- .. from k on. -/
def seg (l : List Ev) (u : Int) (k : Nat) : List Nat := (List.range' k (l.length - k)).filter (inAt l u)
theorem seg_end (l : List Ev) (u : Int) (k : Nat) (h : l.length ≤ k) : seg l u k = [] := by
  unfold seg
  rw [show l.length - k = 0 by omega]
  rfl
theorem seg_yes {l : List Ev} {u : Int} {k : Nat} (hk : k < l.length) (h : inAt l u k = true) : seg l u k = k :: seg l u (k + 1) := by
  unfold seg
  rw [show l.length - k = (l.length - (k + 1)) + 1 by omega, List.range'_succ, List.filter_cons, if_pos h]
theorem seg_no {l : List Ev} {u : Int} {k : Nat} (h : inAt l u k = false) : seg l u k = seg l u (k + 1) := by
  by_cases hk : k < l.length
  · unfold seg
    rw [show l.length - k = (l.length - (k + 1)) + 1 by omega, List.range'_succ, List.filter_cons, if_neg (by simp [h])]
  · rw [seg_end l u k (by omega), seg_end l u (k + 1) (by omega)]
theorem seg_skip {l : List Ev} {u : Int} : ∀ (d k : Nat), (∀ j, k ≤ j → j < k + d → inAt l u j = false) → seg l u k = seg l u (k + d)
  | 0, k, _ => rfl
  | d + 1, k, h => by
    rw [seg_no (h k (Nat.le_refl _) (by omega)), seg_skip d (k + 1) (fun j h1 h2 => h j (by omega) (by omega))]
    congr 1
    omega
theorem stk_gone {l : List Ev} {i k : Nat} (hik : i < k) (h : i ∉ stk l k) : ∀ d, i ∉ stk l (k + d)
  | 0 => h
  | d + 1 => by
    have ih := stk_gone hik h d
    rw [show k + (d + 1) = (k + d) + 1 by omega, stk]
    split
    · exact ih
    · split
      · intro hm
        rcases List.mem_cons.1 hm with e | e
        · omega
        · exact ih e
      · split
        · exact fun hm => ih (List.mem_of_mem_tail hm)
        · exact ih
theorem not_in {l : List Ev} {i j : Nat} (hj : j ≤ l.length) (h : headI (stk l j) ≠ (i : Int)) : inAt l i j = false := by
  unfold inAt
  rw [up_head l j hj]
  simp [h]
/-- Behind the node k the stack is what it was ahead of it. -/
theorem stk_behind {l : List Ev} {k e : Nat} {ev : Ev} (he : l[k]? = some ev) (hn : nodE ev = true) (hE : endN l k = (e : Int)) : stk l (e + 1) = stk l k ∧ k ≤ e ∧ e < l.length := by
  have hk : k < l.length := (List.getElem?_eq_some_iff.1 he).1
  have hle := endN_le l k (by omega)
  have hek : k ≤ e ∧ e < l.length := by omega
  refine ⟨?_, hek⟩
  by_cases hc : colE ev = true
  · obtain ⟨e1, he1⟩ : ∃ e1, l[e]? = some e1 := ⟨_, List.getElem?_eq_getElem hek.2⟩
    have hne : k ≠ e := by
      intro h'
      subst h'
      rw [endN_col he hc] at hE
      rcases endG_le (l.drop (k + 1)) (k + 1) 1 with h | h
      · omega
      · omega
    obtain ⟨h7, hh⟩ := endN_hit he hn (by omega) he1 hE
    obtain ⟨_, hd⟩ := end_in l e 0 k (by omega) (by rw [← List.head?_eq_getElem?]; exact hh)
    rw [stk_end he1 h7, ← hd]
    simp
  · have hcf : colE ev = false := by simpa using hc
    have := endN_leaf he hn hcf
    have hke : e = k := by omega
    subst hke
    refine stk_else he hcf ?_
    unfold nodE at hn
    simp at hn
    omega
theorem kid_seg {l : List Ev} (h : nested l = true) (i : Nat) (r : List Nat) : ∀ (f k : Nat) (acc : List Nat), l.length < f + k → k ≤ l.length → stk l k = i :: r → kidG l f k acc = acc ++ seg l i k
  | 0, k, acc, hf, hk, _ => by omega
  | f + 1, k, acc, hf, hk, hs => by
    have hik : i < k := stk_lt l k i (by rw [hs]; exact List.mem_cons_self)
    rw [kidG]
    cases he : l[k]? with
    | none =>
      have : l.length ≤ k := List.getElem?_eq_none_iff.1 he
      simp [seg_end l i k this]
    | some e =>
      have hkl : k < l.length := (List.getElem?_eq_some_iff.1 he).1
      have hN := ns_at h he
      simp only []
      cases hn : nodE e
      · simp only [if_true]
        have hk0 : inAt l i k = false := by unfold inAt; rw [nodB_some he, hn]; rfl
        by_cases h7 : e.kind = 7
        · have hg : i ∉ stk l (k + 1) := by
            rw [stk_end he h7, hs]
            have hp := stk_down l k
            rw [hs] at hp
            intro hm
            have := (List.pairwise_cons.1 hp).1 i hm
            omega
          rw [seg_skip (l.length - k) k, seg_end _ _ _ (by omega), List.append_nil]
          intro j h1 h2
          by_cases e1 : j = k
          · rw [e1]; exact hk0
          · have hgj := stk_gone (by omega) hg (j - (k + 1))
            rw [show k + 1 + (j - (k + 1)) = j by omega] at hgj
            refine not_in (by omega) (fun hh => hgj ?_)
            cases hsj : stk l j with
            | nil => rw [hsj] at hh; simp [headI] at hh
            | cons a q =>
              rw [hsj] at hh
              have : (a : Int) = (i : Int) := hh
              rw [show i = a by omega]
              exact List.mem_cons_self
        · have hlast := hN.last hn h7 (by rw [hs]; simp)
          rw [seg_no hk0, seg_end _ _ _ (by omega), List.append_nil]
      · have hin : inAt l i k = true := by
          unfold inAt
          rw [nodB_some he, hn, up_head l k (by omega), hs]
          simp [headI]
        have hbusy : ∀ j, k < j → j ≤ l.length → (endN l k < 0 ∨ (j : Int) ≤ endN l k) → inAt l i j = false := by
          intro j h1 h2 h3
          have hm := (open_iff he hn h1 h2).2 h3
          have := head_max hm
          exact not_in h2 (by omega)
        rw [seg_yes hkl hin]
        simp only [Bool.true_eq_false, if_false]
        by_cases hneg : endN l k < 0
        · rw [if_pos hneg, seg_skip (l.length - (k + 1)) (k + 1), seg_end _ _ _ (by omega)]
          intro j h1 h2
          exact hbusy j (by omega) (by omega) (.inl hneg)
        · rw [if_neg hneg]
          obtain ⟨m, hm⟩ : ∃ m : Nat, endN l k = (m : Int) := ⟨(endN l k).toNat, by omega⟩
          obtain ⟨hst, hkm, hml⟩ := stk_behind he hn hm
          rw [hm, show (m : Int).toNat = m by omega]
          rw [kid_seg h i r f (m + 1) (acc ++ [k]) (by omega) (by omega) (by rw [hst]; exact hs)]
          rw [seg_skip (m - k) (k + 1), show k + 1 + (m - k) = m + 1 by omega]
          · simp
          · intro j h1 h2
            exact hbusy j (by omega) (by omega) (.inr (by omega))
theorem range_seg (l : List Ev) (u : Int) : (List.range l.length).filter (inAt l u) = seg l u 0 := by
  unfold seg
  rw [List.range_eq_range', Nat.sub_zero]
theorem kids_gat {l : List Ev} (h : nested l = true) (i : Int) (h0 : 0 ≤ i) : gat l (fIn i) [] l.length = kidsOfE l i := by
  rw [gat_in]
  have hup : ∀ j, j < l.length → inAt l i j = true → ∃ n : Nat, i = (n : Int) ∧ n ∈ stk l j := by
    intro j hj hin
    unfold inAt at hin
    rw [up_head l j (by omega)] at hin
    simp at hin
    cases hs : stk l j with
    | nil => rw [hs] at hin; have := hin.2; simp [headI] at this; omega
    | cons a q =>
      rw [hs] at hin
      exact ⟨a, hin.2.symm, List.mem_cons_self⟩
  unfold kidsOfE
  by_cases hi : (l.length : Int) ≤ i
  · rw [if_pos (by omega), List.filter_eq_nil_iff]
    intro j hj hin
    have hjl : j < l.length := by simpa using hj
    obtain ⟨n, rfl, hm⟩ := hup j hjl hin
    have := stk_lt l j n hm
    omega
  · rw [if_neg (by rw [h]; simp; omega)]
    obtain ⟨n, rfl⟩ : ∃ n : Nat, i = (n : Int) := ⟨i.toNat, by omega⟩
    rw [show (n : Int).toNat = n by omega]
    obtain ⟨e, he⟩ : ∃ e, l[n]? = some e := ⟨_, List.getElem?_eq_getElem (by omega)⟩
    unfold kidN
    rw [he]
    simp only []
    cases hc : colE e
    · simp only [if_true]
      rw [List.filter_eq_nil_iff]
      intro j hj hin
      have hjl : j < l.length := by simpa using hj
      obtain ⟨m, hm1, hm⟩ := hup j hjl hin
      obtain ⟨e', he', hc'⟩ := stk_is l j m hm
      rw [show m = n by omega, he] at he'
      injection he' with he'
      subst he'
      rw [hc] at hc'
      cases hc'
    · simp only [Bool.true_eq_false, if_false]
      rw [kid_seg h n (stk l n) (l.length + 1) (n + 1) [] (by omega) (by omega) (stk_col he hc), List.nil_append, range_seg]
      have := seg_skip (l := l) (u := (n : Int)) (n + 1) 0
      rw [Nat.zero_add] at this
      refine this ?_
      intro j _ hj
      cases hin : inAt l n j
      · rfl
      · obtain ⟨m, hm1, hm⟩ := hup j (by omega) hin
        have := stk_lt l j m hm
        omega
end Go.Proofs.Ytmbbmibkjnlkkaa
