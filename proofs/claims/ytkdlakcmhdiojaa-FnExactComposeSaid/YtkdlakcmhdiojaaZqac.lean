/- Several texts in one: Pnf Pnj Gpl. -/
import Derived.Test.YtkdlakcmhdiojaaZqab
import Derived.WalkKit
import Derived.ProofKit
import Derived.Below
import Derived.Deep.Draws
/- Nodes within events: what the program gathers of all nodes is what the specification answers. -/
namespace Go.Proofs.Ytkdlakcmhdiojaa
open Go.RowKit
def fEnd (i : Int) (f : Int) (n : Sp) : Int := if (n.at_ : Int) = i then n.end_ else f
def ahead (n : Sp) (i : Int) : Bool := decide (n.end_ ≠ -1) && decide (n.end_ < i)
def fUp (i : Int) (f : Int) (n : Sp) : Int := if (n.at_ : Int) < i ∧ ahead n i = false then (n.at_ : Int) else f
def fIn (u : Int) (f : List Nat) (n : Sp) : List Nat := if n.up = u then f ++ [n.at_] else f
/-- What is gathered of the nodes ahead of k. -/
def gat {α : Type} (l : List Ev) (F : α → Sp → α) (a : α) (k : Nat) : α := ((nodesTo l k).map (fin l)).foldl F a
section
variable {α : Type} {l : List Ev} {F : α → Sp → α} {a : α} {k : Nat}
theorem gat_zero : gat l F a 0 = a := rfl
theorem gat_yes (h : nodB l k = true) : gat l F a (k + 1) = F (gat l F a k) (fin l k) := by
  unfold gat
  rw [nodesTo_yes h, List.map_append, List.foldl_append]
  rfl
theorem gat_no (h : nodB l k = false) : gat l F a (k + 1) = gat l F a k := by
  unfold gat
  rw [nodesTo_no h]
theorem gat_all : (spansF l).foldl F a = gat l F a l.length := rfl
end
theorem gat_end (l : List Ev) (i : Int) : ∀ k, gat l (fEnd i) (-1) k = if 0 ≤ i ∧ i < (k : Int) ∧ nodB l i.toNat = true then endN l i.toNat else -1
  | 0 => by rw [gat_zero, if_neg (by omega)]
  | k + 1 => by
    have ih := gat_end l i k
    cases hb : nodB l k
    · rw [gat_no hb, ih]
      by_cases h : 0 ≤ i ∧ i < (k : Int) ∧ nodB l i.toNat = true
      · rw [if_pos h, if_pos ⟨h.1, by omega, h.2.2⟩]
      · rw [if_neg h, if_neg]
        rintro ⟨h1, h2, h3⟩
        by_cases e : i = (k : Int)
        · subst e
          rw [show (k : Int).toNat = k by omega, hb] at h3
          cases h3
        · exact h ⟨h1, by omega, h3⟩
    · rw [gat_yes hb, ih]
      unfold fEnd fin
      by_cases e : (k : Int) = i
      · subst e
        rw [if_pos rfl, if_pos ⟨by omega, by omega, by rw [show (k : Int).toNat = k by omega]; exact hb⟩]
        rw [show (k : Int).toNat = k by omega]
      · rw [if_neg e]
        by_cases h : 0 ≤ i ∧ i < (k : Int) ∧ nodB l i.toNat = true
        · rw [if_pos h, if_pos ⟨h.1, by omega, h.2.2⟩]
        · rw [if_neg h, if_neg (fun h' => h ⟨h'.1, by omega, h'.2.2⟩)]
theorem end_gat {l : List Ev} (h : nested l = true) (i : Int) : gat l (fEnd i) (-1) l.length = endOf l i := by
  rw [gat_end]
  unfold endOf
  by_cases hi : i < 0 ∨ (l.length : Int) ≤ i
  · rw [if_neg (by omega), if_pos (by omega)]
  · have hno : ¬ (nested l = false ∨ i < 0 ∨ (l.length : Int) ≤ i) := by rw [h]; simp; omega
    rw [if_neg (c := nested l = false ∨ i < 0 ∨ (l.length : Int) ≤ i) hno]
    by_cases hb : nodB l i.toNat = true
    · rw [if_pos ⟨by omega, by omega, hb⟩]
    · rw [if_neg (fun h' => hb h'.2.2)]
      unfold endN
      unfold nodB at hb
      split
      · rfl
      · rename_i e he
        rw [he] at hb
        simp at hb
        rw [if_pos hb]
theorem head_max {l : List Ev} {k x : Nat} (h : x ∈ stk l k) : (x : Int) ≤ headI (stk l k) := by
  have hp := stk_down l k
  cases hs : stk l k with
  | nil => rw [hs] at h; simp at h
  | cons a r =>
    rw [hs] at h hp
    rcases List.mem_cons.1 h with rfl | h'
    · exact Int.le_refl _
    · have := (List.pairwise_cons.1 hp).1 x h'
      show (x : Int) ≤ (a : Int)
      omega
theorem ahead_open {l : List Ev} {j i : Nat} {e : Ev} (he : l[j]? = some e) (hn : nodE e = true) (hji : j < i) (hi : i ≤ l.length) : ahead (fin l j) i = false ↔ j ∈ stk l i := by
  rw [open_iff he hn hji hi]
  have hj : j < l.length := (List.getElem?_eq_some_iff.1 he).1
  have := endN_le l j (by omega)
  unfold ahead fin
  simp
  omega
/-- The greatest one that is open at i, of those ahead of k. -/
theorem gat_up (l : List Ev) (i : Nat) (hi : i < l.length) : ∀ k, k ≤ i → ((gat l (fUp i) (-1) k = -1 ∧ ∀ x ∈ stk l i, ¬ x < k) ∨ ∃ m : Nat, gat l (fUp i) (-1) k = (m : Int) ∧ m ∈ stk l i ∧ m < k ∧ ∀ x ∈ stk l i, x < k → x ≤ m)
  | 0, _ => .inl ⟨rfl, fun x _ => by omega⟩
  | k + 1, hk => by
    have ih := gat_up l i hi k (by omega)
    obtain ⟨e, he⟩ : ∃ e, l[k]? = some e := ⟨_, List.getElem?_eq_getElem (by omega)⟩
    have hnb := nodB_some he
    by_cases hm : k ∈ stk l i
    · obtain ⟨e', he', hc'⟩ := stk_is l i k hm
      rw [he] at he'
      injection he' with he'
      subst he'
      have hn := col_node hc'
      right
      refine ⟨k, ?_, hm, by omega, fun x _ hx => by omega⟩
      rw [gat_yes (by rw [hnb]; exact hn)]
      unfold fUp
      rw [if_pos ⟨by show (k : Int) < i; omega, (ahead_open he hn (by omega) (by omega)).2 hm⟩]
      rfl
    · have hsame : gat l (fUp i) (-1) (k + 1) = gat l (fUp i) (-1) k := by
        cases hn : nodE e
        · exact gat_no (by rw [hnb]; exact hn)
        · rw [gat_yes (by rw [hnb]; exact hn)]
          unfold fUp
          rw [if_neg]
          rintro ⟨_, h⟩
          exact hm ((ahead_open he hn (by omega) (by omega)).1 h)
      rw [hsame]
      have hx : ∀ x ∈ stk l i, x < k + 1 → x < k := by
        intro x hx1 hx2
        have : x ≠ k := fun e => hm (e ▸ hx1)
        omega
      rcases ih with ⟨h1, h2⟩ | ⟨m, h1, h2, h3, h4⟩
      · exact .inl ⟨h1, fun x h h' => h2 x h (hx x h h')⟩
      · exact .inr ⟨m, h1, h2, by omega, fun x h h' => h4 x h (hx x h h')⟩
theorem gat_up_on (l : List Ev) (i : Int) : ∀ (d k : Nat), (k : Int) ≥ i → gat l (fUp i) (-1) (k + d) = gat l (fUp i) (-1) k
  | 0, k, _ => rfl
  | d + 1, k, hk => by
    rw [show k + (d + 1) = (k + d) + 1 by omega, ← gat_up_on l i d k hk]
    cases hb : nodB l (k + d)
    · exact gat_no hb
    · rw [gat_yes hb]
      unfold fUp
      rw [if_neg]
      rintro ⟨h, _⟩
      have : ((fin l (k + d)).at_ : Int) = ((k + d : Nat) : Int) := rfl
      omega
theorem up_gat {l : List Ev} (h : nested l = true) (i : Int) (hi : i < (l.length : Int)) : gat l (fUp i) (-1) l.length = upOf l i := by
  unfold upOf
  by_cases h0 : i < 0
  · rw [if_pos (by omega)]
    have := gat_up_on l i l.length 0 (by omega)
    rw [Nat.zero_add] at this
    rw [this]
    rfl
  · rw [if_neg (by rw [h]; simp; omega)]
    obtain ⟨n, rfl⟩ : ∃ n : Nat, i = (n : Int) := ⟨i.toNat, by omega⟩
    have h1 := gat_up_on l n (l.length - n) n (by omega)
    rw [show n + (l.length - n) = l.length by omega] at h1
    rw [h1, show (n : Int).toNat = n by omega, up_head l n (by omega)]
    rcases gat_up l n (by omega) n (Nat.le_refl _) with ⟨h2, h3⟩ | ⟨m, h2, h3, h4, h5⟩
    · rw [h2]
      cases hs : stk l n with
      | nil => rfl
      | cons a r => exact absurd (stk_lt l n a (by rw [hs]; exact List.mem_cons_self)) (h3 a (by rw [hs]; exact List.mem_cons_self))
    · rw [h2]
      have hmx := head_max h3
      cases hs : stk l n with
      | nil => rw [hs] at h3; simp at h3
      | cons a r =>
        have ha : a ∈ stk l n := by rw [hs]; exact List.mem_cons_self
        have := h5 a ha (stk_lt l n a ha)
        rw [hs] at hmx
        have hh : headI (a :: r) = (a : Int) := rfl
        rw [hh] at hmx ⊢
        omega
/-- The members are those that have it around them. -/
def inAt (l : List Ev) (u : Int) (j : Nat) : Bool := nodB l j && decide (upG l j 0 = u)
theorem gat_in (l : List Ev) (u : Int) : ∀ k, gat l (fIn u) [] k = (List.range k).filter (inAt l u)
  | 0 => rfl
  | k + 1 => by
    have ih := gat_in l u k
    rw [List.range_succ, List.filter_append, ← ih]
    cases hb : nodB l k
    · rw [gat_no hb]
      simp [inAt, hb]
    · rw [gat_yes hb]
      unfold fIn
      show (if upG l k 0 = u then gat l _ [] k ++ [k] else gat l _ [] k) = _
      by_cases e : upG l k 0 = u
      · simp [inAt, hb, e]
      · simp [inAt, hb, e]
theorem roots_gat {l : List Ev} (h : nested l = true) : gat l (fIn (-1)) [] l.length = rootsOf l := by
  rw [gat_in]
  unfold rootsOf rootsTo
  apply List.filter_congr
  intro j hj
  have hjl : j < l.length := by simpa using hj
  obtain ⟨e, he⟩ : ∃ e, l[j]? = some e := ⟨_, List.getElem?_eq_getElem hjl⟩
  have hN := ns_at h he
  unfold inAt rootAt
  rw [nodB_some he, he, h]
  cases hn : nodE e
  · simp [hn]
  · have hr := hN.root hn
    rw [up_head l j (by omega)]
    have hh : headI (stk l j) = -1 ↔ stk l j = [] := by
      cases stk l j with
      | nil => simp [headI]
      | cons a r => simp [headI]
    rw [← hh] at hr
    by_cases h1 : headI (stk l j) = -1
    · have := hr.1 h1
      simp [h1, this, hn]
    · have : ¬ (0 < j ∧ kindAt l (j - 1) = 2) := fun h' => h1 (hr.2 h')
      simp [h1, hn]
      intro h3 h4
      exact this ⟨h3, h4⟩
/-- .. from k on. -/
def seg (l : List Ev) (u : Int) (k : Nat) : List Nat := (List.range' k (l.length - k)).filter (inAt l u)
theorem seg_end (l : List Ev) (u : Int) (k : Nat) (h : l.length ≤ k) : seg l u k = [] := by
  unfold seg
  rw [show l.length - k = 0 by omega]
  rfl
theorem seg_yes {l : List Ev} {u : Int} {k : Nat} (hk : k < l.length) (h : inAt l u k = true) : seg l u k = k :: seg l u (k + 1) := by
  unfold seg
  rw [show l.length - k = (l.length - (k + 1)) + 1 by omega, List.range'_succ, List.filter_cons, if_pos h]
theorem seg_no {l : List Ev} {u : Int} {k : Nat} (h : inAt l u k = false) : seg l u k = seg l u (k + 1) := by
  by_cases hk : k < l.length
  · unfold seg
    rw [show l.length - k = (l.length - (k + 1)) + 1 by omega, List.range'_succ, List.filter_cons, if_neg (by simp [h])]
  · rw [seg_end l u k (by omega), seg_end l u (k + 1) (by omega)]
theorem seg_skip {l : List Ev} {u : Int} : ∀ (d k : Nat), (∀ j, k ≤ j → j < k + d → inAt l u j = false) → seg l u k = seg l u (k + d)
  | 0, k, _ => rfl
  | d + 1, k, h => by
    rw [seg_no (h k (Nat.le_refl _) (by omega)), seg_skip d (k + 1) (fun j h1 h2 => h j (by omega) (by omega))]
    congr 1
    omega
theorem stk_gone {l : List Ev} {i k : Nat} (hik : i < k) (h : i ∉ stk l k) : ∀ d, i ∉ stk l (k + d)
  | 0 => h
  | d + 1 => by
    have ih := stk_gone hik h d
    rw [show k + (d + 1) = (k + d) + 1 by omega, stk]
    split
    · exact ih
    · split
      · intro hm
        rcases List.mem_cons.1 hm with e | e
        · omega
        · exact ih e
      · split
        · exact fun hm => ih (List.mem_of_mem_tail hm)
        · exact ih
theorem not_in {l : List Ev} {i j : Nat} (hj : j ≤ l.length) (h : headI (stk l j) ≠ (i : Int)) : inAt l i j = false := by
  unfold inAt
  rw [up_head l j hj]
  simp [h]
/-- Behind the node k the stack is what it was ahead of it. -/
theorem stk_behind {l : List Ev} {k e : Nat} {ev : Ev} (he : l[k]? = some ev) (hn : nodE ev = true) (hE : endN l k = (e : Int)) : stk l (e + 1) = stk l k ∧ k ≤ e ∧ e < l.length := by
  have hk : k < l.length := (List.getElem?_eq_some_iff.1 he).1
  have hle := endN_le l k (by omega)
  have hek : k ≤ e ∧ e < l.length := by omega
  refine ⟨?_, hek⟩
  by_cases hc : colE ev = true
  · obtain ⟨e1, he1⟩ : ∃ e1, l[e]? = some e1 := ⟨_, List.getElem?_eq_getElem hek.2⟩
    have hne : k ≠ e := by
      intro h'
      subst h'
      rw [endN_col he hc] at hE
      rcases endG_le (l.drop (k + 1)) (k + 1) 1 with h | h
      · omega
      · omega
    obtain ⟨h7, hh⟩ := endN_hit he hn (by omega) he1 hE
    obtain ⟨_, hd⟩ := end_in l e 0 k (by omega) (by rw [← List.head?_eq_getElem?]; exact hh)
    rw [stk_end he1 h7, ← hd]
    simp
  · have hcf : colE ev = false := by simpa using hc
    have := endN_leaf he hn hcf
    have hke : e = k := by omega
    subst hke
    refine stk_else he hcf ?_
    unfold nodE at hn
    simp at hn
    omega
theorem kid_seg {l : List Ev} (h : nested l = true) (i : Nat) (r : List Nat) : ∀ (f k : Nat) (acc : List Nat), l.length < f + k → k ≤ l.length → stk l k = i :: r → kidG l f k acc = acc ++ seg l i k
  | 0, k, acc, hf, hk, _ => by omega
  | f + 1, k, acc, hf, hk, hs => by
    have hik : i < k := stk_lt l k i (by rw [hs]; exact List.mem_cons_self)
    rw [kidG]
    cases he : l[k]? with
    | none =>
      have : l.length ≤ k := List.getElem?_eq_none_iff.1 he
      simp [seg_end l i k this]
    | some e =>
      have hkl : k < l.length := (List.getElem?_eq_some_iff.1 he).1
      have hN := ns_at h he
      simp only []
      cases hn : nodE e
      · simp only [if_true]
        have hk0 : inAt l i k = false := by unfold inAt; rw [nodB_some he, hn]; rfl
        by_cases h7 : e.kind = 7
        · have hg : i ∉ stk l (k + 1) := by
            rw [stk_end he h7, hs]
            have hp := stk_down l k
            rw [hs] at hp
            intro hm
            have := (List.pairwise_cons.1 hp).1 i hm
            omega
          rw [seg_skip (l.length - k) k, seg_end _ _ _ (by omega), List.append_nil]
          intro j h1 h2
          by_cases e1 : j = k
          · rw [e1]; exact hk0
          · have hgj := stk_gone (by omega) hg (j - (k + 1))
            rw [show k + 1 + (j - (k + 1)) = j by omega] at hgj
            refine not_in (by omega) (fun hh => hgj ?_)
            cases hsj : stk l j with
            | nil => rw [hsj] at hh; simp [headI] at hh
            | cons a q =>
              rw [hsj] at hh
              have : (a : Int) = (i : Int) := hh
              rw [show i = a by omega]
              exact List.mem_cons_self
        · have hlast := hN.last hn h7 (by rw [hs]; simp)
          rw [seg_no hk0, seg_end _ _ _ (by omega), List.append_nil]
      · have hin : inAt l i k = true := by
          unfold inAt
          rw [nodB_some he, hn, up_head l k (by omega), hs]
          simp [headI]
        have hbusy : ∀ j, k < j → j ≤ l.length → (endN l k < 0 ∨ (j : Int) ≤ endN l k) → inAt l i j = false := by
          intro j h1 h2 h3
          have hm := (open_iff he hn h1 h2).2 h3
          have := head_max hm
          exact not_in h2 (by omega)
        rw [seg_yes hkl hin]
        simp only [Bool.true_eq_false, if_false]
        by_cases hneg : endN l k < 0
        · rw [if_pos hneg, seg_skip (l.length - (k + 1)) (k + 1), seg_end _ _ _ (by omega)]
          intro j h1 h2
          exact hbusy j (by omega) (by omega) (.inl hneg)
        · rw [if_neg hneg]
          obtain ⟨m, hm⟩ : ∃ m : Nat, endN l k = (m : Int) := ⟨(endN l k).toNat, by omega⟩
          obtain ⟨hst, hkm, hml⟩ := stk_behind he hn hm
          rw [hm, show (m : Int).toNat = m by omega]
          rw [kid_seg h i r f (m + 1) (acc ++ [k]) (by omega) (by omega) (by rw [hst]; exact hs)]
          rw [seg_skip (m - k) (k + 1), show k + 1 + (m - k) = m + 1 by omega]
          · simp
          · intro j h1 h2
            exact hbusy j (by omega) (by omega) (.inr (by omega))
theorem range_seg (l : List Ev) (u : Int) : (List.range l.length).filter (inAt l u) = seg l u 0 := by
  unfold seg
  rw [List.range_eq_range', Nat.sub_zero]
theorem kids_gat {l : List Ev} (h : nested l = true) (i : Int) (h0 : 0 ≤ i) : gat l (fIn i) [] l.length = kidsOfE l i := by
  rw [gat_in]
  have hup : ∀ j, j < l.length → inAt l i j = true → ∃ n : Nat, i = (n : Int) ∧ n ∈ stk l j := by
    intro j hj hin
    unfold inAt at hin
    rw [up_head l j (by omega)] at hin
    simp at hin
    cases hs : stk l j with
    | nil => rw [hs] at hin; have := hin.2; simp [headI] at this; omega
    | cons a q =>
      rw [hs] at hin
      exact ⟨a, hin.2.symm, List.mem_cons_self⟩
  unfold kidsOfE
  by_cases hi : (l.length : Int) ≤ i
  · rw [if_pos (by omega), List.filter_eq_nil_iff]
    intro j hj hin
    have hjl : j < l.length := by simpa using hj
    obtain ⟨n, rfl, hm⟩ := hup j hjl hin
    have := stk_lt l j n hm
    omega
  · rw [if_neg (by rw [h]; simp; omega)]
    obtain ⟨n, rfl⟩ : ∃ n : Nat, i = (n : Int) := ⟨i.toNat, by omega⟩
    rw [show (n : Int).toNat = n by omega]
    obtain ⟨e, he⟩ : ∃ e, l[n]? = some e := ⟨_, List.getElem?_eq_getElem (by omega)⟩
    unfold kidN
    rw [he]
    simp only []
    cases hc : colE e
    · simp only [if_true]
      rw [List.filter_eq_nil_iff]
      intro j hj hin
      have hjl : j < l.length := by simpa using hj
      obtain ⟨m, hm1, hm⟩ := hup j hjl hin
      obtain ⟨e', he', hc'⟩ := stk_is l j m hm
      rw [show m = n by omega, he] at he'
      injection he' with he'
      subst he'
      rw [hc] at hc'
      cases hc'
    · simp only [Bool.true_eq_false, if_false]
      rw [kid_seg h n (stk l n) (l.length + 1) (n + 1) [] (by omega) (by omega) (stk_col he hc), List.nil_append, range_seg]
      have := seg_skip (l := l) (u := (n : Int)) (n + 1) 0
      rw [Nat.zero_add] at this
      refine this ?_
      intro j _ hj
      cases hin : inAt l n j
      · rfl
      · obtain ⟨m, hm1, hm⟩ := hup j (by omega) hin
        have := stk_lt l j m hm
        omega
end Go.Proofs.Ytkdlakcmhdiojaa
/- Nodes within events: what the program ties of aliases is what the specification finds. -/
namespace Go.Proofs.Ytkdlakcmhdiojaa
open Go.RowKit
/-- What is gathered: the root, the last node of each name, the node of each alias, how many have none. -/
structure Ti where
  root : Nat
  named : ByteArray → Option Sp
  defs : Int → Option Nat
  loose : Nat
def Ti.start : Ti := ⟨0, fun _ => none, fun _ => none, 0⟩
def Ti.at (t : Ti) (n : Sp) : Ti := if n.up = -1 then { t with root := n.at_ } else t
def Ti.miss (t : Ti) : Ti := { t with loose := t.loose + 1 }
def Ti.tie (t : Ti) (x : ByteArray) (a : Nat) : Ti := match t.named x with
  | none => t.miss
  | some n => if n.at_ < t.root ∨ ahead n a = false then t.miss else { t with defs := fun i => if (a : Int) = i then some n.at_ else t.defs i }
def Ti.name (t : Ti) (x : ByteArray) (n : Sp) : Ti := { t with named := fun y => if x = y then some n else t.named y }
def Ti.take (t : Ti) (n : Sp) (e : Ev) : Ti := if e.kind = 6 then (t.at n).tie e.text n.at_ else if noB e.anchor = true then t.at n else (t.at n).name e.anchor n
def fTie (l : List Ev) (t : Ti) (n : Sp) : Ti := match l[n.at_]? with
  | none => t
  | some e => t.take n e
/-- The last node of a name ahead of k. -/
def lastN (l : List Ev) (x : ByteArray) : Nat → Option Nat
  | 0 => none
  | k + 1 => match l[k]? with
    | none => lastN l x k
    | some e => if namE e x = true then some k else lastN l x k
/-- Behind the last beginning of a document ahead of k. -/
def docAft (l : List Ev) : Nat → Nat
  | 0 => 0
  | k + 1 => if kindAt l k = 2 then k + 1 else docAft l k
def rootTo (l : List Ev) : Nat → Nat
  | 0 => 0
  | k + 1 => if inAt l (-1) k = true then k else rootTo l k
theorem kind_at {l : List Ev} {k : Nat} {e : Ev} (h : l[k]? = some e) : kindAt l k = e.kind := by unfold kindAt; rw [h]
theorem docAft_le (l : List Ev) : ∀ k, docAft l k ≤ k
  | 0 => Nat.le_refl _
  | k + 1 => by
    have := docAft_le l k
    rw [docAft]
    split <;> omega
theorem lastN_lt (l : List Ev) (x : ByteArray) : ∀ (k m : Nat), lastN l x k = some m → m < k ∧ ∃ e, l[m]? = some e ∧ namE e x = true
  | 0, m, h => by simp [lastN] at h
  | k + 1, m, h => by
    rw [lastN] at h
    split at h
    · have := lastN_lt l x k m h
      exact ⟨by omega, this.2⟩
    · rename_i e he
      split at h
      · rename_i hn
        injection h with h
        subst h
        exact ⟨by omega, e, he, hn⟩
      · have := lastN_lt l x k m h
        exact ⟨by omega, this.2⟩
theorem nam_node {e : Ev} {x : ByteArray} (h : namE e x = true) : nodE e = true := by
  unfold namE at h
  simp at h
  exact h.1
theorem defG_last (l : List Ev) (i : Nat) (x : ByteArray) : ∀ k, k ≤ l.length → defG l i x k = match lastN l x k with
    | none => -1
    | some m => if m < docAft l k then -1 else if endN l m < 0 ∨ (i : Int) < endN l m then -1 else (m : Int)
  | 0, _ => by simp [defG, lastN]
  | k + 1, hk => by
    obtain ⟨e, he⟩ : ∃ e, l[k]? = some e := ⟨_, List.getElem?_eq_getElem (by omega)⟩
    have ih := defG_last l i x k (by omega)
    rw [defG, lastN, he, docAft, kind_at he]
    simp only []
    by_cases h2 : e.kind = 2
    · have hn : namE e x = false := by
        cases h' : namE e x
        · rfl
        · have := nam_node h'
          unfold nodE at this
          simp at this
          omega
      rw [if_pos h2, if_pos h2, hn]
      simp only [Bool.false_eq_true, if_false]
      cases hl : lastN l x k with
      | none => rfl
      | some m =>
        have := (lastN_lt l x k m hl).1
        simp only []
        rw [if_pos (by omega)]
    · rw [if_neg h2, if_neg h2]
      cases hn : namE e x
      · simp only [Bool.false_eq_true, if_false]
        exact ih
      · simp only [if_true]
        have := docAft_le l k
        rw [if_neg (show ¬ k < docAft l k by omega)]
theorem root_doc {l : List Ev} (h : nested l = true) : ∀ k, k ≤ l.length → (0 < k ∧ kindAt l (k - 1) = 2) ∨ rootTo l k = docAft l k ∨ k = l.length
  | 0, _ => .inr (.inl rfl)
  | k + 1, hk => by
    obtain ⟨e, he⟩ : ∃ e, l[k]? = some e := ⟨_, List.getElem?_eq_getElem (by omega)⟩
    have ih := root_doc h k (by omega)
    have hN := ns_at h he
    rw [Nat.add_sub_cancel, kind_at he]
    by_cases h2 : e.kind = 2
    · exact .inl ⟨by omega, h2⟩
    right
    rw [rootTo, docAft, kind_at he, if_neg h2]
    have hh : headI (stk l k) = -1 ↔ stk l k = [] := by
      cases stk l k with
      | nil => simp [headI]
      | cons a r => simp [headI]
    by_cases hd : 0 < k ∧ kindAt l (k - 1) = 2
    · rcases hN.doc hd.1 hd.2 with hn | hn
      · left
        have hr := (hN.root hn).2 hd
        have : inAt l (-1) k = true := by
          unfold inAt
          rw [nodB_some he, hn, up_head l k (by omega), hh.2 hr]
          rfl
        rw [if_pos this]
        obtain ⟨q, rfl⟩ : ∃ q, k = q + 1 := ⟨k - 1, by omega⟩
        rw [docAft, if_pos (show kindAt l q = 2 from hd.2)]
      · exact .inr hn
    · left
      have hi : inAt l (-1) k = false := by
        unfold inAt
        cases hn : nodE e
        · rw [nodB_some he, hn]; rfl
        · rw [up_head l k (by omega)]
          have : ¬ stk l k = [] := fun h' => hd ((hN.root hn).1 h')
          have : ¬ headI (stk l k) = -1 := fun h' => this (hh.1 h')
          simp [this]
      rw [if_neg (by simp [hi])]
      rcases ih with h1 | h1 | h1
      · exact absurd h1 hd
      · exact h1
      · omega
/-- At a node the root that is told is behind the last beginning of a document. -/
theorem root_node {l : List Ev} (h : nested l = true) {k : Nat} {e : Ev} (he : l[k]? = some e) (hn : nodE e = true) : rootTo l (k + 1) = docAft l k := by
  have hk : k < l.length := (List.getElem?_eq_some_iff.1 he).1
  have hN := ns_at h he
  have hh : headI (stk l k) = -1 ↔ stk l k = [] := by
    cases stk l k with
    | nil => simp [headI]
    | cons a r => simp [headI]
  rw [rootTo]
  by_cases hd : 0 < k ∧ kindAt l (k - 1) = 2
  · have hr := (hN.root hn).2 hd
    have : inAt l (-1) k = true := by
      unfold inAt
      rw [nodB_some he, hn, up_head l k (by omega), hh.2 hr]
      rfl
    rw [if_pos this]
    obtain ⟨q, rfl⟩ : ∃ q, k = q + 1 := ⟨k - 1, by omega⟩
    rw [docAft, if_pos (show kindAt l q = 2 from hd.2)]
  · have hi : inAt l (-1) k = false := by
      unfold inAt
      rw [up_head l k (by omega)]
      have : ¬ stk l k = [] := fun h' => hd ((hN.root hn).1 h')
      have : ¬ headI (stk l k) = -1 := fun h' => this (hh.1 h')
      simp [this]
    rw [if_neg (by simp [hi])]
    rcases root_doc h k (by omega) with h1 | h1 | h1
    · exact absurd h1 hd
    · exact h1
    · omega
theorem alias_bare {e : Ev} (h : evOk e = true) (h6 : e.kind = 6) : noB e.anchor = true := by
  unfold evOk at h
  split at h
  · cases h
  · split at h
    · cases h
    · rename_i hb
      unfold evBad nodeK at hb
      rw [h6] at hb
      simp at hb
      exact hb.2.1
theorem defN_m1 (l : List Ev) (i : Nat) : defN l i = -1 ∨ 0 ≤ defN l i := by
  unfold defN
  split
  · exact .inl rfl
  · rename_i e _
    have : ∀ k, defG l i e.text k = -1 ∨ 0 ≤ defG l i e.text k := by
      intro k
      induction k with
      | zero => exact .inl rfl
      | succ k ih =>
        rw [defG]
        split
        · exact .inl rfl
        · split
          · exact .inl rfl
          · split
            · split
              · exact .inl rfl
              · right; omega
            · exact ih
    exact this i
structure TiAt (l : List Ev) (k : Nat) (t : Ti) : Prop where
  root : t.root = rootTo l k
  named : ∀ x, t.named x = (lastN l x k).map (fin l)
  defs : ∀ i, t.defs i = if 0 ≤ i ∧ i < (k : Int) ∧ kindAt l i.toNat = 6 ∧ 0 ≤ defN l i.toNat then some (defN l i.toNat).toNat else none
  loose : t.loose ≤ k
  tied : t.loose = 0 ↔ tiedTo l k = true
theorem tiedTo_succJ (l : List Ev) (k : Nat) : tiedTo l (k + 1) = (tiedTo l k && tiedAt l k) := by
  unfold tiedTo
  rw [List.range_succ, List.all_append]
  simp
theorem defs_same {l : List Ev} {k : Nat} (hk : ¬ (kindAt l k = 6 ∧ 0 ≤ defN l k)) (i : Int) :
    (if 0 ≤ i ∧ i < ((k + 1 : Nat) : Int) ∧ kindAt l i.toNat = 6 ∧ 0 ≤ defN l i.toNat then some (defN l i.toNat).toNat else none) = (if 0 ≤ i ∧ i < (k : Int) ∧ kindAt l i.toNat = 6 ∧ 0 ≤ defN l i.toNat then some (defN l i.toNat).toNat else none) := by
  by_cases h : 0 ≤ i ∧ i < (k : Int) ∧ kindAt l i.toNat = 6 ∧ 0 ≤ defN l i.toNat
  · rw [if_pos h, if_pos ⟨h.1, by omega, h.2.2⟩]
  · rw [if_neg h, if_neg]
    rintro ⟨h1, h2, h3⟩
    by_cases e : i = (k : Int)
    · subst e
      rw [show (k : Int).toNat = k by omega] at h3
      exact hk h3
    · exact h ⟨h1, by omega, h3⟩
theorem ti_gat {l : List Ev} (h : nested l = true) : ∀ k, k ≤ l.length → TiAt l k (gat l (fTie l) Ti.start k)
  | 0, _ => ⟨rfl, fun _ => rfl, fun i => by rw [if_neg (by omega)]; rfl, Nat.le_refl _, by simp [tiedTo, gat_zero, Ti.start]⟩
  | k + 1, hk => by
    obtain ⟨e, he⟩ : ∃ e, l[k]? = some e := ⟨_, List.getElem?_eq_getElem (by omega)⟩
    have ih := ti_gat h k (by omega)
    have hN := ns_at h he
    have hkd := kind_at he
    cases hn : nodE e
    · have hnb : nodB l k = false := by rw [nodB_some he]; exact hn
      have hk6 : kindAt l k ≠ 6 := by
        rw [hkd]
        unfold nodE at hn
        simp at hn
        omega
      rw [gat_no hnb]
      refine ⟨?_, fun x => ?_, fun i => ?_, by have := ih.loose; omega, ?_⟩
      · rw [ih.root, rootTo, if_neg (by simp [inAt, hnb])]
      · rw [ih.named, lastN, he]
        simp only []
        rw [if_neg (fun h' => by rw [nam_node h'] at hn; cases hn)]
      · rw [ih.defs, defs_same (fun h' => hk6 h'.1)]
      · rw [ih.tied, tiedTo_succJ]
        simp [tiedAt, hk6]
    · have hnb : nodB l k = true := by rw [nodB_some he]; exact hn
      rw [gat_yes hnb]
      obtain ⟨t, ht⟩ : ∃ t, gat l (fTie l) Ti.start k = t := ⟨_, rfl⟩
      rw [ht] at ih ⊢
      have hF : fTie l t (fin l k) = t.take (fin l k) e := by
        unfold fTie
        show (match l[k]? with | none => t | some e => t.take (fin l k) e) = _
        rw [he]
      rw [hF]
      have hat : (t.at (fin l k)).root = rootTo l (k + 1) ∧ (t.at (fin l k)).named = t.named ∧ (t.at (fin l k)).defs = t.defs ∧ (t.at (fin l k)).loose = t.loose := by
        unfold Ti.at
        rw [rootTo]
        unfold inAt
        rw [hnb]
        show (if upG l k 0 = -1 then ({ t with root := k } : Ti) else t).root = _ ∧ _
        by_cases hu : upG l k 0 = -1
        · have hu' : (fin l k).up = -1 := hu
          rw [if_pos hu, if_pos hu']
          simp [hu]
        · have hu' : ¬ (fin l k).up = -1 := hu
          rw [if_neg hu, if_neg hu']
          simp [hu, ih.root]
      obtain ⟨t1, ht1⟩ : ∃ t1, t.at (fin l k) = t1 := ⟨_, rfl⟩
      unfold Ti.take
      rw [ht1] at hat ⊢
      obtain ⟨a1, a2, a3, a4⟩ := hat
      have hlast : ∀ x, namE e x = false → (lastN l x (k + 1)).map (fin l) = t.named x := by
        intro x hx
        rw [ih.named, lastN, he]
        simp [hx]
      by_cases h6 : e.kind = 6
      · rw [if_pos h6]
        have hbare := alias_bare hN.ok h6
        have hnam : ∀ x, namE e x = false := fun x => by unfold namE; simp [hbare]
        have hdef : defN l k = defG l k e.text k := by unfold defN; rw [he]
        have hk6 : kindAt l k = 6 := by rw [hkd]; exact h6
        have hroot := root_node h he hn
        have hmiss : defN l k < 0 → TiAt l (k + 1) t1.miss := by
          intro hneg
          refine ⟨a1, fun x => ?_, fun i => ?_, ?_, ?_⟩
          · rw [hlast x (hnam x)]; exact congrFun a2 x
          · rw [defs_same (fun h' => by omega), ← ih.defs]; exact congrFun a3 i
          · show t1.loose + 1 ≤ k + 1
            rw [a4]
            have := ih.loose
            omega
          · show t1.loose + 1 = 0 ↔ _
            rw [tiedTo_succJ]
            simp [tiedAt, hk6]
            intro _
            exact hneg
        unfold Ti.tie
        rw [congrFun a2 e.text, ih.named]
        have hdl := defG_last l k e.text k (by omega)
        rw [← hdef] at hdl
        cases hl : lastN l e.text k with
        | none =>
          rw [hl] at hdl
          simp only [] at hdl
          exact hmiss (by omega)
        | some m =>
          rw [hl] at hdl
          simp only [] at hdl
          show TiAt l (k + 1) (if m < t1.root ∨ ahead (fin l m) k = false then t1.miss else _)
          rw [a1, hroot]
          obtain ⟨hmk, em, hem, hnm⟩ := lastN_lt l e.text k m hl
          have hE : endN l m ≠ (k : Int) := fun h' => by
            have := (endN_hit hem (nam_node hnm) hmk he h').1
            omega
          have hah : ahead (fin l m) k = false ↔ (endN l m < 0 ∨ (k : Int) < endN l m) := by
            rw [ahead_open hem (nam_node hnm) hmk (by omega), open_iff hem (nam_node hnm) hmk (by omega)]
            omega
          by_cases hlo : m < docAft l k
          · rw [if_pos (.inl hlo)]
            rw [if_pos hlo] at hdl
            exact hmiss (by omega)
          · rw [if_neg hlo] at hdl
            by_cases hop : endN l m < 0 ∨ (k : Int) < endN l m
            · rw [if_pos (.inr (hah.2 hop))]
              rw [if_pos hop] at hdl
              exact hmiss (by omega)
            · rw [if_neg (fun h' => h'.elim hlo (fun h'' => hop (hah.1 h'')))]
              rw [if_neg hop] at hdl
              refine ⟨hroot.symm, fun x => ?_, fun i => ?_, ?_, ?_⟩
              · rw [hlast x (hnam x)]; exact congrFun a2 x
              · show (if (k : Int) = i then some m else t1.defs i) = _
                by_cases ei : (k : Int) = i
                · subst ei
                  rw [if_pos rfl, show (k : Int).toNat = k by omega, if_pos ⟨by omega, by omega, hk6, by omega⟩, hdl]
                  rfl
                · rw [if_neg ei, congrFun a3 i, ih.defs]
                  by_cases hc : 0 ≤ i ∧ i < (k : Int) ∧ kindAt l i.toNat = 6 ∧ 0 ≤ defN l i.toNat
                  · rw [if_pos hc, if_pos ⟨hc.1, by omega, hc.2.2⟩]
                  · rw [if_neg hc, if_neg (fun h' => hc ⟨h'.1, by omega, h'.2.2⟩)]
              · show t1.loose ≤ k + 1
                rw [a4]
                have := ih.loose
                omega
              · show t1.loose = 0 ↔ _
                rw [a4, ih.tied, tiedTo_succJ]
                have : tiedAt l k = true := by
                  unfold tiedAt
                  rw [hdl]
                  simp
                simp [this]
      · rw [if_neg h6]
        have hk6 : kindAt l k ≠ 6 := by rw [hkd]; exact h6
        have hd : ∀ i, t1.defs i = if 0 ≤ i ∧ i < ((k + 1 : Nat) : Int) ∧ kindAt l i.toNat = 6 ∧ 0 ≤ defN l i.toNat then some (defN l i.toNat).toNat else none := fun i => by
          rw [defs_same (fun h' => hk6 h'.1), ← ih.defs]; exact congrFun a3 i
        have ht2 : t1.loose = 0 ↔ tiedTo l (k + 1) = true := by
          rw [a4, ih.tied, tiedTo_succJ]
          simp [tiedAt, hk6]
        have hlo : t1.loose ≤ k + 1 := by
          rw [a4]
          have := ih.loose
          omega
        cases hb : noB e.anchor
        · simp only [Bool.false_eq_true, if_false]
          refine ⟨a1, fun x => ?_, hd, hlo, ht2⟩
          show (if e.anchor = x then some (fin l k) else t1.named x) = _
          by_cases ex : e.anchor = x
          · subst ex
            rw [if_pos rfl, lastN, he]
            have : namE e e.anchor = true := by unfold namE; simp [hn, hb]
            simp [this]
          · rw [if_neg ex, hlast x (by unfold namE; simp [ex])]
            exact congrFun a2 x
        · simp only [if_true]
          refine ⟨a1, fun x => ?_, hd, hlo, ht2⟩
          rw [hlast x (by unfold namE; simp [hb])]
          exact congrFun a2 x
theorem def_gat {l : List Ev} (h : nested l = true) (i : Int) : (match (gat l (fTie l) Ti.start l.length).defs i with | none => (-1 : Int) | some d => (d : Int)) = defOf l i := by
  have hT := ti_gat h l.length (Nat.le_refl _)
  rw [hT.defs]
  unfold defOf
  by_cases hc : 0 ≤ i ∧ i < (l.length : Int) ∧ kindAt l i.toNat = 6
  · have hno : ¬ (nested l = false ∨ i < 0 ∨ (l.length : Int) ≤ i ∨ kindAt l i.toNat ≠ 6) := by rw [h]; simp; omega
    rw [if_neg hno]
    by_cases h0 : 0 ≤ defN l i.toNat
    · rw [if_pos ⟨hc.1, hc.2.1, hc.2.2, h0⟩]
      simp only []
      omega
    · rw [if_neg (fun h' => h0 h'.2.2.2)]
      have := defN_m1 l i.toNat
      simp only []
      omega
  · have hyes : nested l = false ∨ i < 0 ∨ (l.length : Int) ≤ i ∨ kindAt l i.toNat ≠ 6 := by
      right
      by_cases h6 : kindAt l i.toNat = 6
      · have : ¬ (0 ≤ i ∧ i < (l.length : Int)) := fun h' => hc ⟨h'.1, h'.2, h6⟩
        omega
      · exact .inr (.inr h6)
    rw [if_pos hyes, if_neg (fun h' => hc ⟨h'.1, h'.2.1, h'.2.2.1⟩)]
theorem tied_gat {l : List Ev} (h : nested l = true) : decide ((gat l (fTie l) Ti.start l.length).loose = 0) = tied l := by
  have hT := ti_gat h l.length (Nat.le_refl _)
  unfold tied
  rw [h, Bool.true_and]
  by_cases h0 : (gat l (fTie l) Ti.start l.length).loose = 0
  · rw [decide_eq_true h0, hT.tied.1 h0]
  · rw [decide_eq_false h0]
    cases ht : tiedTo l l.length
    · rfl
    · exact absurd (hT.tied.2 ht) h0
end Go.Proofs.Ytkdlakcmhdiojaa
/- Graphs as plain data, and how they lie in memory: lists of numbers and of nodes that can be read. -/
namespace Go.Proofs.Ytkdlakcmhdiojaa
open Go.RowKit
structure Nd where
  kind : Int
  tag : ByteArray
  text : ByteArray
  kids : List Int
structure Gr where
  nodes : List Nd
  roots : List Int
/-- A list of numbers that can be read. -/
def IlAt (w : World) (v : Value) (l : List Int) : Prop :=
  (l = [] ∧ ∃ a c, v = .slice a 0 c) ∨ (l ≠ [] ∧ ∃ b off c, v = .slice (some ⟨b, off, none⟩) l.length c ∧ b < w.heap.size ∧ ∀ (i : Nat) (n : Int), l[i]? = some n → w.cell? ⟨b, off + i, none⟩ = some (.int .i64 n))
theorem IlAt.sl {w : World} {v : Value} {l : List Int} (h : IlAt w v l) : ∃ a c, v = .slice a l.length c := by
  rcases h with ⟨rfl, a, c, rfl⟩ | ⟨_, b, off, c, rfl, _⟩
  · exact ⟨a, c, rfl⟩
  · exact ⟨_, c, rfl⟩
theorem IlAt.at {w : World} {a : Option Addr} {c : Nat} {l : List Int} (h : IlAt w (.slice a l.length c) l) {k : Nat} {n : Int} (hx : l[k]? = some n) : ∃ b off, a = some ⟨b, off, none⟩ ∧ b < w.heap.size ∧ w.cell? ⟨b, off + k, none⟩ = some (.int .i64 n) := by
  rcases h with ⟨e1, _⟩ | ⟨_, b, off, _, e1, hbl, hcell⟩
  · rw [e1] at hx; simp at hx
  · injection e1 with e1
    exact ⟨b, off, e1, hbl, hcell k n hx⟩
theorem IlAt.later {w w' : World} {v : Value} {l : List Int} (h : IlAt w v l) (hb : Below w.heap.size w w') : IlAt w' v l := by
  rcases h with h | ⟨h0, b, off, c, e, hlt, hc⟩
  · exact .inl h
  · exact .inr ⟨h0, b, off, c, e, Nat.lt_of_lt_of_le hlt hb.size, fun i n hi => by rw [hb.cell hlt]; exact hc i n hi⟩
/-- The cells of a node. -/
structure NdAt (w : World) (b o : Nat) (n : Nd) (kv : Value) : Prop where
  c0 : w.cell? ⟨b, o, none⟩ = some (.int .i64 n.kind)
  c1 : w.cell? ⟨b, o + 1, none⟩ = some (.string n.tag)
  c2 : w.cell? ⟨b, o + 2, none⟩ = some (.string n.text)
  c3 : w.cell? ⟨b, o + 3, none⟩ = some kv
  kids : IlAt w kv n.kids
/-- A list of nodes that can be read. -/
def NlAt (w : World) (v : Value) (l : List Nd) : Prop :=
  (l = [] ∧ ∃ a c, v = .slice a 0 c) ∨ (l ≠ [] ∧ ∃ b off c, v = .slice (some ⟨b, off, none⟩) l.length c ∧ b < w.heap.size ∧ ∀ (i : Nat) (n : Nd), l[i]? = some n → ∃ kv, NdAt w b (off + i * 4) n kv)
theorem NlAt.sl {w : World} {v : Value} {l : List Nd} (h : NlAt w v l) : ∃ a c, v = .slice a l.length c := by
  rcases h with ⟨rfl, a, c, rfl⟩ | ⟨_, b, off, c, rfl, _⟩
  · exact ⟨a, c, rfl⟩
  · exact ⟨_, c, rfl⟩
theorem NlAt.at {w : World} {a : Option Addr} {c : Nat} {l : List Nd} (h : NlAt w (.slice a l.length c) l) {k : Nat} {n : Nd} (hx : l[k]? = some n) : ∃ b off kv, a = some ⟨b, off, none⟩ ∧ b < w.heap.size ∧ NdAt w b (off + k * 4) n kv := by
  rcases h with ⟨e1, _⟩ | ⟨_, b, off, _, e1, hbl, hcell⟩
  · rw [e1] at hx; simp at hx
  · injection e1 with e1
    obtain ⟨kv, hk⟩ := hcell k n hx
    exact ⟨b, off, kv, e1, hbl, hk⟩
theorem NdAt.later {w w' : World} {b o : Nat} {n : Nd} {kv : Value} (h : NdAt w b o n kv) (hlt : b < w.heap.size) (hb : Below w.heap.size w w') : NdAt w' b o n kv :=
  ⟨by rw [hb.cell hlt]; exact h.c0, by rw [hb.cell hlt]; exact h.c1, by rw [hb.cell hlt]; exact h.c2, by rw [hb.cell hlt]; exact h.c3, h.kids.later hb⟩
theorem NlAt.later {w w' : World} {v : Value} {l : List Nd} (h : NlAt w v l) (hb : Below w.heap.size w w') : NlAt w' v l := by
  rcases h with h | ⟨h0, b, off, c, e, hlt, hc⟩
  · exact .inl h
  · refine .inr ⟨h0, b, off, c, e, Nat.lt_of_lt_of_le hlt hb.size, fun i n hi => ?_⟩
    obtain ⟨kv, hk⟩ := hc i n hi
    exact ⟨kv, hk.later hlt hb⟩
/-- A graph that can be read. -/
def GrAt (w : World) (nv rv : Value) (g : Gr) : Prop := NlAt w nv g.nodes ∧ IlAt w rv g.roots
theorem GrAt.later {w w' : World} {nv rv : Value} {g : Gr} (h : GrAt w nv rv g) (hb : Below w.heap.size w w') : GrAt w' nv rv g := ⟨h.1.later hb, h.2.later hb⟩
def Nd.tot (n : Nd) : Nat := n.tag.size + n.text.size + n.kids.length
def totN : List Nd → Nat
  | [] => 0
  | n :: t => n.tot + totN t
def Gr.tot (g : Gr) : Nat := g.nodes.length + totN g.nodes + g.roots.length
theorem totN_app : ∀ (a b : List Nd), totN (a ++ b) = totN a + totN b
  | [], b => by simp [totN]
  | h :: t, b => by have := totN_app t b; simp only [List.cons_append, totN, this]; omega
theorem totN_take {ns : List Nd} {k : Nat} {n : Nd} (h : ns[k]? = some n) : totN (ns.take (k + 1)) = totN (ns.take k) + n.tot := by
  rw [List.take_add_one, h, totN_app]
  simp [totN]
theorem totN_mem : ∀ {ns : List Nd} {n : Nd}, n ∈ ns → n.tot ≤ totN ns
  | x :: t, h, e => by
    rcases List.mem_cons.1 e with rfl | e
    · simp only [totN]; omega
    · have := totN_mem e
      simp only [totN]; omega
def wideN (n : Nd) : Prop := n.tag.size ≤ 9223372036854775807 ∧ n.text.size ≤ 9223372036854775807 ∧ n.kids.length ≤ 9223372036854775807
def wfN (n : Nd) : Prop := (Lit.int .i64 n.kind).wf = true ∧ ∀ k ∈ n.kids, (Lit.int .i64 k).wf = true
structure Gr.Wide (g : Gr) : Prop where
  nodes : g.nodes.length ≤ 9223372036854775807
  roots : g.roots.length ≤ 9223372036854775807
  each : ∀ n ∈ g.nodes, wideN n
structure Gr.Wf (g : Gr) : Prop where
  roots : ∀ k ∈ g.roots, (Lit.int .i64 k).wf = true
  each : ∀ n ∈ g.nodes, wfN n
end Go.Proofs.Ytkdlakcmhdiojaa
