/- Several texts in one: Pnr Pwk Iwa. -/
import Derived.Test.YtmbbmibkjnlkkaaZpg
import Derived.Test.YtmbbmibkjnlkkaaZpd
import Derived.Test.YtmbbmibkjnlkkaaProg
import Derived.Deep.Light
import Derived.Lib.Builder
import Derived.OwnWalk
import Derived.WalkMore
import Derived.WalkLawsBesides
import Derived.WalkSpells
import Derived.Deep.QuietTactic
import Derived.BigQuiet
/- Nodes within events: the program's spans, step by step, and what a nested list keeps to. -/
namespace Go.Proofs.Ytmbbmibkjnlkkaa
open Go.RowKit
/-- A node by its places. -/
structure Sp where
  at_ : Nat
  end_ : Int
  up : Int
def nodB (l : List Ev) (j : Nat) : Bool := match l[j]? with
  | none => false
  | some e => nodE e
def nodesTo (l : List Ev) (k : Nat) : List Nat := (List.range k).filter (nodB l)
/-- The end of j, as far as it is known ahead of k. -/
def endTo (l : List Ev) (k j : Nat) : Int := if 0 ≤ endN l j ∧ endN l j < (k : Int) then endN l j else -1
def spAt (l : List Ev) (k j : Nat) : Sp := ⟨j, endTo l k j, upG l j 0⟩
def spansTo (l : List Ev) (k : Nat) : List Sp := (nodesTo l k).map (spAt l k)
def openAt (l : List Ev) (j : Nat) : Nat := (nodesTo l j).length
def opensTo (l : List Ev) (k : Nat) : List Nat := (stk l k).map (openAt l)
theorem nodB_some {l : List Ev} {j : Nat} {e : Ev} (h : l[j]? = some e) : nodB l j = nodE e := by unfold nodB; rw [h]
theorem nodB_lt {l : List Ev} {j : Nat} (h : nodB l j = true) : ∃ e, l[j]? = some e ∧ nodE e = true := by
  unfold nodB at h
  split at h
  · cases h
  · rename_i e he
    exact ⟨e, he, h⟩
theorem nodesTo_yes {l : List Ev} {k : Nat} (h : nodB l k = true) : nodesTo l (k + 1) = nodesTo l k ++ [k] := by
  simp [nodesTo, List.range_succ, List.filter_append, h]
theorem nodesTo_no {l : List Ev} {k : Nat} (h : nodB l k = false) : nodesTo l (k + 1) = nodesTo l k := by
  simp [nodesTo, List.range_succ, List.filter_append, h]
theorem mem_nodes {l : List Ev} {k j : Nat} : j ∈ nodesTo l k ↔ j < k ∧ nodB l j = true := by
  simp [nodesTo, List.mem_filter]
theorem nodesTo_le (l : List Ev) (k : Nat) : (nodesTo l k).length ≤ k := by
  have := List.length_filter_le (nodB l) (List.range k)
  simpa [nodesTo] using this
theorem endTo_same {l : List Ev} {k j : Nat} {e : Ev} (he : l[k]? = some e) (hj : j < k) (hn : nodB l j = true) (hx : ¬ (e.kind = 7 ∧ (stk l k).head? = some j)) : endTo l (k + 1) j = endTo l k j := by
  obtain ⟨e0, h0, hn0⟩ := nodB_lt hn
  have hne : endN l j ≠ (k : Int) := fun h => hx (endN_hit h0 hn0 hj he h)
  unfold endTo
  by_cases h : 0 ≤ endN l j ∧ endN l j < (k : Int)
  · rw [if_pos h, if_pos ⟨h.1, by omega⟩]
  · rw [if_neg h, if_neg (by omega)]
theorem map_same {l : List Ev} {k : Nat} {e : Ev} (he : l[k]? = some e) (h7 : e.kind ≠ 7) : (nodesTo l k).map (spAt l (k + 1)) = spansTo l k := by
  unfold spansTo
  apply List.map_congr_left
  intro j hj
  obtain ⟨hj1, hj2⟩ := mem_nodes.1 hj
  unfold spAt
  rw [endTo_same he hj1 hj2 (fun h => h7 h.1)]
theorem spans_col {l : List Ev} {k : Nat} {e : Ev} (he : l[k]? = some e) (hc : colE e = true) : spansTo l (k + 1) = spansTo l k ++ [⟨k, -1, headI (stk l k)⟩] := by
  have hk : k < l.length := (List.getElem?_eq_some_iff.1 he).1
  have hn : nodB l k = true := by rw [nodB_some he]; exact col_node hc
  have h1 : endTo l (k + 1) k = -1 := by
    unfold endTo
    rw [if_neg]
    rw [endN_col he hc]
    rcases endG_le (l.drop (k + 1)) (k + 1) 1 with h | h
    · rw [h]; omega
    · omega
  have h2 : spAt l (k + 1) k = ⟨k, -1, headI (stk l k)⟩ := by
    unfold spAt
    rw [h1, up_head l k (by omega)]
  have h3 := map_same he (col_not7 hc)
  unfold spansTo at h3 ⊢
  rw [nodesTo_yes hn, List.map_append, h3, List.map_cons, List.map_nil, h2]
theorem spans_leaf {l : List Ev} {k : Nat} {e : Ev} (he : l[k]? = some e) (hc : e.kind = 5 ∨ e.kind = 6) : spansTo l (k + 1) = spansTo l k ++ [⟨k, (k : Int), headI (stk l k)⟩] := by
  have hk : k < l.length := (List.getElem?_eq_some_iff.1 he).1
  have hne : nodE e = true := by unfold nodE; simp; omega
  have hcf : colE e = false := by unfold colE; simp; omega
  have hn : nodB l k = true := by rw [nodB_some he]; exact hne
  have h1 : endTo l (k + 1) k = (k : Int) := by
    unfold endTo
    rw [endN_leaf he hne hcf, if_pos (by omega)]
  have h2 : spAt l (k + 1) k = ⟨k, (k : Int), headI (stk l k)⟩ := by
    unfold spAt
    rw [h1, up_head l k (by omega)]
  have h3 := map_same he (show e.kind ≠ 7 by omega)
  unfold spansTo at h3 ⊢
  rw [nodesTo_yes hn, List.map_append, h3, List.map_cons, List.map_nil, h2]
theorem spans_else {l : List Ev} {k : Nat} {e : Ev} (he : l[k]? = some e) (hn : nodE e = false) (h7 : e.kind ≠ 7) : spansTo l (k + 1) = spansTo l k := by
  have h3 := map_same he h7
  have hb : nodB l k = false := by rw [nodB_some he]; exact hn
  unfold spansTo at h3 ⊢
  rw [nodesTo_no hb, h3]
theorem nodes_split {l : List Ev} {j : Nat} (hn : nodB l j = true) : ∀ (k : Nat), j < k → ∃ B, nodesTo l k = nodesTo l j ++ j :: B ∧ ∀ x ∈ B, j < x
  | 0, h => by omega
  | k + 1, h => by
    by_cases e : j = k
    · subst e
      exact ⟨[], nodesTo_yes hn, by simp⟩
    · obtain ⟨B, h1, h2⟩ := nodes_split hn k (by omega)
      cases hk : nodB l k
      · exact ⟨B, by rw [nodesTo_no hk, h1], h2⟩
      · refine ⟨B ++ [k], by rw [nodesTo_yes hk, h1]; simp, fun x hx => ?_⟩
        rcases List.mem_append.1 hx with h3 | h3
        · exact h2 x h3
        · simp at h3; omega
theorem spans_end {l : List Ev} {k j : Nat} {r : List Nat} {e : Ev} (he : l[k]? = some e) (h7 : e.kind = 7) (hs : stk l k = j :: r) :
    (spansTo l k)[(nodesTo l j).length]? = some ⟨j, -1, upG l j 0⟩ ∧ spansTo l (k + 1) = (spansTo l k).set (nodesTo l j).length ⟨j, (k : Int), upG l j 0⟩ := by
  have hk : k < l.length := (List.getElem?_eq_some_iff.1 he).1
  have hm : j ∈ stk l k := by rw [hs]; exact List.mem_cons_self
  have hjk := stk_lt l k j hm
  obtain ⟨e0, h0, hc0⟩ := stk_is l k j hm
  have hn : nodB l j = true := by rw [nodB_some h0]; exact col_node hc0
  have hb : nodB l k = false := by rw [nodB_some he]; unfold nodE; simp; omega
  have hE := endN_top he h7 hs
  obtain ⟨B, hB, hgt⟩ := nodes_split hn k hjk
  have e1 : endTo l k j = -1 := by unfold endTo; rw [hE, if_neg (by omega)]
  have e2 : endTo l (k + 1) j = (k : Int) := by unfold endTo; rw [hE, if_pos (by omega)]
  have hsame : ∀ x, x ∈ nodesTo l k → x ≠ j → spAt l (k + 1) x = spAt l k x := by
    intro x hx hxj
    obtain ⟨hx1, hx2⟩ := mem_nodes.1 hx
    unfold spAt
    rw [endTo_same he hx1 hx2 (fun h => hxj (by have := h.2; rw [hs] at this; simpa using this.symm))]
  have hA : (nodesTo l j).map (spAt l (k + 1)) = (nodesTo l j).map (spAt l k) := List.map_congr_left fun x hx => hsame x (by rw [hB]; exact List.mem_append_left _ hx) (by have := (mem_nodes.1 hx).1; omega)
  have hBm : B.map (spAt l (k + 1)) = B.map (spAt l k) := List.map_congr_left fun x hx => hsame x (by rw [hB]; exact List.mem_append_right _ (List.mem_cons_of_mem _ hx)) (by have := hgt x hx; omega)
  have s1 : spAt l k j = ⟨j, -1, upG l j 0⟩ := by unfold spAt; rw [e1]
  have s2 : spAt l (k + 1) j = ⟨j, (k : Int), upG l j 0⟩ := by unfold spAt; rw [e2]
  have t1 : spansTo l k = (nodesTo l j).map (spAt l k) ++ ⟨j, -1, upG l j 0⟩ :: B.map (spAt l k) := by
    unfold spansTo
    rw [hB, List.map_append, List.map_cons, s1]
  have t2 : spansTo l (k + 1) = (nodesTo l j).map (spAt l k) ++ ⟨j, (k : Int), upG l j 0⟩ :: B.map (spAt l k) := by
    unfold spansTo
    rw [nodesTo_no hb, hB, List.map_append, List.map_cons, s2, hA, hBm]
  constructor
  · rw [t1, List.getElem?_append_right (by simp)]
    simp
  · rw [t1, t2, List.set_append_right _ _ (by simp)]
    simp
theorem opens_col {l : List Ev} {k : Nat} {e : Ev} (he : l[k]? = some e) (hc : colE e = true) : opensTo l (k + 1) = (spansTo l k).length :: opensTo l k := by
  unfold opensTo
  rw [stk_col he hc, List.map_cons]
  simp [openAt, spansTo]
theorem opens_end {l : List Ev} {k j : Nat} {r : List Nat} {e : Ev} (he : l[k]? = some e) (h7 : e.kind = 7) (hs : stk l k = j :: r) : opensTo l k = (nodesTo l j).length :: opensTo l (k + 1) := by
  unfold opensTo
  rw [stk_end he h7, hs]
  rfl
theorem opens_else {l : List Ev} {k : Nat} {e : Ev} (he : l[k]? = some e) (hc : colE e = false) (h7 : e.kind ≠ 7) : opensTo l (k + 1) = opensTo l k := by
  unfold opensTo
  rw [stk_else he hc h7]
/-- The last one that is open, as the program finds it. -/
theorem opens_top {l : List Ev} {k j : Nat} {r : List Nat} (hs : stk l k = j :: r) : ∃ s, (spansTo l k)[(nodesTo l j).length]? = some s ∧ s.at_ = j := by
  have hm : j ∈ stk l k := by rw [hs]; exact List.mem_cons_self
  have hjk := stk_lt l k j hm
  obtain ⟨e0, h0, hc0⟩ := stk_is l k j hm
  have hn : nodB l j = true := by rw [nodB_some h0]; exact col_node hc0
  obtain ⟨B, hB, _⟩ := nodes_split hn k hjk
  refine ⟨spAt l k j, ?_, rfl⟩
  unfold spansTo
  rw [hB, List.map_append, List.getElem?_append_right (by simp)]
  simp
/-- All of them. -/
def fin (l : List Ev) (j : Nat) : Sp := ⟨j, endN l j, upG l j 0⟩
def spansF (l : List Ev) : List Sp := (nodesTo l l.length).map (fin l)
theorem spans_all (l : List Ev) : spansTo l l.length = spansF l := by
  unfold spansTo spansF
  apply List.map_congr_left
  intro j hj
  obtain ⟨h1, h2⟩ := mem_nodes.1 hj
  unfold spAt fin
  congr 1
  unfold endTo
  rcases endN_le l j (by omega) with h | h
  · rw [h]; simp
  · rw [if_pos (by omega)]
/-- What a nested list keeps to, place by place. -/
theorem nst_at {l : List Ev} (h : nested l = true) : ∀ (k : Nat), k < l.length → ∃ (first : Bool) (doc : Int) (st : List Int), nst first doc st (l.drop k) = true ∧ st.length = (stk l k).length ∧ (doc = 0 ∨ doc = 1 ∨ doc = 2) ∧ (doc ≠ 2 → st = []) ∧ (doc = 1 ↔ (0 < k ∧ kindAt l (k - 1) = 2)) ∧ (first = true ↔ k = 0)
  | 0, _ => ⟨true, 0, [], by simpa [nested] using h, by simp [stk], .inl rfl, fun _ => rfl, by simp, by simp⟩
  | k + 1, hk => by
    obtain ⟨first, doc, st, h1, h2, h3, h4, h5, h6⟩ := nst_at h k (by omega)
    obtain ⟨e, he⟩ : ∃ e, l[k]? = some e := ⟨_, List.getElem?_eq_getElem (by omega)⟩
    have hka : kindAt l (k + 1 - 1) = e.kind := by unfold kindAt; rw [show k + 1 - 1 = k from rfl, he]
    rw [hka]
    rw [drop_ev he] at h1
    have hok : evOk e = true := by
      cases h' : evOk e
      · exact (nst_bad h1 h').symm ▸ rfl
      · rfl
    have hfi : (first != (e.kind == 1)) = false := by
      cases h' : (first != (e.kind == 1))
      · rfl
      · exact absurd (nst_first h1 hok h') (by simp)
    have hi := nst_in h1 hok hfi
    have hkd := evOk_kind hok
    have hne : (l.drop (k + 1)).isEmpty = false := by
      cases hd : l.drop (k + 1) with
      | nil => have := congrArg List.length hd; simp at this; omega
      | cons _ _ => rfl
    have hfF : (false = true ↔ k + 1 = 0) := by simp
    by_cases k10 : e.kind = 10
    · rw [if_pos k10, hne] at hi; cases hi
    rw [if_neg k10] at hi
    by_cases k2 : e.kind = 2
    · rw [if_pos k2] at hi
      split at hi
      · rename_i hd
        exact ⟨false, 1, st, hi, by rw [stk_else he (by unfold colE; simp; omega) (by omega)]; exact h2, by simp, fun _ => h4 (by omega), by simp [k2], hfF⟩
      · cases hi
    rw [if_neg k2] at hi
    by_cases kn : 3 ≤ e.kind ∧ e.kind ≤ 6
    · rw [if_pos kn] at hi
      have hlen : ∀ s : List Int, (pushK e.kind s).length = if colE e = true then s.length + 1 else s.length := by
        intro s
        unfold pushK colE
        by_cases k3 : e.kind = 3
        · simp [k3]
        · by_cases k4 : e.kind = 4
          · simp [k4]
          · simp [k3, k4]
      have hst : (stk l (k + 1)).length = if colE e = true then (stk l k).length + 1 else (stk l k).length := by
        by_cases hc : colE e = true
        · rw [stk_col he hc, if_pos hc]; rfl
        · rw [stk_else he (by simpa using hc) (by omega), if_neg hc]
      split at hi
      · rename_i hs0
        split at hi
        · refine ⟨false, 2, _, hi, ?_, by simp, by simp, by simp [k2], hfF⟩
          rw [hlen, hst, ← h2, hs0]
        · cases hi
      · rename_i hs0
        have hd2 : doc = 2 := by
          apply Classical.byContradiction
          intro hd
          exact hs0 (h4 hd)
        refine ⟨false, doc, _, hi, ?_, h3, by simp [hd2], by simp [hd2, k2], hfF⟩
        rw [hlen, hst, ← h2]
        cases st with
        | nil => exact absurd rfl hs0
        | cons a b => simp
    rw [if_neg kn] at hi
    by_cases k7 : e.kind = 7
    · rw [if_pos k7] at hi
      split at hi
      · cases hi
      · rename_i hs0
        split at hi
        · cases hi
        · have hd2 : doc = 2 := by
            apply Classical.byContradiction
            intro hd
            exact hs0 (h4 hd)
          refine ⟨false, doc, _, hi, ?_, h3, by simp [hd2], by simp [hd2, k2], hfF⟩
          rw [stk_end he k7, List.length_tail, List.length_tail, h2]
    rw [if_neg k7] at hi
    have hsn : stk l (k + 1) = stk l k := stk_else he (by unfold colE; simp; omega) k7
    by_cases k8 : e.kind = 8
    · rw [if_pos k8] at hi
      split at hi
      · rename_i hd
        refine ⟨false, 0, [], hi, ?_, by simp, fun _ => rfl, by simp [k2], hfF⟩
        rw [hsn, ← h2, hd.2]
      · cases hi
    rw [if_neg k8] at hi
    by_cases k9 : e.kind = 9
    · rw [if_pos k9, hne] at hi; cases hi
    rw [if_neg k9] at hi
    have k1 : e.kind = 1 := by omega
    have hft : first = true := by
      rw [k1] at hfi
      cases first
      · simp at hfi
      · rfl
    have hk0 : k = 0 := h6.1 hft
    subst hk0
    have hd1 : doc ≠ 1 := fun hd => by have := (h5.1 hd).1; omega
    exact ⟨false, doc, st, hi, by rw [hsn]; exact h2, h3, h4, by simp [hd1, k2], hfF⟩
structure NsAt (l : List Ev) (k : Nat) (e : Ev) : Prop where
  ok : evOk e = true
  end_ : e.kind = 7 → stk l k ≠ []
  root : nodE e = true → (stk l k = [] ↔ (0 < k ∧ kindAt l (k - 1) = 2))
  last : nodE e = false → e.kind ≠ 7 → stk l k ≠ [] → k + 1 = l.length
  doc : 0 < k → kindAt l (k - 1) = 2 → nodE e = true ∨ k + 1 = l.length
theorem ns_at {l : List Ev} (h : nested l = true) {k : Nat} {e : Ev} (he : l[k]? = some e) : NsAt l k e := by
  have hk : k < l.length := (List.getElem?_eq_some_iff.1 he).1
  obtain ⟨first, doc, st, h1, h2, h3, h4, h5, h6⟩ := nst_at h k hk
  rw [drop_ev he] at h1
  have hok : evOk e = true := by
    cases h' : evOk e
    · exact (nst_bad h1 h').symm ▸ rfl
    · rfl
  have hfi : (first != (e.kind == 1)) = false := by
    cases h' : (first != (e.kind == 1))
    · rfl
    · exact absurd (nst_first h1 hok h') (by simp)
  have hi := nst_in h1 hok hfi
  have hkd := evOk_kind hok
  have hse : st = [] ↔ stk l k = [] := by
    rw [← List.length_eq_zero_iff, ← List.length_eq_zero_iff (l := stk l k), h2]
  have hnode : nodE e = true ↔ (3 ≤ e.kind ∧ e.kind ≤ 6) := by unfold nodE; simp
  have hnodf : nodE e = false ↔ ¬ (3 ≤ e.kind ∧ e.kind ≤ 6) := by
    rw [← hnode]; simp
  have hend : (l.drop (k + 1)).isEmpty = true → k + 1 = l.length := by
    intro hx
    have := congrArg List.length (List.isEmpty_iff.1 hx)
    simp at this
    omega
  have h1k : e.kind = 1 → k = 0 := by
    intro k1
    apply h6.1
    rw [k1] at hfi
    cases first
    · simp at hfi
    · rfl
  refine ⟨hok, ?_, ?_, ?_, ?_⟩
  · intro k7 hs0
    rw [if_neg (by omega), if_neg (by omega), if_neg (by omega), if_pos k7, if_pos (hse.2 hs0)] at hi
    cases hi
  · intro hn
    have kn := hnode.1 hn
    rw [if_neg (by omega), if_neg (by omega), if_pos kn] at hi
    rw [← hse, ← h5]
    constructor
    · intro hs0
      rw [if_pos hs0] at hi
      split at hi
      · assumption
      · cases hi
    · intro hd
      exact h4 (by omega)
  · intro hn k7 hs0
    have kn := hnodf.1 hn
    have hst : st ≠ [] := fun h => hs0 (hse.1 h)
    have hd2 : doc = 2 := by
      apply Classical.byContradiction
      intro hd
      exact hst (h4 hd)
    by_cases k10 : e.kind = 10
    · rw [if_pos k10] at hi; exact hend hi
    rw [if_neg k10] at hi
    by_cases k2 : e.kind = 2
    · rw [if_pos k2, if_neg (by omega)] at hi; cases hi
    rw [if_neg k2, if_neg kn, if_neg k7] at hi
    by_cases k8 : e.kind = 8
    · rw [if_pos k8, if_neg (fun h => hst h.2)] at hi; cases hi
    rw [if_neg k8] at hi
    by_cases k9 : e.kind = 9
    · rw [if_pos k9] at hi
      simp at hi
      omega
    have hk0 := h1k (by omega)
    subst hk0
    exact absurd rfl hs0
  · intro hk0 hkk
    have hd1 : doc = 1 := h5.2 ⟨hk0, hkk⟩
    have hst : st = [] := h4 (by omega)
    by_cases kn : 3 ≤ e.kind ∧ e.kind ≤ 6
    · exact .inl (hnode.2 kn)
    · right
      by_cases k10 : e.kind = 10
      · rw [if_pos k10] at hi; exact hend hi
      rw [if_neg k10] at hi
      by_cases k2 : e.kind = 2
      · rw [if_pos k2, if_neg (by omega)] at hi; cases hi
      rw [if_neg k2, if_neg kn] at hi
      by_cases k7 : e.kind = 7
      · rw [if_pos k7, if_pos hst] at hi; cases hi
      rw [if_neg k7] at hi
      by_cases k8 : e.kind = 8
      · rw [if_pos k8, if_neg (by omega)] at hi; cases hi
      rw [if_neg k8] at hi
      by_cases k9 : e.kind = 9
      · rw [if_pos k9] at hi
        simp at hi
        omega
      have := h1k (by omega)
      omega
end Go.Proofs.Ytmbbmibkjnlkkaa
/- How impl walks over a stream, as a plain function on the kind of its place and on those around it; it goes as Nested does. -/
namespace Go.Proofs.Ytmbbmibkjnlkkaa
/-- The kind of a place in a collection that has x nodes (-1: a list). -/
def cod (x : Int) : Int := if x < 0 then 4 else if x % 2 = 0 then 5 else 6
def nd (c : Int) : Option Int := if c = 2 then some 3 else if c = 5 then some 6 else if c = 6 then some 5 else if c = 4 then some 4 else none
def tk (c : Int) (ar : List Int) (k : Int) : Option (Int × List Int) :=
  if k = 1 then (if c = 0 then some (1, ar) else none)
  else if k = 2 then (if c = 1 then some (2, ar) else none)
  else if k = 3 then (nd c).map fun d => (4, d :: ar)
  else if k = 4 then (nd c).map fun d => (5, d :: ar)
  else if k = 5 ∨ k = 6 then (nd c).map fun d => (d, ar)
  else if k = 7 then (if c = 4 ∨ c = 5 then some (ar.headD 0, ar.tail) else none)
  else if k = 8 then (if c = 3 then some (1, ar) else none)
  else if k = 9 then (if c = 1 then some (7, ar) else none)
  else (if c ≠ 0 ∧ c ≠ 7 then some (7, ar) else none)
/-- The place of the walk and what the specification keeps. -/
def Rel (first : Bool) (doc : Int) (st : List Int) (c : Int) (ar : List Int) : Prop :=
  (first = true ∧ doc = 0 ∧ st = [] ∧ c = 0 ∧ ar = []) ∨ (first = false ∧ doc = 0 ∧ st = [] ∧ c = 1 ∧ ar = []) ∨ (first = false ∧ doc = 1 ∧ st = [] ∧ c = 2 ∧ ar = []) ∨ (first = false ∧ doc = 2 ∧ st = [] ∧ c = 3 ∧ ar = []) ∨
  (first = false ∧ doc = 2 ∧ ∃ x t, st = x :: t ∧ c = cod x ∧ ar = t.map cod ++ [3])
theorem Rel.at0 : Rel true 0 [] 0 [] := .inl ⟨rfl, rfl, rfl, rfl, rfl⟩
theorem Rel.out : Rel false 0 [] 1 [] := .inr (.inl ⟨rfl, rfl, rfl, rfl, rfl⟩)
theorem Rel.doc : Rel false 1 [] 2 [] := .inr (.inr (.inl ⟨rfl, rfl, rfl, rfl, rfl⟩))
theorem Rel.full : Rel false 2 [] 3 [] := .inr (.inr (.inr (.inl ⟨rfl, rfl, rfl, rfl, rfl⟩)))
theorem Rel.more (x : Int) (t : List Int) : Rel false 2 (x :: t) (cod x) (t.map cod ++ [3]) := .inr (.inr (.inr (.inr ⟨rfl, rfl, x, t, rfl, rfl, rfl⟩)))
theorem nd_cod (x : Int) : nd (cod x) = some (cod (stI x)) := by
  unfold cod stI nd
  by_cases h : x < 0
  · rw [if_pos h, if_neg (show ¬ 0 ≤ x by omega), if_pos h]
    rfl
  · rw [if_neg h, if_pos (show 0 ≤ x by omega), if_neg (show ¬ x + 1 < 0 by omega)]
    by_cases h2 : x % 2 = 0
    · rw [if_pos h2, if_neg (show ¬ (x + 1) % 2 = 0 by omega)]; rfl
    · rw [if_neg h2, if_pos (show (x + 1) % 2 = 0 by omega)]; rfl
theorem cod_in (x : Int) : cod x = 4 ∨ cod x = 5 ∨ cod x = 6 := by
  unfold cod
  split
  · exact .inl rfl
  · split
    · exact .inr (.inl rfl)
    · exact .inr (.inr rfl)
theorem cod_odd (x : Int) : cod x = 6 ↔ 0 < x ∧ x % 2 = 1 := by
  unfold cod
  split
  · constructor
    · intro h; cases h
    · intro h; omega
  · split
    · constructor
      · intro h; cases h
      · intro h; omega
    · constructor
      · intro _; omega
      · intro _; rfl
/-- What one event does. -/
def stepK (first : Bool) (doc : Int) (st : List Int) (e : Ev) (t : List Ev) : Option (Int × List Int) → Prop
  | none => nst first doc st (e :: t) = false
  | some p => (p.1 = 7 ∧ nst first doc st (e :: t) = t.isEmpty) ∨ (∃ f d s, Rel f d s p.1 p.2 ∧ nst first doc st (e :: t) = nst f d s t)
theorem step_walk {first : Bool} {doc : Int} {st : List Int} {c : Int} {ar : List Int} (h : Rel first doc st c ar) (e : Ev) (t : List Ev) (hok : evOk e = true) : stepK first doc st e t (tk c ar e.kind) := by
  obtain ⟨k1, k10⟩ := evOk_kind hok
  have hk : e.kind = 1 ∨ e.kind = 2 ∨ e.kind = 3 ∨ e.kind = 4 ∨ e.kind = 5 ∨ e.kind = 6 ∨ e.kind = 7 ∨ e.kind = 8 ∨ e.kind = 9 ∨ e.kind = 10 := by omega
  have hne : ¬ evOk e = false := by rw [hok]; simp
  rcases h with ⟨rfl, rfl, rfl, rfl, rfl⟩ | ⟨rfl, rfl, rfl, rfl, rfl⟩ | ⟨rfl, rfl, rfl, rfl, rfl⟩ | ⟨rfl, rfl, rfl, rfl, rfl⟩ | ⟨rfl, rfl, x, s, rfl, rfl, rfl⟩
  case inl =>
    rcases hk with h | h | h | h | h | h | h | h | h | h
    · rw [h]
      refine .inr ⟨_, _, _, Rel.out, ?_⟩
      rw [nst, if_neg hne]
      simp [h]
    all_goals
      rw [h]
      show nst true 0 [] (e :: t) = false
      rw [nst, if_neg hne]
      simp [h]
  case inr.inl =>
    rcases hk with h | h | h | h | h | h | h | h | h | h
    · rw [h]
      show nst false 0 [] (e :: t) = false
      rw [nst, if_neg hne]
      simp [h]
    · rw [h]
      refine .inr ⟨_, _, _, Rel.doc, ?_⟩
      rw [nst, if_neg hne]
      simp [h]
    case inr.inr.inr.inr.inr.inr.inr.inr.inl =>
      rw [h]
      refine .inl ⟨rfl, ?_⟩
      rw [nst, if_neg hne]
      simp [h]
    case inr.inr.inr.inr.inr.inr.inr.inr.inr =>
      rw [h]
      refine .inl ⟨rfl, ?_⟩
      rw [nst, if_neg hne]
      simp [h]
    all_goals
      rw [h]
      show nst false 0 [] (e :: t) = false
      rw [nst, if_neg hne]
      simp [h]
  case inr.inr.inl =>
    rcases hk with h | h | h | h | h | h | h | h | h | h
    case inr.inr.inl =>
      rw [h]
      refine .inr ⟨_, _, _, Rel.more (-1) [], ?_⟩
      rw [nst, if_neg hne]
      simp [h, pushK]
    case inr.inr.inr.inl =>
      rw [h]
      refine .inr ⟨_, _, _, Rel.more 0 [], ?_⟩
      rw [nst, if_neg hne]
      simp [h, pushK]
    case inr.inr.inr.inr.inl =>
      rw [h]
      refine .inr ⟨_, _, _, Rel.full, ?_⟩
      rw [nst, if_neg hne]
      simp [h, pushK]
    case inr.inr.inr.inr.inr.inl =>
      rw [h]
      refine .inr ⟨_, _, _, Rel.full, ?_⟩
      rw [nst, if_neg hne]
      simp [h, pushK]
    case inr.inr.inr.inr.inr.inr.inr.inr.inr =>
      rw [h]
      refine .inl ⟨rfl, ?_⟩
      rw [nst, if_neg hne]
      simp [h]
    all_goals
      rw [h]
      show nst false 1 [] (e :: t) = false
      rw [nst, if_neg hne]
      simp [h]
  case inr.inr.inr.inl =>
    rcases hk with h | h | h | h | h | h | h | h | h | h
    case inr.inr.inr.inr.inr.inr.inr.inl =>
      rw [h]
      refine .inr ⟨_, _, _, Rel.out, ?_⟩
      rw [nst, if_neg hne]
      simp [h]
    case inr.inr.inr.inr.inr.inr.inr.inr.inr =>
      rw [h]
      refine .inl ⟨rfl, ?_⟩
      rw [nst, if_neg hne]
      simp [h]
    all_goals
      rw [h]
      show nst false 2 [] (e :: t) = false
      rw [nst, if_neg hne]
      simp [h]
  case inr.inr.inr.inr =>
    have hc := cod_in x
    rcases hk with h | h | h | h | h | h | h | h | h | h
    case inr.inr.inl =>
      rw [h, show tk (cod x) (s.map cod ++ [3]) 3 = some (4, cod (stI x) :: (s.map cod ++ [3])) from by show (nd (cod x)).map _ = _; rw [nd_cod]; rfl]
      refine .inr ⟨_, _, _, Rel.more (-1) (stI x :: s), ?_⟩
      rw [nst, if_neg hne]
      simp [h, pushK]
    case inr.inr.inr.inl =>
      rw [h, show tk (cod x) (s.map cod ++ [3]) 4 = some (5, cod (stI x) :: (s.map cod ++ [3])) from by show (nd (cod x)).map _ = _; rw [nd_cod]; rfl]
      refine .inr ⟨_, _, _, Rel.more 0 (stI x :: s), ?_⟩
      rw [nst, if_neg hne]
      simp [h, pushK]
    case inr.inr.inr.inr.inl =>
      rw [h, show tk (cod x) (s.map cod ++ [3]) 5 = some (cod (stI x), s.map cod ++ [3]) from by show (nd (cod x)).map _ = _; rw [nd_cod]; rfl]
      refine .inr ⟨_, _, _, Rel.more (stI x) s, ?_⟩
      rw [nst, if_neg hne]
      simp [h, pushK]
    case inr.inr.inr.inr.inr.inl =>
      rw [h, show tk (cod x) (s.map cod ++ [3]) 6 = some (cod (stI x), s.map cod ++ [3]) from by show (nd (cod x)).map _ = _; rw [nd_cod]; rfl]
      refine .inr ⟨_, _, _, Rel.more (stI x) s, ?_⟩
      rw [nst, if_neg hne]
      simp [h, pushK]
    case inr.inr.inr.inr.inr.inr.inl =>
      rw [h]
      by_cases h6 : cod x = 6
      · rw [show tk (cod x) (s.map cod ++ [3]) 7 = none from by show (if cod x = 4 ∨ cod x = 5 then _ else none) = _; rw [if_neg (by omega)]]
        show nst false 2 (x :: s) (e :: t) = false
        have ho := (cod_odd x).1 h6
        rw [nst, if_neg hne]
        simp [h, ho]
      · rw [show tk (cod x) (s.map cod ++ [3]) 7 = some ((s.map cod ++ [3]).headD 0, (s.map cod ++ [3]).tail) from by show (if cod x = 4 ∨ cod x = 5 then _ else none) = _; rw [if_pos (by omega)]]
        have ho : ¬ (0 < x ∧ x % 2 = 1) := fun hh => h6 ((cod_odd x).2 hh)
        have hn : nst false 2 (x :: s) (e :: t) = nst false 2 s t := by
          rw [nst, if_neg hne]
          simp [h, ho]
        cases s with
        | nil => exact .inr ⟨_, _, _, Rel.full, hn⟩
        | cons y u => exact .inr ⟨_, _, _, Rel.more y u, hn⟩
    case inr.inr.inr.inr.inr.inr.inr.inr.inr =>
      rw [h, show tk (cod x) (s.map cod ++ [3]) 10 = some (7, s.map cod ++ [3]) from by show (if cod x ≠ 0 ∧ cod x ≠ 7 then _ else none) = _; rw [if_pos (by omega)]]
      refine .inl ⟨rfl, ?_⟩
      rw [nst, if_neg hne]
      simp [h]
    · rw [h, show tk (cod x) (s.map cod ++ [3]) 1 = none from by show (if cod x = 0 then _ else none) = _; rw [if_neg (by omega)]]
      show nst false 2 (x :: s) (e :: t) = false
      rw [nst, if_neg hne]
      simp [h]
    · rw [h, show tk (cod x) (s.map cod ++ [3]) 2 = none from by show (if cod x = 1 then _ else none) = _; rw [if_neg (by omega)]]
      show nst false 2 (x :: s) (e :: t) = false
      rw [nst, if_neg hne]
      simp [h]
    · rw [h, show tk (cod x) (s.map cod ++ [3]) 8 = none from by show (if cod x = 3 then _ else none) = _; rw [if_neg (by omega)]]
      show nst false 2 (x :: s) (e :: t) = false
      rw [nst, if_neg hne]
      simp [h]
    · rw [h, show tk (cod x) (s.map cod ++ [3]) 9 = none from by show (if cod x = 1 then _ else none) = _; rw [if_neg (by omega)]]
      show nst false 2 (x :: s) (e :: t) = false
      rw [nst, if_neg hne]
      simp [h]
theorem tk_end (ar : List Int) (k : Int) (h1 : 1 ≤ k) (h2 : k ≤ 10) : tk 7 ar k = none := by
  have hk : k = 1 ∨ k = 2 ∨ k = 3 ∨ k = 4 ∨ k = 5 ∨ k = 6 ∨ k = 7 ∨ k = 8 ∨ k = 9 ∨ k = 10 := by omega
  rcases hk with rfl | rfl | rfl | rfl | rfl | rfl | rfl | rfl | rfl | rfl <;> rfl
theorem Rel.no7 {first : Bool} {doc : Int} {st : List Int} {c : Int} {ar : List Int} (h : Rel first doc st c ar) : c ≠ 7 := by
  rcases h with ⟨_, _, _, h, _⟩ | ⟨_, _, _, h, _⟩ | ⟨_, _, _, h, _⟩ | ⟨_, _, _, h, _⟩ | ⟨_, _, x, t, _, h, _⟩
  · omega
  · omega
  · omega
  · omega
  · have := cod_in x
    omega
theorem Rel.some {first : Bool} {doc : Int} {st : List Int} {c : Int} {ar : List Int} (h : Rel first doc st c ar) (hc : c = 4 ∨ c = 5) : ∃ x t, ar = x :: t := by
  rcases h with ⟨_, _, _, h, _⟩ | ⟨_, _, _, h, _⟩ | ⟨_, _, _, h, _⟩ | ⟨_, _, _, h, _⟩ | ⟨_, _, x, t, _, _, h⟩
  · omega
  · omega
  · omega
  · omega
  · subst h
    cases t with
    | nil => exact ⟨_, _, rfl⟩
    | cons y u => exact ⟨_, _, rfl⟩
end Go.Proofs.Ytmbbmibkjnlkkaa
/- impl's walk over a stream, as it lies in memory, and its methods but leave. -/
namespace Go.Proofs.Ytmbbmibkjnlkkaa
open Go.ChangeShapes Go.WideShapes Go.ChangeAt Go.RowKit
theorem step_append_runT {P : Program} {ops : Array Oper} {o : Oper} {a : Act} {w : World} {K : Act → World → Prop} {Q : Exit → Act → World → Prop} {E : Prop}
    (hg : o.guard = none) (s x : Operand) (t : TypeId) (hop : o.op = Op.call { callee := Callee.builtin Builtin.append, args := #[s, x], argTypes := #[t, t] })
    (v u : Value) (hs : a.eval s = v) (hx : a.eval x = u) (r : Value) (w' : World) (hrun : (Builtin.append_ #[t, t] o.type #[v, u]).run P w = .ok r w')
    (hK : K (a.put o.dst r) w') :
    if Region.wanted o (yielded ops a.tmps) = true then Oper.wp P o a w K Q else E := by
  have hw : Region.wanted o (yielded ops a.tmps) = true := by simp [Region.wanted, hg]
  rw [if_pos hw]
  unfold Oper.wp execOp
  simp only [hop, resolve, invoke, builtin, Sem.run_bind, Sem.run_pure, Result.andThen_ok, List.map_toArray, List.map_cons, List.map_nil, hs, hx, hrun]
  exact hK
def intV (l : List Int) : List Value := l.map fun x => Value.int .i64 x
/-- The walk at block b: the kind of its place, and those around it as they lie. -/
def WkAt (b : Nat) (c : Int) (v : Value) (w : World) : Prop := w.heap[b]? = some (.cells #[.int .i64 c, v] 95 (0, 0))
def Wk (b : Nat) (c : Int) (ar : List Int) (w : World) : Prop := ∃ a n cp, WkAt b c (.slice a n cp) w ∧ w.ownsRow (b + 1) 92 1 (.slice a n cp) ar.length (intV ar.reverse)
theorem WkAt.lt {b : Nat} {c : Int} {v : Value} {w : World} (h : WkAt b c v w) : b < w.heap.size := (Array.getElem?_eq_some_iff.1 h).1
theorem WkAt.c0 {b : Nat} {c : Int} {v : Value} {w : World} (h : WkAt b c v w) : w.cell? ⟨b, 0, none⟩ = some (.int .i64 c) := by rw [Lib.cell_of_heap h]; rfl
theorem WkAt.c1 {b : Nat} {c : Int} {v : Value} {w : World} (h : WkAt b c v w) : w.cell? ⟨b, 1, none⟩ = some v := by rw [Lib.cell_of_heap h]; rfl
theorem WkAt.fz {b : Nat} {c : Int} {v : Value} {w : World} (h : WkAt b c v w) (j : Nat) : w.frozen? ⟨b, j, none⟩ = false := Lib.frozen_of_heap h j
theorem WkAt.stays {b B : Nat} {c : Int} {v : Value} {w w' : World} (h : WkAt b c v w) (hb : Below B w w') (hB : b < B) : WkAt b c v w' := (hb.block b hB).trans h
theorem WkAt.set0 {b : Nat} {c : Int} {v : Value} {w : World} (h : WkAt b c v w) (d : Int) : WkAt b d v (w.setCell ⟨b, 0, none⟩ (.int .i64 d)) := by
  unfold WkAt at *
  simp [World.setCell, Array.getElem?_modify, h]
theorem WkAt.set1 {b : Nat} {c : Int} {v : Value} {w : World} (h : WkAt b c v w) (u : Value) : WkAt b c u (w.setCell ⟨b, 1, none⟩ u) := by
  unfold WkAt at *
  simp [World.setCell, Array.getElem?_modify, h]
theorem row_past' {w : World} {b e sz j : Nat} {v u : Value} {n : Nat} {xs : List Value} (h : w.ownsRow (b + 1) e sz v n xs) : (w.setCell ⟨b, j, none⟩ u).ownsRow (b + 1) e sz v n xs :=
  row_same h (fun k hk _ => Below.heap_setCell _ _ _ _ (by simp; omega))
theorem below_set {b j : Nat} {u : Value} (w : World) : Below b w (w.setCell ⟨b, j, none⟩ u) := by
  have := (Below.refl b w).setCell (show b ≤ (⟨b, j, none⟩ : Addr).block from Nat.le_refl b) u
  exact this
theorem Wk.lt {b : Nat} {c : Int} {ar : List Int} {w : World} (h : Wk b c ar w) : b < w.heap.size := by
  obtain ⟨_, _, _, h, _⟩ := h
  exact h.lt
theorem Wk.stays {b : Nat} {c : Int} {ar : List Int} {w w' : World} (h : Wk b c ar w) (hb : Below w.heap.size w w') : Wk b c ar w' := by
  obtain ⟨a, n, cp, h1, h2⟩ := h
  exact ⟨a, n, cp, h1.stays hb h1.lt, row_stays h2 hb⟩
theorem Wk.set0 {b : Nat} {c : Int} {ar : List Int} {w : World} (h : Wk b c ar w) (d : Int) : Wk b d ar (w.setCell ⟨b, 0, none⟩ (.int .i64 d)) := by
  obtain ⟨a, n, cp, h1, h2⟩ := h
  exact ⟨a, n, cp, h1.set0 d, row_past' h2⟩
set_option maxHeartbeats 2000000 in
theorem turn_yes (b : Nat) (c d : Int) (ar : List Int) (w : World) (hW : Wk b c ar w) :
    Calls Try.prog 61 #[.pointer (some ⟨b, 0, none⟩), .int .i64 c, .int .i64 d] w fun e w' => e = .returned (.bool true) ∧ Wk b d ar w' ∧ Below b w w' := by
  have HW : Hid (Wk b c ar w) := hW
  obtain ⟨a, n, cp, h1, _⟩ := hW
  have c0 := h1.c0
  have f0 := h1.fz 0
  have t0 : (c != c) = false := by simp
  clear h1
  go_enter Try.func61, Try.ntmps61
  go_wp2_with fail
  go_ret
  exact ⟨rfl, HW.out.set0 d, below_set w⟩
set_option maxHeartbeats 2000000 in
theorem turn_no (b : Nat) (c f d : Int) (ar : List Int) (w : World) (hW : Wk b c ar w) (hn : c ≠ f) :
    Calls Try.prog 61 #[.pointer (some ⟨b, 0, none⟩), .int .i64 f, .int .i64 d] w fun e w' => e = .returned (.bool false) ∧ Below b w w' := by
  obtain ⟨a, n, cp, h1, _⟩ := hW
  have c0 := h1.c0
  have t0 : (c != f) = true := by rw [bne_iff_ne]; exact hn
  clear h1 hn
  go_enter Try.func61, Try.ntmps61
  go_wp2_with fail
  go_ret
  exact ⟨rfl, Below.refl _ _⟩
set_option maxHeartbeats 2000000 in
theorem node_yes (b : Nat) (c d : Int) (ar : List Int) (w : World) (hW : Wk b c ar w) (hd : nd c = some d) :
    Calls Try.prog 62 #[.pointer (some ⟨b, 0, none⟩)] w fun e w' => e = .returned (.bool true) ∧ Wk b d ar w' ∧ Below b w w' := by
  have HW : Hid (Wk b c ar w) := hW
  obtain ⟨a, n, cp, h1, _⟩ := hW
  have c0 := h1.c0
  have f0 := h1.fz 0
  clear h1
  have hc : (c = 2 ∧ d = 3) ∨ (c = 5 ∧ d = 6) ∨ (c = 6 ∧ d = 5) ∨ (c = 4 ∧ d = 4) := by
    unfold nd at hd
    split at hd
    · injection hd with hd; omega
    · split at hd
      · injection hd with hd; omega
      · split at hd
        · injection hd with hd; omega
        · split at hd
          · injection hd with hd; omega
          · cases hd
  clear hd
  rcases hc with ⟨rfl, rfl⟩ | ⟨rfl, rfl⟩ | ⟨rfl, rfl⟩ | ⟨rfl, rfl⟩
  · go_enter Try.func62, Try.ntmps62
    go_wp2_with fail
    go_ret
    exact ⟨rfl, HW.out.set0 3, below_set w⟩
  · go_enter Try.func62, Try.ntmps62
    go_wp2_with fail
    go_ret
    exact ⟨rfl, HW.out.set0 6, below_set w⟩
  · go_enter Try.func62, Try.ntmps62
    go_wp2_with fail
    go_ret
    exact ⟨rfl, HW.out.set0 5, below_set w⟩
  · go_enter Try.func62, Try.ntmps62
    go_wp2_with fail
    go_ret
    exact ⟨rfl, HW.out, Below.refl _ _⟩
set_option maxHeartbeats 2000000 in
theorem node_no (b : Nat) (c : Int) (ar : List Int) (w : World) (hW : Wk b c ar w) (hd : nd c = none) :
    Calls Try.prog 62 #[.pointer (some ⟨b, 0, none⟩)] w fun e w' => e = .returned (.bool false) ∧ Below b w w' := by
  obtain ⟨a, n, cp, h1, _⟩ := hW
  have c0 := h1.c0
  clear h1
  have hc : c ≠ 2 ∧ c ≠ 5 ∧ c ≠ 6 ∧ c ≠ 4 := by
    unfold nd at hd
    split at hd
    · cases hd
    · split at hd
      · cases hd
      · split at hd
        · cases hd
        · split at hd
          · cases hd
          · omega
  have t2 : (c == 2) = false := by rw [beq_eq_false_iff_ne]; omega
  have t5 : (c == 5) = false := by rw [beq_eq_false_iff_ne]; omega
  have t6 : (c == 6) = false := by rw [beq_eq_false_iff_ne]; omega
  have t4 : (c == 4) = false := by rw [beq_eq_false_iff_ne]; omega
  clear hd hc
  go_enter Try.func62, Try.ntmps62
  go_wp2_with fail
  go_ret
  exact ⟨rfl, Below.refl _ _⟩
set_option maxHeartbeats 2000000 in
theorem fail_yes (b : Nat) (c : Int) (ar : List Int) (w : World) (hW : Wk b c ar w) (h0 : c ≠ 0) (h7 : c ≠ 7) :
    Calls Try.prog 65 #[.pointer (some ⟨b, 0, none⟩)] w fun e w' => e = .returned (.bool true) ∧ Wk b 7 ar w' ∧ Below b w w' := by
  have HW : Hid (Wk b c ar w) := hW
  obtain ⟨a, n, cp, h1, _⟩ := hW
  have c0 := h1.c0
  have f0 := h1.fz 0
  have t0 : (c == 0) = false := by rw [beq_eq_false_iff_ne]; omega
  have t7 : (c == 7) = false := by rw [beq_eq_false_iff_ne]; omega
  clear h1 h0 h7
  go_enter Try.func65, Try.ntmps65
  go_wp2_with fail
  go_ret
  exact ⟨rfl, HW.out.set0 7, below_set w⟩
set_option maxHeartbeats 2000000 in
theorem fail_no (b : Nat) (c : Int) (ar : List Int) (w : World) (hW : Wk b c ar w) (hc : c = 0 ∨ c = 7) :
    Calls Try.prog 65 #[.pointer (some ⟨b, 0, none⟩)] w fun e w' => e = .returned (.bool false) ∧ Below b w w' := by
  obtain ⟨a, n, cp, h1, _⟩ := hW
  have c0 := h1.c0
  clear h1
  rcases hc with rfl | rfl
  · go_enter Try.func65, Try.ntmps65
    go_wp2_with fail
    go_ret
    exact ⟨rfl, Below.refl _ _⟩
  · go_enter Try.func65, Try.ntmps65
    go_wp2_with fail
    go_ret
    exact ⟨rfl, Below.refl _ _⟩
theorem infoW : (Try.prog.info? 92).map (fun i => (i.zero, i.size, i.bytes)) = some (some (.int .i64 0), 1, 8) := by kernel_rfl
set_option maxHeartbeats 8000000 in
theorem enter_any (b : Nat) (c d : Int) (ar : List Int) (w : World) (hW : Wk b c ar w) (hl : ar.length ≤ 100000000) :
    Calls Try.prog 63 #[.pointer (some ⟨b, 0, none⟩), .int .i64 d] w fun e w' => e = .returned (.bool true) ∧ Wk b d (c :: ar) w' ∧ Below b w w' := by
  obtain ⟨a, n, cp, h1, h2⟩ := hW
  have hlt := h1.lt
  obtain ⟨v5, w5, hrun5, hsl5, hown5, hbel5, hot5⟩ := push_own (P := Try.prog) Try.underlying93 infoW rfl (by decide) w.drew (b + 1) _ _ _ (World.ownsRow.drew h2) #[.int .i64 c] rfl (by intro u hu; simp at hu; subst hu; rfl) hl (by omega) (by show b + 1 ≤ w.heap.size; omega) 93
  obtain ⟨a5, n5, c5, rfl⟩ := hsl5
  have b5 : Below (b + 1) w w5 := ((Below.refl _ w).drew).trans hbel5
  have m1 := h1.stays b5 (Nat.lt_succ_self b)
  have m2 : w5.ownsRow (b + 1) 92 1 (.slice a5 n5 c5) (c :: ar).length (intV (c :: ar).reverse) := by
    rw [List.length_cons, List.reverse_cons, show intV (ar.reverse ++ [c]) = intV ar.reverse ++ [.int .i64 c] from List.map_append]
    exact hown5
  have c0 := h1.c0
  have c1 := h1.c1
  have hA : WkAt b c (.slice a n cp) (w.alloc (.cells #[.int .i64 c] 92)) := h1.stays ((Below.refl w.heap.size w).alloc (Nat.le_refl _) _) hlt
  have a0 := hA.c0
  have a1 := hA.c1
  have d0 := m1.c0
  have d1 := m1.c1
  have f1 := m1.fz 1
  have n1 : w.heap.size ≠ b := by omega
  obtain ⟨w6, hw6⟩ : ∃ w6, w5.setCell ⟨b, 1, none⟩ (.slice a5 n5 c5) = w6 := ⟨_, rfl⟩
  have q1 : WkAt b c (.slice a5 n5 c5) w6 := by rw [← hw6]; exact m1.set1 _
  have q2 : w6.ownsRow (b + 1) 92 1 (.slice a5 n5 c5) (c :: ar).length (intV (c :: ar).reverse) := by rw [← hw6]; exact row_past' m2
  have qB : Below b w w6 := by rw [← hw6]; exact (b5.mono (Nat.le_succ b)).trans (below_set w5)
  have e0 := q1.c0
  have g0 := q1.fz 0
  have HQ : Hid (Wk b d (c :: ar) (w6.setCell ⟨b, 0, none⟩ (.int .i64 d)) ∧ Below b w (w6.setCell ⟨b, 0, none⟩ (.int .i64 d))) := ⟨⟨_, _, _, q1.set0 d, row_past' q2⟩, qB.trans (below_set w6)⟩
  have HW6 : Hid (w5.setCell ⟨b, 1, none⟩ (.slice a5 n5 c5) = w6) := hw6
  clear h1 h2 hown5 hbel5 hot5 b5 m1 m2 hA hw6 q1 q2 qB hl hlt
  go_enter Try.func63, Try.ntmps63
  go_wp2_with fail
  go_region_law (refine step_append_runT (by rfl) _ _ 93 (by rfl) _ _ (by rfl) (by rfl) _ w5 hrun5 ?_)
  all_goals (
    rw [HW6.out]
    clear hrun5 c0 c1 a0 a1 d0 d1 f1 n1 HW6
    go_wp2_with fail
    go_ret
    exact ⟨rfl, HQ.out⟩)
end Go.Proofs.Ytmbbmibkjnlkkaa
