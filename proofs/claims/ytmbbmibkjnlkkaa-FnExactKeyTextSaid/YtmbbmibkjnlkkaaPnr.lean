/- Nodes within events: the program's spans, step by step, and what a nested list keeps to. -/
import Derived.Test.YtmbbmibkjnlkkaaPns
namespace Go.Proofs.Ytmbbmibkjnlkkaa
open Go.RowKit
/-- A node by its places. -/
structure Sp where
  at_ : Nat
  end_ : Int
  up : Int
def nodB (l : List Ev) (j : Nat) : Bool := match l[j]? with
  | none => false
  | some e => nodE e
def nodesTo (l : List Ev) (k : Nat) : List Nat := (List.range k).filter (nodB l)
/-- The end of j, as far as it is known ahead of k. -/
def endTo (l : List Ev) (k j : Nat) : Int := if 0 ≤ endN l j ∧ endN l j < (k : Int) then endN l j else -1
def spAt (l : List Ev) (k j : Nat) : Sp := ⟨j, endTo l k j, upG l j 0⟩
def spansTo (l : List Ev) (k : Nat) : List Sp := (nodesTo l k).map (spAt l k)
def openAt (l : List Ev) (j : Nat) : Nat := (nodesTo l j).length
def opensTo (l : List Ev) (k : Nat) : List Nat := (stk l k).map (openAt l)
theorem nodB_some {l : List Ev} {j : Nat} {e : Ev} (h : l[j]? = some e) : nodB l j = nodE e := by unfold nodB; rw [h]
theorem nodB_lt {l : List Ev} {j : Nat} (h : nodB l j = true) : ∃ e, l[j]? = some e ∧ nodE e = true := by
  unfold nodB at h
  split at h
  · cases h
  · rename_i e he
    exact ⟨e, he, h⟩
theorem nodesTo_yes {l : List Ev} {k : Nat} (h : nodB l k = true) : nodesTo l (k + 1) = nodesTo l k ++ [k] := by
  simp [nodesTo, List.range_succ, List.filter_append, h]
theorem nodesTo_no {l : List Ev} {k : Nat} (h : nodB l k = false) : nodesTo l (k + 1) = nodesTo l k := by
  simp [nodesTo, List.range_succ, List.filter_append, h]
theorem mem_nodes {l : List Ev} {k j : Nat} : j ∈ nodesTo l k ↔ j < k ∧ nodB l j = true := by
  simp [nodesTo, List.mem_filter]
theorem nodesTo_le (l : List Ev) (k : Nat) : (nodesTo l k).length ≤ k := by
  have := List.length_filter_le (nodB l) (List.range k)
  simpa [nodesTo] using this
theorem endTo_same {l : List Ev} {k j : Nat} {e : Ev} (he : l[k]? = some e) (hj : j < k) (hn : nodB l j = true) (hx : ¬ (e.kind = 7 ∧ (stk l k).head? = some j)) : endTo l (k + 1) j = endTo l k j := by
  obtain ⟨e0, h0, hn0⟩ := nodB_lt hn
  have hne : endN l j ≠ (k : Int) := fun h => hx (endN_hit h0 hn0 hj he h)
  unfold endTo
  by_cases h : 0 ≤ endN l j ∧ endN l j < (k : Int)
  · rw [if_pos h, if_pos ⟨h.1, by omega⟩]
  · rw [if_neg h, if_neg (by omega)]
theorem map_same {l : List Ev} {k : Nat} {e : Ev} (he : l[k]? = some e) (h7 : e.kind ≠ 7) : (nodesTo l k).map (spAt l (k + 1)) = spansTo l k := by
  unfold spansTo
  apply List.map_congr_left
  intro j hj
  obtain ⟨hj1, hj2⟩ := mem_nodes.1 hj
  unfold spAt
  rw [endTo_same he hj1 hj2 (fun h => h7 h.1)]
theorem spans_col {l : List Ev} {k : Nat} {e : Ev} (he : l[k]? = some e) (hc : colE e = true) : spansTo l (k + 1) = spansTo l k ++ [⟨k, -1, headI (stk l k)⟩] := by
  have hk : k < l.length := (List.getElem?_eq_some_iff.1 he).1
  have hn : nodB l k = true := by rw [nodB_some he]; exact col_node hc
  have h1 : endTo l (k + 1) k = -1 := by
    unfold endTo
    rw [if_neg]
    rw [endN_col he hc]
    rcases endG_le (l.drop (k + 1)) (k + 1) 1 with h | h
    · rw [h]; omega
    · omega
  have h2 : spAt l (k + 1) k = ⟨k, -1, headI (stk l k)⟩ := by
    unfold spAt
    rw [h1, up_head l k (by omega)]
  have h3 := map_same he (col_not7 hc)
  unfold spansTo at h3 ⊢
  rw [nodesTo_yes hn, List.map_append, h3, List.map_cons, List.map_nil, h2]
theorem spans_leaf {l : List Ev} {k : Nat} {e : Ev} (he : l[k]? = some e) (hc : e.kind = 5 ∨ e.kind = 6) : spansTo l (k + 1) = spansTo l k ++ [⟨k, (k : Int), headI (stk l k)⟩] := by
  have hk : k < l.length := (List.getElem?_eq_some_iff.1 he).1
  have hne : nodE e = true := by unfold nodE; simp; omega
  have hcf : colE e = false := by unfold colE; simp; omega
  have hn : nodB l k = true := by rw [nodB_some he]; exact hne
  have h1 : endTo l (k + 1) k = (k : Int) := by
    unfold endTo
    rw [endN_leaf he hne hcf, if_pos (by omega)]
  have h2 : spAt l (k + 1) k = ⟨k, (k : Int), headI (stk l k)⟩ := by
    unfold spAt
    rw [h1, up_head l k (by omega)]
  have h3 := map_same he (show e.kind ≠ 7 by omega)
  unfold spansTo at h3 ⊢
  rw [nodesTo_yes hn, List.map_append, h3, List.map_cons, List.map_nil, h2]
theorem spans_else {l : List Ev} {k : Nat} {e : Ev} (he : l[k]? = some e) (hn : nodE e = false) (h7 : e.kind ≠ 7) : spansTo l (k + 1) = spansTo l k := by
  have h3 := map_same he h7
  have hb : nodB l k = false := by rw [nodB_some he]; exact hn
  unfold spansTo at h3 ⊢
  rw [nodesTo_no hb, h3]
theorem nodes_split {l : List Ev} {j : Nat} (hn : nodB l j = true) : ∀ (k : Nat), j < k → ∃ B, nodesTo l k = nodesTo l j ++ j :: B ∧ ∀ x ∈ B, j < x
  | 0, h => by omega
  | k + 1, h => by
    by_cases e : j = k
    · subst e
      exact ⟨[], nodesTo_yes hn, by simp⟩
    · obtain ⟨B, h1, h2⟩ := nodes_split hn k (by omega)
      cases hk : nodB l k
      · exact ⟨B, by rw [nodesTo_no hk, h1], h2⟩
      · refine ⟨B ++ [k], by rw [nodesTo_yes hk, h1]; simp, fun x hx => ?_⟩
        rcases List.mem_append.1 hx with h3 | h3
        · exact h2 x h3
        · simp at h3; omega
theorem spans_end {l : List Ev} {k j : Nat} {r : List Nat} {e : Ev} (he : l[k]? = some e) (h7 : e.kind = 7) (hs : stk l k = j :: r) :
    (spansTo l k)[(nodesTo l j).length]? = some ⟨j, -1, upG l j 0⟩ ∧ spansTo l (k + 1) = (spansTo l k).set (nodesTo l j).length ⟨j, (k : Int), upG l j 0⟩ := by
  have hk : k < l.length := (List.getElem?_eq_some_iff.1 he).1
  have hm : j ∈ stk l k := by rw [hs]; exact List.mem_cons_self
  have hjk := stk_lt l k j hm
  obtain ⟨e0, h0, hc0⟩ := stk_is l k j hm
  have hn : nodB l j = true := by rw [nodB_some h0]; exact col_node hc0
  have hb : nodB l k = false := by rw [nodB_some he]; unfold nodE; simp; omega
  have hE := endN_top he h7 hs
  obtain ⟨B, hB, hgt⟩ := nodes_split hn k hjk
  have e1 : endTo l k j = -1 := by unfold endTo; rw [hE, if_neg (by omega)]
  have e2 : endTo l (k + 1) j = (k : Int) := by unfold endTo; rw [hE, if_pos (by omega)]
  have hsame : ∀ x, x ∈ nodesTo l k → x ≠ j → spAt l (k + 1) x = spAt l k x := by
    intro x hx hxj
    obtain ⟨hx1, hx2⟩ := mem_nodes.1 hx
    unfold spAt
    rw [endTo_same he hx1 hx2 (fun h => hxj (by have := h.2; rw [hs] at this; simpa using this.symm))]
  have hA : (nodesTo l j).map (spAt l (k + 1)) = (nodesTo l j).map (spAt l k) := List.map_congr_left fun x hx => hsame x (by rw [hB]; exact List.mem_append_left _ hx) (by have := (mem_nodes.1 hx).1; omega)
  have hBm : B.map (spAt l (k + 1)) = B.map (spAt l k) := List.map_congr_left fun x hx => hsame x (by rw [hB]; exact List.mem_append_right _ (List.mem_cons_of_mem _ hx)) (by have := hgt x hx; omega)
  have s1 : spAt l k j = ⟨j, -1, upG l j 0⟩ := by unfold spAt; rw [e1]
  have s2 : spAt l (k + 1) j = ⟨j, (k : Int), upG l j 0⟩ := by unfold spAt; rw [e2]
  have t1 : spansTo l k = (nodesTo l j).map (spAt l k) ++ ⟨j, -1, upG l j 0⟩ :: B.map (spAt l k) := by
    unfold spansTo
    rw [hB, List.map_append, List.map_cons, s1]
  have t2 : spansTo l (k + 1) = (nodesTo l j).map (spAt l k) ++ ⟨j, (k : Int), upG l j 0⟩ :: B.map (spAt l k) := by
    unfold spansTo
    rw [nodesTo_no hb, hB, List.map_append, List.map_cons, s2, hA, hBm]
  constructor
  · rw [t1, List.getElem?_append_right (by simp)]
    simp
  · rw [t1, t2, List.set_append_right _ _ (by simp)]
    simp
theorem opens_col {l : List Ev} {k : Nat} {e : Ev} (he : l[k]? = some e) (hc : colE e = true) : opensTo l (k + 1) = (spansTo l k).length :: opensTo l k := by
  unfold opensTo
  rw [stk_col he hc, List.map_cons]
  simp [openAt, spansTo]
theorem opens_end {l : List Ev} {k j : Nat} {r : List Nat} {e : Ev} (he : l[k]? = some e) (h7 : e.kind = 7) (hs : stk l k = j :: r) : opensTo l k = (nodesTo l j).length :: opensTo l (k + 1) := by
  unfold opensTo
  rw [stk_end he h7, hs]
  rfl
theorem opens_else {l : List Ev} {k : Nat} {e : Ev} (he : l[k]? = some e) (hc : colE e = false) (h7 : e.kind ≠ 7) : opensTo l (k + 1) = opensTo l k := by
  unfold opensTo
  rw [stk_else he hc h7]
/-- The last one that is open, as the program finds it. -/
theorem opens_top {l : List Ev} {k j : Nat} {r : List Nat} (hs : stk l k = j :: r) : ∃ s, (spansTo l k)[(nodesTo l j).length]? = some s ∧ s.at_ = j := by
  have hm : j ∈ stk l k := by rw [hs]; exact List.mem_cons_self
  have hjk := stk_lt l k j hm
  obtain ⟨e0, h0, hc0⟩ := stk_is l k j hm
  have hn : nodB l j = true := by rw [nodB_some h0]; exact col_node hc0
  obtain ⟨B, hB, _⟩ := nodes_split hn k hjk
  refine ⟨spAt l k j, ?_, rfl⟩
  unfold spansTo
  rw [hB, List.map_append, List.getElem?_append_right (by simp)]
  simp
/-- All of them. -/
def fin (l : List Ev) (j : Nat) : Sp := ⟨j, endN l j, upG l j 0⟩
def spansF (l : List Ev) : List Sp := (nodesTo l l.length).map (fin l)
theorem spans_all (l : List Ev) : spansTo l l.length = spansF l := by
  unfold spansTo spansF
  apply List.map_congr_left
  intro j hj
  obtain ⟨h1, h2⟩ := mem_nodes.1 hj
  unfold spAt fin
  congr 1
  unfold endTo
  rcases endN_le l j (by omega) with h | h
  · rw [h]; simp
  · rw [if_pos (by omega)]
/-- What a nested list keeps to, place by place. -/
theorem nst_at {l : List Ev} (h : nested l = true) : ∀ (k : Nat), k < l.length → ∃ (first : Bool) (doc : Int) (st : List Int), nst first doc st (l.drop k) = true ∧ st.length = (stk l k).length ∧ (doc = 0 ∨ doc = 1 ∨ doc = 2) ∧ (doc ≠ 2 → st = []) ∧ (doc = 1 ↔ (0 < k ∧ kindAt l (k - 1) = 2)) ∧ (first = true ↔ k = 0)
  | 0, _ => ⟨true, 0, [], by simpa [nested] using h, by simp [stk], .inl rfl, fun _ => rfl, by simp, by simp⟩
  | k + 1, hk => by
    obtain ⟨first, doc, st, h1, h2, h3, h4, h5, h6⟩ := nst_at h k (by omega)
    obtain ⟨e, he⟩ : ∃ e, l[k]? = some e := ⟨_, List.getElem?_eq_getElem (by omega)⟩
    have hka : kindAt l (k + 1 - 1) = e.kind := by unfold kindAt; rw [show k + 1 - 1 = k from rfl, he]
    rw [hka]
    rw [drop_ev he] at h1
    have hok : evOk e = true := by
      cases h' : evOk e
      · exact (nst_bad h1 h').symm ▸ rfl
      · rfl
    have hfi : (first != (e.kind == 1)) = false := by
      cases h' : (first != (e.kind == 1))
      · rfl
      · exact absurd (nst_first h1 hok h') (by simp)
    have hi := nst_in h1 hok hfi
    have hkd := evOk_kind hok
    have hne : (l.drop (k + 1)).isEmpty = false := by
      cases hd : l.drop (k + 1) with
      | nil => have := congrArg List.length hd; simp at this; omega
      | cons _ _ => rfl
    have hfF : (false = true ↔ k + 1 = 0) := by simp
    by_cases k10 : e.kind = 10
    · rw [if_pos k10, hne] at hi; cases hi
    rw [if_neg k10] at hi
    by_cases k2 : e.kind = 2
    · rw [if_pos k2] at hi
      split at hi
      · rename_i hd
        exact ⟨false, 1, st, hi, by rw [stk_else he (by unfold colE; simp; omega) (by omega)]; exact h2, by simp, fun _ => h4 (by omega), by simp [k2], hfF⟩
      · cases hi
    rw [if_neg k2] at hi
    by_cases kn : 3 ≤ e.kind ∧ e.kind ≤ 6
    · rw [if_pos kn] at hi
      have hlen : ∀ s : List Int, (pushK e.kind s).length = if colE e = true then s.length + 1 else s.length := by
        intro s
        unfold pushK colE
        by_cases k3 : e.kind = 3
        · simp [k3]
        · by_cases k4 : e.kind = 4
          · simp [k4]
          · simp [k3, k4]
      have hst : (stk l (k + 1)).length = if colE e = true then (stk l k).length + 1 else (stk l k).length := by
        by_cases hc : colE e = true
        · rw [stk_col he hc, if_pos hc]; rfl
        · rw [stk_else he (by simpa using hc) (by omega), if_neg hc]
      split at hi
      · rename_i hs0
        split at hi
        · refine ⟨false, 2, _, hi, ?_, by simp, by simp, by simp [k2], hfF⟩
          rw [hlen, hst, ← h2, hs0]
        · cases hi
      · rename_i hs0
        have hd2 : doc = 2 := by
          apply Classical.byContradiction
          intro hd
          exact hs0 (h4 hd)
        refine ⟨false, doc, _, hi, ?_, h3, by simp [hd2], by simp [hd2, k2], hfF⟩
        rw [hlen, hst, ← h2]
        cases st with
        | nil => exact absurd rfl hs0
        | cons a b => simp
    rw [if_neg kn] at hi
    by_cases k7 : e.kind = 7
    · rw [if_pos k7] at hi
      split at hi
      · cases hi
      · rename_i hs0
        split at hi
        · cases hi
        · have hd2 : doc = 2 := by
            apply Classical.byContradiction
            intro hd
            exact hs0 (h4 hd)
          refine ⟨false, doc, _, hi, ?_, h3, by simp [hd2], by simp [hd2, k2], hfF⟩
          rw [stk_end he k7, List.length_tail, List.length_tail, h2]
    rw [if_neg k7] at hi
    have hsn : stk l (k + 1) = stk l k := stk_else he (by unfold colE; simp; omega) k7
    by_cases k8 : e.kind = 8
    · rw [if_pos k8] at hi
      split at hi
      · rename_i hd
        refine ⟨false, 0, [], hi, ?_, by simp, fun _ => rfl, by simp [k2], hfF⟩
        rw [hsn, ← h2, hd.2]
      · cases hi
    rw [if_neg k8] at hi
    by_cases k9 : e.kind = 9
    · rw [if_pos k9, hne] at hi; cases hi
    rw [if_neg k9] at hi
    have k1 : e.kind = 1 := by omega
    have hft : first = true := by
      rw [k1] at hfi
      cases first
      · simp at hfi
      · rfl
    have hk0 : k = 0 := h6.1 hft
    subst hk0
    have hd1 : doc ≠ 1 := fun hd => by have := (h5.1 hd).1; omega
    exact ⟨false, doc, st, hi, by rw [hsn]; exact h2, h3, h4, by simp [hd1, k2], hfF⟩
structure NsAt (l : List Ev) (k : Nat) (e : Ev) : Prop where
  ok : evOk e = true
  end_ : e.kind = 7 → stk l k ≠ []
  root : nodE e = true → (stk l k = [] ↔ (0 < k ∧ kindAt l (k - 1) = 2))
  last : nodE e = false → e.kind ≠ 7 → stk l k ≠ [] → k + 1 = l.length
  doc : 0 < k → kindAt l (k - 1) = 2 → nodE e = true ∨ k + 1 = l.length
theorem ns_at {l : List Ev} (h : nested l = true) {k : Nat} {e : Ev} (he : l[k]? = some e) : NsAt l k e := by
  have hk : k < l.length := (List.getElem?_eq_some_iff.1 he).1
  obtain ⟨first, doc, st, h1, h2, h3, h4, h5, h6⟩ := nst_at h k hk
  rw [drop_ev he] at h1
  have hok : evOk e = true := by
    cases h' : evOk e
    · exact (nst_bad h1 h').symm ▸ rfl
    · rfl
  have hfi : (first != (e.kind == 1)) = false := by
    cases h' : (first != (e.kind == 1))
    · rfl
    · exact absurd (nst_first h1 hok h') (by simp)
  have hi := nst_in h1 hok hfi
  have hkd := evOk_kind hok
  have hse : st = [] ↔ stk l k = [] := by
    rw [← List.length_eq_zero_iff, ← List.length_eq_zero_iff (l := stk l k), h2]
  have hnode : nodE e = true ↔ (3 ≤ e.kind ∧ e.kind ≤ 6) := by unfold nodE; simp
  have hnodf : nodE e = false ↔ ¬ (3 ≤ e.kind ∧ e.kind ≤ 6) := by
    rw [← hnode]; simp
  have hend : (l.drop (k + 1)).isEmpty = true → k + 1 = l.length := by
    intro hx
    have := congrArg List.length (List.isEmpty_iff.1 hx)
    simp at this
    omega
  have h1k : e.kind = 1 → k = 0 := by
    intro k1
    apply h6.1
    rw [k1] at hfi
    cases first
    · simp at hfi
    · rfl
  refine ⟨hok, ?_, ?_, ?_, ?_⟩
  · intro k7 hs0
    rw [if_neg (by omega), if_neg (by omega), if_neg (by omega), if_pos k7, if_pos (hse.2 hs0)] at hi
    cases hi
  · intro hn
    have kn := hnode.1 hn
    rw [if_neg (by omega), if_neg (by omega), if_pos kn] at hi
    rw [← hse, ← h5]
    constructor
    · intro hs0
      rw [if_pos hs0] at hi
      split at hi
      · assumption
      · cases hi
    · intro hd
      exact h4 (by omega)
  · intro hn k7 hs0
    have kn := hnodf.1 hn
    have hst : st ≠ [] := fun h => hs0 (hse.1 h)
    have hd2 : doc = 2 := by
      apply Classical.byContradiction
      intro hd
      exact hst (h4 hd)
    by_cases k10 : e.kind = 10
    · rw [if_pos k10] at hi; exact hend hi
    rw [if_neg k10] at hi
    by_cases k2 : e.kind = 2
    · rw [if_pos k2, if_neg (by omega)] at hi; cases hi
    rw [if_neg k2, if_neg kn, if_neg k7] at hi
    by_cases k8 : e.kind = 8
    · rw [if_pos k8, if_neg (fun h => hst h.2)] at hi; cases hi
    rw [if_neg k8] at hi
    by_cases k9 : e.kind = 9
    · rw [if_pos k9] at hi
      simp at hi
      omega
    have hk0 := h1k (by omega)
    subst hk0
    exact absurd rfl hs0
  · intro hk0 hkk
    have hd1 : doc = 1 := h5.2 ⟨hk0, hkk⟩
    have hst : st = [] := h4 (by omega)
    by_cases kn : 3 ≤ e.kind ∧ e.kind ≤ 6
    · exact .inl (hnode.2 kn)
    · right
      by_cases k10 : e.kind = 10
      · rw [if_pos k10] at hi; exact hend hi
      rw [if_neg k10] at hi
      by_cases k2 : e.kind = 2
      · rw [if_pos k2, if_neg (by omega)] at hi; cases hi
      rw [if_neg k2, if_neg kn] at hi
      by_cases k7 : e.kind = 7
      · rw [if_pos k7, if_pos hst] at hi; cases hi
      rw [if_neg k7] at hi
      by_cases k8 : e.kind = 8
      · rw [if_pos k8, if_neg (by omega)] at hi; cases hi
      rw [if_neg k8] at hi
      by_cases k9 : e.kind = 9
      · rw [if_pos k9] at hi
        simp at hi
        omega
      have := h1k (by omega)
      omega
end Go.Proofs.Ytmbbmibkjnlkkaa
