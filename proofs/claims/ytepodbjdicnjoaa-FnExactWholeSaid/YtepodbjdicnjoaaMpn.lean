/- Several texts in one: Pns Pnr Pnf. -/
import Derived.Test.YtepodbjdicnjoaaPne
/- Nodes within events: what is open at a place, where a node ends, and what stands around it. -/
namespace Go.Proofs.Ytepodbjdicnjoaa
open Go.RowKit
/-- The collections that are open ahead of the place k, the innermost first. -/
def stk (l : List Ev) : Nat → List Nat
  | 0 => []
  | k + 1 => match l[k]? with
    | none => stk l k
    | some e => if colE e = true then k :: stk l k else if e.kind = 7 then (stk l k).tail else stk l k
def headI (s : List Nat) : Int := match s with
  | [] => -1
  | a :: _ => (a : Int)
theorem stk_col {l : List Ev} {k : Nat} {e : Ev} (h : l[k]? = some e) (hc : colE e = true) : stk l (k + 1) = k :: stk l k := by
  rw [stk, h]; simp [hc]
theorem col_not7 {e : Ev} (hc : colE e = true) : e.kind ≠ 7 := by
  unfold colE at hc
  simp at hc
  omega
theorem stk_end {l : List Ev} {k : Nat} {e : Ev} (h : l[k]? = some e) (h7 : e.kind = 7) : stk l (k + 1) = (stk l k).tail := by
  have hc : colE e = false := by
    cases h' : colE e
    · rfl
    · exact absurd h7 (col_not7 h')
  rw [stk, h]; simp [hc, h7]
theorem stk_else {l : List Ev} {k : Nat} {e : Ev} (h : l[k]? = some e) (hc : colE e = false) (h7 : e.kind ≠ 7) : stk l (k + 1) = stk l k := by
  rw [stk, h]; simp [hc, h7]
theorem stk_lt (l : List Ev) : ∀ (k : Nat), ∀ j ∈ stk l k, j < k
  | 0 => by intro j hj; simp [stk] at hj
  | k + 1 => by
    intro j hj
    have ih := stk_lt l k
    rw [stk] at hj
    split at hj
    · exact Nat.lt_succ_of_lt (ih j hj)
    · split at hj
      · rcases List.mem_cons.1 hj with rfl | h
        · exact Nat.lt_succ_self _
        · exact Nat.lt_succ_of_lt (ih j h)
      · split at hj
        · exact Nat.lt_succ_of_lt (ih j (List.mem_of_mem_tail hj))
        · exact Nat.lt_succ_of_lt (ih j hj)
theorem stk_down (l : List Ev) : ∀ (k : Nat), (stk l k).Pairwise (fun a b => b < a)
  | 0 => by simp [stk]
  | k + 1 => by
    have ih := stk_down l k
    rw [stk]
    split
    · exact ih
    · split
      · rw [List.pairwise_cons]
        exact ⟨fun a ha => stk_lt l k a ha, ih⟩
      · split
        · exact ih.tail
        · exact ih
theorem stk_is (l : List Ev) : ∀ (k : Nat), ∀ j ∈ stk l k, ∃ e, l[j]? = some e ∧ colE e = true
  | 0 => by intro j hj; simp [stk] at hj
  | k + 1 => by
    intro j hj
    have ih := stk_is l k
    rw [stk] at hj
    split at hj
    · exact ih j hj
    · rename_i e he
      split at hj
      · rename_i hc
        rcases List.mem_cons.1 hj with rfl | h
        · exact ⟨e, he, hc⟩
        · exact ih j h
      · split at hj
        · exact ih j (List.mem_of_mem_tail hj)
        · exact ih j hj
/-- What is around is what is open. -/
theorem upG_stk (l : List Ev) : ∀ (k o : Nat), k ≤ l.length → upG l k (o : Int) = headI ((stk l k).drop o)
  | 0, o, _ => by rw [upG]; simp [stk, headI]
  | k + 1, o, hk => by
    obtain ⟨e, he⟩ : ∃ e, l[k]? = some e := ⟨_, List.getElem?_eq_getElem (by omega)⟩
    have ih := fun o => upG_stk l k o (by omega)
    rw [upG, he]
    by_cases h7 : e.kind = 7
    · have := ih (o + 1)
      simp only [h7, if_true]
      rw [stk_end he h7, List.drop_tail, ← this]
      congr 1
    · simp only [if_neg h7]
      by_cases hc : colE e = true
      · simp only [if_pos hc]
        rw [stk_col he hc]
        cases o with
        | zero => simp [headI]
        | succ o =>
          rw [if_neg (by omega), List.drop_succ_cons, ← ih o]
          congr 1
          omega
      · have hc' : colE e = false := by simpa using hc
        simp only [if_neg hc]
        rw [stk_else he hc' h7, ih o]
theorem up_head (l : List Ev) (k : Nat) (hk : k ≤ l.length) : upG l k 0 = headI (stk l k) := by
  have := upG_stk l k 0 hk
  simpa using this
theorem opn_col {e : Ev} {o : Int} (hc : colE e = true) : opn e o = o + 1 := by unfold opn; rw [if_pos hc]
theorem opn_end {e : Ev} {o : Int} (h7 : e.kind = 7) : opn e o = o - 1 := by
  unfold opn
  rw [if_neg (fun hc => col_not7 hc h7), if_pos h7]
theorem opn_else {e : Ev} {o : Int} (hc : colE e = false) (h7 : e.kind ≠ 7) : opn e o = o := by
  unfold opn
  rw [if_neg (by simp [hc]), if_neg h7]
theorem endG_step {l : List Ev} {k : Nat} {e : Ev} {o : Int} (h : l[k]? = some e) : endG (l.drop k) k o = if opn e o = 0 then (k : Int) else endG (l.drop (k + 1)) (k + 1) (opn e o) := by
  rw [drop_ev h, endG]
theorem col_node {e : Ev} (hc : colE e = true) : nodE e = true := by
  unfold colE at hc
  unfold nodE
  simp at hc ⊢
  omega
theorem endN_node {l : List Ev} {k : Nat} {e : Ev} (h : l[k]? = some e) (hn : nodE e = true) : endN l k = endG (l.drop k) k 0 := by
  unfold endN
  rw [h]
  simp [hn]
theorem endN_leaf {l : List Ev} {k : Nat} {e : Ev} (h : l[k]? = some e) (hn : nodE e = true) (hc : colE e = false) : endN l k = (k : Int) := by
  rw [endN_node h hn, endG_step h, if_pos]
  refine opn_else hc ?_
  unfold nodE at hn
  simp at hn
  omega
theorem endN_col {l : List Ev} {k : Nat} {e : Ev} (h : l[k]? = some e) (hc : colE e = true) : endN l k = endG (l.drop (k + 1)) (k + 1) 1 := by
  rw [endN_node h (col_node hc), endG_step h, opn_col hc, if_neg (by omega)]
  rfl
/-- What is open ends where the count says. -/
theorem end_in (l : List Ev) : ∀ (k p j : Nat), k ≤ l.length → (stk l k)[p]? = some j → endN l j = endG (l.drop k) k ((p : Int) + 1) ∧ (stk l k).drop (p + 1) = stk l j
  | 0, p, j, _, h => by simp [stk] at h
  | k + 1, p, j, hk, h => by
    obtain ⟨e, he⟩ : ∃ e, l[k]? = some e := ⟨_, List.getElem?_eq_getElem (by omega)⟩
    have ih := fun p => end_in l k p j (by omega)
    by_cases hc : colE e = true
    · rw [stk_col he hc] at h ⊢
      cases p with
      | zero =>
        simp at h
        subst h
        exact ⟨by rw [endN_col he hc]; rfl, rfl⟩
      | succ p =>
        simp at h
        obtain ⟨i1, i2⟩ := ih p h
        refine ⟨?_, by rw [List.drop_succ_cons]; exact i2⟩
        rw [i1, endG_step he, opn_col hc, if_neg (by omega)]
        congr 1
    · have hc' : colE e = false := by simpa using hc
      by_cases h7 : e.kind = 7
      · rw [stk_end he h7] at h ⊢
        rw [List.getElem?_tail] at h
        obtain ⟨i1, i2⟩ := ih (p + 1) h
        refine ⟨?_, by rw [List.drop_tail]; exact i2⟩
        rw [i1, endG_step he, opn_end h7, if_neg (by omega)]
        congr 1
        omega
      · rw [stk_else he hc' h7] at h ⊢
        obtain ⟨i1, i2⟩ := ih p h
        refine ⟨?_, i2⟩
        rw [i1, endG_step he, opn_else hc' h7, if_neg (by omega)]
/-- What is open no more has ended. -/
theorem end_out (l : List Ev) (j : Nat) {e0 : Ev} (h0 : l[j]? = some e0) (hc0 : colE e0 = true) : ∀ (k : Nat), j < k → k ≤ l.length → j ∉ stk l k → (j : Int) < endN l j ∧ endN l j < k
  | 0, hj, _, _ => by omega
  | k + 1, hj, hk, hn => by
    obtain ⟨e, he⟩ : ∃ e, l[k]? = some e := ⟨_, List.getElem?_eq_getElem (by omega)⟩
    by_cases hjk : j = k
    · subst hjk
      rw [h0] at he
      injection he with he
      subst he
      rw [stk_col h0 hc0] at hn
      simp at hn
    · have hlt : j < k := by omega
      by_cases hm : j ∈ stk l k
      · obtain ⟨p, hp⟩ := List.getElem?_of_mem hm
        obtain ⟨i1, _⟩ := end_in l k p j (by omega) hp
        by_cases hc : colE e = true
        · rw [stk_col he hc] at hn
          exact absurd (List.mem_cons_of_mem _ hm) hn
        · have hc' : colE e = false := by simpa using hc
          by_cases h7 : e.kind = 7
          · rw [stk_end he h7] at hn
            cases p with
            | zero =>
              rw [endG_step he, opn_end h7, if_pos (by simp)] at i1
              omega
            | succ p =>
              rw [← List.getElem?_tail] at hp
              exact absurd (List.mem_of_getElem? hp) hn
          · rw [stk_else he hc' h7] at hn
            exact absurd hm hn
      · have := end_out l j h0 hc0 k hlt (by omega) hm
        omega
/-- What ends at k is what is innermost there, and an end stands there. -/
theorem endN_hit {l : List Ev} {j k : Nat} {e e0 : Ev} (h0 : l[j]? = some e0) (hn : nodE e0 = true) (hjk : j < k) (he : l[k]? = some e) (h : endN l j = (k : Int)) : e.kind = 7 ∧ (stk l k).head? = some j := by
  have hk : k < l.length := (List.getElem?_eq_some_iff.1 he).1
  by_cases hc0 : colE e0 = true
  · by_cases hm : j ∈ stk l k
    · obtain ⟨p, hp⟩ := List.getElem?_of_mem hm
      obtain ⟨i1, _⟩ := end_in l k p j (by omega) hp
      rw [h, endG_step he] at i1
      by_cases hz : opn e ((p : Int) + 1) = 0
      · unfold opn at hz
        split at hz
        · omega
        · split at hz
          · rename_i h7
            have : p = 0 := by omega
            subst this
            exact ⟨h7, by rw [List.head?_eq_getElem?]; exact hp⟩
          · omega
      · rw [if_neg hz] at i1
        rcases endG_le (l.drop (k + 1)) (k + 1) (opn e ((p : Int) + 1)) with h1 | h1
        · rw [h1] at i1; omega
        · rw [← i1] at h1; omega
    · have := end_out l j h0 hc0 k hjk (by omega) hm
      omega
  · have := endN_leaf h0 hn (by simpa using hc0)
    omega
theorem endN_top {l : List Ev} {k j : Nat} {r : List Nat} {e : Ev} (he : l[k]? = some e) (h7 : e.kind = 7) (hs : stk l k = j :: r) : endN l j = (k : Int) := by
  have hk : k < l.length := (List.getElem?_eq_some_iff.1 he).1
  obtain ⟨i1, _⟩ := end_in l k 0 j (by omega) (by rw [hs]; rfl)
  rw [i1, endG_step he, opn_end h7, if_pos (by simp)]
/-- Whether a node is open at k. -/
theorem open_iff {l : List Ev} {j k : Nat} {e0 : Ev} (h0 : l[j]? = some e0) (hn : nodE e0 = true) (hjk : j < k) (hk : k ≤ l.length) : j ∈ stk l k ↔ (endN l j < 0 ∨ (k : Int) ≤ endN l j) := by
  constructor
  · intro hm
    obtain ⟨p, hp⟩ := List.getElem?_of_mem hm
    obtain ⟨i1, _⟩ := end_in l k p j hk hp
    rcases endG_le (l.drop k) k ((p : Int) + 1) with h | h
    · rw [i1, h]; left; omega
    · rw [i1]; right; omega
  · intro h
    apply Classical.byContradiction
    intro hm
    by_cases hc0 : colE e0 = true
    · have := end_out l j h0 hc0 k hjk hk hm
      omega
    · have := endN_leaf h0 hn (by simpa using hc0)
      omega
end Go.Proofs.Ytepodbjdicnjoaa
/- Nodes within events: the program's spans, step by step, and what a nested list keeps to. -/
namespace Go.Proofs.Ytepodbjdicnjoaa
open Go.RowKit
/-- A node by its places. -/
structure Sp where
  at_ : Nat
  end_ : Int
  up : Int
def nodB (l : List Ev) (j : Nat) : Bool := match l[j]? with
  | none => false
  | some e => nodE e
def nodesTo (l : List Ev) (k : Nat) : List Nat := (List.range k).filter (nodB l)
/-- The end of j, as far as it is known ahead of k. -/
def endTo (l : List Ev) (k j : Nat) : Int := if 0 ≤ endN l j ∧ endN l j < (k : Int) then endN l j else -1
def spAt (l : List Ev) (k j : Nat) : Sp := ⟨j, endTo l k j, upG l j 0⟩
def spansTo (l : List Ev) (k : Nat) : List Sp := (nodesTo l k).map (spAt l k)
def openAt (l : List Ev) (j : Nat) : Nat := (nodesTo l j).length
def opensTo (l : List Ev) (k : Nat) : List Nat := (stk l k).map (openAt l)
theorem nodB_some {l : List Ev} {j : Nat} {e : Ev} (h : l[j]? = some e) : nodB l j = nodE e := by unfold nodB; rw [h]
theorem nodB_lt {l : List Ev} {j : Nat} (h : nodB l j = true) : ∃ e, l[j]? = some e ∧ nodE e = true := by
  unfold nodB at h
  split at h
  · cases h
  · rename_i e he
    exact ⟨e, he, h⟩
theorem nodesTo_yes {l : List Ev} {k : Nat} (h : nodB l k = true) : nodesTo l (k + 1) = nodesTo l k ++ [k] := by
  simp [nodesTo, List.range_succ, List.filter_append, h]
theorem nodesTo_no {l : List Ev} {k : Nat} (h : nodB l k = false) : nodesTo l (k + 1) = nodesTo l k := by
  simp [nodesTo, List.range_succ, List.filter_append, h]
theorem mem_nodes {l : List Ev} {k j : Nat} : j ∈ nodesTo l k ↔ j < k ∧ nodB l j = true := by
  simp [nodesTo, List.mem_filter]
theorem nodesTo_le (l : List Ev) (k : Nat) : (nodesTo l k).length ≤ k := by
  have := List.length_filter_le (nodB l) (List.range k)
  simpa [nodesTo] using this
theorem endTo_same {l : List Ev} {k j : Nat} {e : Ev} (he : l[k]? = some e) (hj : j < k) (hn : nodB l j = true) (hx : ¬ (e.kind = 7 ∧ (stk l k).head? = some j)) : endTo l (k + 1) j = endTo l k j := by
  obtain ⟨e0, h0, hn0⟩ := nodB_lt hn
  have hne : endN l j ≠ (k : Int) := fun h => hx (endN_hit h0 hn0 hj he h)
  unfold endTo
  by_cases h : 0 ≤ endN l j ∧ endN l j < (k : Int)
  · rw [if_pos h, if_pos ⟨h.1, by omega⟩]
  · rw [if_neg h, if_neg (by omega)]
theorem map_same {l : List Ev} {k : Nat} {e : Ev} (he : l[k]? = some e) (h7 : e.kind ≠ 7) : (nodesTo l k).map (spAt l (k + 1)) = spansTo l k := by
  unfold spansTo
  apply List.map_congr_left
  intro j hj
  obtain ⟨hj1, hj2⟩ := mem_nodes.1 hj
  unfold spAt
  rw [endTo_same he hj1 hj2 (fun h => h7 h.1)]
theorem spans_col {l : List Ev} {k : Nat} {e : Ev} (he : l[k]? = some e) (hc : colE e = true) : spansTo l (k + 1) = spansTo l k ++ [⟨k, -1, headI (stk l k)⟩] := by
  have hk : k < l.length := (List.getElem?_eq_some_iff.1 he).1
  have hn : nodB l k = true := by rw [nodB_some he]; exact col_node hc
  have h1 : endTo l (k + 1) k = -1 := by
    unfold endTo
    rw [if_neg]
    rw [endN_col he hc]
    rcases endG_le (l.drop (k + 1)) (k + 1) 1 with h | h
    · rw [h]; omega
    · omega
  have h2 : spAt l (k + 1) k = ⟨k, -1, headI (stk l k)⟩ := by
    unfold spAt
    rw [h1, up_head l k (by omega)]
  have h3 := map_same he (col_not7 hc)
  unfold spansTo at h3 ⊢
  rw [nodesTo_yes hn, List.map_append, h3, List.map_cons, List.map_nil, h2]
theorem spans_leaf {l : List Ev} {k : Nat} {e : Ev} (he : l[k]? = some e) (hc : e.kind = 5 ∨ e.kind = 6) : spansTo l (k + 1) = spansTo l k ++ [⟨k, (k : Int), headI (stk l k)⟩] := by
  have hk : k < l.length := (List.getElem?_eq_some_iff.1 he).1
  have hne : nodE e = true := by unfold nodE; simp; omega
  have hcf : colE e = false := by unfold colE; simp; omega
  have hn : nodB l k = true := by rw [nodB_some he]; exact hne
  have h1 : endTo l (k + 1) k = (k : Int) := by
    unfold endTo
    rw [endN_leaf he hne hcf, if_pos (by omega)]
  have h2 : spAt l (k + 1) k = ⟨k, (k : Int), headI (stk l k)⟩ := by
    unfold spAt
    rw [h1, up_head l k (by omega)]
  have h3 := map_same he (show e.kind ≠ 7 by omega)
  unfold spansTo at h3 ⊢
  rw [nodesTo_yes hn, List.map_append, h3, List.map_cons, List.map_nil, h2]
theorem spans_else {l : List Ev} {k : Nat} {e : Ev} (he : l[k]? = some e) (hn : nodE e = false) (h7 : e.kind ≠ 7) : spansTo l (k + 1) = spansTo l k := by
  have h3 := map_same he h7
  have hb : nodB l k = false := by rw [nodB_some he]; exact hn
  unfold spansTo at h3 ⊢
  rw [nodesTo_no hb, h3]
theorem nodes_split {l : List Ev} {j : Nat} (hn : nodB l j = true) : ∀ (k : Nat), j < k → ∃ B, nodesTo l k = nodesTo l j ++ j :: B ∧ ∀ x ∈ B, j < x
  | 0, h => by omega
  | k + 1, h => by
    by_cases e : j = k
    · subst e
      exact ⟨[], nodesTo_yes hn, by simp⟩
    · obtain ⟨B, h1, h2⟩ := nodes_split hn k (by omega)
      cases hk : nodB l k
      · exact ⟨B, by rw [nodesTo_no hk, h1], h2⟩
      · refine ⟨B ++ [k], by rw [nodesTo_yes hk, h1]; simp, fun x hx => ?_⟩
        rcases List.mem_append.1 hx with h3 | h3
        · exact h2 x h3
        · simp at h3; omega
theorem spans_end {l : List Ev} {k j : Nat} {r : List Nat} {e : Ev} (he : l[k]? = some e) (h7 : e.kind = 7) (hs : stk l k = j :: r) :
    (spansTo l k)[(nodesTo l j).length]? = some ⟨j, -1, upG l j 0⟩ ∧ spansTo l (k + 1) = (spansTo l k).set (nodesTo l j).length ⟨j, (k : Int), upG l j 0⟩ := by
  have hk : k < l.length := (List.getElem?_eq_some_iff.1 he).1
  have hm : j ∈ stk l k := by rw [hs]; exact List.mem_cons_self
  have hjk := stk_lt l k j hm
  obtain ⟨e0, h0, hc0⟩ := stk_is l k j hm
  have hn : nodB l j = true := by rw [nodB_some h0]; exact col_node hc0
  have hb : nodB l k = false := by rw [nodB_some he]; unfold nodE; simp; omega
  have hE := endN_top he h7 hs
  obtain ⟨B, hB, hgt⟩ := nodes_split hn k hjk
  have e1 : endTo l k j = -1 := by unfold endTo; rw [hE, if_neg (by omega)]
  have e2 : endTo l (k + 1) j = (k : Int) := by unfold endTo; rw [hE, if_pos (by omega)]
  have hsame : ∀ x, x ∈ nodesTo l k → x ≠ j → spAt l (k + 1) x = spAt l k x := by
    intro x hx hxj
    obtain ⟨hx1, hx2⟩ := mem_nodes.1 hx
    unfold spAt
    rw [endTo_same he hx1 hx2 (fun h => hxj (by have := h.2; rw [hs] at this; simpa using this.symm))]
  have hA : (nodesTo l j).map (spAt l (k + 1)) = (nodesTo l j).map (spAt l k) := List.map_congr_left fun x hx => hsame x (by rw [hB]; exact List.mem_append_left _ hx) (by have := (mem_nodes.1 hx).1; omega)
  have hBm : B.map (spAt l (k + 1)) = B.map (spAt l k) := List.map_congr_left fun x hx => hsame x (by rw [hB]; exact List.mem_append_right _ (List.mem_cons_of_mem _ hx)) (by have := hgt x hx; omega)
  have s1 : spAt l k j = ⟨j, -1, upG l j 0⟩ := by unfold spAt; rw [e1]
  have s2 : spAt l (k + 1) j = ⟨j, (k : Int), upG l j 0⟩ := by unfold spAt; rw [e2]
  have t1 : spansTo l k = (nodesTo l j).map (spAt l k) ++ ⟨j, -1, upG l j 0⟩ :: B.map (spAt l k) := by
    unfold spansTo
    rw [hB, List.map_append, List.map_cons, s1]
  have t2 : spansTo l (k + 1) = (nodesTo l j).map (spAt l k) ++ ⟨j, (k : Int), upG l j 0⟩ :: B.map (spAt l k) := by
    unfold spansTo
    rw [nodesTo_no hb, hB, List.map_append, List.map_cons, s2, hA, hBm]
  constructor
  · rw [t1, List.getElem?_append_right (by simp)]
    simp
  · rw [t1, t2, List.set_append_right _ _ (by simp)]
    simp
theorem opens_col {l : List Ev} {k : Nat} {e : Ev} (he : l[k]? = some e) (hc : colE e = true) : opensTo l (k + 1) = (spansTo l k).length :: opensTo l k := by
  unfold opensTo
  rw [stk_col he hc, List.map_cons]
  simp [openAt, spansTo]
theorem opens_end {l : List Ev} {k j : Nat} {r : List Nat} {e : Ev} (he : l[k]? = some e) (h7 : e.kind = 7) (hs : stk l k = j :: r) : opensTo l k = (nodesTo l j).length :: opensTo l (k + 1) := by
  unfold opensTo
  rw [stk_end he h7, hs]
  rfl
theorem opens_else {l : List Ev} {k : Nat} {e : Ev} (he : l[k]? = some e) (hc : colE e = false) (h7 : e.kind ≠ 7) : opensTo l (k + 1) = opensTo l k := by
  unfold opensTo
  rw [stk_else he hc h7]
/-- The last one that is open, as the program finds it. -/
theorem opens_top {l : List Ev} {k j : Nat} {r : List Nat} (hs : stk l k = j :: r) : ∃ s, (spansTo l k)[(nodesTo l j).length]? = some s ∧ s.at_ = j := by
  have hm : j ∈ stk l k := by rw [hs]; exact List.mem_cons_self
  have hjk := stk_lt l k j hm
  obtain ⟨e0, h0, hc0⟩ := stk_is l k j hm
  have hn : nodB l j = true := by rw [nodB_some h0]; exact col_node hc0
  obtain ⟨B, hB, _⟩ := nodes_split hn k hjk
  refine ⟨spAt l k j, ?_, rfl⟩
  unfold spansTo
  rw [hB, List.map_append, List.getElem?_append_right (by simp)]
  simp
/-- All of them. -/
def fin (l : List Ev) (j : Nat) : Sp := ⟨j, endN l j, upG l j 0⟩
def spansF (l : List Ev) : List Sp := (nodesTo l l.length).map (fin l)
theorem spans_all (l : List Ev) : spansTo l l.length = spansF l := by
  unfold spansTo spansF
  apply List.map_congr_left
  intro j hj
  obtain ⟨h1, h2⟩ := mem_nodes.1 hj
  unfold spAt fin
  congr 1
  unfold endTo
  rcases endN_le l j (by omega) with h | h
  · rw [h]; simp
  · rw [if_pos (by omega)]
/-- What a nested list keeps to, place by place. -/
theorem nst_at {l : List Ev} (h : nested l = true) : ∀ (k : Nat), k < l.length → ∃ (first : Bool) (doc : Int) (st : List Int), nst first doc st (l.drop k) = true ∧ st.length = (stk l k).length ∧ (doc = 0 ∨ doc = 1 ∨ doc = 2) ∧ (doc ≠ 2 → st = []) ∧ (doc = 1 ↔ (0 < k ∧ kindAt l (k - 1) = 2)) ∧ (first = true ↔ k = 0)
  | 0, _ => ⟨true, 0, [], by simpa [nested] using h, by simp [stk], .inl rfl, fun _ => rfl, by simp, by simp⟩
  | k + 1, hk => by
    obtain ⟨first, doc, st, h1, h2, h3, h4, h5, h6⟩ := nst_at h k (by omega)
    obtain ⟨e, he⟩ : ∃ e, l[k]? = some e := ⟨_, List.getElem?_eq_getElem (by omega)⟩
    have hka : kindAt l (k + 1 - 1) = e.kind := by unfold kindAt; rw [show k + 1 - 1 = k from rfl, he]
    rw [hka]
    rw [drop_ev he] at h1
    have hok : evOk e = true := by
      cases h' : evOk e
      · exact (nst_bad h1 h').symm ▸ rfl
      · rfl
    have hfi : (first != (e.kind == 1)) = false := by
      cases h' : (first != (e.kind == 1))
      · rfl
      · exact absurd (nst_first h1 hok h') (by simp)
    have hi := nst_in h1 hok hfi
    have hkd := evOk_kind hok
    have hne : (l.drop (k + 1)).isEmpty = false := by
      cases hd : l.drop (k + 1) with
      | nil => have := congrArg List.length hd; simp at this; omega
      | cons _ _ => rfl
    have hfF : (false = true ↔ k + 1 = 0) := by simp
    by_cases k10 : e.kind = 10
    · rw [if_pos k10, hne] at hi; cases hi
    rw [if_neg k10] at hi
    by_cases k2 : e.kind = 2
    · rw [if_pos k2] at hi
      split at hi
      · rename_i hd
        exact ⟨false, 1, st, hi, by rw [stk_else he (by unfold colE; simp; omega) (by omega)]; exact h2, by simp, fun _ => h4 (by omega), by simp [k2], hfF⟩
      · cases hi
    rw [if_neg k2] at hi
    by_cases kn : 3 ≤ e.kind ∧ e.kind ≤ 6
    · rw [if_pos kn] at hi
      have hlen : ∀ s : List Int, (pushK e.kind s).length = if colE e = true then s.length + 1 else s.length := by
        intro s
        unfold pushK colE
        by_cases k3 : e.kind = 3
        · simp [k3]
        · by_cases k4 : e.kind = 4
          · simp [k4]
          · simp [k3, k4]
      have hst : (stk l (k + 1)).length = if colE e = true then (stk l k).length + 1 else (stk l k).length := by
        by_cases hc : colE e = true
        · rw [stk_col he hc, if_pos hc]; rfl
        · rw [stk_else he (by simpa using hc) (by omega), if_neg hc]
      split at hi
      · rename_i hs0
        split at hi
        · refine ⟨false, 2, _, hi, ?_, by simp, by simp, by simp [k2], hfF⟩
          rw [hlen, hst, ← h2, hs0]
        · cases hi
      · rename_i hs0
        have hd2 : doc = 2 := by
          apply Classical.byContradiction
          intro hd
          exact hs0 (h4 hd)
        refine ⟨false, doc, _, hi, ?_, h3, by simp [hd2], by simp [hd2, k2], hfF⟩
        rw [hlen, hst, ← h2]
        cases st with
        | nil => exact absurd rfl hs0
        | cons a b => simp
    rw [if_neg kn] at hi
    by_cases k7 : e.kind = 7
    · rw [if_pos k7] at hi
      split at hi
      · cases hi
      · rename_i hs0
        split at hi
        · cases hi
        · have hd2 : doc = 2 := by
            apply Classical.byContradiction
            intro hd
            exact hs0 (h4 hd)
          refine ⟨false, doc, _, hi, ?_, h3, by simp [hd2], by simp [hd2, k2], hfF⟩
          rw [stk_end he k7, List.length_tail, List.length_tail, h2]
    rw [if_neg k7] at hi
    have hsn : stk l (k + 1) = stk l k := stk_else he (by unfold colE; simp; omega) k7
    by_cases k8 : e.kind = 8
    · rw [if_pos k8] at hi
      split at hi
      · rename_i hd
        refine ⟨false, 0, [], hi, ?_, by simp, fun _ => rfl, by simp [k2], hfF⟩
        rw [hsn, ← h2, hd.2]
      · cases hi
    rw [if_neg k8] at hi
    by_cases k9 : e.kind = 9
    · rw [if_pos k9, hne] at hi; cases hi
    rw [if_neg k9] at hi
    have k1 : e.kind = 1 := by omega
    have hft : first = true := by
      rw [k1] at hfi
      cases first
      · simp at hfi
      · rfl
    have hk0 : k = 0 := h6.1 hft
    subst hk0
    have hd1 : doc ≠ 1 := fun hd => by have := (h5.1 hd).1; omega
    exact ⟨false, doc, st, hi, by rw [hsn]; exact h2, h3, h4, by simp [hd1, k2], hfF⟩
structure NsAt (l : List Ev) (k : Nat) (e : Ev) : Prop where
  ok : evOk e = true
  end_ : e.kind = 7 → stk l k ≠ []
  root : nodE e = true → (stk l k = [] ↔ (0 < k ∧ kindAt l (k - 1) = 2))
  last : nodE e = false → e.kind ≠ 7 → stk l k ≠ [] → k + 1 = l.length
  doc : 0 < k → kindAt l (k - 1) = 2 → nodE e = true ∨ k + 1 = l.length
theorem ns_at {l : List Ev} (h : nested l = true) {k : Nat} {e : Ev} (he : l[k]? = some e) : NsAt l k e := by
  have hk : k < l.length := (List.getElem?_eq_some_iff.1 he).1
  obtain ⟨first, doc, st, h1, h2, h3, h4, h5, h6⟩ := nst_at h k hk
  rw [drop_ev he] at h1
  have hok : evOk e = true := by
    cases h' : evOk e
    · exact (nst_bad h1 h').symm ▸ rfl
    · rfl
  have hfi : (first != (e.kind == 1)) = false := by
    cases h' : (first != (e.kind == 1))
    · rfl
    · exact absurd (nst_first h1 hok h') (by simp)
  have hi := nst_in h1 hok hfi
  have hkd := evOk_kind hok
  have hse : st = [] ↔ stk l k = [] := by
    rw [← List.length_eq_zero_iff, ← List.length_eq_zero_iff (l := stk l k), h2]
  have hnode : nodE e = true ↔ (3 ≤ e.kind ∧ e.kind ≤ 6) := by unfold nodE; simp
  have hnodf : nodE e = false ↔ ¬ (3 ≤ e.kind ∧ e.kind ≤ 6) := by
    rw [← hnode]; simp
  have hend : (l.drop (k + 1)).isEmpty = true → k + 1 = l.length := by
    intro hx
    have := congrArg List.length (List.isEmpty_iff.1 hx)
    simp at this
    omega
  have h1k : e.kind = 1 → k = 0 := by
    intro k1
    apply h6.1
    rw [k1] at hfi
    cases first
    · simp at hfi
    · rfl
  refine ⟨hok, ?_, ?_, ?_, ?_⟩
  · intro k7 hs0
    rw [if_neg (by omega), if_neg (by omega), if_neg (by omega), if_pos k7, if_pos (hse.2 hs0)] at hi
    cases hi
  · intro hn
    have kn := hnode.1 hn
    rw [if_neg (by omega), if_neg (by omega), if_pos kn] at hi
    rw [← hse, ← h5]
    constructor
    · intro hs0
      rw [if_pos hs0] at hi
      split at hi
      · assumption
      · cases hi
    · intro hd
      exact h4 (by omega)
  · intro hn k7 hs0
    have kn := hnodf.1 hn
    have hst : st ≠ [] := fun h => hs0 (hse.1 h)
    have hd2 : doc = 2 := by
      apply Classical.byContradiction
      intro hd
      exact hst (h4 hd)
    by_cases k10 : e.kind = 10
    · rw [if_pos k10] at hi; exact hend hi
    rw [if_neg k10] at hi
    by_cases k2 : e.kind = 2
    · rw [if_pos k2, if_neg (by omega)] at hi; cases hi
    rw [if_neg k2, if_neg kn, if_neg k7] at hi
    by_cases k8 : e.kind = 8
    · rw [if_pos k8, if_neg (fun h => hst h.2)] at hi; cases hi
    rw [if_neg k8] at hi
    by_cases k9 : e.kind = 9
    · rw [if_pos k9] at hi
      simp at hi
      omega
    have hk0 := h1k (by omega)
    subst hk0
    exact absurd rfl hs0
  · intro hk0 hkk
    have hd1 : doc = 1 := h5.2 ⟨hk0, hkk⟩
    have hst : st = [] := h4 (by omega)
    by_cases kn : 3 ≤ e.kind ∧ e.kind ≤ 6
    · exact .inl (hnode.2 kn)
    · right
      by_cases k10 : e.kind = 10
      · rw [if_pos k10] at hi; exact hend hi
      rw [if_neg k10] at hi
      by_cases k2 : e.kind = 2
      · rw [if_pos k2, if_neg (by omega)] at hi; cases hi
      rw [if_neg k2, if_neg kn] at hi
      by_cases k7 : e.kind = 7
      · rw [if_pos k7, if_pos hst] at hi; cases hi
      rw [if_neg k7] at hi
      by_cases k8 : e.kind = 8
      · rw [if_pos k8, if_neg (by omega)] at hi; cases hi
      rw [if_neg k8] at hi
      by_cases k9 : e.kind = 9
      · rw [if_pos k9] at hi
        simp at hi
        omega
      have := h1k (by omega)
      omega
end Go.Proofs.Ytepodbjdicnjoaa
/- Nodes within events: what the program gathers of all nodes is what the specification answers. -/
namespace Go.Proofs.Ytepodbjdicnjoaa
open Go.RowKit
def fEnd (i : Int) (f : Int) (n : Sp) : Int := if (n.at_ : Int) = i then n.end_ else f
def ahead (n : Sp) (i : Int) : Bool := decide (n.end_ ≠ -1) && decide (n.end_ < i)
def fUp (i : Int) (f : Int) (n : Sp) : Int := if (n.at_ : Int) < i ∧ ahead n i = false then (n.at_ : Int) else f
def fIn (u : Int) (f : List Nat) (n : Sp) : List Nat := if n.up = u then f ++ [n.at_] else f
/-- What is gathered of the nodes ahead of k. -/
def gat {α : Type} (l : List Ev) (F : α → Sp → α) (a : α) (k : Nat) : α := ((nodesTo l k).map (fin l)).foldl F a
section
variable {α : Type} {l : List Ev} {F : α → Sp → α} {a : α} {k : Nat}
theorem gat_zero : gat l F a 0 = a := rfl
theorem gat_yes (h : nodB l k = true) : gat l F a (k + 1) = F (gat l F a k) (fin l k) := by
  unfold gat
  rw [nodesTo_yes h, List.map_append, List.foldl_append]
  rfl
theorem gat_no (h : nodB l k = false) : gat l F a (k + 1) = gat l F a k := by
  unfold gat
  rw [nodesTo_no h]
theorem gat_all : (spansF l).foldl F a = gat l F a l.length := rfl
end
theorem gat_end (l : List Ev) (i : Int) : ∀ k, gat l (fEnd i) (-1) k = if 0 ≤ i ∧ i < (k : Int) ∧ nodB l i.toNat = true then endN l i.toNat else -1
  | 0 => by rw [gat_zero, if_neg (by omega)]
  | k + 1 => by
    have ih := gat_end l i k
    cases hb : nodB l k
    · rw [gat_no hb, ih]
      by_cases h : 0 ≤ i ∧ i < (k : Int) ∧ nodB l i.toNat = true
      · rw [if_pos h, if_pos ⟨h.1, by omega, h.2.2⟩]
      · rw [if_neg h, if_neg]
        rintro ⟨h1, h2, h3⟩
        by_cases e : i = (k : Int)
        · subst e
          rw [show (k : Int).toNat = k by omega, hb] at h3
          cases h3
        · exact h ⟨h1, by omega, h3⟩
    · rw [gat_yes hb, ih]
      unfold fEnd fin
      by_cases e : (k : Int) = i
      · subst e
        rw [if_pos rfl, if_pos ⟨by omega, by omega, by rw [show (k : Int).toNat = k by omega]; exact hb⟩]
        rw [show (k : Int).toNat = k by omega]
      · rw [if_neg e]
        by_cases h : 0 ≤ i ∧ i < (k : Int) ∧ nodB l i.toNat = true
        · rw [if_pos h, if_pos ⟨h.1, by omega, h.2.2⟩]
        · rw [if_neg h, if_neg (fun h' => h ⟨h'.1, by omega, h'.2.2⟩)]
theorem end_gat {l : List Ev} (h : nested l = true) (i : Int) : gat l (fEnd i) (-1) l.length = endOf l i := by
  rw [gat_end]
  unfold endOf
  by_cases hi : i < 0 ∨ (l.length : Int) ≤ i
  · rw [if_neg (by omega), if_pos (by omega)]
  · have hno : ¬ (nested l = false ∨ i < 0 ∨ (l.length : Int) ≤ i) := by rw [h]; simp; omega
    rw [if_neg (c := nested l = false ∨ i < 0 ∨ (l.length : Int) ≤ i) hno]
    by_cases hb : nodB l i.toNat = true
    · rw [if_pos ⟨by omega, by omega, hb⟩]
    · rw [if_neg (fun h' => hb h'.2.2)]
      unfold endN
      unfold nodB at hb
      split
      · rfl
      · rename_i e he
        rw [he] at hb
        simp at hb
        rw [if_pos hb]
theorem head_max {l : List Ev} {k x : Nat} (h : x ∈ stk l k) : (x : Int) ≤ headI (stk l k) := by
  have hp := stk_down l k
  cases hs : stk l k with
  | nil => rw [hs] at h; simp at h
  | cons a r =>
    rw [hs] at h hp
    rcases List.mem_cons.1 h with rfl | h'
    · exact Int.le_refl _
    · have := (List.pairwise_cons.1 hp).1 x h'
      show (x : Int) ≤ (a : Int)
      omega
theorem ahead_open {l : List Ev} {j i : Nat} {e : Ev} (he : l[j]? = some e) (hn : nodE e = true) (hji : j < i) (hi : i ≤ l.length) : ahead (fin l j) i = false ↔ j ∈ stk l i := by
  rw [open_iff he hn hji hi]
  have hj : j < l.length := (List.getElem?_eq_some_iff.1 he).1
  have := endN_le l j (by omega)
  unfold ahead fin
  simp
  omega
/-- The greatest one that is open at i, of those ahead of k. -/
theorem gat_up (l : List Ev) (i : Nat) (hi : i < l.length) : ∀ k, k ≤ i → ((gat l (fUp i) (-1) k = -1 ∧ ∀ x ∈ stk l i, ¬ x < k) ∨ ∃ m : Nat, gat l (fUp i) (-1) k = (m : Int) ∧ m ∈ stk l i ∧ m < k ∧ ∀ x ∈ stk l i, x < k → x ≤ m)
  | 0, _ => .inl ⟨rfl, fun x _ => by omega⟩
  | k + 1, hk => by
    have ih := gat_up l i hi k (by omega)
    obtain ⟨e, he⟩ : ∃ e, l[k]? = some e := ⟨_, List.getElem?_eq_getElem (by omega)⟩
    have hnb := nodB_some he
    by_cases hm : k ∈ stk l i
    · obtain ⟨e', he', hc'⟩ := stk_is l i k hm
      rw [he] at he'
      injection he' with he'
      subst he'
      have hn := col_node hc'
      right
      refine ⟨k, ?_, hm, by omega, fun x _ hx => by omega⟩
      rw [gat_yes (by rw [hnb]; exact hn)]
      unfold fUp
      rw [if_pos ⟨by show (k : Int) < i; omega, (ahead_open he hn (by omega) (by omega)).2 hm⟩]
      rfl
    · have hsame : gat l (fUp i) (-1) (k + 1) = gat l (fUp i) (-1) k := by
        cases hn : nodE e
        · exact gat_no (by rw [hnb]; exact hn)
        · rw [gat_yes (by rw [hnb]; exact hn)]
          unfold fUp
          rw [if_neg]
          rintro ⟨_, h⟩
          exact hm ((ahead_open he hn (by omega) (by omega)).1 h)
      rw [hsame]
      have hx : ∀ x ∈ stk l i, x < k + 1 → x < k := by
        intro x hx1 hx2
        have : x ≠ k := fun e => hm (e ▸ hx1)
        omega
      rcases ih with ⟨h1, h2⟩ | ⟨m, h1, h2, h3, h4⟩
      · exact .inl ⟨h1, fun x h h' => h2 x h (hx x h h')⟩
      · exact .inr ⟨m, h1, h2, by omega, fun x h h' => h4 x h (hx x h h')⟩
theorem gat_up_on (l : List Ev) (i : Int) : ∀ (d k : Nat), (k : Int) ≥ i → gat l (fUp i) (-1) (k + d) = gat l (fUp i) (-1) k
  | 0, k, _ => rfl
  | d + 1, k, hk => by
    rw [show k + (d + 1) = (k + d) + 1 by omega, ← gat_up_on l i d k hk]
    cases hb : nodB l (k + d)
    · exact gat_no hb
    · rw [gat_yes hb]
      unfold fUp
      rw [if_neg]
      rintro ⟨h, _⟩
      have : ((fin l (k + d)).at_ : Int) = ((k + d : Nat) : Int) := rfl
      omega
theorem up_gat {l : List Ev} (h : nested l = true) (i : Int) (hi : i < (l.length : Int)) : gat l (fUp i) (-1) l.length = upOf l i := by
  unfold upOf
  by_cases h0 : i < 0
  · rw [if_pos (by omega)]
    have := gat_up_on l i l.length 0 (by omega)
    rw [Nat.zero_add] at this
    rw [this]
    rfl
  · rw [if_neg (by rw [h]; simp; omega)]
    obtain ⟨n, rfl⟩ : ∃ n : Nat, i = (n : Int) := ⟨i.toNat, by omega⟩
    have h1 := gat_up_on l n (l.length - n) n (by omega)
    rw [show n + (l.length - n) = l.length by omega] at h1
    rw [h1, show (n : Int).toNat = n by omega, up_head l n (by omega)]
    rcases gat_up l n (by omega) n (Nat.le_refl _) with ⟨h2, h3⟩ | ⟨m, h2, h3, h4, h5⟩
    · rw [h2]
      cases hs : stk l n with
      | nil => rfl
      | cons a r => exact absurd (stk_lt l n a (by rw [hs]; exact List.mem_cons_self)) (h3 a (by rw [hs]; exact List.mem_cons_self))
    · rw [h2]
      have hmx := head_max h3
      cases hs : stk l n with
      | nil => rw [hs] at h3; simp at h3
      | cons a r =>
        have ha : a ∈ stk l n := by rw [hs]; exact List.mem_cons_self
        have := h5 a ha (stk_lt l n a ha)
        rw [hs] at hmx
        have hh : headI (a :: r) = (a : Int) := rfl
        rw [hh] at hmx ⊢
        omega
/-- The members are those that have it around them. -/
def inAt (l : List Ev) (u : Int) (j : Nat) : Bool := nodB l j && decide (upG l j 0 = u)
theorem gat_in (l : List Ev) (u : Int) : ∀ k, gat l (fIn u) [] k = (List.range k).filter (inAt l u)
  | 0 => rfl
  | k + 1 => by
    have ih := gat_in l u k
    rw [List.range_succ, List.filter_append, ← ih]
    cases hb : nodB l k
    · rw [gat_no hb]
      simp [inAt, hb]
    · rw [gat_yes hb]
      unfold fIn
      show (if upG l k 0 = u then gat l _ [] k ++ [k] else gat l _ [] k) = _
      by_cases e : upG l k 0 = u
      · simp [inAt, hb, e]
      · simp [inAt, hb, e]
theorem roots_gat {l : List Ev} (h : nested l = true) : gat l (fIn (-1)) [] l.length = rootsOf l := by
  rw [gat_in]
  unfold rootsOf rootsTo
  apply List.filter_congr
  intro j hj
  have hjl : j < l.length := by simpa using hj
  obtain ⟨e, he⟩ : ∃ e, l[j]? = some e := ⟨_, List.getElem?_eq_getElem hjl⟩
  have hN := ns_at h he
  unfold inAt rootAt
  rw [nodB_some he, he, h]
  cases hn : nodE e
  · simp [hn]
  · have hr := hN.root hn
    rw [up_head l j (by omega)]
    have hh : headI (stk l j) = -1 ↔ stk l j = [] := by
      cases stk l j with
      | nil => simp [headI]
      | cons a r => simp [headI]
    rw [← hh] at hr
    by_cases h1 : headI (stk l j) = -1
    · have := hr.1 h1
      simp [h1, this, hn]
    · have : ¬ (0 < j ∧ kindAt l (j - 1) = 2) := fun h' => h1 (hr.2 h')
      simp [h1, hn]
      intro h3 h4
      exact this ⟨h3, h4⟩
/-- .. from k on. -/
def seg (l : List Ev) (u : Int) (k : Nat) : List Nat := (List.range' k (l.length - k)).filter (inAt l u)
theorem seg_end (l : List Ev) (u : Int) (k : Nat) (h : l.length ≤ k) : seg l u k = [] := by
  unfold seg
  rw [show l.length - k = 0 by omega]
  rfl
theorem seg_yes {l : List Ev} {u : Int} {k : Nat} (hk : k < l.length) (h : inAt l u k = true) : seg l u k = k :: seg l u (k + 1) := by
  unfold seg
  rw [show l.length - k = (l.length - (k + 1)) + 1 by omega, List.range'_succ, List.filter_cons, if_pos h]
theorem seg_no {l : List Ev} {u : Int} {k : Nat} (h : inAt l u k = false) : seg l u k = seg l u (k + 1) := by
  by_cases hk : k < l.length
  · unfold seg
    rw [show l.length - k = (l.length - (k + 1)) + 1 by omega, List.range'_succ, List.filter_cons, if_neg (by simp [h])]
  · rw [seg_end l u k (by omega), seg_end l u (k + 1) (by omega)]
theorem seg_skip {l : List Ev} {u : Int} : ∀ (d k : Nat), (∀ j, k ≤ j → j < k + d → inAt l u j = false) → seg l u k = seg l u (k + d)
  | 0, k, _ => rfl
  | d + 1, k, h => by
    rw [seg_no (h k (Nat.le_refl _) (by omega)), seg_skip d (k + 1) (fun j h1 h2 => h j (by omega) (by omega))]
    congr 1
    omega
theorem stk_gone {l : List Ev} {i k : Nat} (hik : i < k) (h : i ∉ stk l k) : ∀ d, i ∉ stk l (k + d)
  | 0 => h
  | d + 1 => by
    have ih := stk_gone hik h d
    rw [show k + (d + 1) = (k + d) + 1 by omega, stk]
    split
    · exact ih
    · split
      · intro hm
        rcases List.mem_cons.1 hm with e | e
        · omega
        · exact ih e
      · split
        · exact fun hm => ih (List.mem_of_mem_tail hm)
        · exact ih
theorem not_in {l : List Ev} {i j : Nat} (hj : j ≤ l.length) (h : headI (stk l j) ≠ (i : Int)) : inAt l i j = false := by
  unfold inAt
  rw [up_head l j hj]
  simp [h]
/-- Behind the node k the stack is what it was ahead of it. -/
theorem stk_behind {l : List Ev} {k e : Nat} {ev : Ev} (he : l[k]? = some ev) (hn : nodE ev = true) (hE : endN l k = (e : Int)) : stk l (e + 1) = stk l k ∧ k ≤ e ∧ e < l.length := by
  have hk : k < l.length := (List.getElem?_eq_some_iff.1 he).1
  have hle := endN_le l k (by omega)
  have hek : k ≤ e ∧ e < l.length := by omega
  refine ⟨?_, hek⟩
  by_cases hc : colE ev = true
  · obtain ⟨e1, he1⟩ : ∃ e1, l[e]? = some e1 := ⟨_, List.getElem?_eq_getElem hek.2⟩
    have hne : k ≠ e := by
      intro h'
      subst h'
      rw [endN_col he hc] at hE
      rcases endG_le (l.drop (k + 1)) (k + 1) 1 with h | h
      · omega
      · omega
    obtain ⟨h7, hh⟩ := endN_hit he hn (by omega) he1 hE
    obtain ⟨_, hd⟩ := end_in l e 0 k (by omega) (by rw [← List.head?_eq_getElem?]; exact hh)
    rw [stk_end he1 h7, ← hd]
    simp
  · have hcf : colE ev = false := by simpa using hc
    have := endN_leaf he hn hcf
    have hke : e = k := by omega
    subst hke
    refine stk_else he hcf ?_
    unfold nodE at hn
    simp at hn
    omega
theorem kid_seg {l : List Ev} (h : nested l = true) (i : Nat) (r : List Nat) : ∀ (f k : Nat) (acc : List Nat), l.length < f + k → k ≤ l.length → stk l k = i :: r → kidG l f k acc = acc ++ seg l i k
  | 0, k, acc, hf, hk, _ => by omega
  | f + 1, k, acc, hf, hk, hs => by
    have hik : i < k := stk_lt l k i (by rw [hs]; exact List.mem_cons_self)
    rw [kidG]
    cases he : l[k]? with
    | none =>
      have : l.length ≤ k := List.getElem?_eq_none_iff.1 he
      simp [seg_end l i k this]
    | some e =>
      have hkl : k < l.length := (List.getElem?_eq_some_iff.1 he).1
      have hN := ns_at h he
      simp only []
      cases hn : nodE e
      · simp only [if_true]
        have hk0 : inAt l i k = false := by unfold inAt; rw [nodB_some he, hn]; rfl
        by_cases h7 : e.kind = 7
        · have hg : i ∉ stk l (k + 1) := by
            rw [stk_end he h7, hs]
            have hp := stk_down l k
            rw [hs] at hp
            intro hm
            have := (List.pairwise_cons.1 hp).1 i hm
            omega
          rw [seg_skip (l.length - k) k, seg_end _ _ _ (by omega), List.append_nil]
          intro j h1 h2
          by_cases e1 : j = k
          · rw [e1]; exact hk0
          · have hgj := stk_gone (by omega) hg (j - (k + 1))
            rw [show k + 1 + (j - (k + 1)) = j by omega] at hgj
            refine not_in (by omega) (fun hh => hgj ?_)
            cases hsj : stk l j with
            | nil => rw [hsj] at hh; simp [headI] at hh
            | cons a q =>
              rw [hsj] at hh
              have : (a : Int) = (i : Int) := hh
              rw [show i = a by omega]
              exact List.mem_cons_self
        · have hlast := hN.last hn h7 (by rw [hs]; simp)
          rw [seg_no hk0, seg_end _ _ _ (by omega), List.append_nil]
      · have hin : inAt l i k = true := by
          unfold inAt
          rw [nodB_some he, hn, up_head l k (by omega), hs]
          simp [headI]
        have hbusy : ∀ j, k < j → j ≤ l.length → (endN l k < 0 ∨ (j : Int) ≤ endN l k) → inAt l i j = false := by
          intro j h1 h2 h3
          have hm := (open_iff he hn h1 h2).2 h3
          have := head_max hm
          exact not_in h2 (by omega)
        rw [seg_yes hkl hin]
        simp only [Bool.true_eq_false, if_false]
        by_cases hneg : endN l k < 0
        · rw [if_pos hneg, seg_skip (l.length - (k + 1)) (k + 1), seg_end _ _ _ (by omega)]
          intro j h1 h2
          exact hbusy j (by omega) (by omega) (.inl hneg)
        · rw [if_neg hneg]
          obtain ⟨m, hm⟩ : ∃ m : Nat, endN l k = (m : Int) := ⟨(endN l k).toNat, by omega⟩
          obtain ⟨hst, hkm, hml⟩ := stk_behind he hn hm
          rw [hm, show (m : Int).toNat = m by omega]
          rw [kid_seg h i r f (m + 1) (acc ++ [k]) (by omega) (by omega) (by rw [hst]; exact hs)]
          rw [seg_skip (m - k) (k + 1), show k + 1 + (m - k) = m + 1 by omega]
          · simp
          · intro j h1 h2
            exact hbusy j (by omega) (by omega) (.inr (by omega))
theorem range_seg (l : List Ev) (u : Int) : (List.range l.length).filter (inAt l u) = seg l u 0 := by
  unfold seg
  rw [List.range_eq_range', Nat.sub_zero]
theorem kids_gat {l : List Ev} (h : nested l = true) (i : Int) (h0 : 0 ≤ i) : gat l (fIn i) [] l.length = kidsOf l i := by
  rw [gat_in]
  have hup : ∀ j, j < l.length → inAt l i j = true → ∃ n : Nat, i = (n : Int) ∧ n ∈ stk l j := by
    intro j hj hin
    unfold inAt at hin
    rw [up_head l j (by omega)] at hin
    simp at hin
    cases hs : stk l j with
    | nil => rw [hs] at hin; have := hin.2; simp [headI] at this; omega
    | cons a q =>
      rw [hs] at hin
      exact ⟨a, hin.2.symm, List.mem_cons_self⟩
  unfold kidsOf
  by_cases hi : (l.length : Int) ≤ i
  · rw [if_pos (by omega), List.filter_eq_nil_iff]
    intro j hj hin
    have hjl : j < l.length := by simpa using hj
    obtain ⟨n, rfl, hm⟩ := hup j hjl hin
    have := stk_lt l j n hm
    omega
  · rw [if_neg (by rw [h]; simp; omega)]
    obtain ⟨n, rfl⟩ : ∃ n : Nat, i = (n : Int) := ⟨i.toNat, by omega⟩
    rw [show (n : Int).toNat = n by omega]
    obtain ⟨e, he⟩ : ∃ e, l[n]? = some e := ⟨_, List.getElem?_eq_getElem (by omega)⟩
    unfold kidN
    rw [he]
    simp only []
    cases hc : colE e
    · simp only [if_true]
      rw [List.filter_eq_nil_iff]
      intro j hj hin
      have hjl : j < l.length := by simpa using hj
      obtain ⟨m, hm1, hm⟩ := hup j hjl hin
      obtain ⟨e', he', hc'⟩ := stk_is l j m hm
      rw [show m = n by omega, he] at he'
      injection he' with he'
      subst he'
      rw [hc] at hc'
      cases hc'
    · simp only [Bool.true_eq_false, if_false]
      rw [kid_seg h n (stk l n) (l.length + 1) (n + 1) [] (by omega) (by omega) (stk_col he hc), List.nil_append, range_seg]
      have := seg_skip (l := l) (u := (n : Int)) (n + 1) 0
      rw [Nat.zero_add] at this
      refine this ?_
      intro j _ hj
      cases hin : inAt l n j
      · rfl
      · obtain ⟨m, hm1, hm⟩ := hup j (by omega) hin
        have := stk_lt l j m hm
        omega
end Go.Proofs.Ytepodbjdicnjoaa
