/- Nodes within events: what is open at a place, where a node ends, and what stands around it. -/
import Derived.Test.YtmbbmibkjnlkkaaPne
namespace Go.Proofs.Ytmbbmibkjnlkkaa
open Go.RowKit
/-- The collections that are open ahead of the place k, the innermost first. -/
def stk (l : List Ev) : Nat → List Nat
  | 0 => []
  | k + 1 => match l[k]? with
    | none => stk l k
    | some e => if colE e = true then k :: stk l k else if e.kind = 7 then (stk l k).tail else stk l k
def headI (s : List Nat) : Int := match s with
  | [] => -1
  | a :: _ => (a : Int)
theorem stk_col {l : List Ev} {k : Nat} {e : Ev} (h : l[k]? = some e) (hc : colE e = true) : stk l (k + 1) = k :: stk l k := by
  rw [stk, h]; simp [hc]
theorem col_not7 {e : Ev} (hc : colE e = true) : e.kind ≠ 7 := by
  unfold colE at hc
  simp at hc
  omega
theorem stk_end {l : List Ev} {k : Nat} {e : Ev} (h : l[k]? = some e) (h7 : e.kind = 7) : stk l (k + 1) = (stk l k).tail := by
  have hc : colE e = false := by
    cases h' : colE e
    · rfl
    · exact absurd h7 (col_not7 h')
  rw [stk, h]; simp [hc, h7]
theorem stk_else {l : List Ev} {k : Nat} {e : Ev} (h : l[k]? = some e) (hc : colE e = false) (h7 : e.kind ≠ 7) : stk l (k + 1) = stk l k := by
  rw [stk, h]; simp [hc, h7]
theorem stk_lt (l : List Ev) : ∀ (k : Nat), ∀ j ∈ stk l k, j < k
  | 0 => by intro j hj; simp [stk] at hj
  | k + 1 => by
    intro j hj
    have ih := stk_lt l k
    rw [stk] at hj
    split at hj
    · exact Nat.lt_succ_of_lt (ih j hj)
    · split at hj
      · rcases List.mem_cons.1 hj with rfl | h
        · exact Nat.lt_succ_self _
        · exact Nat.lt_succ_of_lt (ih j h)
      · split at hj
        · exact Nat.lt_succ_of_lt (ih j (List.mem_of_mem_tail hj))
        · exact Nat.lt_succ_of_lt (ih j hj)
theorem stk_down (l : List Ev) : ∀ (k : Nat), (stk l k).Pairwise (fun a b => b < a)
  | 0 => by simp [stk]
  | k + 1 => by
    have ih := stk_down l k
    rw [stk]
    split
    · exact ih
    · split
      · rw [List.pairwise_cons]
        exact ⟨fun a ha => stk_lt l k a ha, ih⟩
      · split
        · exact ih.tail
        · exact ih
theorem stk_is (l : List Ev) : ∀ (k : Nat), ∀ j ∈ stk l k, ∃ e, l[j]? = some e ∧ colE e = true
  | 0 => by intro j hj; simp [stk] at hj
  | k + 1 => by
    intro j hj
    have ih := stk_is l k
    rw [stk] at hj
    split at hj
    · exact ih j hj
    · rename_i e he
      split at hj
      · rename_i hc
        rcases List.mem_cons.1 hj with rfl | h
        · exact ⟨e, he, hc⟩
        · exact ih j h
      · split at hj
        · exact ih j (List.mem_of_mem_tail hj)
        · exact ih j hj
/-- What is around is what is open. -/
theorem upG_stk (l : List Ev) : ∀ (k o : Nat), k ≤ l.length → upG l k (o : Int) = headI ((stk l k).drop o)
  | 0, o, _ => by rw [upG]; simp [stk, headI]
  | k + 1, o, hk => by
    obtain ⟨e, he⟩ : ∃ e, l[k]? = some e := ⟨_, List.getElem?_eq_getElem (by omega)⟩
    have ih := fun o => upG_stk l k o (by omega)
    rw [upG, he]
    by_cases h7 : e.kind = 7
    · have := ih (o + 1)
      simp only [h7, if_true]
      rw [stk_end he h7, List.drop_tail, ← this]
      congr 1
    · simp only [if_neg h7]
      by_cases hc : colE e = true
      · simp only [if_pos hc]
        rw [stk_col he hc]
        cases o with
        | zero => simp [headI]
        | succ o =>
          rw [if_neg (by omega), List.drop_succ_cons, ← ih o]
          congr 1
          omega
      · have hc' : colE e = false := by simpa using hc
        simp only [if_neg hc]
        rw [stk_else he hc' h7, ih o]
theorem up_head (l : List Ev) (k : Nat) (hk : k ≤ l.length) : upG l k 0 = headI (stk l k) := by
  have := upG_stk l k 0 hk
  simpa using this
theorem opn_col {e : Ev} {o : Int} (hc : colE e = true) : opn e o = o + 1 := by unfold opn; rw [if_pos hc]
theorem opn_end {e : Ev} {o : Int} (h7 : e.kind = 7) : opn e o = o - 1 := by
  unfold opn
  rw [if_neg (fun hc => col_not7 hc h7), if_pos h7]
theorem opn_else {e : Ev} {o : Int} (hc : colE e = false) (h7 : e.kind ≠ 7) : opn e o = o := by
  unfold opn
  rw [if_neg (by simp [hc]), if_neg h7]
theorem endG_step {l : List Ev} {k : Nat} {e : Ev} {o : Int} (h : l[k]? = some e) : endG (l.drop k) k o = if opn e o = 0 then (k : Int) else endG (l.drop (k + 1)) (k + 1) (opn e o) := by
  rw [drop_ev h, endG]
theorem col_node {e : Ev} (hc : colE e = true) : nodE e = true := by
  unfold colE at hc
  unfold nodE
  simp at hc ⊢
  omega
theorem endN_node {l : List Ev} {k : Nat} {e : Ev} (h : l[k]? = some e) (hn : nodE e = true) : endN l k = endG (l.drop k) k 0 := by
  unfold endN
  rw [h]
  simp [hn]
theorem endN_leaf {l : List Ev} {k : Nat} {e : Ev} (h : l[k]? = some e) (hn : nodE e = true) (hc : colE e = false) : endN l k = (k : Int) := by
  rw [endN_node h hn, endG_step h, if_pos]
  refine opn_else hc ?_
  unfold nodE at hn
  simp at hn
  omega
theorem endN_col {l : List Ev} {k : Nat} {e : Ev} (h : l[k]? = some e) (hc : colE e = true) : endN l k = endG (l.drop (k + 1)) (k + 1) 1 := by
  rw [endN_node h (col_node hc), endG_step h, opn_col hc, if_neg (by omega)]
  rfl
/-- What is open ends where the count says. -/
theorem end_in (l : List Ev) : ∀ (k p j : Nat), k ≤ l.length → (stk l k)[p]? = some j → endN l j = endG (l.drop k) k ((p : Int) + 1) ∧ (stk l k).drop (p + 1) = stk l j
  | 0, p, j, _, h => by simp [stk] at h
  | k + 1, p, j, hk, h => by
    obtain ⟨e, he⟩ : ∃ e, l[k]? = some e := ⟨_, List.getElem?_eq_getElem (by omega)⟩
    have ih := fun p => end_in l k p j (by omega)
    by_cases hc : colE e = true
    · rw [stk_col he hc] at h ⊢
      cases p with
      | zero =>
        simp at h
        subst h
        exact ⟨by rw [endN_col he hc]; rfl, rfl⟩
      | succ p =>
        simp at h
        obtain ⟨i1, i2⟩ := ih p h
        refine ⟨?_, by rw [List.drop_succ_cons]; exact i2⟩
        rw [i1, endG_step he, opn_col hc, if_neg (by omega)]
        congr 1
    · have hc' : colE e = false := by simpa using hc
      by_cases h7 : e.kind = 7
      · rw [stk_end he h7] at h ⊢
        rw [List.getElem?_tail] at h
        obtain ⟨i1, i2⟩ := ih (p + 1) h
        refine ⟨?_, by rw [List.drop_tail]; exact i2⟩
        rw [i1, endG_step he, opn_end h7, if_neg (by omega)]
        congr 1
        omega
      · rw [stk_else he hc' h7] at h ⊢
        obtain ⟨i1, i2⟩ := ih p h
        refine ⟨?_, i2⟩
        rw [i1, endG_step he, opn_else hc' h7, if_neg (by omega)]
/-- What is open no more has ended. -/
theorem end_out (l : List Ev) (j : Nat) {e0 : Ev} (h0 : l[j]? = some e0) (hc0 : colE e0 = true) : ∀ (k : Nat), j < k → k ≤ l.length → j ∉ stk l k → (j : Int) < endN l j ∧ endN l j < k
  | 0, hj, _, _ => by omega
  | k + 1, hj, hk, hn => by
    obtain ⟨e, he⟩ : ∃ e, l[k]? = some e := ⟨_, List.getElem?_eq_getElem (by omega)⟩
    by_cases hjk : j = k
    · subst hjk
      rw [h0] at he
      injection he with he
      subst he
      rw [stk_col h0 hc0] at hn
      simp at hn
    · have hlt : j < k := by omega
      by_cases hm : j ∈ stk l k
      · obtain ⟨p, hp⟩ := List.getElem?_of_mem hm
        obtain ⟨i1, _⟩ := end_in l k p j (by omega) hp
        by_cases hc : colE e = true
        · rw [stk_col he hc] at hn
          exact absurd (List.mem_cons_of_mem _ hm) hn
        · have hc' : colE e = false := by simpa using hc
          by_cases h7 : e.kind = 7
          · rw [stk_end he h7] at hn
            cases p with
            | zero =>
              rw [endG_step he, opn_end h7, if_pos (by simp)] at i1
              omega
            | succ p =>
              rw [← List.getElem?_tail] at hp
              exact absurd (List.mem_of_getElem? hp) hn
          · rw [stk_else he hc' h7] at hn
            exact absurd hm hn
      · have := end_out l j h0 hc0 k hlt (by omega) hm
        omega
/-- What ends at k is what is innermost there, and an end stands there. -/
theorem endN_hit {l : List Ev} {j k : Nat} {e e0 : Ev} (h0 : l[j]? = some e0) (hn : nodE e0 = true) (hjk : j < k) (he : l[k]? = some e) (h : endN l j = (k : Int)) : e.kind = 7 ∧ (stk l k).head? = some j := by
  have hk : k < l.length := (List.getElem?_eq_some_iff.1 he).1
  by_cases hc0 : colE e0 = true
  · by_cases hm : j ∈ stk l k
    · obtain ⟨p, hp⟩ := List.getElem?_of_mem hm
      obtain ⟨i1, _⟩ := end_in l k p j (by omega) hp
      rw [h, endG_step he] at i1
      by_cases hz : opn e ((p : Int) + 1) = 0
      · unfold opn at hz
        split at hz
        · omega
        · split at hz
          · rename_i h7
            have : p = 0 := by omega
            subst this
            exact ⟨h7, by rw [List.head?_eq_getElem?]; exact hp⟩
          · omega
      · rw [if_neg hz] at i1
        rcases endG_le (l.drop (k + 1)) (k + 1) (opn e ((p : Int) + 1)) with h1 | h1
        · rw [h1] at i1; omega
        · rw [← i1] at h1; omega
    · have := end_out l j h0 hc0 k hjk (by omega) hm
      omega
  · have := endN_leaf h0 hn (by simpa using hc0)
    omega
theorem endN_top {l : List Ev} {k j : Nat} {r : List Nat} {e : Ev} (he : l[k]? = some e) (h7 : e.kind = 7) (hs : stk l k = j :: r) : endN l j = (k : Int) := by
  have hk : k < l.length := (List.getElem?_eq_some_iff.1 he).1
  obtain ⟨i1, _⟩ := end_in l k 0 j (by omega) (by rw [hs]; rfl)
  rw [i1, endG_step he, opn_end h7, if_pos (by simp)]
/-- Whether a node is open at k. -/
theorem open_iff {l : List Ev} {j k : Nat} {e0 : Ev} (h0 : l[j]? = some e0) (hn : nodE e0 = true) (hjk : j < k) (hk : k ≤ l.length) : j ∈ stk l k ↔ (endN l j < 0 ∨ (k : Int) ≤ endN l j) := by
  constructor
  · intro hm
    obtain ⟨p, hp⟩ := List.getElem?_of_mem hm
    obtain ⟨i1, _⟩ := end_in l k p j hk hp
    rcases endG_le (l.drop k) k ((p : Int) + 1) with h | h
    · rw [i1, h]; left; omega
    · rw [i1]; right; omega
  · intro h
    apply Classical.byContradiction
    intro hm
    by_cases hc0 : colE e0 = true
    · have := end_out l j h0 hc0 k hjk hk hm
      omega
    · have := endN_leaf h0 hn (by simpa using hc0)
      omega
end Go.Proofs.Ytmbbmibkjnlkkaa
