/- What PlainAt answers, as plain functions. -/
import Derived.Test.YtjpcmmfmdoglkalGreatDoorSpe
import Derived.Test.YtjpcmmfmdoglkalGreatDoorMil
import Derived.Test.YtjpcmmfmdoglkalGreatDoorSls
namespace Go.Proofs.YtjpcmmfmdoglkalGreatDoor
open Go.RowKit
theorem pe1_ge (s : ByteArray) (p : Nat) (fl : Bool) : ∀ (f q : Nat), q ≤ pe1 s p fl f q
  | 0, q => Nat.le_refl _
  | f + 1, q => by
    rw [pe1]
    split
    · exact Nat.le_refl _
    · split
      · exact Nat.le_refl _
      · exact Nat.le_trans (by omega) (pe1_ge s p fl f (q + 1))
theorem pe1_le (s : ByteArray) (p : Nat) (fl : Bool) : ∀ (f q : Nat), q ≤ s.size → pe1 s p fl f q ≤ s.size
  | 0, q, h => h
  | f + 1, q, h => by
    rw [pe1]
    split
    · exact h
    · rename_i hb
      split
      · exact h
      · exact pe1_le s p fl f (q + 1) (by have := brk_lt (s := s) (q := q) (by simpa using hb); omega)
theorem pe2_le (s : ByteArray) (p : Nat) : ∀ q, pe2 s p q ≤ q
  | 0 => Nat.le_refl _
  | q + 1 => by
    rw [pe2]
    split
    · exact Nat.le_trans (pe2_le s p q) (by omega)
    · exact Nat.le_refl _
theorem pe2_ge (s : ByteArray) (p : Nat) : ∀ q, p ≤ q → p ≤ pe2 s p q
  | 0, h => h
  | q + 1, h => by
    rw [pe2]
    split
    · rename_i hh
      exact pe2_ge s p q (by omega)
    · exact h
theorem plE_ge (s : ByteArray) (p : Nat) (fl : Bool) : p ≤ plE s p fl := pe2_ge s p _ (pe1_ge s p fl _ p)
theorem plE_le (s : ByteArray) (p : Nat) (fl : Bool) (h : p ≤ s.size) : plE s p fl ≤ s.size := Nat.le_trans (pe2_le s p _) (pe1_le s p fl _ p h)
/-- Over lines that are white alone: the place behind them, and how many. -/
def skl (s : ByteArray) : Nat → Nat → Nat → Nat × Nat
  | 0, q, m => (q, m)
  | f + 1, q, m => if q < s.size ∧ lone s q = true ∧ endL s q < s.size then skl s f (endL s q + 1) (m + 1) else (q, m)
def e0 : Pc := (ByteArray.empty, false)
/-- How the scalar goes on behind e, with the pieces l. -/
def paGo (s : ByteArray) (n : Int) (fl : Bool) : Nat → Nat → List Pc → Nat × List Pc
  | 0, e, l => (e, l)
  | f + 1, e, l =>
    if s.size ≤ wh s e ∨ bt s (wh s e) ≠ 10 then (e, l)
    else if 0 < markN s (skl s s.size (wh s e + 1) 0).1 ∨ (fl = false ∧ (ind s (skl s s.size (wh s e + 1) 0).1 : Int) ≤ n) then (e, l)
    else if s.size ≤ wh s (skl s s.size (wh s e + 1) 0).1 ∨ bt s (wh s (skl s s.size (wh s e + 1) 0).1) = 10 ∨ bt s (wh s (skl s s.size (wh s e + 1) 0).1) = 35 ∨ plE s (wh s (skl s s.size (wh s e + 1) 0).1) fl = wh s (skl s s.size (wh s e + 1) 0).1 then (e, l)
    else paGo s n fl f (plE s (wh s (skl s s.size (wh s e + 1) 0).1) fl) (l ++ List.replicate (skl s s.size (wh s e + 1) 0).2 e0 ++ [(s.extract (wh s (skl s s.size (wh s e + 1) 0).1) (plE s (wh s (skl s s.size (wh s e + 1) 0).1) fl), false)])
def paR (s : ByteArray) (k : Nat) (n : Int) (fl : Bool) : Nat × List Pc := paGo s n fl (s.size + 1 - plE s k fl) (plE s k fl) [(s.extract k (plE s k fl), false)]
/-- The text, the place behind it, and whether there is one. -/
def plAt (s : ByteArray) (k : Nat) (n : Int) (fl : Bool) : ByteArray × Nat × Bool :=
  if plF s k fl = true then (foldFlow (paR s k n fl).2, (paR s k n fl).1, true) else (ByteArray.empty, 0, false)
theorem endL_ge (s : ByteArray) (k : Nat) : k ≤ endL s k := fwd_ge _ _ _
theorem wh_ge (s : ByteArray) (k : Nat) : k ≤ wh s k := fwd_ge _ _ _
theorem wh_le (s : ByteArray) (k : Nat) (h : k ≤ s.size) : wh s k ≤ s.size := fwd_le _ _ _ h
theorem skl_more {s : ByteArray} : ∀ (f g q m : Nat), s.size < q + f → f ≤ g → skl s g q m = skl s f q m
  | 0, g, q, m, h, _ => by
    cases g with
    | zero => rfl
    | succ g =>
      show skl s (g + 1) q m = (q, m)
      rw [skl, if_neg (by omega)]
  | f + 1, g, q, m, h, hg => by
    obtain ⟨g, rfl⟩ : ∃ g', g = g' + 1 := ⟨g - 1, by omega⟩
    rw [skl, skl]
    split
    · have := endL_ge s q
      exact skl_more f g _ _ (by omega) (by omega)
    · rfl
theorem skl_step {s : ByteArray} {q m : Nat} (hq : 0 < q) (h : q < s.size ∧ lone s q = true ∧ endL s q < s.size) : skl s s.size q m = skl s s.size (endL s q + 1) (m + 1) := by
  have h1 := endL_ge s q
  obtain ⟨f, hf⟩ : ∃ f, s.size = f + 1 := ⟨s.size - 1, by omega⟩
  have e1 : skl s s.size q m = skl s f (endL s q + 1) (m + 1) := by
    rw [show skl s s.size q m = skl s (f + 1) q m from by rw [← hf], skl, if_pos h]
  rw [e1]
  exact (skl_more f s.size _ _ (by omega) (by omega)).symm
theorem skl_stop {s : ByteArray} {f q m : Nat} (h : ¬ (q < s.size ∧ lone s q = true ∧ endL s q < s.size)) : skl s f q m = (q, m) := by
  cases f with
  | zero => rfl
  | succ f => rw [skl, if_neg h]
theorem skl_ge {s : ByteArray} : ∀ (f q m : Nat), q ≤ s.size → q + m ≤ (skl s f q m).1 + m ∧ (skl s f q m).1 ≤ s.size ∧ (skl s f q m).2 + q ≤ (skl s f q m).1 + m
  | 0, q, m, h => ⟨Nat.le_refl _, h, by show m + q ≤ q + m; omega⟩
  | f + 1, q, m, h => by
    rw [skl]
    split
    · rename_i hh
      have h1 := endL_ge s q
      obtain ⟨a, b, c⟩ := skl_ge (s := s) f (endL s q + 1) (m + 1) (by have := hh.2.2; omega)
      exact ⟨by omega, b, by omega⟩
    · exact ⟨Nat.le_refl _, h, by show m + q ≤ q + m; omega⟩
/-- Where it stops, whatever is left to go. -/
theorem pa_stop1 {s : ByteArray} {n : Int} {fl : Bool} {f e : Nat} {l : List Pc} (h : s.size ≤ wh s e ∨ bt s (wh s e) ≠ 10) : paGo s n fl f e l = (e, l) := by
  cases f with
  | zero => rfl
  | succ f => rw [paGo, if_pos h]
theorem pa_stop2 {s : ByteArray} {n : Int} {fl : Bool} {f e q m : Nat} {l : List Pc} (hS : skl s s.size (wh s e + 1) 0 = (q, m)) (h : 0 < markN s q ∨ (fl = false ∧ (ind s q : Int) ≤ n)) : paGo s n fl f e l = (e, l) := by
  cases f with
  | zero => rfl
  | succ f =>
    rw [paGo, hS]
    split
    · rfl
    · first | rfl | rw [if_pos h]
theorem pa_stop3 {s : ByteArray} {n : Int} {fl : Bool} {f e q m : Nat} {l : List Pc} (hS : skl s s.size (wh s e + 1) 0 = (q, m)) (h : s.size ≤ wh s q ∨ bt s (wh s q) = 10 ∨ bt s (wh s q) = 35 ∨ plE s (wh s q) fl = wh s q) : paGo s n fl f e l = (e, l) := by
  cases f with
  | zero => rfl
  | succ f =>
    rw [paGo, hS]
    split
    · rfl
    · split
      · rfl
      · first | rfl | rw [if_pos h]
theorem pa_go {s : ByteArray} {n : Int} {fl : Bool} {f e q m : Nat} {l : List Pc} (hS : skl s s.size (wh s e + 1) 0 = (q, m)) (h1 : ¬ (s.size ≤ wh s e ∨ bt s (wh s e) ≠ 10)) (h2 : ¬ (0 < markN s q ∨ (fl = false ∧ (ind s q : Int) ≤ n)))
    (h3 : ¬ (s.size ≤ wh s q ∨ bt s (wh s q) = 10 ∨ bt s (wh s q) = 35 ∨ plE s (wh s q) fl = wh s q)) :
    paGo s n fl (f + 1) e l = paGo s n fl f (plE s (wh s q) fl) (l ++ List.replicate m e0 ++ [(s.extract (wh s q) (plE s (wh s q) fl), false)]) := by
  rw [paGo, hS, if_neg h1, if_neg h2, if_neg h3]
theorem pa_more {s : ByteArray} {n : Int} {fl : Bool} : ∀ (f g e : Nat) (l : List Pc), s.size < e + f → f ≤ g → paGo s n fl g e l = paGo s n fl f e l
  | 0, g, e, l, h, _ => by
    have : s.size ≤ wh s e := Nat.le_trans (by omega) (wh_ge s e)
    rw [pa_stop1 (.inl this)]; rfl
  | f + 1, g, e, l, h, hg => by
    obtain ⟨g, rfl⟩ : ∃ g', g = g' + 1 := ⟨g - 1, by omega⟩
    by_cases h1 : s.size ≤ wh s e ∨ bt s (wh s e) ≠ 10
    · rw [pa_stop1 h1, pa_stop1 h1]
    · obtain ⟨q, m, hS⟩ : ∃ q m, skl s s.size (wh s e + 1) 0 = (q, m) := ⟨_, _, rfl⟩
      by_cases h2 : 0 < markN s q ∨ (fl = false ∧ (ind s q : Int) ≤ n)
      · rw [pa_stop2 hS h2, pa_stop2 hS h2]
      · by_cases h3 : s.size ≤ wh s q ∨ bt s (wh s q) = 10 ∨ bt s (wh s q) = 35 ∨ plE s (wh s q) fl = wh s q
        · rw [pa_stop3 hS h3, pa_stop3 hS h3]
        · rw [pa_go hS h1 h2 h3, pa_go hS h1 h2 h3]
          have a1 := wh_ge s e
          have a2 := skl_ge (s := s) s.size (wh s e + 1) 0 (by omega)
          rw [hS] at a2
          have a3 := wh_ge s q
          have a4 := plE_ge s (wh s q) fl
          exact pa_more f g _ _ (by have := a2.1; simp at this; omega) (by omega)
theorem pa_next {s : ByteArray} {n : Int} {fl : Bool} {e q m : Nat} {l : List Pc} (he : e ≤ s.size) (hS : skl s s.size (wh s e + 1) 0 = (q, m)) (h1 : ¬ (s.size ≤ wh s e ∨ bt s (wh s e) ≠ 10)) (h2 : ¬ (0 < markN s q ∨ (fl = false ∧ (ind s q : Int) ≤ n)))
    (h3 : ¬ (s.size ≤ wh s q ∨ bt s (wh s q) = 10 ∨ bt s (wh s q) = 35 ∨ plE s (wh s q) fl = wh s q)) :
    paGo s n fl (s.size + 1 - e) e l = paGo s n fl (s.size + 1 - plE s (wh s q) fl) (plE s (wh s q) fl) (l ++ List.replicate m e0 ++ [(s.extract (wh s q) (plE s (wh s q) fl), false)]) := by
  have a1 := wh_ge s e
  have a2 := skl_ge (s := s) s.size (wh s e + 1) 0 (by omega)
  rw [hS] at a2
  have a3 := wh_ge s q
  have a4 := plE_ge s (wh s q) fl
  have a5 := plE_le s (wh s q) fl (by omega)
  have a6 := a2.1
  simp at a6
  rw [show s.size + 1 - e = (s.size - e) + 1 by omega, pa_go hS h1 h2 h3]
  exact pa_more _ _ _ _ (by omega) (by omega)
/-- How many bytes and pieces there are. -/
theorem pa_tot {s : ByteArray} {e q m : Nat} {fl : Bool} {l : List Pc} (hl : totC l + l.length ≤ e + 1) (hq : ¬ s.size ≤ wh s e) (hS : skl s s.size (wh s e + 1) 0 = (q, m)) (hq2 : wh s q ≤ s.size) :
    totC (l ++ List.replicate m e0 ++ [(s.extract (wh s q) (plE s (wh s q) fl), false)]) + (l ++ List.replicate m e0 ++ [(s.extract (wh s q) (plE s (wh s q) fl), false)]).length ≤ plE s (wh s q) fl + 1 := by
  have a1 := wh_ge s e
  have a2 := skl_ge (s := s) s.size (wh s e + 1) 0 (by omega)
  rw [hS] at a2
  have a3 := wh_ge s q
  have a4 := plE_ge s (wh s q) fl
  have a5 := plE_le s (wh s q) fl hq2
  have a6 : totC (List.replicate m e0) = 0 := by
    clear hS a2
    induction m with
    | zero => rfl
    | succ m ih => rw [List.replicate_succ]; show ByteArray.empty.size + totC (List.replicate m e0) = 0; rw [ih]; rfl
  have a7 : totC [(s.extract (wh s q) (plE s (wh s q) fl), false)] = plE s (wh s q) fl - wh s q := by
    show (s.extract (wh s q) (plE s (wh s q) fl)).size + 0 = _
    rw [ByteArray.size_extract]; omega
  rw [totC_app, totC_app, a6, a7]
  simp only [List.length_append, List.length_replicate, List.length_cons, List.length_nil]
  have a8 := a2.2.2
  simp at a8
  omega
end Go.Proofs.YtjpcmmfmdoglkalGreatDoor
