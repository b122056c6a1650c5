/- Facts on the list of stretches: it goes on within the text, and has few pieces. -/
import Derived.Test.YthlainjkpeioeajPls
namespace Go.Proofs.Ythlainjkpeioeaj
theorem furt_some {s : ByteArray} {n : Int} {fl : Bool} {e : Nat} {x : Stx} (h : furt s n fl e = some x) : e + x.2.2 < x.1 ∧ x.1 ≤ x.2.1 ∧ x.2.1 ≤ s.size := by
  unfold furt at h
  split at h
  · cases h
  · rename_i h1
    split at h
    · cases h
    · split at h
      · cases h
      · rename_i h3
        injection h with h
        subst h
        have a1 := wh_ge s e
        have a2 := skl_ge (s := s) s.size (wh s e + 1) 0 (by omega)
        have a3 := wh_ge s (skl s s.size (wh s e + 1) 0).1
        have a4 := plE_ge s (wh s (skl s s.size (wh s e + 1) 0).1) fl
        have a5 := plE_le s (wh s (skl s s.size (wh s e + 1) 0).1) fl (by omega)
        show e + (skl s s.size (wh s e + 1) 0).2 < wh s (skl s s.size (wh s e + 1) 0).1 ∧ wh s (skl s s.size (wh s e + 1) 0).1 ≤ plE s (wh s (skl s s.size (wh s e + 1) 0).1) fl ∧ plE s (wh s (skl s s.size (wh s e + 1) 0).1) fl ≤ s.size
        omega
theorem furV_true {s : ByteArray} {n : Int} {fl : Bool} {e : Nat} {x : Stx} (h : furV s n fl e = (x, true)) : furt s n fl e = some x := by
  unfold furV at h
  cases hf : furt s n fl e with
  | none => rw [hf] at h; injection h with _ h; cases h
  | some y => rw [hf] at h; injection h with h _; rw [h]
theorem furV_false {s : ByteArray} {n : Int} {fl : Bool} {e : Nat} {x : Stx} (h : furV s n fl e = (x, false)) : furt s n fl e = none ∧ x = (0, 0, 0) := by
  unfold furV at h
  cases hf : furt s n fl e with
  | none => rw [hf] at h; injection h with h _; exact ⟨rfl, h.symm⟩
  | some y => rw [hf] at h; injection h with _ h; cases h
theorem strs_none {s : ByteArray} {n : Int} {fl : Bool} {f e : Nat} (h : furt s n fl e = none) : strs s n fl f e = [] := by
  cases f with
  | zero => rfl
  | succ f => rw [strs, h]
theorem strs_some {s : ByteArray} {n : Int} {fl : Bool} {f e : Nat} {x : Stx} (h : furt s n fl e = some x) : strs s n fl (f + 1) e = x :: strs s n fl f x.2.1 := by
  rw [strs, h]
/-- One behind the other, from e on. -/
def Chn (s : ByteArray) : Nat → List Stx → Prop
  | _, [] => True
  | e, x :: t => e + x.2.2 < x.1 ∧ x.1 ≤ x.2.1 ∧ x.2.1 ≤ s.size ∧ Chn s x.2.1 t
theorem strs_chn (s : ByteArray) (n : Int) (fl : Bool) : ∀ f e, Chn s e (strs s n fl f e)
  | 0, _ => trivial
  | f + 1, e => by
    cases h : furt s n fl e with
    | none => rw [strs_none h]; trivial
    | some x =>
      rw [strs_some h]
      have h2 := furt_some h
      exact ⟨h2.1, h2.2.1, h2.2.2, strs_chn s n fl f _⟩
theorem chn_split {s : ByteArray} : ∀ (pre : List Stx) (e : Nat) (x : Stx) (rest : List Stx), Chn s e (pre ++ x :: rest) → (pcs s pre).length + e ≤ lastE e pre ∧ lastE e pre + x.2.2 < x.1 ∧ x.1 ≤ x.2.1 ∧ x.2.1 ≤ s.size
  | [], e, x, rest, h => ⟨by show 0 + e ≤ e; omega, h.1, h.2.1, h.2.2.1⟩
  | y :: pre, e, x, rest, h => by
    have h2 := chn_split pre y.2.1 x rest h.2.2.2
    have h3 : (pcs s (y :: pre)).length = y.2.2 + 1 + (pcs s pre).length := by
      show (List.replicate y.2.2 e0 ++ [(s.extract y.1 y.2.1, false)] ++ pcs s pre).length = _
      simp only [List.length_append, List.length_replicate, List.length_cons, List.length_nil]
    have h4 : lastE e (y :: pre) = lastE y.2.1 pre := rfl
    have h5 := h.1
    have h6 := h.2.1
    exact ⟨by omega, by rw [h4]; exact h2.2.1, h2.2.2⟩
theorem tot_rep : ∀ m, totC (List.replicate m e0) = 0
  | 0 => rfl
  | m + 1 => by rw [List.replicate_succ]; show ByteArray.empty.size + totC (List.replicate m e0) = 0; rw [tot_rep m]; rfl
theorem chn_tot {s : ByteArray} : ∀ (l : List Stx) (e : Nat), Chn s e l → e ≤ s.size → totC (pcs s l) + (pcs s l).length + e ≤ lastE e l ∧ lastE e l ≤ s.size
  | [], e, _, he => ⟨by show 0 + 0 + e ≤ e; omega, he⟩
  | x :: t, e, h, _ => by
    have h2 := chn_tot t x.2.1 h.2.2.2 h.2.2.1
    have h3 : (pcs s (x :: t)).length = x.2.2 + 1 + (pcs s t).length := by
      show (List.replicate x.2.2 e0 ++ [(s.extract x.1 x.2.1, false)] ++ pcs s t).length = _
      simp only [List.length_append, List.length_replicate, List.length_cons, List.length_nil]
    have h4 : totC (pcs s (x :: t)) = (x.2.1 - x.1) + totC (pcs s t) := by
      show totC (List.replicate x.2.2 e0 ++ [(s.extract x.1 x.2.1, false)] ++ pcs s t) = _
      rw [totC_app, totC_app, tot_rep]
      show 0 + ((s.extract x.1 x.2.1).size + 0) + totC (pcs s t) = _
      have := h.2.2.1
      rw [ByteArray.size_extract]
      omega
    have h5 := h.1
    have h6 := h.2.1
    rw [h3, h4]
    exact ⟨by show _ ≤ lastE x.2.1 t; omega, h2.2⟩
/-- All stretches of the scalar that begins at k. -/
def allS (s : ByteArray) (k : Nat) (n : Int) (fl : Bool) : List Stx := (k, plE s k fl, 0) :: strs s n fl (s.size + 1 - plE s k fl) (plE s k fl)
theorem allS_split {s : ByteArray} {k : Nat} {n : Int} {fl : Bool} (hk : k ≤ s.size) {pre : List Stx} {x : Stx} {rest : List Stx} (h : allS s k n fl = pre ++ x :: rest) : (pcs s pre).length ≤ s.size + 1 ∧ x.2.2 ≤ s.size ∧ x.1 ≤ x.2.1 ∧ x.2.1 ≤ s.size := by
  have a1 := plE_ge s k fl
  have a2 := plE_le s k fl hk
  cases pre with
  | nil =>
    injection h with h1 h2
    subst h1
    exact ⟨by show 0 ≤ _; omega, by show 0 ≤ _; omega, a1, a2⟩
  | cons y pre =>
    injection h with h1 h2
    have h2' : strs s n fl (s.size + 1 - plE s k fl) (plE s k fl) = pre ++ x :: rest := h2
    have h3 := chn_split (s := s) pre (plE s k fl) x rest (by rw [← h2']; exact strs_chn s n fl _ _)
    subst h1
    have h4 : (pcs s ((k, plE s k fl, 0) :: pre)).length = 1 + (pcs s pre).length := by
      show (List.replicate 0 e0 ++ [(s.extract k (plE s k fl), false)] ++ pcs s pre).length = _
      simp only [List.length_append, List.length_replicate, List.length_cons, List.length_nil]
    exact ⟨by omega, by omega, h3.2.2.1, h3.2.2.2⟩
theorem allS_tot {s : ByteArray} {k : Nat} {n : Int} {fl : Bool} (hk : k ≤ s.size) : totC (pcs s (allS s k n fl)) + (pcs s (allS s k n fl)).length ≤ s.size + 1 := by
  have a1 := plE_ge s k fl
  have a2 := plE_le s k fl hk
  have h := chn_tot (s := s) (strs s n fl (s.size + 1 - plE s k fl) (plE s k fl)) (plE s k fl) (strs_chn s n fl _ _) a2
  have h3 : (pcs s (allS s k n fl)).length = 1 + (pcs s (strs s n fl (s.size + 1 - plE s k fl) (plE s k fl))).length := by
    show (List.replicate 0 e0 ++ [(s.extract k (plE s k fl), false)] ++ pcs s (strs s n fl (s.size + 1 - plE s k fl) (plE s k fl))).length = _
    simp only [List.length_append, List.length_replicate, List.length_cons, List.length_nil]
  have h4 : totC (pcs s (allS s k n fl)) = (plE s k fl - k) + totC (pcs s (strs s n fl (s.size + 1 - plE s k fl) (plE s k fl))) := by
    show totC (List.replicate 0 e0 ++ [(s.extract k (plE s k fl), false)] ++ pcs s (strs s n fl (s.size + 1 - plE s k fl) (plE s k fl))) = _
    rw [totC_app, totC_app, tot_rep]
    show 0 + ((s.extract k (plE s k fl)).size + 0) + _ = _
    rw [ByteArray.size_extract]
    omega
  omega
theorem allS_at {s : ByteArray} {k : Nat} {n : Int} {fl : Bool} (h : plF s k fl = true) : plAt s k n fl = (foldFlow (pcs s (allS s k n fl)), lastE 0 (allS s k n fl), true) := by
  unfold plAt paR
  rw [if_pos h, paGo_strs]
  rfl
end Go.Proofs.Ythlainjkpeioeaj
