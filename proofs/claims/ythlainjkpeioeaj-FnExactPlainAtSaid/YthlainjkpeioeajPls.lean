/- The next line that isn't white alone, and the stretch in it, as plain functions; they agree with what spec.PlainAt does. -/
import Derived.Test.YthlainjkpeioeajPit
namespace Go.Proofs.Ythlainjkpeioeaj
/-- From the end e of a line on, with m lines that are white alone behind us. -/
def lbF (s : ByteArray) : Nat → Nat → Nat → Nat × Nat × Bool
  | 0, _, _ => (0, 0, false)
  | f + 1, e, m => if e < s.size ∧ bt s e = 10 then (if lone s (e + 1) = true then lbF s f (endL s (e + 1)) (m + 1) else (e + 1, m, true)) else (0, 0, false)
theorem endL_le {s : ByteArray} {k : Nat} (h : k ≤ s.size) : endL s k ≤ s.size := fwd_le _ _ _ h
theorem endL_10 {s : ByteArray} {k : Nat} (h : endL s k < s.size) : bt s (endL s k) = 10 := by
  have h2 : pN (bt s (endL s k)) = false := fwd_at pN s k h
  generalize bt s (endL s k) = c at *
  unfold pN at h2
  simpa using h2
theorem lbF_skl (s : ByteArray) : ∀ (f g e m q m' : Nat), e < s.size → bt s e = 10 → s.size < f + e → s.size < g + (e + 1) → skl s g (e + 1) m = (q, m') →
    lbF s f e m = if lone s q = true then (0, 0, false) else (q, m', true)
  | 0, g, e, m, q, m', he, _, hf, _, _ => by omega
  | f + 1, g, e, m, q, m', he, hb, hf, hg, hS => by
    rw [lbF, if_pos ⟨he, hb⟩]
    have h1 := endL_ge s (e + 1)
    have h2 := endL_le (s := s) (k := e + 1) (by omega)
    by_cases hl : lone s (e + 1) = true
    · rw [if_pos hl]
      by_cases h3 : endL s (e + 1) < s.size
      · cases g with
        | zero => omega
        | succ g =>
          rw [skl, if_pos ⟨by omega, hl, h3⟩] at hS
          exact lbF_skl s f g _ _ q m' h3 (endL_10 h3) (by omega) (by omega) hS
      · rw [skl_stop (by omega)] at hS
        injection hS with a b
        rw [← a, if_pos hl]
        cases f with
        | zero => rfl
        | succ f => rw [lbF, if_neg (by omega)]
    · rw [skl_stop (fun h => hl h.2.1)] at hS
      injection hS with a b
      rw [← a, ← b, if_neg hl, if_neg hl]
theorem lbF_none {s : ByteArray} {f e m : Nat} (h : ¬ (e < s.size ∧ bt s e = 10)) : lbF s f e m = (0, 0, false) := by
  cases f with
  | zero => rfl
  | succ f => rw [lbF, if_neg h]
/-- What skl comes to is the beginning of a line. -/
theorem skl_beg {s : ByteArray} : ∀ (g k m q m' : Nat), beg s k = true → skl s g k m = (q, m') → beg s q = true
  | 0, k, m, q, m', hb, hS => by injection hS with a b; rw [← a]; exact hb
  | g + 1, k, m, q, m', hb, hS => by
    rw [skl] at hS
    split at hS
    · rename_i hh
      refine skl_beg g _ _ q m' ?_ hS
      unfold beg
      rw [Nat.add_sub_cancel, endL_10 hh.2.2]
      simp
    · injection hS with a b; rw [← a]; exact hb
theorem lone_beg {s : ByteArray} {q : Nat} (h : beg s q = true) : lone s q = brk s (wh s q) := by
  unfold lone; rw [(lnb_beg s q).2 h]
abbrev Stx := Nat × Nat × Nat
/-- What stretchBehind answers, by what lineBehind answered. -/
def sbR (s : ByteArray) (n : Int) (fl : Bool) (R : Nat × Nat × Bool) : Stx × Bool :=
  if R.2.2 = false then ((0, 0, 0), false)
  else if 0 < markN s R.1 then ((0, 0, 0), false)
  else if fl = false ∧ (ind s R.1 : Int) ≤ n then ((0, 0, 0), false)
  else if bt s (wh s R.1) = 35 then ((0, 0, 0), false)
  else if plE s (wh s R.1) fl = wh s R.1 then ((0, 0, 0), false)
  else ((wh s R.1, plE s (wh s R.1) fl, R.2.1), true)
def lbR (s : ByteArray) (e : Nat) : Nat × Nat × Bool := lbF s (s.size + 1) (wh s e) 0
def furV (s : ByteArray) (n : Int) (fl : Bool) (e : Nat) : Stx × Bool := match furt s n fl e with | none => ((0, 0, 0), false) | some x => (x, true)
/-- What lineBehind tells where it tells one. -/
theorem lbR_yes {s : ByteArray} {e q m : Nat} (h : lbR s e = (q, m, true)) : beg s q = true ∧ wh s q < s.size ∧ bt s (wh s q) ≠ 10 ∧ q ≤ s.size ∧ m ≤ s.size ∧ wh s e < s.size ∧ bt s (wh s e) = 10 ∧ skl s s.size (wh s e + 1) 0 = (q, m) := by
  unfold lbR at h
  by_cases h1 : wh s e < s.size ∧ bt s (wh s e) = 10
  · obtain ⟨q', m', hS⟩ : ∃ q' m', skl s s.size (wh s e + 1) 0 = (q', m') := ⟨_, _, rfl⟩
    rw [lbF_skl s _ s.size (wh s e) 0 q' m' h1.1 h1.2 (by omega) (by omega) hS] at h
    split at h
    · cases h
    · rename_i hl
      obtain ⟨rfl, rfl⟩ : q' = q ∧ m' = m := by injection h with a b; injection b with b c; exact ⟨a, b⟩
      have hb := skl_beg s.size _ _ q' m' (by unfold beg; rw [Nat.add_sub_cancel, h1.2]; simp) hS
      rw [lone_beg hb] at hl
      have hl' : brk s (wh s q') = false := by simpa using hl
      have h2 := brk_lt hl'
      have h3 := skl_ge (s := s) s.size (wh s e + 1) 0 (by omega)
      rw [hS] at h3
      simp at h3
      refine ⟨hb, h2, ?_, h3.2.1, by omega, h1.1, h1.2, hS⟩
      intro h10
      unfold brk at hl'
      rw [h10] at hl'
      simp at hl'
  · rw [lbF_none h1] at h; cases h
theorem lbR_no {s : ByteArray} {n : Int} {fl : Bool} {e q m : Nat} (h : lbR s e = (q, m, false)) : furt s n fl e = none := by
  unfold lbR at h
  unfold furt
  by_cases h1 : wh s e < s.size ∧ bt s (wh s e) = 10
  · obtain ⟨q', m', hS⟩ : ∃ q' m', skl s s.size (wh s e + 1) 0 = (q', m') := ⟨_, _, rfl⟩
    rw [lbF_skl s _ s.size (wh s e) 0 q' m' h1.1 h1.2 (by omega) (by omega) hS] at h
    split at h
    · rename_i hl
      have hb := skl_beg s.size _ _ q' m' (by unfold beg; rw [Nat.add_sub_cancel, h1.2]; simp) hS
      rw [lone_beg hb] at hl
      rw [hS]
      have : s.size ≤ wh s q' ∨ bt s (wh s q') = 10 := by
        unfold brk at hl
        simpa using hl
      split
      · rfl
      · split
        · rfl
        · rw [if_pos (by rcases this with h | h; exact .inl h; exact .inr (.inl h))]
    · injection h with a b; injection b with b c; cases c
  · rw [if_pos (by
      rcases Nat.lt_or_ge (wh s e) s.size with h' | h'
      · exact .inr (fun h2 => h1 ⟨h', h2⟩)
      · exact .inl h')]
theorem sbR_furV {s : ByteArray} {n : Int} {fl : Bool} {e : Nat} : sbR s n fl (lbR s e) = furV s n fl e := by
  obtain ⟨q, m, ok, hR⟩ : ∃ q m ok, lbR s e = (q, m, ok) := ⟨_, _, _, rfl⟩
  rw [hR]
  cases ok with
  | false =>
    unfold furV
    rw [lbR_no hR]
    rfl
  | true =>
    obtain ⟨hb, h1, h2, h3, h4, h5, h6, hS⟩ := lbR_yes hR
    unfold furV furt sbR
    rw [hS]
    rw [if_neg (show ¬ ((q, m, true).2.2 = false) from fun h => by cases h), if_neg (show ¬ (s.size ≤ wh s e ∨ bt s (wh s e) ≠ 10) by omega)]
    show (if 0 < markN s q then ((0, 0, 0), false) else if fl = false ∧ (ind s q : Int) ≤ n then ((0, 0, 0), false) else if bt s (wh s q) = 35 then ((0, 0, 0), false) else if plE s (wh s q) fl = wh s q then ((0, 0, 0), false) else ((wh s q, plE s (wh s q) fl, m), true)) = _
    by_cases a1 : 0 < markN s q
    · rw [if_pos a1, if_pos (.inl a1)]
    · rw [if_neg a1]
      by_cases a2 : fl = false ∧ (ind s q : Int) ≤ n
      · rw [if_pos a2, if_pos (.inr a2)]
      · rw [if_neg a2, if_neg (show ¬ (0 < markN s q ∨ (fl = false ∧ (ind s q : Int) ≤ n)) from fun h => h.elim a1 a2)]
        by_cases a3 : bt s (wh s q) = 35
        · rw [if_pos a3, if_pos (.inr (.inr (.inl a3)))]
        · rw [if_neg a3]
          by_cases a4 : plE s (wh s q) fl = wh s q
          · rw [if_pos a4, if_pos (.inr (.inr (.inr a4)))]
          · rw [if_neg a4, if_neg (show ¬ (s.size ≤ wh s q ∨ bt s (wh s q) = 10 ∨ bt s (wh s q) = 35 ∨ plE s (wh s q) fl = wh s q) from by rintro (h | h | h | h); omega; exact h2 h; exact a3 h; exact a4 h)]
end Go.Proofs.Ythlainjkpeioeaj
