/- The specification's l17Match at a step that is no deep one. -/
import Derived.Test.YtmbbmibkjnlkkaaDoorHsm
namespace Go.Proofs.YtmbbmibkjnlkkaaDoor
open Go.ChangeShapes Go.WideShapes Go.ChangeAt Go.RowKit
set_option maxHeartbeats 8000000 in
set_option maxRecDepth 100000 in
theorem match_step_nil_any (s : Sg) (p : List Sg) (pv lv : Value) (w : World) (hP : SgL w pv (s :: p)) (hL : SgL w lv []) (h5 : s.kind ≠ 5) :
    Calls Tryd.prog 40 #[pv, lv] w fun e w' => e = .returned (.bool (matchP (s :: p) [])) ∧ Below w.heap.size w w' := by
  obtain ⟨pa, pc, rfl⟩ := hP.sl
  obtain ⟨la, lc, rfl⟩ := hL.sl
  obtain ⟨b, off, rfl, hc, ⟨c0, c1, c2⟩⟩ := hP.first
  have t5 : (s.kind == 5) = false := by rw [beq_eq_false_iff_ne]; exact h5
  have hpl : (s :: p).length = p.length + 1 := rfl
  rw [hpl]
  have hp0 : ¬ ((p.length : Int) + 1 = 0) := by omega
  have HE : Hid (matchP (s :: p) [] = false) := match_step0 h5 p
  have hne := Bw.some w
  clear hpl c1 c2 hP hL h5
  simp only [List.length_nil]
  go_enter Tryd.func40, Tryd.ntmps40
  go_wp2_with fail
  refine wp_region_bw (w0 := w) (by kernel_rfl) (by kernel_rfl) (Below.refl _ _) ?_
  repeat (go_big_quiet_step (fail))
  refine wpQuiet_nil ?_
  rintro _ ⟨m, rfl⟩
  have HB : Hid (Below w.heap.size w m.val) := m.ok
  generalize m.val = w1 at *
  go_wp2_with fail
  go_ret
  exact ⟨ret_bP HE.out.symm, HB.out⟩
theorem SgL.rest {w : World} {b off c : Nat} {s : Sg} {t : List Sg} (h : SgL w (.slice (some ⟨b, off, none⟩) (s :: t).length c) (s :: t)) : SgL w (.slice (if c = 1 then some ⟨b, off, none⟩ else some ⟨b, off + 3, none⟩) t.length (c - 1)) t := by
  split
  case isTrue hc =>
    subst hc
    exact h.tail0 rfl
  case isFalse => exact h.tail1
theorem equalIn_sg (a0 a1 : Int) (a2 : ByteArray) (b0 b1 : Int) (b2 : ByteArray) (w : World) :
    (Op.equalIn 10000 29 (.agg #[.int .i64 a0, .int .i64 a1, .string a2]) (.agg #[.int .i64 b0, .int .i64 b1, .string b2])).run Tryd.prog w
      = .ok (a0 == b0 && (a1 == b1 && a2.toList == b2.toList)) w := by
  have hS : Tryd.prog.underlying 29 = some (.struct (Tryd.prog.fieldsOf 29)) := by kernel_rfl
  have hp : Tryd.prog.stoodInHeld 29 = false := by kernel_rfl
  rw [show (10000 : Nat) = 9999 + 1 from rfl, run_equalIn_agg w 9999 29 _ _ hS hp]
  simp only [Program.fieldsOf, Tryd.underlying29]
  go_simp
  by_cases h0 : a0 = b0
  case neg => simp [h0]
  by_cases h1 : a1 = b1
  case neg => simp [h0, h1]
  by_cases h2 : a2.toList = b2.toList
  case neg => simp [h0, h1, h2]
  simp [h0, h1, h2]
set_option maxHeartbeats 8000000 in
set_option maxRecDepth 100000 in
theorem match_step_any (f : Nat) (IH : MtC f) (s x : Sg) (p t : List Sg) (pv lv : Value) (w : World) (hf : (s :: p).length + (x :: t).length < f + 1) (hP : SgL w pv (s :: p)) (hL : SgL w lv (x :: t)) (h5 : s.kind ≠ 5) :
    Calls Tryd.prog 40 #[pv, lv] w fun e w' => e = .returned (.bool (matchP (s :: p) (x :: t))) ∧ Below w.heap.size w w' := by
  obtain ⟨pa, pc, rfl⟩ := hP.sl
  obtain ⟨la, lc, rfl⟩ := hL.sl
  obtain ⟨b, off, rfl, hc, hS0⟩ := hP.first
  have c0 := hS0.c0
  obtain ⟨lb, lo, rfl, hlc, hX0⟩ := hL.first
  clear hS0 hX0
  have t5 : (s.kind == 5) = false := by rw [beq_eq_false_iff_ne]; exact h5
  have hS : ∀ m : Bw w, SgAt m.val b off s := fun m => by
    obtain ⟨b', off', e, _, h⟩ := (hP.stays m.ok).first
    injection e with e
    injection e with e1 e2
    subst e1 e2
    exact h
  have hX : ∀ m : Bw w, SgAt m.val lb lo x := fun m => by
    obtain ⟨b', off', e, _, h⟩ := (hL.stays m.ok).first
    injection e with e
    injection e with e1 e2
    subst e1 e2
    exact h
  have d0 := fun m => (hS m).c0
  have d1 := fun m => (hS m).c1
  have d2 := fun m => (hS m).c2
  have g0 := fun m => (hX m).c0
  have g1 := fun m => (hX m).c1
  have g2 := fun m => (hX m).c2
  have hpl : (s :: p).length = p.length + 1 := rfl
  have hll : (x :: t).length = t.length + 1 := rfl
  have hC : ∀ v u, SgL w v p → SgL w u t → ∀ m : Bw w, Calls Tryd.prog 40 #[v, u] m.val fun e w' => e = .returned (.bool (matchP p t)) ∧ ∃ m' : Bw w, w' = m'.val := fun v u hv hu => Bw.calls (w := w) (fun w' hb => IH p t v u w' (by omega) (hv.stays hb) (hu.stays hb))
  have hC := hC _ _ hP.rest hL.rest
  have hp0 : ¬ ((p.length : Int) + 1 = 0) := by omega
  have hl0 : (0 : Int) < (t.length : Int) + 1 := by omega
  have HE : Hid (matchP (s :: p) (x :: t) = ((decide (s.kind = 4) || segSame s x) && matchP p t)) := match_step1 h5 p t
  have hne := Bw.some w
  rw [hpl, hll]
  clear hpl hll hS hX hP hL h5 IH hf
  cases h4 : decide (s.kind = 4) with
  | true =>
    have t4 : (s.kind == 4) = true := h4
    have HE : Hid (matchP (s :: p) (x :: t) = matchP p t) := by have := HE.out; rw [h4] at this; exact this
    go_enter Tryd.func40, Tryd.ntmps40
    go_wp2_with fail
    refine wp_region_bw (w0 := w) (by kernel_rfl) (by kernel_rfl) (Below.refl _ _) ?_
    repeat (go_big_quiet_step ((go_at_call 40; exact hC _)))
    refine wpQuiet_nil ?_
    rintro _ ⟨m, rfl⟩
    have HB : Hid (Below w.heap.size w m.val) := m.ok
    generalize m.val = w1 at *
    clear d0 d1 d2 g0 g1 g2 hC hne
    go_wp2_with fail
    all_goals (
      go_ret
      exact ⟨ret_bP HE.out.symm, HB.out⟩)
  | false =>
    have t4 : (s.kind == 4) = false := h4
    rw [h4, Bool.false_or] at HE
    have hE : ∀ w, (Op.equalIn 10000 29 (.agg #[.int .i64 s.kind, .int .i64 s.n, .string s.text]) (.agg #[.int .i64 x.kind, .int .i64 x.n, .string x.text])).run Tryd.prog w = .ok (segSame s x) w := fun w => equalIn_sg _ _ _ _ _ _ w
    cases hs : segSame s x with
    | false =>
      rw [hs] at HE hE
      go_enter Tryd.func40, Tryd.ntmps40
      go_wp2_with fail
      refine wp_region_bw (w0 := w) (by kernel_rfl) (by kernel_rfl) (Below.refl _ _) ?_
      repeat (go_big_quiet_step (fail))
      refine wpQuiet_nil ?_
      rintro _ ⟨m, rfl⟩
      have HB : Hid (Below w.heap.size w m.val) := m.ok
      generalize m.val = w1 at *
      clear d0 d1 d2 g0 g1 g2 hC hne hE
      go_wp2_with fail
      all_goals (
        go_ret
        exact ⟨ret_bP HE.out.symm, HB.out⟩)
    | true =>
      rw [hs] at HE hE
      go_enter Tryd.func40, Tryd.ntmps40
      go_wp2_with fail
      refine wp_region_bw (w0 := w) (by kernel_rfl) (by kernel_rfl) (Below.refl _ _) ?_
      repeat (go_big_quiet_step ((go_at_call 40; exact hC _)))
      refine wpQuiet_nil ?_
      rintro _ ⟨m, rfl⟩
      have HB : Hid (Below w.heap.size w m.val) := m.ok
      generalize m.val = w1 at *
      clear d0 d1 d2 g0 g1 g2 hC hne hE
      go_wp2_with fail
      all_goals (
        go_ret
        exact ⟨ret_bP HE.out.symm, HB.out⟩)
theorem match_any : ∀ f, MtC f
  | 0 => fun p l _ _ _ h _ _ => absurd h (by omega)
  | f + 1 => fun p l pv lv w h hP hL => by
    cases p with
    | nil => exact match_empty_any l pv lv w hP hL
    | cons s p =>
      by_cases h5 : s.kind = 5
      · exact match_deep_any f (match_any f) s p l pv lv w h hP hL h5
      · cases l with
        | nil => exact match_step_nil_any s p pv lv w hP hL h5
        | cons x t => exact match_step_any f (match_any f) s x p t pv lv w h hP hL h5
theorem spec_match1 (p l : List Sg) (pv lv : Value) (w : World) (hP : SgL w pv p) (hL : SgL w lv l) : Calls Tryd.prog 40 #[pv, lv] w fun e w' => e = .returned (.bool (matchP p l)) ∧ Below w.heap.size w w' :=
  match_any _ p l pv lv w (Nat.lt_succ_self _) hP hL
end Go.Proofs.YtmbbmibkjnlkkaaDoor
