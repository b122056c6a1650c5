/- Whether two of Seg, or two lists, are alike: where they are the same. -/
import Derived.Test.YtmbbmibkjnlkkaaDoorHpb
namespace Go.Proofs.YtmbbmibkjnlkkaaDoor
open Go.ChangeShapes Go.WideShapes Go.ChangeAt Go.RowKit Go.Deep Go.BigFrame
set_option maxHeartbeats 4000000 in
theorem eqP_ (s : Sg) (w : World) :
    Calls Tryd.prog 37 #[.agg s.row, .agg s.row] w fun r w' => r = .returned (.bool true) ∧ Below w.heap.size w w' := by
  obtain ⟨kind, n, text⟩ := s
  show Calls Tryd.prog 37 #[.agg #[.int .i64 kind, .int .i64 n, .string text], .agg #[.int .i64 kind, .int .i64 n, .string text]] w fun r w' => r = .returned (.bool true) ∧ Below w.heap.size w w'
  have h0 : (kind != kind) = false := by simp
  have h1 : (n != n) = false := by simp
  have h2 : (text.toList != text.toList) = false := by simp
  go_enter Tryd.func37, Tryd.ntmps37
  go_wp2_with fail
  go_ret
  exact ⟨rfl, ((Below.refl _ w).alloc (Nat.le_refl _) _).alloc (by simp) _⟩
set_option maxHeartbeats 8000000 in
theorem eqPs_ (w : World) (v u : Value) (es : List Sg) (hV : SgL w v es) (hU : SgL w u es) (hl : es.length ≤ 16777216) :
    Calls Tryd.prog 21 #[v, u] w fun e w' => e = .returned (.bool true) ∧ Below w.heap.size w w' := by
  obtain ⟨a, c, rfl⟩ := hV.sl
  obtain ⟨a', c', rfl⟩ := hU.sl
  have HV : Hid (SgL w (.slice a es.length c) es) := hV
  have HU : Hid (SgL w (.slice a' es.length c') es) := hU
  clear hV hU
  go_enter Tryd.func21, Tryd.ntmps21
  go_wp2_with fail
  go_loopw [5] (fun i wr => ∃ k : Nat, k ≤ es.length ∧ i = .int .i64 k ∧ Below w.heap.size w wr) (fun i _ => es.length - (intOf i).toNat)
  case atStart => exact ⟨0, Nat.zero_le _, rfl, Below.refl _ _⟩
  case round =>
    obtain ⟨k, hk, rfl, hb⟩ := hrel
    by_cases hlt : k < es.length
    · obtain ⟨e, hx⟩ : ∃ h, es[k]? = some h := ⟨_, List.getElem?_eq_getElem hlt⟩
      obtain ⟨b, off, rfl, _, _⟩ := HV.out.at hb hx
      obtain ⟨b', off', rfl, _, _⟩ := HU.out.at hb hx
      have c1 : ∀ m : Bw wr, SgAt m.val b (off + k * 3) e := fun m => by
        obtain ⟨_, _, e1, _, h1⟩ := HV.out.at (hb.trans (m.ok.mono hb.size)) hx
        injection e1 with e1
        injection e1 with e1 e2
        subst e1
        subst e2
        exact h1
      have c2 : ∀ m : Bw wr, SgAt m.val b' (off' + k * 3) e := fun m => by
        obtain ⟨_, _, e1, _, h1⟩ := HU.out.at (hb.trans (m.ok.mono hb.size)) hx
        injection e1 with e1
        injection e1 with e1 e2
        subst e1
        subst e2
        exact h1
      have d0 := fun m => (c1 m).c0
      have d1 := fun m => (c1 m).c1
      have d2 := fun m => (c1 m).c2
      have g0 := fun m => (c2 m).c0
      have g1 := fun m => (c2 m).c1
      have g2 := fun m => (c2 m).c2
      have hE := Bw.calls (w := wr) (fun w' _ => eqP_ e w')
      have hne := Bw.some wr
      have hlt' : (k : Int) < (es.length : Int) := by omega
      clear hx c1 c2
      obtain ⟨kind, n, text⟩ := e
      unfold Sg.row at hE
      go_wp2_with fail
      refine wp_region_bw (w0 := wr) (by kernel_rfl) (by kernel_rfl) (Below.refl _ _) ?_
      repeat (go_big_quiet_step ((go_at_call 37; exact hE _)))
      refine wpQuiet_nil ?_
      rintro _ ⟨m, rfl⟩
      have hB1 : Below w.heap.size w m.val := hb.trans (m.ok.mono hb.size)
      generalize m.val = w1 at *
      clear d0 d1 d2 g0 g1 g2 hE hne
      go_wp2_with fail
      go_roundw
      case rel => exact ⟨k + 1, hlt, by go_num, hB1⟩
      case measure => simp [intOf]; omega
    · go_wp2_with fail
      go_ret
      exact ⟨rfl, hb⟩
end Go.Proofs.YtmbbmibkjnlkkaaDoor
