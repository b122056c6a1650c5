/- The law on SegOk, walked. -/
import Derived.Test.YtmbbmibkjnlkkaaDoorHsk
import Derived.Test.YtmbbmibkjnlkkaaDoorHpb
import Derived.Test.YtmbbmibkjnlkkaaDoorJsg
namespace Go.Proofs.YtmbbmibkjnlkkaaDoor
open Go.ChangeShapes Go.WideShapes Go.ChangeAt Go.RowKit
set_option maxHeartbeats 8000000 in
set_option maxRecDepth 100000 in
theorem law_segOk (s : Sg) (hw : wideP s) (w : World) (hV : TabV w) :
    Calls Tryd.prog 5 #[.agg s.row] w fun e w' => e = .returned (.bool true) ∧ Below w.heap.size w w' := by
  obtain ⟨z, hz⟩ : ∃ z, szP s 1048576 = z := ⟨_, rfl⟩
  have cZ := fun w => szP_any s 1048576 w (by omega) (by omega) hw
  rw [hz] at cZ
  obtain ⟨ok, hok⟩ : ∃ ok, segOk s = ok := ⟨_, rfl⟩
  have cT := fun w => toP_any s w
  have cS := fun w => spec_segOk s w
  have cI := fun w (hv : TabV w) => implSk s w hv
  rw [hok] at cS cI
  have CI : Hid (∀ w, TabV w → Calls Tryd.prog 12 #[.agg s.row] w fun e w' => e = .returned (.bool ok) ∧ Below w.heap.size w w') := cI
  have CS : Hid (∀ w, Calls Tryd.prog 16 #[.agg s.row] w fun e w' => e = .returned (.bool ok) ∧ Below w.heap.size w w') := cS
  have CT : Hid (∀ w, Calls Tryd.prog 17 #[.agg s.row] w fun e w' => e = .returned (.agg s.row) ∧ Below w.heap.size w w') := cT
  have CZ : Hid (∀ w, Calls Tryd.prog 15 #[.agg s.row, .int .i64 1048576] w fun e w' => e = .returned (.int .i64 z) ∧ Below w.heap.size w w') := cZ
  have HTV : Hid (TabV w) := hV
  clear cI cS cT cZ hok hV hw hz
  obtain ⟨kind, n, text⟩ := s
  unfold Sg.row at CI CS CT CZ
  unfold Sg.row
  obtain ⟨V, hV⟩ : ∃ V, w.alloc (.cells #[.int .i64 kind, .int .i64 n, .string text] 33) = V := ⟨_, rfl⟩
  have HV : Hid (w.alloc (.cells #[.int .i64 kind, .int .i64 n, .string text] 33) = V) := hV
  have HB : Hid (Below w.heap.size w V) := by show Below _ _ _; rw [← hV]; exact (Below.refl _ w).alloc (Nat.le_refl _) _
  have hn : V.heap[w.heap.size]? = some (.cells #[.int .i64 kind, .int .i64 n, .string text] 33 (0, 0)) := by rw [← hV]; exact heap_alloc_new w _
  have HN := hn
  have HN : Hid (V.heap[w.heap.size]? = some (.cells #[.int .i64 kind, .int .i64 n, .string text] 33 (0, 0))) := hn
  obtain ⟨q0, q1, q2⟩ := row_atP hn
  have HQ : Hid (∀ wr, Below V.heap.size V wr → wr.cell? ⟨w.heap.size, 0, none⟩ = some (.int .i64 kind) ∧ wr.cell? ⟨w.heap.size, 1, none⟩ = some (.int .i64 n) ∧ wr.cell? ⟨w.heap.size, 2, none⟩ = some (.string text)) := fun wr hb =>
    row_atP ((hb.block w.heap.size (Array.getElem?_eq_some_iff.1 HN.out).1).trans HN.out)
  clear hV hn HN
  go_enter Tryd.func5, Tryd.ntmps5
  go_wp2_with fail
  rw [HV.out]
  go_wp2_with fail
  refine (CZ.out _).mono ?_
  rintro e w1 ⟨rfl, hb1⟩
  have HB1 : Hid (Below V.heap.size V w1) := hb1
  clear q0 q1 q2 hb1
  obtain ⟨q0, q1, q2⟩ := HQ.out _ HB1.out
  by_cases hz : z < 0
  · go_wp2_with fail
    go_ret
    exact ⟨rfl, HB.out.trans (HB1.out.mono HB.out.size)⟩
  go_wp2_with fail
  refine (CT.out _).mono ?_
  rintro e w2 ⟨rfl, hb2⟩
  have HB2 : Hid (Below V.heap.size V w2) := HB1.out.trans (hb2.mono HB1.out.size)
  clear q0 q1 q2 hb2
  obtain ⟨q0, q1, q2⟩ := HQ.out _ HB2.out
  go_wp2_with fail
  refine (CS.out _).mono ?_
  rintro e w3 ⟨rfl, hb3⟩
  have HB3 : Hid (Below V.heap.size V w3) := HB2.out.trans (hb3.mono HB2.out.size)
  clear q0 q1 q2 hb3
  obtain ⟨q0, q1, q2⟩ := HQ.out _ HB3.out
  go_wp2_with fail
  refine (CT.out _).mono ?_
  rintro e w4 ⟨rfl, hb4⟩
  have HB4 : Hid (Below V.heap.size V w4) := HB3.out.trans (hb4.mono HB3.out.size)
  clear q0 q1 q2 hb4
  obtain ⟨q0, q1, q2⟩ := HQ.out _ HB4.out
  go_wp2_with fail
  refine (CI.out _ (HTV.out.lasts (HB.out.trans (HB4.out.mono HB.out.size)))).mono ?_
  rintro e w5 ⟨rfl, hb5⟩
  have HB5 : Hid (Below V.heap.size V w5) := HB4.out.trans (hb5.mono HB4.out.size)
  clear q0 q1 q2 hb5
  obtain ⟨q0, q1, q2⟩ := HQ.out _ HB5.out
  go_wp2_with fail
  go_ret
  exact ⟨rfl, HB.out.trans (HB5.out.mono HB.out.size)⟩
end Go.Proofs.YtmbbmibkjnlkkaaDoor
