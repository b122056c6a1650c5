/- The laws on EventText and EventsText, walked, over impl's contracts. -/
import Derived.Test.YtleajpkdikcfpakDoorSxs
import Derived.Test.YtleajpkdikcfpakDoorTeq
import Derived.Test.YtleajpkdikcfpakDoorOev
namespace Go.Proofs.YtleajpkdikcfpakDoor
open Go.ChangeShapes Go.WideShapes Go.ChangeAt Go.RowKit
/-- What the world must hold, and goes on holding. -/
def Lasts (V : World → Prop) : Prop := ∀ w w', V w → Below w.heap.size w w' → V w'
/-- What is asked of impl.EventText, in worlds in which V holds. -/
def ImplEt (V : World → Prop) : Prop := ∀ (e : Ev) (w : World), V w → e.tot ≤ 1048576 → wfE e →
    Calls Tryd.prog 13 #[.agg e.row] w fun r w' => r = .returned (.string (evText e)) ∧ Below w.heap.size w w'
set_option maxHeartbeats 4000000 in
theorem law_eventText {V : World → Prop} (hVL : Lasts V) (HI : ImplEt V) (e : Ev) (hw : wideE e) (hf : wfE e) (w : World) (hVw : V w) :
    Calls Tryd.prog 5 #[.agg e.row] w fun r w' => r = .returned (.bool true) ∧ Below w.heap.size w w' := by
  have cZ : Hid (∀ w, Calls Tryd.prog 10 #[.agg e.row, .int .i64 1048576] w fun r w' => r = .returned (.int .i64 (szE e 1048576)) ∧ Below w.heap.size w w') := fun w => szE_any e 1048576 w (by omega) (by omega) hw
  have cT : Hid (∀ w, Calls Tryd.prog 12 #[.agg e.row] w fun r w' => r = .returned (.agg e.row) ∧ Below w.heap.size w w') := fun w => toE_any e w
  have hz := szE_cases e 1048576
  generalize szE e 1048576 = z at *
  have C0 : Hid (0 ≤ z → ∀ w, Calls Tryd.prog 11 #[.agg e.row] w fun r w' => r = .returned (.string (evText e)) ∧ Below w.heap.size w w') := fun h w => by
    have ht : e.tot ≤ 1048576 := by unfold Ev.tot; omega
    unfold Ev.tot at ht
    exact spec_eventText e w ⟨by omega, by omega, by omega⟩
  have C1 : Hid (0 ≤ z → ∀ w, V w → Calls Tryd.prog 13 #[.agg e.row] w fun r w' => r = .returned (.string (evText e)) ∧ Below w.heap.size w w') := fun h w hv => HI e w hv (by unfold Ev.tot; omega) hf
  have HVL : Hid (Lasts V) := hVL
  have HVW : Hid (V w) := hVw
  clear hVL hVw
  generalize evText e = b at *
  obtain ⟨kind, style, flag, text, anchor, tag, at_, code⟩ := e
  obtain ⟨r0, r1, r2, r3, r4, r5, r6, r7, hr⟩ : ∃ r0 r1 r2 r3 r4 r5 r6 r7, Ev.row ⟨kind, style, flag, text, anchor, tag, at_, code⟩ = #[.int .i64 r0, .int .i64 r1, .bool r2, .string r3, .string r4, .string r5, .int .i64 r6, .int .i64 r7] := ⟨_, _, _, _, _, _, _, _, rfl⟩
  rw [hr] at cZ cT C0 C1 ⊢
  clear hr
  by_cases hneg : z < 0
  · clear hz C0 C1 cT hw hf
    go_enter Tryd.func5, Tryd.ntmps5
    go_wp2_with fail
    refine (cZ.out _).mono ?_
    rintro e w1 ⟨rfl, hb1⟩
    clear cZ
    go_wp2_with fail
    go_ret
    exact ⟨rfl, ((Below.refl _ w).alloc (Nat.le_refl _) _).trans (hb1.mono (by simp))⟩
  · have c0 : Hid (∀ w, Calls Tryd.prog 11 #[.agg #[.int .i64 r0, .int .i64 r1, .bool r2, .string r3, .string r4, .string r5, .int .i64 r6, .int .i64 r7]] w fun r w' => r = .returned (.string b) ∧ Below w.heap.size w w') := C0.out (by omega)
    have c1 : Hid (∀ w, V w → Calls Tryd.prog 13 #[.agg #[.int .i64 r0, .int .i64 r1, .bool r2, .string r3, .string r4, .string r5, .int .i64 r6, .int .i64 r7]] w fun r w' => r = .returned (.string b) ∧ Below w.heap.size w w') := C1.out (by omega)
    clear hz C0 C1 hw hf
    have HA : Hid (Below w.heap.size w (w.alloc (.cells #[.int .i64 r0, .int .i64 r1, .bool r2, .string r3, .string r4, .string r5, .int .i64 r6, .int .i64 r7] 28))) := (Below.refl _ w).alloc (Nat.le_refl _) _
    have hblk : (w.alloc (.cells #[.int .i64 r0, .int .i64 r1, .bool r2, .string r3, .string r4, .string r5, .int .i64 r6, .int .i64 r7] 28)).heap[w.heap.size]? = some (.cells #[.int .i64 r0, .int .i64 r1, .bool r2, .string r3, .string r4, .string r5, .int .i64 r6, .int .i64 r7] 28 (0, 0)) := heap_alloc_new w _
    have HBLK : Hid ((w.alloc (.cells #[.int .i64 r0, .int .i64 r1, .bool r2, .string r3, .string r4, .string r5, .int .i64 r6, .int .i64 r7] 28)).heap[w.heap.size]? = some (.cells #[.int .i64 r0, .int .i64 r1, .bool r2, .string r3, .string r4, .string r5, .int .i64 r6, .int .i64 r7] 28 (0, 0))) := hblk
    clear hblk
    have hlt : Hid (w.heap.size < (w.alloc (.cells #[.int .i64 r0, .int .i64 r1, .bool r2, .string r3, .string r4, .string r5, .int .i64 r6, .int .i64 r7] 28)).heap.size) := by show w.heap.size < (w.heap.push _).size; simp
    go_enter Tryd.func5, Tryd.ntmps5
    go_wp2_with fail
    obtain ⟨U, hV⟩ : ∃ U, w.alloc (.cells #[.int .i64 r0, .int .i64 r1, .bool r2, .string r3, .string r4, .string r5, .int .i64 r6, .int .i64 r7] 28) = U := ⟨_, rfl⟩
    rw [hV] at HA HBLK hlt ⊢
    clear hV
    refine (cZ.out _).mono ?_
    rintro e w1 ⟨rfl, hb1⟩
    clear cZ
    have at1 := ev_at ((hb1.block _ hlt.out).trans HBLK.out)
    obtain ⟨a0, a1, a2, a3, a4, a5, a6, a7⟩ := at1
    have HB1 : Hid (Below U.heap.size U w1) := hb1
    clear hb1
    go_wp2_with fail
    refine (cT.out _).mono ?_
    rintro e w2 ⟨rfl, hb2⟩
    clear a0 a1 a2 a3 a4 a5 a6 a7
    go_wp2_with fail
    refine (c0.out _).mono ?_
    rintro e w3 ⟨rfl, hb3⟩
    clear c0
    have HB3 : Hid (Below U.heap.size U w3) := by
      have h2 := HB1.out.trans (hb2.mono HB1.out.size)
      exact h2.trans (hb3.mono h2.size)
    clear hb2 hb3 HB1
    have at3 := ev_at ((HB3.out.block _ hlt.out).trans HBLK.out)
    obtain ⟨a0, a1, a2, a3, a4, a5, a6, a7⟩ := at3
    go_wp2_with fail
    refine (cT.out _).mono ?_
    rintro e w4 ⟨rfl, hb4⟩
    clear cT a0 a1 a2 a3 a4 a5 a6 a7
    go_wp2_with fail
    have hv4 : V w4 := HVL.out _ _ HVW.out (by
      have h4 := HB3.out.trans (hb4.mono HB3.out.size)
      exact HA.out.trans (h4.mono HA.out.size))
    refine (c1.out _ hv4).mono ?_
    rintro e w5 ⟨rfl, hb5⟩
    clear c1
    have HB5 : Hid (Below w.heap.size w w5) := by
      have h4 := HB3.out.trans (hb4.mono HB3.out.size)
      have h5 := h4.trans (hb5.mono h4.size)
      exact HA.out.trans (h5.mono (HA.out.size))
    clear hb4 hb5
    have hbb : (b.toList != b.toList) = false := by simp
    go_wp2_with fail
    go_ret
    exact ⟨rfl, HB5.out⟩
end Go.Proofs.YtleajpkdikcfpakDoor
