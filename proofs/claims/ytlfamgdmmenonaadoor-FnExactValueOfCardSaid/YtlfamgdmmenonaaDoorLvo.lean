/- The law on ValueOf. -/
import Derived.Test.YtlfamgdmmenonaaDoorVso
namespace Go.Proofs.YtlfamgdmmenonaaDoor
open Go.ChangeShapes Go.WideShapes Go.ChangeAt Go.RowKit
theorem eqVal_same (k n : Int) (b : Bool) (s : ByteArray) (w : World) :
    Calls Tryd.prog 15 #[.agg #[.int .i64 k, .int .i64 n, .bool b, .string s], .agg #[.int .i64 k, .int .i64 n, .bool b, .string s]] w fun r w' => r = .returned (.bool true) ∧ Below w.heap.size w w' := by
  have h1 : (k != k) = false := by simp
  have h2 : (n != n) = false := by simp
  have h3 : (b != b) = false := by simp
  have h4 : (s.toList != s.toList) = false := by simp
  have HB : Hid (Below w.heap.size w ((w.alloc (.cells #[.int .i64 k, .int .i64 n, .bool b, .string s] 28)).alloc (.cells #[.int .i64 k, .int .i64 n, .bool b, .string s] 28))) := ((Below.refl _ w).alloc (Nat.le_refl _) _).alloc (by simp) _
  go_enter Tryd.func15, Tryd.ntmps15
  go_wp2_with fail
  go_ret
  exact ⟨rfl, HB.out⟩
set_option maxHeartbeats 4000000 in
theorem law_valueOfV (e : Ev) (hw : wideE e) (hf : wfE e) (w : World) (hv : NumV w) :
    Calls Tryd.prog 5 #[.agg e.row] w fun r w' => r = .returned (.bool true) ∧ Below w.heap.size w w' := by
  have cZ : Hid (∀ w, Calls Tryd.prog 12 #[.agg e.row, .int .i64 1048576] w fun r w' => r = .returned (.int .i64 (szE e 1048576)) ∧ Below w.heap.size w w') := fun w => szE_any e 1048576 w (by omega) (by omega) hw
  have cT : Hid (∀ w, Calls Tryd.prog 14 #[.agg e.row] w fun r w' => r = .returned (.agg e.row) ∧ Below w.heap.size w w') := fun w => toE_any e w
  have hz := szE_cases e 1048576
  generalize szE e 1048576 = z at *
  have C0 : Hid (0 ≤ z → ∀ w, Calls Tryd.prog 13 #[.agg e.row] w fun r w' => r = .returned (.agg (vaV e).row) ∧ Below w.heap.size w w') := fun h w => spec_valueOf e w (by unfold Ev.tot; omega)
  have C1 : Hid (0 ≤ z → ∀ w, NumV w → Calls Tryd.prog 9 #[.agg e.row] w fun r w' => r = .returned (.agg (vaV e).row) ∧ Below w.heap.size w w') := fun h w hv => valueOf_any e w (by unfold Ev.tot; omega) hf hv
  have HV : Hid (NumV w) := hv
  clear hv
  generalize vaV e = v at *
  obtain ⟨kind, style, flag, text, anchor, tag, at_, code⟩ := e
  obtain ⟨k0, n0, b0, s0⟩ := v
  obtain ⟨r0, r1, r2, r3, r4, r5, r6, r7, hr⟩ : ∃ r0 r1 r2 r3 r4 r5 r6 r7, Ev.row ⟨kind, style, flag, text, anchor, tag, at_, code⟩ = #[.int .i64 r0, .int .i64 r1, .bool r2, .string r3, .string r4, .string r5, .int .i64 r6, .int .i64 r7] := ⟨_, _, _, _, _, _, _, _, rfl⟩
  rw [hr] at cZ cT C0 C1 ⊢
  clear hr
  by_cases hneg : z < 0
  · clear hz C0 C1 cT hw hf
    go_enter Tryd.func5, Tryd.ntmps5
    go_wp2_with fail
    refine (cZ.out _).mono ?_
    rintro e w1 ⟨rfl, hb1⟩
    clear cZ
    go_wp2_with fail
    go_ret
    exact ⟨rfl, ((Below.refl _ w).alloc (Nat.le_refl _) _).trans (hb1.mono (by simp))⟩
  · have c0 : Hid (∀ w, Calls Tryd.prog 13 #[.agg #[.int .i64 r0, .int .i64 r1, .bool r2, .string r3, .string r4, .string r5, .int .i64 r6, .int .i64 r7]] w fun r w' => r = .returned (.agg #[.int .i64 k0, .int .i64 n0, .bool b0, .string s0]) ∧ Below w.heap.size w w') := C0.out (by omega)
    have c1 : Hid (∀ w, NumV w → Calls Tryd.prog 9 #[.agg #[.int .i64 r0, .int .i64 r1, .bool r2, .string r3, .string r4, .string r5, .int .i64 r6, .int .i64 r7]] w fun r w' => r = .returned (.agg #[.int .i64 k0, .int .i64 n0, .bool b0, .string s0]) ∧ Below w.heap.size w w') := C1.out (by omega)
    clear hz C0 C1 hw hf
    have HA : Hid (Below w.heap.size w (w.alloc (.cells #[.int .i64 r0, .int .i64 r1, .bool r2, .string r3, .string r4, .string r5, .int .i64 r6, .int .i64 r7] 35))) := (Below.refl _ w).alloc (Nat.le_refl _) _
    have HBLK : Hid ((w.alloc (.cells #[.int .i64 r0, .int .i64 r1, .bool r2, .string r3, .string r4, .string r5, .int .i64 r6, .int .i64 r7] 35)).heap[w.heap.size]? = some (.cells #[.int .i64 r0, .int .i64 r1, .bool r2, .string r3, .string r4, .string r5, .int .i64 r6, .int .i64 r7] 35 (0, 0))) := heap_alloc_new w _
    have hlt : Hid (w.heap.size < (w.alloc (.cells #[.int .i64 r0, .int .i64 r1, .bool r2, .string r3, .string r4, .string r5, .int .i64 r6, .int .i64 r7] 35)).heap.size) := by show w.heap.size < (w.heap.push _).size; simp
    go_enter Tryd.func5, Tryd.ntmps5
    go_wp2_with fail
    obtain ⟨V, hV⟩ : ∃ V, w.alloc (.cells #[.int .i64 r0, .int .i64 r1, .bool r2, .string r3, .string r4, .string r5, .int .i64 r6, .int .i64 r7] 35) = V := ⟨_, rfl⟩
    rw [hV] at HA HBLK hlt ⊢
    clear hV
    refine (cZ.out _).mono ?_
    rintro e w1 ⟨rfl, hb1⟩
    clear cZ
    have at1 := ev_at ((hb1.block _ hlt.out).trans HBLK.out)
    obtain ⟨a0, a1, a2, a3, a4, a5, a6, a7⟩ := at1
    have HB1 : Hid (Below V.heap.size V w1) := hb1
    clear hb1
    go_wp2_with fail
    refine (cT.out _).mono ?_
    rintro e w2 ⟨rfl, hb2⟩
    clear a0 a1 a2 a3 a4 a5 a6 a7
    go_wp2_with fail
    refine (c0.out _).mono ?_
    rintro e w3 ⟨rfl, hb3⟩
    clear c0
    have HB3 : Hid (Below V.heap.size V w3) := by
      have h2 := HB1.out.trans (hb2.mono HB1.out.size)
      exact h2.trans (hb3.mono h2.size)
    clear hb2 hb3 HB1
    obtain ⟨W3, hW3⟩ : ∃ W3, w3.alloc (.cells #[.int .i64 k0, .int .i64 n0, .bool b0, .string s0] 28) = W3 := ⟨_, rfl⟩
    have HC3 : Hid (Below V.heap.size V W3) := by show Below _ _ _; rw [← hW3]; exact HB3.out.alloc HB3.out.size _
    have P3 : Hid (W3.heap[w3.heap.size]? = some (.cells #[.int .i64 k0, .int .i64 n0, .bool b0, .string s0] 28 (0, 0))) := by show _ = _; rw [← hW3]; exact heap_alloc_new w3 _
    have S3 : Hid (w3.heap.size < W3.heap.size) := by show _ < _; rw [← hW3]; show w3.heap.size < (w3.heap.push _).size; simp
    subst hW3
    have at3 := ev_at ((HC3.out.block _ hlt.out).trans HBLK.out)
    obtain ⟨a0, a1, a2, a3, a4, a5, a6, a7⟩ := at3
    clear HB3
    go_wp2_with fail
    refine (cT.out _).mono ?_
    rintro e w4 ⟨rfl, hb4⟩
    clear cT a0 a1 a2 a3 a4 a5 a6 a7
    have HC4 : Hid (Below V.heap.size V w4) := HC3.out.trans (hb4.mono HC3.out.size)
    have P4 : Hid (w4.heap[w3.heap.size]? = some (.cells #[.int .i64 k0, .int .i64 n0, .bool b0, .string s0] 28 (0, 0))) := (hb4.block _ S3.out).trans P3.out
    have S4 : Hid (w3.heap.size < w4.heap.size) := Nat.lt_of_lt_of_le S3.out hb4.size
    clear hb4 HC3 P3 S3
    go_wp2_with fail
    refine (c1.out _ (HV.out.later (HA.out.trans (HC4.out.mono HA.out.size)))).mono ?_
    rintro e w5 ⟨rfl, hb5⟩
    clear c1
    have HC5 : Hid (Below w.heap.size w w5) := HA.out.trans ((HC4.out.trans (hb5.mono HC4.out.size)).mono HA.out.size)
    have P5 : Hid (w5.heap[w3.heap.size]? = some (.cells #[.int .i64 k0, .int .i64 n0, .bool b0, .string s0] 28 (0, 0))) := (hb5.block _ S4.out).trans P4.out
    have S5 : Hid (w3.heap.size < w5.heap.size) := Nat.lt_of_lt_of_le S4.out hb5.size
    clear hb5 HC4 P4 S4
    obtain ⟨W5, hW5⟩ : ∃ W5, w5.alloc (.cells #[.int .i64 k0, .int .i64 n0, .bool b0, .string s0] 28) = W5 := ⟨_, rfl⟩
    have HC6 : Hid (Below w.heap.size w W5) := by show Below _ _ _; rw [← hW5]; exact HC5.out.alloc HC5.out.size _
    have Q5 : W5.heap[w5.heap.size]? = some (.cells #[.int .i64 k0, .int .i64 n0, .bool b0, .string s0] 28 (0, 0)) := by rw [← hW5]; exact heap_alloc_new w5 _
    have Q3 : W5.heap[w3.heap.size]? = some (.cells #[.int .i64 k0, .int .i64 n0, .bool b0, .string s0] 28 (0, 0)) := by
      rw [← hW5]
      show (w5.heap.push _)[w3.heap.size]? = _
      rw [Array.getElem?_push, if_neg (by have := S5.out; omega)]
      exact P5.out
    obtain ⟨x0, x1, x2, x3⟩ : _ ∧ _ ∧ _ ∧ _ := ⟨v4_0 Q5, v4_1 Q5, v4_2 Q5, v4_3 Q5⟩
    obtain ⟨y0, y1, y2, y3⟩ : _ ∧ _ ∧ _ ∧ _ := ⟨v4_0 Q3, v4_1 Q3, v4_2 Q3, v4_3 Q3⟩
    clear Q5 Q3 P5 S5 HC5
    subst hW5
    go_wp2_with fail
    refine (eqVal_same k0 n0 b0 s0 _).mono ?_
    rintro e w6 ⟨rfl, hb6⟩
    go_wp2_with fail
    go_ret
    exact ⟨rfl, HC6.out.trans (hb6.mono HC6.out.size)⟩
end Go.Proofs.YtlfamgdmmenonaaDoor
