/- The law on CurOpen, walked. -/
import Derived.Test.YtkdlakcmhdiojaaCuo
namespace Go.Proofs.Ytkdlakcmhdiojaa
open Go.ChangeShapes Go.WideShapes Go.ChangeAt Go.RowKit Go.Deep
theorem two_c {w : World} {c : Array Value} {t : TypeId} : (w.alloc (.cells c t)).heap.size = w.heap.size + 1 := by show (w.heap.push _).size = _; simp
set_option maxRecDepth 100000 in
set_option maxHeartbeats 4000000 in
theorem eqCu (s : ByteArray) (w : World) : Calls Try.prog 16 #[.agg (curV s), .agg (curV s)] w fun e w' => e = .returned (.bool true) ∧ Below w.heap.size w w' := by
  obtain ⟨V, hV⟩ : ∃ V, (w.alloc (.cells (curV s) 39)).alloc (.cells (curV s) 39) = V := ⟨_, rfl⟩
  have hB : Below w.heap.size w V := by rw [← hV]; exact (al_belowC w _).trans ((al_belowC _ _).mono (al_belowC w _).size)
  have h0 : V.heap[w.heap.size]? = some (.cells (curV s) 39 (0, 0)) := by rw [← hV]; exact ((al_belowC (w.alloc (.cells (curV s) 39)) _).block w.heap.size (by rw [two_c]; omega)).trans (heap_alloc_new w _)
  have h1 : V.heap[w.heap.size + 1]? = some (.cells (curV s) 39 (0, 0)) := by
    have := heap_alloc_new (w.alloc (.cells (curV s) 39)) (.cells (curV s) 39)
    rw [two_c, hV] at this
    exact this
  have HB := hidC hB
  have H0 := hidC h0
  have H1 := hidC h1
  have HV := hidC hV
  have cI : ∀ x, Calls Try.prog 32 #[.slice none 0 0, .slice none 0 0] x fun e w' => e = .returned (.bool true) ∧ Below x.heap.size x w' := fun x => eqIl_same _ _ [] x (il_nil x) (il_nil x) (by decide)
  have ts : (s.toList != s.toList) = false := by simp
  clear hB h0 h1 hV
  unfold curV at HV ⊢
  go_enter Try.func16, Try.ntmps16
  go_wp2_with fail
  rw [HV.out]
  refine (cI V).mono ?_
  rintro e w1 ⟨rfl, hb1⟩
  have g0 := (hb1.block _ (Array.getElem?_eq_some_iff.1 H0.out).1).trans H0.out
  have g1 := (hb1.block _ (Array.getElem?_eq_some_iff.1 H1.out).1).trans H1.out
  have G0 := hidC g0
  have G1 := hidC g1
  obtain ⟨x0, x1, x2, x3, x4⟩ := cv_at g0
  obtain ⟨y0, y1, y2, y3, y4⟩ := cv_at g1
  have HB1 := hidC (HB.out.trans (hb1.mono HB.out.size))
  clear hb1 g0 g1 cI H0 H1
  go_wp2_with fail
  refine (eqMk_nil w1).mono ?_
  rintro e w2 ⟨rfl, hb2⟩
  have g0 := (hb2.block _ (Array.getElem?_eq_some_iff.1 G0.out).1).trans G0.out
  have g1 := (hb2.block _ (Array.getElem?_eq_some_iff.1 G1.out).1).trans G1.out
  obtain ⟨x0, x1, x2, x3, x4⟩ := cv_at g0
  obtain ⟨y0, y1, y2, y3, y4⟩ := cv_at g1
  have HB2 := hidC (HB1.out.trans (hb2.mono HB1.out.size))
  clear hb2 g0 g1
  go_wp2_with fail
  go_ret
  exact ⟨rfl, HB2.out⟩
set_option maxRecDepth 100000 in
set_option maxHeartbeats 4000000 in
theorem markCu (s : ByteArray) (w : World) : Calls Try.prog 17 #[.agg (curV s), .int .i64 1] w fun e w' => e = .returned (.int .i64 1) ∧ Below w.heap.size w w' := by
  obtain ⟨V, hV⟩ : ∃ V, w.alloc (.cells (curV s) 39) = V := ⟨_, rfl⟩
  have hB : Below w.heap.size w V := by rw [← hV]; exact al_belowC w _
  have h0 : V.heap[w.heap.size]? = some (.cells (curV s) 39 (0, 0)) := by rw [← hV]; exact heap_alloc_new w _
  have HB := hidC hB
  have H0 := hidC h0
  have HV := hidC hV
  have cM : Calls Try.prog 36 #[.slice none 0 0, .int .i64 1] V fun e w' => e = .returned (.int .i64 ((1 + 0 : Nat) : Int)) ∧ w'.ownsRow V.heap.size 3 1 (.slice none 0 0) 0 (ilV (mkN 1 0)) ∧ V.grownBy w' (Value.slice none 0 0).ownBlock := markX_any V V.heap.size (.slice none 0 0) 0 [] 1 ⟨rfl, .inl ⟨rfl, rfl⟩⟩ (by decide) (by decide)
  clear hB h0 hV
  unfold curV at HV ⊢
  go_enter Try.func17, Try.ntmps17
  go_wp2_with fail
  rw [HV.out]
  refine cM.mono ?_
  rintro e w1 ⟨rfl, _, hg1⟩
  have hb1 : Below V.heap.size V w1 := below_grown hg1
  have g0 := (hb1.block _ (Array.getElem?_eq_some_iff.1 H0.out).1).trans H0.out
  obtain ⟨x0, x1, x2, x3, x4⟩ := cv_at g0
  have HB1 := hidC (HB.out.trans (hb1.mono HB.out.size))
  clear hb1 g0 cM hg1
  go_wp2_with fail
  refine (markMk_nil w1 _).mono ?_
  rintro e w2 ⟨rfl, hb2⟩
  have HB2 := hidC (HB1.out.trans (hb2.mono HB1.out.size))
  clear hb2
  go_wp2_with fail
  go_ret
  exact ⟨rfl, HB2.out⟩
set_option maxRecDepth 100000 in
set_option maxHeartbeats 4000000 in
theorem heldCu (s : ByteArray) (w : World) : Calls Try.prog 18 #[.agg (curV s), .int .i64 1] w fun e w' => e = .returned (.int .i64 1) ∧ Below w.heap.size w w' := by
  obtain ⟨V, hV⟩ : ∃ V, w.alloc (.cells (curV s) 39) = V := ⟨_, rfl⟩
  have hB : Below w.heap.size w V := by rw [← hV]; exact al_belowC w _
  have h0 : V.heap[w.heap.size]? = some (.cells (curV s) 39 (0, 0)) := by rw [← hV]; exact heap_alloc_new w _
  have HB := hidC hB
  have H0 := hidC h0
  have HV := hidC hV
  have cM : Calls Try.prog 38 #[.slice none 0 0, .int .i64 1] V fun e w' => e = .returned (.int .i64 ((1 + 0 : Nat) : Int)) ∧ Below V.heap.size V w' := heldX_any V (.slice none 0 0) 0 1 (il_nil V) (by decide) (by decide)
  clear hB h0 hV
  unfold curV at HV ⊢
  go_enter Try.func18, Try.ntmps18
  go_wp2_with fail
  rw [HV.out]
  refine cM.mono ?_
  rintro e w1 ⟨rfl, hb1⟩
  have g0 := (hb1.block _ (Array.getElem?_eq_some_iff.1 H0.out).1).trans H0.out
  obtain ⟨x0, x1, x2, x3, x4⟩ := cv_at g0
  have HB1 := hidC (HB.out.trans (hb1.mono HB.out.size))
  clear hb1 g0 cM
  go_wp2_with fail
  refine (heldMk_nil w1 _).mono ?_
  rintro e w2 ⟨rfl, hb2⟩
  have HB2 := hidC (HB1.out.trans (hb2.mono HB1.out.size))
  clear hb2
  go_wp2_with fail
  go_ret
  exact ⟨rfl, HB2.out⟩
set_option maxRecDepth 100000 in
set_option maxHeartbeats 4000000 in
theorem law_curOpen (s : ByteArray) (_ : s.size ≤ maxLen) (w : World) : Calls Try.prog 4 #[.string s] w fun e w' => e = .returned (.bool true) ∧ Below w.heap.size w w' := by
  by_cases hl : 1048576 < s.size
  · have hlI : (s.size : Int) > 1048576 := by omega
    clear hl
    go_enter Try.func4, Try.ntmps4
    go_wp2_with fail
    go_ret
    exact ⟨rfl, Below.refl _ _⟩
  have hlI : ¬ (s.size : Int) > 1048576 := by omega
  clear hl
  go_enter Try.func4, Try.ntmps4
  go_wp2_with fail
  refine (spec_curOpen s w).mono ?_
  rintro e w1 ⟨rfl, hb1⟩
  obtain ⟨V, hV⟩ : ∃ V, w1.alloc (.cells (curV s) 39) = V := ⟨_, rfl⟩
  have hB1 := hb1.trans ((al_belowC w1 (.cells (curV s) 39)).mono hb1.size)
  rw [hV] at hB1
  have h0 : V.heap[w1.heap.size]? = some (.cells (curV s) 39 (0, 0)) := by rw [← hV]; exact heap_alloc_new w1 _
  have HB1 := hidC hB1
  have H0 := hidC h0
  have HV := hidC hV
  clear hb1 hB1 h0 hV
  unfold curV at HV ⊢
  go_wp2_with fail
  rw [HV.out]
  refine (impl_curOpen s V).mono ?_
  rintro e w2 ⟨rfl, hb2⟩
  obtain ⟨X, hX⟩ : ∃ X, w2.alloc (.cells (curV s) 39) = X := ⟨_, rfl⟩
  have hB2 := hb2.trans ((al_belowC w2 (.cells (curV s) 39)).mono hb2.size)
  rw [hX] at hB2
  have h1 : X.heap[w2.heap.size]? = some (.cells (curV s) 39 (0, 0)) := by rw [← hX]; exact heap_alloc_new w2 _
  have g0 := (hB2.block _ (Array.getElem?_eq_some_iff.1 H0.out).1).trans H0.out
  have HB2 := hidC (HB1.out.trans (hB2.mono HB1.out.size))
  have H1 := hidC h1
  have G0 := hidC g0
  have HX := hidC hX
  obtain ⟨x0, x1, x2, x3, x4⟩ := cv_at g0
  rw [← hX] at x0 x1 x2 x3 x4
  have cE := eqCu s X
  clear hb2 hB2 h1 g0 hX H0
  unfold curV at HX cE x0 x1 x2 x3 x4 ⊢
  go_wp2_with fail
  rw [HX.out]
  refine cE.mono ?_
  rintro e w3 ⟨rfl, hb3⟩
  have g0 := (hb3.block _ (Array.getElem?_eq_some_iff.1 G0.out).1).trans G0.out
  have g1 := (hb3.block _ (Array.getElem?_eq_some_iff.1 H1.out).1).trans H1.out
  have HB3 := hidC (HB2.out.trans (hb3.mono HB2.out.size))
  have K0 := hidC g0
  have K1 := hidC g1
  obtain ⟨y0, y1, y2, y3, y4⟩ := cv_at g1
  have cM := markCu s w3
  clear hb3 g0 g1 cE x0 x1 x2 x3 x4 G0 H1 HX
  unfold curV at cM
  go_wp2_with fail
  refine cM.mono ?_
  rintro e w4 ⟨rfl, hb4⟩
  have g0 := (hb4.block _ (Array.getElem?_eq_some_iff.1 K0.out).1).trans K0.out
  have g1 := (hb4.block _ (Array.getElem?_eq_some_iff.1 K1.out).1).trans K1.out
  have HB4 := hidC (HB3.out.trans (hb4.mono HB3.out.size))
  have L0 := hidC g0
  have L1 := hidC g1
  obtain ⟨y0, y1, y2, y3, y4⟩ := cv_at g1
  have cH := heldCu s w4
  clear hb4 g0 g1 cM K0 K1
  unfold curV at cH
  go_wp2_with fail
  refine cH.mono ?_
  rintro e w5 ⟨rfl, hb5⟩
  have g0 := (hb5.block _ (Array.getElem?_eq_some_iff.1 L0.out).1).trans L0.out
  have g1 := (hb5.block _ (Array.getElem?_eq_some_iff.1 L1.out).1).trans L1.out
  have HB5 := hidC (HB4.out.trans (hb5.mono HB4.out.size))
  have K0 := hidC g0
  have K1 := hidC g1
  clear hb5 g0 g1 cH L0 L1
  go_wp2_with fail
  refine (impl_curOpen s w5).mono ?_
  rintro e w6 ⟨rfl, hb6⟩
  obtain ⟨Y, hY⟩ : ∃ Y, w6.alloc (.cells (curV s) 39) = Y := ⟨_, rfl⟩
  have hB6 := hb6.trans ((al_belowC w6 (.cells (curV s) 39)).mono hb6.size)
  rw [hY] at hB6
  have g0 := (hB6.block _ (Array.getElem?_eq_some_iff.1 K0.out).1).trans K0.out
  have g1 := (hB6.block _ (Array.getElem?_eq_some_iff.1 K1.out).1).trans K1.out
  have HB6 := hidC (HB5.out.trans (hB6.mono HB5.out.size))
  have L1 := hidC g1
  have HY := hidC hY
  obtain ⟨x0, x1, x2, x3, x4⟩ := cv_at g0
  rw [← hY] at x0 x1 x2 x3 x4
  have cE := eqCu s Y
  clear hb6 hB6 g0 g1 hY K0 K1
  unfold curV at HY cE x0 x1 x2 x3 x4 ⊢
  go_wp2_with fail
  rw [HY.out]
  refine cE.mono ?_
  rintro e w7 ⟨rfl, hb7⟩
  have g1 := (hb7.block _ (Array.getElem?_eq_some_iff.1 L1.out).1).trans L1.out
  have HB7 := hidC (HB6.out.trans (hb7.mono HB6.out.size))
  obtain ⟨y0, y1, y2, y3, y4⟩ := cv_at g1
  have cH := heldCu s w7
  clear hb7 g1 cE x0 x1 x2 x3 x4 HY
  unfold curV at cH
  go_wp2_with fail
  refine cH.mono ?_
  rintro e w8 ⟨rfl, hb8⟩
  have HB8 := hidC (HB7.out.trans (hb8.mono HB7.out.size))
  clear hb8 cH
  go_wp2_with fail
  go_ret
  exact ⟨rfl, HB8.out⟩
end Go.Proofs.Ytkdlakcmhdiojaa
