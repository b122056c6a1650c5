/- The contract of spec.SourceNew, and the law on SourceNew. -/
import Derived.Test.YtaeamienkfimjagFrm
namespace Go.Proofs.Ytaeamienkfimjag
open Go.Maps Go.RowKit Go.Deep
set_option maxHeartbeats 2000000 in
theorem snew_ (w : World) (size : Int) :
    Calls Try.prog 12 #[.int .i64 size] w fun e w' => e = .returned (.tuple #[.agg #[.int .i64 (newM size), .slice none 0 0, .int .i64 0], .bool (okS size [] 0)]) ∧ Below w.heap.size w w' := by
  have r0 : (w.alloc (.cells #[.int .i64 0, .slice none 0 0, .int .i64 0] 29)).heap[w.heap.size]? = some (.cells #[.int .i64 0, .slice none 0 0, .int .i64 0] 29 (0, 0)) := heap_alloc_new w _
  have y0 := c3_f r0 0
  have y1 := c3_f r0 1
  have y2 := c3_f r0 2
  clear r0
  have bad : okS size [] 0 = false → newM size = 0 := fun h => by unfold newM; rw [h]; rfl
  by_cases h1 : size < 1
  · have hb : okS size [] 0 = false := okS_far (by omega)
    have HN : Hid (newM size = 0) := bad hb
    have HO : Hid _ := hb
    clear hb bad
    go_enter Try.func12, Try.ntmps12
    go_wp2_with fail
    have hF := heap_alloc_new w (.cells #[.int .i64 0, .slice none 0 0, .int .i64 0] 29)
    try simp only [Exit.inBlock, Exit.then]
    refine bodyPost_ret (results_cell_tmp_row rfl _ _ w.heap.size 29 _ (0, 0) _ rfl hF Try.underlying29 rfl (by kernel_rfl)) rfl ?_
    exact ⟨by rw [HN.out, HO.out]; rfl, (Below.refl _ w).alloc (Nat.le_refl _) _⟩
  · by_cases h2 : 60000 < size
    · have hb : okS size [] 0 = false := okS_far (by omega)
      have HN : Hid (newM size = 0) := bad hb
      have HO : Hid _ := hb
      clear hb bad
      go_enter Try.func12, Try.ntmps12
      go_wp2_with fail
      have hF := heap_alloc_new w (.cells #[.int .i64 0, .slice none 0 0, .int .i64 0] 29)
      try simp only [Exit.inBlock, Exit.then]
      refine bodyPost_ret (results_cell_tmp_row rfl _ _ w.heap.size 29 _ (0, 0) _ rfl hF Try.underlying29 rfl (by kernel_rfl)) rfl ?_
      exact ⟨by rw [HN.out, HO.out]; rfl, (Below.refl _ w).alloc (Nat.le_refl _) _⟩
    · have hb : okS size [] 0 = true := okS_iff.2 ⟨by omega, by omega, by simp, by omega, by omega, fun q hq => (by cases hq), by simp⟩
      have HN : Hid (newM size = size) := by show newM size = size; unfold newM; rw [hb]; rfl
      have HO : Hid _ := hb
      clear hb bad
      go_enter Try.func12, Try.ntmps12
      go_wp2_with fail
      have hF := heap_alloc_new w (.cells #[.int .i64 size, .slice none 0 0, .int .i64 0] 29)
      try simp only [Exit.inBlock, Exit.then]
      refine bodyPost_ret (results_cell_tmp_row rfl _ _ w.heap.size 29 _ (0, 0) _ rfl hF Try.underlying29 rfl (by kernel_rfl)) rfl ?_
      exact ⟨by rw [HN.out, HO.out]; rfl, (Below.refl _ w).alloc (Nat.le_refl _) _⟩
set_option maxHeartbeats 1000000 in
theorem markNil (w : World) (k : Int) : Calls Try.prog 28 #[.slice none 0 0, .int .i64 k] w fun e w' => e = .returned (.int .i64 k) ∧ w' = w := by
  go_enter Try.func28, Try.ntmps28
  go_wp2_with fail
  refine wp_loop_rounds 1 ?_
  rw [rounds_succ]
  go_wp2_with fail
  go_ret
  exact ⟨rfl, rfl⟩
set_option maxHeartbeats 1000000 in
theorem heldNil (w : World) (k : Int) : Calls Try.prog 29 #[.slice none 0 0, .int .i64 k] w fun e w' => e = .returned (.int .i64 k) ∧ w' = w := by
  go_enter Try.func29, Try.ntmps29
  go_wp2_with fail
  refine wp_loop_rounds 1 ?_
  rw [rounds_succ]
  go_wp2_with fail
  go_ret
  exact ⟨rfl, rfl⟩
set_option maxHeartbeats 1000000 in
theorem markSNil (w : World) (a b k : Int) : Calls Try.prog 14 #[.agg #[.int .i64 a, .slice none 0 0, .int .i64 b], .int .i64 k] w fun e w' => e = .returned (.int .i64 k) ∧ Below w.heap.size w w' := by
  go_enter Try.func14, Try.ntmps14
  go_wp2_with fail
  refine (markNil _ k).mono ?_
  rintro e w1 ⟨rfl, rfl⟩
  go_wp2_with fail
  go_ret
  exact ⟨rfl, (Below.refl _ _).alloc (Nat.le_refl _) _⟩
set_option maxHeartbeats 1000000 in
theorem heldSNil (w : World) (a b k : Int) (hk : 0 ≤ k) : Calls Try.prog 15 #[.agg #[.int .i64 a, .slice none 0 0, .int .i64 b], .int .i64 k] w fun e w' => e = .returned (.int .i64 k) ∧ Below w.heap.size w w' := by
  go_enter Try.func15, Try.ntmps15
  go_wp2_with fail
  refine (heldNil _ k).mono ?_
  rintro e w1 ⟨rfl, rfl⟩
  go_wp2_with fail
  go_ret
  exact ⟨rfl, (Below.refl _ _).alloc (Nat.le_refl _) _⟩
theorem rdp_nil (w : World) : Rdp w (.slice none 0 0) [] := ⟨[], slp_nil _ _, trivial⟩
/-- A source that lies in a block of its own. -/
def At (w : World) (b : Nat) (size : Int) (v : Value) (f : Int) : Prop := w.heap[b]? = some (.cells #[.int .i64 size, v, .int .i64 f] 29 (0, 0))
theorem At.later {w w' : World} {b : Nat} {size : Int} {v : Value} {f : Int} (h : At w b size v f) (hb : Below w.heap.size w w') : At w' b size v f := (hb.block _ (lt_of_get h)).trans h
theorem At.alloc {w : World} {b : Nat} {size : Int} {v : Value} {f : Int} (h : At w b size v f) (o : Obj) : At (w.alloc o) b size v f := (Below.heap_alloc _ _ _ (lt_of_get h)).trans h
theorem At.new (w : World) (size : Int) (v : Value) (f : Int) : At (w.alloc (.cells #[.int .i64 size, v, .int .i64 f] 29)) w.heap.size size v f := heap_alloc_new w _
theorem Below.step {w0 w w' : World} (h : Below w0.heap.size w0 w) (h2 : Below w.heap.size w w') : Below w0.heap.size w0 w' := h.trans (h2.mono h.size)
set_option maxHeartbeats 4000000 in
theorem law_new (w : World) (size : Int) : Calls Try.prog 4 #[.int .i64 size] w fun e w' => e = .returned (.bool true) ∧ Below w.heap.size w w' := by
  have hs := fun w => snew_ w size
  have hi := fun w => inew_ w size
  generalize newM size = m at hs hi
  generalize okS size [] 0 = bb at hs hi
  have hbb : (bb != bb) = false := by cases bb <;> rfl
  go_enter Try.func4, Try.ntmps4
  go_wp2_with fail
  refine (hs _).mono ?_
  rintro e w1 ⟨rfl, hb1⟩
  go_wp2_with fail
  have a1 := At.new w1 m (.slice none 0 0) 0
  have hB2 : Below w.heap.size w (w1.alloc (.cells #[.int .i64 m, .slice none 0 0, .int .i64 0] 29)) := hb1.alloc hb1.size _
  generalize (w1.alloc (.cells #[.int .i64 m, .slice none 0 0, .int .i64 0] 29)) = w2 at *
  clear hb1
  generalize w1.heap.size = b1 at *
  refine (hi _).mono ?_
  rintro e w3 ⟨rfl, hb3⟩
  have a3 := (a1.later hb3).alloc (.cells #[.int .i64 m, .slice none 0 0, .int .i64 0] 29)
  have hB3 := Below.step hB2 hb3
  have hB4 : Below w.heap.size w (w3.alloc (.cells #[.int .i64 m, .slice none 0 0, .int .i64 0] 29)) := hB3.alloc hB3.size _
  have a4 := At.new w3 m (.slice none 0 0) 0
  clear a1 hB2 hb3
  have p0 := c3_0 a3
  have p1 := c3_1 a3
  have p2 := c3_2 a3
  have q0 := c3_0 a4
  have q1 := c3_1 a4
  have q2 := c3_2 a4
  go_wp2_with fail
  generalize (w3.alloc (.cells #[.int .i64 m, .slice none 0 0, .int .i64 0] 29)) = w4 at *
  generalize w3.heap.size = b3 at *
  clear p0 p1 p2 q0 q1 q2 hB3
  refine (eqS_ w4 m 0 (.slice none 0 0) (.slice none 0 0) [] (by simp) (fun q hq => by cases hq) (rdp_nil _) (rdp_nil _)).mono ?_
  rintro e w5 ⟨rfl, hb5⟩
  have a5 := a3.later hb5
  have a6 := a4.later hb5
  have hB5 := Below.step hB4 hb5
  clear a3 a4 hB4 hb5
  have p0 := c3_0 a6
  have p1 := c3_1 a6
  have p2 := c3_2 a6
  go_wp2_with fail
  clear p0 p1 p2
  refine (markSNil w5 m 0 1).mono ?_
  rintro e w6 ⟨rfl, hb6⟩
  have a7 := a5.later hb6
  have a8 := a6.later hb6
  have hB6 := Below.step hB5 hb6
  clear a5 a6 hB5 hb6
  have p0 := c3_0 a8
  have p1 := c3_1 a8
  have p2 := c3_2 a8
  go_wp2_with fail
  clear p0 p1 p2
  refine (heldSNil w6 m 0 1 (by omega)).mono ?_
  rintro e w7 ⟨rfl, hb7⟩
  have a9 := a7.later hb7
  have a10 := a8.later hb7
  have hB7 := Below.step hB6 hb7
  clear a7 a8 hB6 hb7
  go_wp2_with fail
  refine (hi _).mono ?_
  rintro e w8 ⟨rfl, hb8⟩
  have a11 := (a9.later hb8).alloc (.cells #[.int .i64 m, .slice none 0 0, .int .i64 0] 29)
  have a12 := (a10.later hb8).alloc (.cells #[.int .i64 m, .slice none 0 0, .int .i64 0] 29)
  have a13 := At.new w8 m (.slice none 0 0) 0
  have hB8 := Below.step hB7 hb8
  have hB9 : Below w.heap.size w (w8.alloc (.cells #[.int .i64 m, .slice none 0 0, .int .i64 0] 29)) := hB8.alloc hB8.size _
  clear a9 a10 hB7 hb8
  have p0 := c3_0 a11
  have p1 := c3_1 a11
  have p2 := c3_2 a11
  have q0 := c3_0 a13
  have q1 := c3_1 a13
  have q2 := c3_2 a13
  go_wp2_with fail
  generalize (w8.alloc (.cells #[.int .i64 m, .slice none 0 0, .int .i64 0] 29)) = w9 at *
  generalize w8.heap.size = b8 at *
  clear p0 p1 p2 q0 q1 q2 hB8
  refine (eqS_ w9 m 0 (.slice none 0 0) (.slice none 0 0) [] (by simp) (fun q hq => by cases hq) (rdp_nil _) (rdp_nil _)).mono ?_
  rintro e w10 ⟨rfl, hb10⟩
  have a14 := a12.later hb10
  have hB10 := Below.step hB9 hb10
  have p0 := c3_0 a14
  have p1 := c3_1 a14
  have p2 := c3_2 a14
  clear hB9 hb10 a11 a12 a13
  go_wp2_with fail
  clear p0 p1 p2
  refine (heldSNil w10 m 0 1 (by omega)).mono ?_
  rintro e w11 ⟨rfl, hb11⟩
  have hB11 := Below.step hB10 hb11
  clear hb11 hB10
  go_wp2_with fail
  go_ret
  exact ⟨rfl, hB11⟩
end Go.Proofs.Ytaeamienkfimjag
