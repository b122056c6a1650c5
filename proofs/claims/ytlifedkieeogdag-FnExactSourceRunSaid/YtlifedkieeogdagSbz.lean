/- The whole contract of spec.SourceByte: at every source, right or not. -/
import Derived.Test.YtlifedkieeogdagSbw
import Derived.Test.YtlifedkieeogdagMk2
namespace Go.Proofs.Ytlifedkieeogdag
open Go.Maps Go.RowKit Go.Deep
theorem RdL.rdp {lo : Nat} {w : World} {v : Value} {qs : List Pg} (h : RdL lo w v qs) : Rdp w v qs := h w (fun _ _ _ => rfl) (Nat.le_refl _)
set_option maxHeartbeats 4000000 in
theorem sbyte_ (w : World) (size f at_ : Int) (v : Value) (qs : List Pg) (vb : Value) (zs : List Int) (hR : Rdp w v qs) (hS : Sl w.heap.size w vb zs) (hz : zs.length ≤ 1048576) (hoz : okz zs) (hod : okd qs) :
    Calls Try.prog 18 #[.agg #[.int .i64 size, v, .int .i64 f], vb, .int .i64 at_] w fun e w' => SbPost (byteM size f qs zs at_) w e w' := by
  by_cases hg : okS size qs f = true ∧ 0 ≤ at_ ∧ at_ ≤ 60000
  · have hM : byteM size f qs zs at_ = ((size, (readM size f qs zs at_).1.2, (readM size f qs zs at_).1.1), (readM size f qs zs at_).2) := by unfold byteM; rw [if_pos hg]
    rw [hM]
    exact sbyte_ok w size f at_ v qs vb zs hR hS hz (okS_iff.1 hg.1) hoz hod hg.2.1 hg.2.2
  · obtain ⟨v0, v2, rfl⟩ := hR.sl
    have hW2 : Below w.heap.size w ((w.alloc (.cells #[.int .i64 size, .slice v0 qs.length v2, .int .i64 f] 29)).alloc (.cells #[.int .i64 0, .slice none 0 0, .int .i64 0] 29)) := ((Below.refl _ w).alloc (Nat.le_refl _) _).alloc (by simp) _
    have hok2 := sokR _ size f _ qs (hR.later hW2)
    have fact : ∀ w1, Below ((w.alloc (.cells #[.int .i64 size, .slice v0 qs.length v2, .int .i64 f] 29)).alloc (.cells #[.int .i64 0, .slice none 0 0, .int .i64 0] 29)).heap.size ((w.alloc (.cells #[.int .i64 size, .slice v0 qs.length v2, .int .i64 f] 29)).alloc (.cells #[.int .i64 0, .slice none 0 0, .int .i64 0] 29)) w1 →
        w1.heap[w.heap.size + 1]? = some (.cells #[.int .i64 0, .slice none 0 0, .int .i64 0] 29 (0, 0)) ∧ Below w.heap.size w w1 := by
      intro w1 hb1
      refine ⟨?_, hW2.trans (hb1.mono (by simp; omega))⟩
      rw [hb1.block _ (by simp)]
      have := heap_alloc_new (w.alloc (.cells #[.int .i64 size, .slice v0 qs.length v2, .int .i64 f] 29)) (.cells #[.int .i64 0, .slice none 0 0, .int .i64 0] 29)
      simpa using this
    have FACT : Hid (∀ w1, Below ((w.alloc (.cells #[.int .i64 size, .slice v0 qs.length v2, .int .i64 f] 29)).alloc (.cells #[.int .i64 0, .slice none 0 0, .int .i64 0] 29)).heap.size ((w.alloc (.cells #[.int .i64 size, .slice v0 qs.length v2, .int .i64 f] 29)).alloc (.cells #[.int .i64 0, .slice none 0 0, .int .i64 0] 29)) w1 →
        w1.heap[w.heap.size + 1]? = some (.cells #[.int .i64 0, .slice none 0 0, .int .i64 0] 29 (0, 0)) ∧ Below w.heap.size w w1) := fact
    have HM : Hid (byteM size f qs zs at_ = ((0, [], 0), -1)) := by show byteM size f qs zs at_ = ((0, [], 0), -1); unfold byteM; rw [if_neg hg]
    clear fact hW2 hR hS hz hoz hod
    generalize okS size qs f = bb at *
    have key3 : bb = false ∨ (bb = true ∧ at_ < 0) ∨ (bb = true ∧ ¬ at_ < 0 ∧ 60000 < at_) := by
      cases bb
      · exact .inl rfl
      · by_cases c : at_ < 0
        · exact .inr (.inl ⟨rfl, c⟩)
        · exact .inr (.inr ⟨rfl, c, by simp at hg; omega⟩)
    clear hg
    rcases key3 with rfl | ⟨rfl, c1⟩ | ⟨rfl, c1, c2⟩
    all_goals
      go_enter Try.func18, Try.ntmps18
      go_wp2_with fail
      refine hok2.mono ?_
      rintro e w1 ⟨rfl, hb1⟩
      obtain ⟨r0, hB⟩ := FACT.out w1 hb1
      have z0 := c3_0 r0
      have z1 := c3_1 r0
      have z2 := c3_2 r0
      have y0 := c3_f r0 0
      have y1 := c3_f r0 1
      have y2 := c3_f r0 2
      clear hok2 hb1 FACT
      go_wp2_with fail
      have hF := c3_setAll r0 (.int .i64 0) (.slice none 0 0) (.int .i64 0)
      try simp only [Exit.inBlock, Exit.then]
      refine bodyPost_ret (results_cell_tmp_row rfl _ _ (w.heap.size + 1) 29 _ (0, 0) _ rfl hF Try.underlying29 rfl (by kernel_rfl)) rfl ?_
      rw [HM.out]
      exact ⟨⟨_, rfl, ⟨_, _, _, rfl⟩, fun w'' _ _ => (own_nil 0 w'').rdp⟩, ((hB.setCell (by simp) _).setCell (by simp) _).setCell (by simp) _⟩
end Go.Proofs.Ytlifedkieeogdag
