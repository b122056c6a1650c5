/- The contracts of impl.EndOf and impl.UpOf. -/
import Derived.Test.YtepodbjdicnjoaaMin
import Derived.Test.YtepodbjdicnjoaaBwr
namespace Go.Proofs.Ytepodbjdicnjoaa
open Go.ChangeShapes Go.WideShapes Go.ChangeAt Go.RowKit
theorem al_belowN (w : World) (o : Obj) : Below w.heap.size w (w.alloc o) := (Below.refl _ w).alloc (Nat.le_refl _) _
theorem al_new3 {w : World} {x y z : Value} : (w.alloc (.cells #[x, y, z] 58)).cell? ⟨w.heap.size, 0, none⟩ = some x ∧ (w.alloc (.cells #[x, y, z] 58)).cell? ⟨w.heap.size, 1, none⟩ = some y ∧ (w.alloc (.cells #[x, y, z] 58)).cell? ⟨w.heap.size, 2, none⟩ = some z :=
  ⟨Lib.cell_of_heap (heap_alloc_new w _) 0, Lib.cell_of_heap (heap_alloc_new w _) 1, Lib.cell_of_heap (heap_alloc_new w _) 2⟩
def FdAt (b : Nat) (i f : Int) (w : World) : Prop := w.heap[b]? = some (.cells #[.int .i64 i, .int .i64 f] 42 (0, 0))
section
variable {b : Nat} {i f : Int} {w w' : World}
theorem FdAt.lt (h : FdAt b i f w) : b < w.heap.size := (Array.getElem?_eq_some_iff.1 h).1
theorem FdAt.c0 (h : FdAt b i f w) : w.cell? ⟨b, 0, none⟩ = some (.int .i64 i) := by rw [Lib.cell_of_heap h]; rfl
theorem FdAt.c1 (h : FdAt b i f w) : w.cell? ⟨b, 1, none⟩ = some (.int .i64 f) := by rw [Lib.cell_of_heap h]; rfl
theorem FdAt.fz (h : FdAt b i f w) (j : Nat) : w.frozen? ⟨b, j, none⟩ = false := Lib.frozen_of_heap h j
theorem FdAt.same (h : FdAt b i f w) (hb : w'.heap[b]? = w.heap[b]?) : FdAt b i f w' := hb.trans h
theorem FdAt.set1 (h : FdAt b i f w) (x : Int) : FdAt b i x (w.setCell ⟨b, 1, none⟩ (.int .i64 x)) := by
  unfold FdAt at *
  simp [World.setCell, Array.getElem?_modify, h]
end
/-- The finder, and that all below it is as it was. -/
def FdI (b : Nat) (i : Int) (w0 : World) (f : Int) (w : World) : Prop := FdAt b i f w ∧ Below b w0 w
theorem FdI.stays {b : Nat} {i f : Int} {w0 w w' : World} (h : FdI b i w0 f w) (hb : Below w.heap.size w w') : FdI b i w0 f w' := ⟨h.1.same (hb.block b h.1.lt), h.2.trans (hb.mono (Nat.le_of_lt h.1.lt))⟩
set_option maxHeartbeats 4000000 in
theorem takeEnd_any (b : Nat) (i f : Int) (n : Sp) (w0 w : World) (hI : FdI b i w0 f w) :
    Calls Try.prog 36 #[.pointer (some ⟨b, 0, none⟩), n.val] w fun e w' => e = .returned (.tuple #[]) ∧ FdI b i w0 (fEnd i f n) w' ∧ KeepS w w' := by
  obtain ⟨W, hW⟩ : ∃ W, w.alloc (.cells #[.int .i64 (n.at_ : Int), .int .i64 n.end_, .int .i64 n.up] 58) = W := ⟨_, rfl⟩
  have hBW : Below w.heap.size w W := by rw [← hW]; exact al_belowN w _
  obtain ⟨u0, u1, u2⟩ : W.cell? ⟨w.heap.size, 0, none⟩ = some (.int .i64 (n.at_ : Int)) ∧ W.cell? ⟨w.heap.size, 1, none⟩ = some (.int .i64 n.end_) ∧ W.cell? ⟨w.heap.size, 2, none⟩ = some (.int .i64 n.up) := by rw [← hW]; exact al_new3
  have hIW := hI.stays hBW
  have HI : Hid (FdI b i w0 f W) := hIW
  have HK : Hid (KeepS w W) := KeepS.of hBW
  have c0 := hIW.1.c0
  have c1 := hIW.1.c1
  have f1 := hIW.1.fz 1
  have nb : w.heap.size ≠ b := by have := hI.1.lt; omega
  have HW : Hid (w.alloc (.cells #[.int .i64 (n.at_ : Int), .int .i64 n.end_, .int .i64 n.up] 58) = W) := hW
  unfold Sp.val
  by_cases h : (n.at_ : Int) = i
  · have tt : ((n.at_ : Int) == i) = true := by rw [beq_iff_eq]; exact h
    have hF : fEnd i f n = n.end_ := by unfold fEnd; rw [if_pos h]
    have HF : Hid (fEnd i f n = n.end_) := hF
    clear hI hIW hBW hW h hF
    go_enter Try.func36, Try.ntmps36
    go_wp2_with fail
    rw [HW.out]
    go_wp2_with fail
    go_quiet (fail)
    have HQ : Hid (FdI b i w0 (fEnd i f n) ((W.drewN nq).setCell ⟨b, 1, none⟩ (.int .i64 n.end_)) ∧ KeepS w ((W.drewN nq).setCell ⟨b, 1, none⟩ (.int .i64 n.end_))) := by
      have hI2 := HI.out.stays (below_drewN W nq)
      rw [HF.out]
      exact ⟨⟨hI2.1.set1 _, hI2.2.trans (below_set _)⟩, (HK.out.trans (KeepS.of (below_drewN W nq))).set hI2.1 (by decide) _⟩
    go_wp2_with fail
    go_end0
    exact ⟨rfl, HQ.out⟩
  · have tt : ((n.at_ : Int) == i) = false := by rw [beq_eq_false_iff_ne]; exact h
    have hF : fEnd i f n = f := by unfold fEnd; rw [if_neg h]
    rw [hF]
    clear hI hIW hBW hW h hF
    go_enter Try.func36, Try.ntmps36
    go_wp2_with fail
    rw [HW.out]
    go_wp2_with fail
    go_quiet (fail)
    have HQ : Hid (FdI b i w0 f (W.drewN nq) ∧ KeepS w (W.drewN nq)) := ⟨HI.out.stays (below_drewN W nq), HK.out.trans (KeepS.of (below_drewN W nq))⟩
    go_wp2_with fail
    go_end0
    exact ⟨rfl, HQ.out⟩
set_option maxHeartbeats 4000000 in
theorem ahead_any (n : Sp) (i : Int) (w : World) :
    Calls Try.prog 52 #[n.val, .int .i64 i] w fun e w' => e = .returned (.bool (ahead n i)) ∧ Below w.heap.size w w' := by
  obtain ⟨W, hW⟩ : ∃ W, w.alloc (.cells #[.int .i64 (n.at_ : Int), .int .i64 n.end_, .int .i64 n.up] 58) = W := ⟨_, rfl⟩
  have hBW : Below w.heap.size w W := by rw [← hW]; exact al_belowN w _
  obtain ⟨u0, u1, u2⟩ : W.cell? ⟨w.heap.size, 0, none⟩ = some (.int .i64 (n.at_ : Int)) ∧ W.cell? ⟨w.heap.size, 1, none⟩ = some (.int .i64 n.end_) ∧ W.cell? ⟨w.heap.size, 2, none⟩ = some (.int .i64 n.up) := by rw [← hW]; exact al_new3
  have HB : Hid (Below w.heap.size w W) := hBW
  have HW : Hid (w.alloc (.cells #[.int .i64 (n.at_ : Int), .int .i64 n.end_, .int .i64 n.up] 58) = W) := hW
  obtain ⟨r, hr⟩ : ∃ r, ahead n i = r := ⟨_, rfl⟩
  have HR : Hid (ahead n i = r) := hr
  rw [hr]
  clear hW hBW hr
  unfold Sp.val
  by_cases h : n.end_ = -1
  · have tt : (n.end_ != -1) = false := by simp [h]
    have HE : Hid (false = r) := by
      show _ = _
      rw [← HR.out]
      unfold ahead
      simp [h]
    clear h
    go_enter Try.func52, Try.ntmps52
    go_wp2_with fail
    rw [HW.out]
    go_wp2_with fail
    go_ret
    exact ⟨ret_bool HE.out, HB.out⟩
  · have tt : (n.end_ != -1) = true := by simp [h]
    have HE : Hid (decide (n.end_ < i) = r) := by
      show _ = _
      rw [← HR.out]
      unfold ahead
      simp [h]
    clear h
    go_enter Try.func52, Try.ntmps52
    go_wp2_with fail
    rw [HW.out]
    go_wp2_with fail
    go_ret
    exact ⟨ret_bool HE.out, HB.out⟩
set_option maxHeartbeats 4000000 in
theorem takeAround_any (b : Nat) (i f : Int) (n : Sp) (w0 w : World) (hI : FdI b i w0 f w) :
    Calls Try.prog 43 #[.pointer (some ⟨b, 0, none⟩), n.val] w fun e w' => e = .returned (.tuple #[]) ∧ FdI b i w0 (fUp i f n) w' ∧ KeepS w w' := by
  obtain ⟨W, hW⟩ : ∃ W, w.alloc (.cells #[.int .i64 (n.at_ : Int), .int .i64 n.end_, .int .i64 n.up] 58) = W := ⟨_, rfl⟩
  have hBW : Below w.heap.size w W := by rw [← hW]; exact al_belowN w _
  obtain ⟨u0, u1, u2⟩ : W.cell? ⟨w.heap.size, 0, none⟩ = some (.int .i64 (n.at_ : Int)) ∧ W.cell? ⟨w.heap.size, 1, none⟩ = some (.int .i64 n.end_) ∧ W.cell? ⟨w.heap.size, 2, none⟩ = some (.int .i64 n.up) := by rw [← hW]; exact al_new3
  have hIW := hI.stays hBW
  have HI : Hid (FdI b i w0 f W) := hIW
  have HK : Hid (KeepS w W) := KeepS.of hBW
  have nb : w.heap.size ≠ b := by have := hI.1.lt; omega
  have hsz : w.heap.size < W.heap.size := by rw [← hW]; simp
  have hm : ∀ (m : Bw W) (k j : Nat), k < W.heap.size → m.val.cell? ⟨k, j, none⟩ = W.cell? ⟨k, j, none⟩ := fun m k j hk => m.ok.cell hk
  have m0 := fun m : Bw W => (hm m w.heap.size 0 hsz).trans u0
  have m1 := fun m : Bw W => (hm m w.heap.size 1 hsz).trans u1
  have m2 := fun m : Bw W => (hm m w.heap.size 2 hsz).trans u2
  have mc := fun m : Bw W => (hm m b 0 hIW.1.lt).trans hIW.1.c0
  have hne0 := Bw.some W
  have hA := Bw.calls (w := W) (fun w' _ => ahead_any n i w')
  unfold Sp.val at hA ⊢
  have HW : Hid (w.alloc (.cells #[.int .i64 (n.at_ : Int), .int .i64 n.end_, .int .i64 n.up] 58) = W) := hW
  have HS : Hid (w.heap.size < W.heap.size) := hsz
  have HU : Hid (W.cell? ⟨w.heap.size, 0, none⟩ = some (.int .i64 (n.at_ : Int))) := u0
  obtain ⟨r, hr⟩ : ∃ r, ahead n i = r := ⟨_, rfl⟩
  rw [hr] at hA
  have HR : Hid (ahead n i = r) := hr
  clear hI hIW hBW hW hm hsz u0 u1 u2 hr
  by_cases h : (n.at_ : Int) < i
  · cases r with
    | false =>
      have HF : Hid (fUp i f n = (n.at_ : Int)) := by
        show _ = _
        unfold fUp
        rw [if_pos ⟨h, HR.out⟩]
      go_enter Try.func43, Try.ntmps43
      go_wp2_with fail
      rw [HW.out]
      go_wp2_with fail
      refine wp_region_bw (w0 := W) (by kernel_rfl) (by kernel_rfl) (Below.refl _ _) ?_
      repeat (go_big_quiet_step ((go_at_call 52; exact hA _)))
      refine wpQuiet_nil ?_
      rintro _ ⟨mw, rfl⟩
      have hI2 := HI.out.stays mw.ok
      have d0 := m0 mw
      have dc := hI2.1.c1
      have df := hI2.1.fz 1
      have HQ : Hid (FdI b i w0 (fUp i f n) (mw.val.setCell ⟨b, 1, none⟩ (.int .i64 (n.at_ : Int))) ∧ KeepS w (mw.val.setCell ⟨b, 1, none⟩ (.int .i64 (n.at_ : Int)))) := by
        rw [HF.out]
        exact ⟨⟨hI2.1.set1 _, hI2.2.trans (below_set _)⟩, (HK.out.trans (KeepS.of mw.ok)).set hI2.1 (by decide) _⟩
      clear hI2 m0 m1 m2 mc hA hne0
      generalize mw.val = w2 at *
      go_wp2_with fail
      go_end0
      exact ⟨rfl, HQ.out⟩
    | true =>
      have HF : Hid (fUp i f n = f) := by
        show _ = _
        unfold fUp
        rw [if_neg (fun h' => by have := h'.2; rw [HR.out] at this; cases this)]
      go_enter Try.func43, Try.ntmps43
      go_wp2_with fail
      rw [HW.out]
      go_wp2_with fail
      refine wp_region_bw (w0 := W) (by kernel_rfl) (by kernel_rfl) (Below.refl _ _) ?_
      repeat (go_big_quiet_step ((go_at_call 52; exact hA _)))
      refine wpQuiet_nil ?_
      rintro _ ⟨mw, rfl⟩
      have HQ : Hid (FdI b i w0 (fUp i f n) mw.val ∧ KeepS w mw.val) := by
        rw [HF.out]
        exact ⟨HI.out.stays mw.ok, HK.out.trans (KeepS.of mw.ok)⟩
      clear m0 m1 m2 mc hA hne0
      generalize mw.val = w2 at *
      go_wp2_with fail
      go_end0
      exact ⟨rfl, HQ.out⟩
  · have HF : Hid (fUp i f n = f) := by
      show _ = _
      unfold fUp
      rw [if_neg (fun h' => h h'.1)]
    have h' : decide ((n.at_ : Int) < i) = false := decide_eq_false h
    go_enter Try.func43, Try.ntmps43
    go_wp2_with fail
    rw [HW.out]
    go_wp2_with fail
    refine wp_region_bw (w0 := W) (by kernel_rfl) (by kernel_rfl) (Below.refl _ _) ?_
    repeat (go_big_quiet_step ((go_at_call 52; exact hA _)))
    refine wpQuiet_nil ?_
    rintro _ ⟨mw, rfl⟩
    have HQ : Hid (FdI b i w0 (fUp i f n) mw.val ∧ KeepS w mw.val) := by
      rw [HF.out]
      exact ⟨HI.out.stays mw.ok, HK.out.trans (KeepS.of mw.ok)⟩
    clear m0 m1 m2 mc hA hne0
    generalize mw.val = w2 at *
    go_wp2_with fail
    go_end0
    exact ⟨rfl, HQ.out⟩
theorem tellEnd (b : Nat) (i : Int) (w0 : World) (L : List Sp) : TellC 36 (.pointer (some ⟨b, 0, none⟩)) L (fEnd i) (FdI b i w0) (-1) :=
  ⟨enters_of Try.func36 (by kernel_rfl) rfl, fun _ _ _ h hb => h.stays hb, fun k n w _ hI => takeEnd_any b i _ n w0 w hI⟩
theorem tellUp (b : Nat) (i : Int) (w0 : World) (L : List Sp) : TellC 43 (.pointer (some ⟨b, 0, none⟩)) L (fUp i) (FdI b i w0) (-1) :=
  ⟨enters_of Try.func43 (by kernel_rfl) rfl, fun _ _ _ h hb => h.stays hb, fun k n w _ hI => takeAround_any b i _ n w0 w hI⟩
theorem fd_new (w : World) (i : Int) : FdI w.heap.size i w (-1) (w.alloc (.cells #[.int .i64 i, .int .i64 (-1)] 42)) := ⟨heap_alloc_new w _, al_belowN w _⟩
set_option maxHeartbeats 4000000 in
theorem implEndOf : ImplEndOf := by
  intro w v es i hV hl hf _
  obtain ⟨o, ho⟩ : ∃ o, endOf es i = o := ⟨_, rfl⟩
  rw [ho]
  obtain ⟨W, hW⟩ : ∃ W, w.alloc (.cells #[.int .i64 i, .int .i64 (-1)] 42) = W := ⟨_, rfl⟩
  have hI : FdI w.heap.size i w (-1) W := by rw [← hW]; exact fd_new w i
  have hBW : Below w.heap.size w W := by rw [← hW]; exact al_belowN w _
  have cE := eachNode_any _ _ _ _ (-1) W v es (hV.stays hBW) hl hf (tellEnd w.heap.size i w (spansF es)) hI
  have HE : Hid ((if nested es = true then gat es (fEnd i) (-1) es.length else -1) = o) := by
    show _ = _
    by_cases h : nested es = true
    · rw [if_pos h, end_gat h, ho]
    · rw [if_neg h, ← ho]
      unfold endOf
      rw [if_pos (.inl (by simpa using h))]
  rw [HE.out] at cE
  have HW : Hid (w.alloc (.cells #[.int .i64 i, .int .i64 (-1)] 42) = W) := hW
  clear hV hl hf ho hW hI hBW HE
  go_enter Try.func13, Try.ntmps13
  go_wp2_with fail
  rw [HW.out]
  go_wp2_with fail
  refine cE.mono ?_
  rintro e w1 ⟨rfl, hI1⟩
  have c1 := hI1.1.c1
  have HB : Hid (Below w.heap.size w w1) := hI1.2
  clear cE hI1
  go_wp2_with fail
  go_ret
  exact ⟨rfl, HB.out⟩
set_option maxHeartbeats 4000000 in
theorem implUpOf : ImplUpOf := by
  intro w v es i hV hl hf _
  obtain ⟨o, ho⟩ : ∃ o, upOf es i = o := ⟨_, rfl⟩
  rw [ho]
  obtain ⟨a, c, rfl⟩ := hV.sl
  have hlen : (es.length : Int) ≤ 1048576 := by omega
  by_cases hi : (es.length : Int) ≤ i
  · have HE : Hid ((-1 : Int) = o) := by
      show _ = _
      rw [← ho]
      unfold upOf
      rw [if_pos (by omega)]
    clear hV hl hf ho
    go_enter Try.func22, Try.ntmps22
    go_wp2_with fail
    go_ret
    exact ⟨ret_i HE.out, Below.refl _ _⟩
  · obtain ⟨W, hW⟩ : ∃ W, w.alloc (.cells #[.int .i64 i, .int .i64 (-1)] 42) = W := ⟨_, rfl⟩
    have hI : FdI w.heap.size i w (-1) W := by rw [← hW]; exact fd_new w i
    have hBW : Below w.heap.size w W := by rw [← hW]; exact al_belowN w _
    have cE := eachNode_any _ _ _ _ (-1) W _ es (hV.stays hBW) hl hf (tellUp w.heap.size i w (spansF es)) hI
    have HE : Hid ((if nested es = true then gat es (fUp i) (-1) es.length else -1) = o) := by
      show _ = _
      by_cases h : nested es = true
      · rw [if_pos h, up_gat h i (by omega), ho]
      · rw [if_neg h, ← ho]
        unfold upOf
        rw [if_pos (.inl (by simpa using h))]
    rw [HE.out] at cE
    have HW : Hid (w.alloc (.cells #[.int .i64 i, .int .i64 (-1)] 42) = W) := hW
    have hi' : ¬ (es.length : Int) ≤ i := hi
    clear hV hl hf ho hW hI hBW HE hi
    go_enter Try.func22, Try.ntmps22
    go_wp2_with fail
    rw [HW.out]
    go_wp2_with fail
    refine cE.mono ?_
    rintro e w1 ⟨rfl, hI1⟩
    have c1 := hI1.1.c1
    have HB : Hid (Below w.heap.size w w1) := hI1.2
    clear cE hI1
    go_wp2_with fail
    go_ret
    exact ⟨rfl, HB.out⟩
end Go.Proofs.Ytepodbjdicnjoaa
