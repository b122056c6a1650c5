/- The draws of steps: spec's l17Seg, l17Segs and MakePath. -/
import Derived.Test.YtmbbmibkjnlkkaaDoorDwn
import Derived.Test.YtmbbmibkjnlkkaaDoorHso
namespace Go.Proofs.YtmbbmibkjnlkkaaDoor
open Go.ChangeShapes Go.WideShapes Go.ChangeAt Go.RowKit
theorem Fr.setNew {P : Nat} {a w : World} (h : Fr P a w) {E : Nat} (hE : a.heap.size ≤ E) (hP : P ≤ E) (o : Nat) (v : Value) : Fr P a (w.setCell ⟨E, o, none⟩ v) :=
  ⟨h.1.setCell hP v, fun x h1 h2 => (Below.heap_setCell w ⟨E, o, none⟩ v x (by show x ≠ E; omega)).trans (h.2 x h1 h2)⟩
theorem Cu.setO {P : Nat} {w : World} (h : Cu P w) {E : Nat} (hP : P < E) (o : Nat) (v : Value) : Cu P (w.setCell ⟨E, o, none⟩ v) := by
  obtain ⟨a, len, cap, i, hh, hc, h0, h1, hb⟩ := h
  exact ⟨a, len, cap, i, hh, (Below.heap_setCell w ⟨E, o, none⟩ v P (by show P ≠ E; omega)).trans hc, h0, h1, hb.later ((Below.refl _ w).setCell (Nat.le_of_lt hP) v)⟩
theorem St.setNew {P : Nat} {a w : World} (h : St P a w) {E : Nat} (hE : a.heap.size ≤ E) (hP : P < E) (o : Nat) (v : Value) : St P a (w.setCell ⟨E, o, none⟩ v) := ⟨h.1.setO hP o v, h.2.setNew hE (Nat.le_of_lt hP) o v⟩
/-- A step that was drawn: right, of the first kinds, with a short text. -/
structure DrS (most : Int) (s : Sg) : Prop where
  ok : segOk s = true
  most : s.kind ≤ most
  text : s.text.size ≤ 10
def DrP (most : Int) (P : Nat) (w : World) (e : Ending) (w' : World) : Prop := ∃ s, e = .returned (.agg s.row) ∧ DrS most s ∧ St P w w'
def p10 (t : ByteArray) : Bool := decide (t.size ≤ 10)
theorem emp_L : (⟨#[]⟩ : ByteArray).toList = [] := by rw [ByteArray.toList_eq]
theorem drS_num {most k u : Int} (h : k = 1 ∨ k = 3) (hm : k ≤ most) (h0 : 0 ≤ u) (h4 : u < 4) : DrS most ⟨k, u, ⟨#[]⟩⟩ := by
  refine ⟨?_, hm, by show (0 : Nat) ≤ 10; omega⟩
  unfold segOk noT
  simp only [emp_L]
  rcases h with rfl | rfl <;> simp <;> omega
theorem drS_key {most : Int} {t : ByteArray} (hm : 2 ≤ most) (ht : t.size ≤ 10) : DrS most ⟨2, 0, t⟩ := ⟨by unfold segOk; simp, hm, ht⟩
theorem drS_else {most k : Int} (h : k = 4 ∨ k = 5) (hm : k ≤ most) : DrS most ⟨k, 0, ⟨#[]⟩⟩ := by
  refine ⟨?_, hm, by show (0 : Nat) ≤ 10; omega⟩
  unfold segOk noT
  simp only [emp_L]
  rcases h with rfl | rfl <;> simp
set_option maxRecDepth 100000 in
set_option maxHeartbeats 16000000 in
theorem seg_draw (P : Nat) (most : Int) (w : World) (hC : Cu P w) (h0 : 0 < most) (h5 : most ≤ 5) :
    Calls Tryd.prog 43 #[.pointer (some ⟨P, 0, none⟩), .int .i64 most] w (DrP most P w) := by
  have hP : P < w.heap.size := hC.lt
  have cB := below_any P most _ (hC.alloc (.cells #[.int .i64 0, .int .i64 0, .string ⟨#[]⟩] 29)) h0 (by omega)
  obtain ⟨W0, hW0⟩ : ∃ W0, w.alloc (.cells #[.int .i64 0, .int .i64 0, .string ⟨#[]⟩] 29) = W0 := ⟨_, rfl⟩
  have HS0 : Hid (St P w W0) := by show St P w W0; rw [← hW0]; exact hC.st.alloc _
  have HD0 : Hid (W0.heap[w.heap.size]? = some (.cells #[.int .i64 0, .int .i64 0, .string ⟨#[]⟩] 29 (0, 0))) := by show _ = _; rw [← hW0]; exact heap_alloc_new w _
  rw [hW0] at cB
  have HW0 : Hid (w.alloc (.cells #[.int .i64 0, .int .i64 0, .string ⟨#[]⟩] 29) = W0) := hW0
  have HP : Hid (P < w.heap.size) := hP
  clear hC hP hW0
  go_enter Tryd.func43, Tryd.ntmps43
  go_wp2_with fail
  rw [HW0.out]
  refine cB.mono ?_
  rintro e w1 ⟨v, rfl, hv0, hv1, hS1⟩
  obtain ⟨k, hk⟩ : ∃ k : Int, 1 + v = k := ⟨_, rfl⟩
  have hwr : wrap64 (1 + v) = k := by rw [hk]; exact Go.IntWalk.wrap64_in k ⟨by omega, by omega⟩
  have HS1 : Hid (St P W0 w1) := hS1
  have HD1 : Hid (w1.heap[w.heap.size]? = some (.cells #[.int .i64 0, .int .i64 0, .string ⟨#[]⟩] 29 (0, 0))) := (hS1.2.block _ (Array.getElem?_eq_some_iff.1 HD0.out).1 (by have := HP.out; omega)).trans HD0.out
  have hlow : W0.heap.size ≤ w1.heap.size := hS1.2.1.size
  have hdl : w.heap.size < W0.heap.size := (Array.getElem?_eq_some_iff.1 HD0.out).1
  have hkr : 1 ≤ k ∧ k ≤ most := by omega
  clear cB hS1
  obtain ⟨W1, hW1⟩ : ∃ W1, w1.alloc (.cells #[.int .i64 k, .int .i64 0, .string ⟨#[]⟩] 29) = W1 := ⟨_, rfl⟩
  have HW1 : Hid (w1.alloc (.cells #[.int .i64 k, .int .i64 0, .string ⟨#[]⟩] 29) = W1) := hW1
  have HZ : Hid (w1.heap.size + 1 = W1.heap.size) := by show _ = _; rw [← hW1]; simp
  have hS2 : St P W0 W1 := by rw [← hW1]; exact HS1.out.alloc _
  have HS2 : Hid (St P w W1) := HS0.out.trans hS2
  have HD2 : Hid (W1.heap[w.heap.size]? = some (.cells #[.int .i64 0, .int .i64 0, .string ⟨#[]⟩] 29 (0, 0))) := (hS2.2.block _ hdl (by have := HP.out; omega)).trans HD0.out
  have HE2 : Hid (W1.heap[w1.heap.size]? = some (.cells #[.int .i64 k, .int .i64 0, .string ⟨#[]⟩] 29 (0, 0))) := by show _ = _; rw [← hW1]; exact heap_alloc_new w1 _
  have HLE : Hid (w.heap.size < w1.heap.size ∧ P < w.heap.size) := ⟨by omega, HP.out⟩
  obtain ⟨e0, e1, e2⟩ := row_atP HE2.out
  have e0' : (w1.alloc (.cells #[.int .i64 k, .int .i64 0, .string ⟨#[]⟩] 29)).cell? ⟨w1.heap.size, 0, none⟩ = some (.int .i64 k) := by rw [hW1]; exact e0
  clear hW1 hS2 HD0 HD1 HS1 HS0 HP hlow hdl hv0 hv1 hk
  -- what every arm comes to
  have HF : Hid (∀ (u : World) (x1 x2 : Value), St P w u → u.heap[w.heap.size]? = some (.cells #[.int .i64 0, .int .i64 0, .string ⟨#[]⟩] 29 (0, 0)) →
      (((u.setCell ⟨w.heap.size, 0, none⟩ (.int .i64 k)).setCell ⟨w.heap.size, 1, none⟩ x1).setCell ⟨w.heap.size, 2, none⟩ x2).heap[w.heap.size]? = some (.cells #[.int .i64 k, x1, x2] 29 (0, 0)) ∧ St P w (((u.setCell ⟨w.heap.size, 0, none⟩ (.int .i64 k)).setCell ⟨w.heap.size, 1, none⟩ x1).setCell ⟨w.heap.size, 2, none⟩ x2)) := fun u x1 x2 hu hd =>
    ⟨by simp [World.setCell, Array.getElem?_modify, hd], ((hu.setNew (Nat.le_refl _) HLE.out.2 0 _).setNew (Nat.le_refl _) HLE.out.2 1 _).setNew (Nat.le_refl _) HLE.out.2 2 _⟩
  by_cases h45 : k = 4 ∨ k = 5
  · have t1 : (k == 1) = false := by rw [beq_eq_false_iff_ne]; omega
    have t2 : (k == 2) = false := by rw [beq_eq_false_iff_ne]; omega
    have t3 : (k == 3) = false := by rw [beq_eq_false_iff_ne]; omega
    have HO : Hid (DrS most ⟨k, 0, ⟨#[]⟩⟩) := drS_else h45 hkr.2
    have e1' : (w1.alloc (.cells #[.int .i64 k, .int .i64 0, .string ⟨#[]⟩] 29)).cell? ⟨w1.heap.size, 1, none⟩ = some (.int .i64 0) := by rw [HW1.out]; exact e1
    have e2' : (w1.alloc (.cells #[.int .i64 k, .int .i64 0, .string ⟨#[]⟩] 29)).cell? ⟨w1.heap.size, 2, none⟩ = some (.string ⟨#[]⟩) := by rw [HW1.out]; exact e2
    have HQ := HF.out W1 (.int .i64 0) (.string ⟨#[]⟩) HS2.out HD2.out
    have HQ : Hid _ := HQ
    obtain ⟨d0, d1, d2⟩ := row_atP HD2.out
    have f0 := Lib.frozen_of_heap HD2.out 0
    have f1 := Lib.frozen_of_heap HD2.out 1
    have f2 := Lib.frozen_of_heap HD2.out 2
    rw [← HW1.out] at d0 d1 d2 f0 f1 f2
    clear h45 hkr HF e0 e1 e2
    go_wp2_with fail
    rw [HW1.out]
    refine bodyPost_ret (results_cell_row rfl _ _ w.heap.size 29 _ (0, 0) _ rfl HQ.out.1 Tryd.underlying29 rfl (by kernel_rfl)) rfl ?_
    exact ⟨⟨k, 0, ⟨#[]⟩⟩, rfl, HO.out, HQ.out.2⟩
  by_cases h2 : k = 2
  · subst h2
    have hm2 : 2 ≤ most := hkr.2
    clear e0 e1 e2 h45
    go_wp2_with fail
    rw [HW1.out]
    simp only [HZ.out]
    refine Calls.mono (ofP_lit p10 P _ _ W1 _ _ rfl HS2.out.1 (by kernel_rfl) (by decide) (by decide) (by kernel_rfl)) ?_
    rintro e w2 ⟨t, rfl, ht, hS3⟩
    clear e0'
    have HE3 : Hid (w2.heap[w1.heap.size]? = some (.cells #[.int .i64 2, .int .i64 0, .string ⟨#[]⟩] 29 (0, 0))) := (hS3.2.block _ (Array.getElem?_eq_some_iff.1 HE2.out).1 (by have := HLE.out; omega)).trans HE2.out
    have HD3 : Hid (w2.heap[w.heap.size]? = some (.cells #[.int .i64 0, .int .i64 0, .string ⟨#[]⟩] 29 (0, 0))) := (hS3.2.block _ (Array.getElem?_eq_some_iff.1 HD2.out).1 (by have := HLE.out; omega)).trans HD2.out
    have hD4 : (w2.setCell ⟨w1.heap.size, 2, none⟩ (.string t)).heap[w.heap.size]? = some (.cells #[.int .i64 0, .int .i64 0, .string ⟨#[]⟩] 29 (0, 0)) := (Below.heap_setCell _ _ _ _ (by show w.heap.size ≠ w1.heap.size; have := HLE.out; omega)).trans HD3.out
    obtain ⟨e0, e1, e2⟩ := row_atP HE3.out
    obtain ⟨d0, d1, d2⟩ := row_atP hD4
    have g2 := Lib.frozen_of_heap HE3.out 2
    have f0 := Lib.frozen_of_heap hD4 0
    have f1 := Lib.frozen_of_heap hD4 1
    have f2 := Lib.frozen_of_heap hD4 2
    obtain ⟨q0, q1, q2⟩ := row_atP HD3.out
    have p0 := Lib.frozen_of_heap HD3.out 0
    have p1 := Lib.frozen_of_heap HD3.out 1
    have p2 := Lib.frozen_of_heap HD3.out 2
    have n1 : ¬ w.heap.size = w1.heap.size := by have := HLE.out; omega
    have n2 : ¬ w1.heap.size = w.heap.size := by have := HLE.out; omega
    have hS4 : St P w (w2.setCell ⟨w1.heap.size, 2, none⟩ (.string t)) := (HS2.out.trans hS3).setNew (by have := HLE.out; omega) (by have := HLE.out; omega) 2 _
    have HQ := HF.out _ (.int .i64 0) (.string t) hS4 hD4
    have HQ : Hid _ := HQ
    have HO : Hid (DrS most ⟨2, 0, t⟩) := drS_key hm2 (by simpa [p10] using ht)
    clear HF hS3 hS4 hD4 hkr ht hm2
    go_wp2_with fail
    refine bodyPost_ret (results_cell_row rfl _ _ w.heap.size 29 _ (0, 0) _ rfl HQ.out.1 Tryd.underlying29 rfl (by kernel_rfl)) rfl ?_
    exact ⟨⟨2, 0, t⟩, rfl, HO.out, HQ.out.2⟩
  · have h13 : k = 1 ∨ k = 3 := by omega
    clear e0 e1 e2 h45
    rcases h13 with h13 | h13
    all_goals (
      subst h13
      go_wp2_with fail
      rw [HW1.out]
      refine (below_any P 4 W1 HS2.out.1 (by decide) (by decide)).mono ?_
      rintro e w2 ⟨u, rfl, hu0, hu4, hS3⟩
      clear e0'
      have HE3 : Hid (w2.heap[w1.heap.size]? = some (.cells #[.int .i64 _, .int .i64 0, .string ⟨#[]⟩] 29 (0, 0))) := (hS3.2.block _ (Array.getElem?_eq_some_iff.1 HE2.out).1 (by have := HLE.out; omega)).trans HE2.out
      have HD3 : Hid (w2.heap[w.heap.size]? = some (.cells #[.int .i64 0, .int .i64 0, .string ⟨#[]⟩] 29 (0, 0))) := (hS3.2.block _ (Array.getElem?_eq_some_iff.1 HD2.out).1 (by have := HLE.out; omega)).trans HD2.out
      have hD4 : (w2.setCell ⟨w1.heap.size, 1, none⟩ (.int .i64 u)).heap[w.heap.size]? = some (.cells #[.int .i64 0, .int .i64 0, .string ⟨#[]⟩] 29 (0, 0)) := (Below.heap_setCell _ _ _ _ (by show w.heap.size ≠ w1.heap.size; have := HLE.out; omega)).trans HD3.out
      obtain ⟨e0, e1, e2⟩ := row_atP HE3.out
      obtain ⟨d0, d1, d2⟩ := row_atP hD4
      have g1 := Lib.frozen_of_heap HE3.out 1
      have f0 := Lib.frozen_of_heap hD4 0
      have f1 := Lib.frozen_of_heap hD4 1
      have f2 := Lib.frozen_of_heap hD4 2
      obtain ⟨q0, q1, q2⟩ := row_atP HD3.out
      have p0 := Lib.frozen_of_heap HD3.out 0
      have p1 := Lib.frozen_of_heap HD3.out 1
      have p2 := Lib.frozen_of_heap HD3.out 2
      have n1 : ¬ w.heap.size = w1.heap.size := by have := HLE.out; omega
      have n2 : ¬ w1.heap.size = w.heap.size := by have := HLE.out; omega
      have hS4 : St P w (w2.setCell ⟨w1.heap.size, 1, none⟩ (.int .i64 u)) := (HS2.out.trans hS3).setNew (by have := HLE.out; omega) (by have := HLE.out; omega) 1 _
      have HQ := HF.out _ (.int .i64 u) (.string ⟨#[]⟩) hS4 hD4
      have HQ : Hid _ := HQ
      have HO : Hid (DrS most ⟨_, u, ⟨#[]⟩⟩) := drS_num (by omega) hkr.2 hu0 hu4
      clear HF hS3 hS4 hD4 hkr hu0 hu4 h2
      go_wp2_with fail
      refine bodyPost_ret (results_cell_row rfl _ _ w.heap.size 29 _ (0, 0) _ rfl HQ.out.1 Tryd.underlying29 rfl (by kernel_rfl)) rfl ?_
      exact ⟨⟨_, u, ⟨#[]⟩⟩, rfl, HO.out, HQ.out.2⟩)
end Go.Proofs.YtmbbmibkjnlkkaaDoor
