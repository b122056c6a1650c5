/- impl's valueWith and ValueOf. -/
import Derived.Test.YtlfamgdmmenonaaDoorVtw
import Derived.Test.YtlfamgdmmenonaaDoorIev
import Derived.Handy
namespace Go.Proofs.YtlfamgdmmenonaaDoor
open Go.ChangeShapes Go.WideShapes Go.ChangeAt Go.RowKit
set_option maxHeartbeats 4000000 in
set_option maxRecDepth 100000 in
theorem vw_0 (w : World) :
    Calls Tryd.prog 22 #[.nilIface] w fun r w' => r = .returned (.agg #[.int .i64 0, .int .i64 0, .bool false, .string ⟨#[]⟩]) ∧ Below w.heap.size w w' := by
  have hF : Hid ((w.alloc (.cells #[.int .i64 0, .int .i64 0, .bool false, .string ⟨#[]⟩] 28)).heap[w.heap.size]? = some (.cells #[.int .i64 0, .int .i64 0, .bool false, .string ⟨#[]⟩] 28 (0, 0))) := heap_alloc_new w _
  have hB : Hid (Below w.heap.size w (w.alloc (.cells #[.int .i64 0, .int .i64 0, .bool false, .string ⟨#[]⟩] 28))) := (Below.refl _ w).alloc (Nat.le_refl _) _
  go_enter Tryd.func22, Tryd.ntmps22
  go_wp2_with fail
  refine bodyPost_ret (results_cell_row rfl _ _ w.heap.size 28 _ (0, 0) _ rfl hF.out Tryd.underlying28 rfl (by kernel_rfl)) rfl ?_
  exact ⟨rfl, hB.out⟩
set_option maxHeartbeats 4000000 in
set_option maxRecDepth 100000 in
theorem vw_1 (w : World) :
    Calls Tryd.prog 22 #[.iface 77 (.agg #[])] w fun r w' => r = .returned (.agg #[.int .i64 1, .int .i64 0, .bool false, .string ⟨#[]⟩]) ∧ Below w.heap.size w w' := by
  have hBool : ∀ W, (Instr.typeAssert (.iface 77 (.agg #[])) 53 68 true).run Tryd.prog W = .ok (.tuple #[.bool false, .bool false]) W := fun W => by kernel_rfl
  have hInt : ∀ W, (Instr.typeAssert (.iface 77 (.agg #[])) 53 70 true).run Tryd.prog W = .ok (.tuple #[.int .i64 0, .bool false]) W := fun W => by kernel_rfl
  have hText : ∀ W, (Instr.typeAssert (.iface 77 (.agg #[])) 53 71 true).run Tryd.prog W = .ok (.tuple #[.string ⟨#[]⟩, .bool false]) W := fun W => by kernel_rfl
  have hOther : ∀ W, (Instr.typeAssert (.iface 77 (.agg #[])) 53 72 true).run Tryd.prog W = .ok (.tuple #[.string ⟨#[]⟩, .bool false]) W := fun W => by kernel_rfl
  have hAlias : ∀ W, (Instr.typeAssert (.iface 77 (.agg #[])) 53 73 true).run Tryd.prog W = .ok (.tuple #[.string ⟨#[]⟩, .bool false]) W := fun W => by kernel_rfl
  have hF : Hid (((w.alloc (.cells #[.int .i64 1, .int .i64 0, .bool false, .string ⟨#[]⟩] 28)).alloc (.cells #[] 77)).heap[w.heap.size]? = some (.cells #[.int .i64 1, .int .i64 0, .bool false, .string ⟨#[]⟩] 28 (0, 0))) := by
    show ((w.heap.push _).push _)[w.heap.size]? = _
    rw [Array.getElem?_push, if_neg (by simp), Array.getElem?_push, if_pos rfl]
  have hB : Hid (Below w.heap.size w ((w.alloc (.cells #[.int .i64 1, .int .i64 0, .bool false, .string ⟨#[]⟩] 28)).alloc (.cells #[] 77))) := ((Below.refl _ w).alloc (Nat.le_refl _) _).alloc (by simp) _
  go_enter Tryd.func22, Tryd.ntmps22
  go_wp2_with fail
  refine (kNull_eq _).mono ?_
  rintro e w1 ⟨rfl, rfl⟩
  go_wp2_with fail
  refine bodyPost_ret (results_cell_row rfl _ _ w.heap.size 28 _ (0, 0) _ rfl hF.out Tryd.underlying28 rfl (by kernel_rfl)) rfl ?_
  exact ⟨rfl, hB.out⟩
set_option maxHeartbeats 4000000 in
set_option maxRecDepth 100000 in
theorem vw_2 (x : Bool) (w : World) :
    Calls Tryd.prog 22 #[.iface 68 (.bool x)] w fun r w' => r = .returned (.agg #[.int .i64 2, .int .i64 0, .bool x, .string ⟨#[]⟩]) ∧ Below w.heap.size w w' := by
  have hBool : ∀ W, (Instr.typeAssert (.iface 68 (.bool x)) 53 68 true).run Tryd.prog W = .ok (.tuple #[.bool x, .bool true]) W := fun W => by kernel_rfl
  have hF : Hid ((w.alloc (.cells #[.int .i64 2, .int .i64 0, .bool x, .string ⟨#[]⟩] 28)).heap[w.heap.size]? = some (.cells #[.int .i64 2, .int .i64 0, .bool x, .string ⟨#[]⟩] 28 (0, 0))) := heap_alloc_new w _
  have hB : Hid (Below w.heap.size w (w.alloc (.cells #[.int .i64 2, .int .i64 0, .bool x, .string ⟨#[]⟩] 28))) := (Below.refl _ w).alloc (Nat.le_refl _) _
  go_enter Tryd.func22, Tryd.ntmps22
  go_wp2_with fail
  refine (kBool_eq x _).mono ?_
  rintro e w1 ⟨rfl, rfl⟩
  go_wp2_with fail
  refine bodyPost_ret (results_cell_row rfl _ _ w.heap.size 28 _ (0, 0) _ rfl hF.out Tryd.underlying28 rfl (by kernel_rfl)) rfl ?_
  exact ⟨rfl, hB.out⟩
set_option maxHeartbeats 4000000 in
set_option maxRecDepth 100000 in
theorem vw_3 (x : Int) (w : World) :
    Calls Tryd.prog 22 #[.iface 70 (.int .i64 x)] w fun r w' => r = .returned (.agg #[.int .i64 3, .int .i64 x, .bool false, .string ⟨#[]⟩]) ∧ Below w.heap.size w w' := by
  have hBool : ∀ W, (Instr.typeAssert (.iface 70 (.int .i64 x)) 53 68 true).run Tryd.prog W = .ok (.tuple #[.bool false, .bool false]) W := fun W => by kernel_rfl
  have hInt : ∀ W, (Instr.typeAssert (.iface 70 (.int .i64 x)) 53 70 true).run Tryd.prog W = .ok (.tuple #[.int .i64 x, .bool true]) W := fun W => by kernel_rfl
  have hF : Hid ((w.alloc (.cells #[.int .i64 3, .int .i64 x, .bool false, .string ⟨#[]⟩] 28)).heap[w.heap.size]? = some (.cells #[.int .i64 3, .int .i64 x, .bool false, .string ⟨#[]⟩] 28 (0, 0))) := heap_alloc_new w _
  have hB : Hid (Below w.heap.size w (w.alloc (.cells #[.int .i64 3, .int .i64 x, .bool false, .string ⟨#[]⟩] 28))) := (Below.refl _ w).alloc (Nat.le_refl _) _
  go_enter Tryd.func22, Tryd.ntmps22
  go_wp2_with fail
  refine (kInt_eq x _).mono ?_
  rintro e w1 ⟨rfl, rfl⟩
  go_wp2_with fail
  refine bodyPost_ret (results_cell_row rfl _ _ w.heap.size 28 _ (0, 0) _ rfl hF.out Tryd.underlying28 rfl (by kernel_rfl)) rfl ?_
  exact ⟨rfl, hB.out⟩
set_option maxHeartbeats 4000000 in
set_option maxRecDepth 100000 in
theorem vw_4 (x : ByteArray) (w : World) :
    Calls Tryd.prog 22 #[.iface 71 (.string x)] w fun r w' => r = .returned (.agg #[.int .i64 4, .int .i64 0, .bool false, .string x]) ∧ Below w.heap.size w w' := by
  have hBool : ∀ W, (Instr.typeAssert (.iface 71 (.string x)) 53 68 true).run Tryd.prog W = .ok (.tuple #[.bool false, .bool false]) W := fun W => by kernel_rfl
  have hInt : ∀ W, (Instr.typeAssert (.iface 71 (.string x)) 53 70 true).run Tryd.prog W = .ok (.tuple #[.int .i64 0, .bool false]) W := fun W => by kernel_rfl
  have hText : ∀ W, (Instr.typeAssert (.iface 71 (.string x)) 53 71 true).run Tryd.prog W = .ok (.tuple #[.string x, .bool true]) W := fun W => by kernel_rfl
  have hF : Hid ((w.alloc (.cells #[.int .i64 4, .int .i64 0, .bool false, .string x] 28)).heap[w.heap.size]? = some (.cells #[.int .i64 4, .int .i64 0, .bool false, .string x] 28 (0, 0))) := heap_alloc_new w _
  have hB : Hid (Below w.heap.size w (w.alloc (.cells #[.int .i64 4, .int .i64 0, .bool false, .string x] 28))) := (Below.refl _ w).alloc (Nat.le_refl _) _
  go_enter Tryd.func22, Tryd.ntmps22
  go_wp2_with fail
  refine (kText_eq x _).mono ?_
  rintro e w1 ⟨rfl, rfl⟩
  go_wp2_with fail
  refine bodyPost_ret (results_cell_row rfl _ _ w.heap.size 28 _ (0, 0) _ rfl hF.out Tryd.underlying28 rfl (by kernel_rfl)) rfl ?_
  exact ⟨rfl, hB.out⟩
set_option maxHeartbeats 4000000 in
set_option maxRecDepth 100000 in
theorem vw_5 (w : World) :
    Calls Tryd.prog 22 #[.iface 75 (.agg #[])] w fun r w' => r = .returned (.agg #[.int .i64 5, .int .i64 0, .bool false, .string ⟨#[]⟩]) ∧ Below w.heap.size w w' := by
  have hBool : ∀ W, (Instr.typeAssert (.iface 75 (.agg #[])) 53 68 true).run Tryd.prog W = .ok (.tuple #[.bool false, .bool false]) W := fun W => by kernel_rfl
  have hInt : ∀ W, (Instr.typeAssert (.iface 75 (.agg #[])) 53 70 true).run Tryd.prog W = .ok (.tuple #[.int .i64 0, .bool false]) W := fun W => by kernel_rfl
  have hText : ∀ W, (Instr.typeAssert (.iface 75 (.agg #[])) 53 71 true).run Tryd.prog W = .ok (.tuple #[.string ⟨#[]⟩, .bool false]) W := fun W => by kernel_rfl
  have hOther : ∀ W, (Instr.typeAssert (.iface 75 (.agg #[])) 53 72 true).run Tryd.prog W = .ok (.tuple #[.string ⟨#[]⟩, .bool false]) W := fun W => by kernel_rfl
  have hAlias : ∀ W, (Instr.typeAssert (.iface 75 (.agg #[])) 53 73 true).run Tryd.prog W = .ok (.tuple #[.string ⟨#[]⟩, .bool false]) W := fun W => by kernel_rfl
  have hF : Hid (((w.alloc (.cells #[.int .i64 5, .int .i64 0, .bool false, .string ⟨#[]⟩] 28)).alloc (.cells #[] 75)).heap[w.heap.size]? = some (.cells #[.int .i64 5, .int .i64 0, .bool false, .string ⟨#[]⟩] 28 (0, 0))) := by
    show ((w.heap.push _).push _)[w.heap.size]? = _
    rw [Array.getElem?_push, if_neg (by simp), Array.getElem?_push, if_pos rfl]
  have hB : Hid (Below w.heap.size w ((w.alloc (.cells #[.int .i64 5, .int .i64 0, .bool false, .string ⟨#[]⟩] 28)).alloc (.cells #[] 75))) := ((Below.refl _ w).alloc (Nat.le_refl _) _).alloc (by simp) _
  go_enter Tryd.func22, Tryd.ntmps22
  go_wp2_with fail
  refine (kList_eq _).mono ?_
  rintro e w1 ⟨rfl, rfl⟩
  go_wp2_with fail
  refine bodyPost_ret (results_cell_row rfl _ _ w.heap.size 28 _ (0, 0) _ rfl hF.out Tryd.underlying28 rfl (by kernel_rfl)) rfl ?_
  exact ⟨rfl, hB.out⟩
set_option maxHeartbeats 4000000 in
set_option maxRecDepth 100000 in
theorem vw_6 (w : World) :
    Calls Tryd.prog 22 #[.iface 76 (.agg #[])] w fun r w' => r = .returned (.agg #[.int .i64 6, .int .i64 0, .bool false, .string ⟨#[]⟩]) ∧ Below w.heap.size w w' := by
  have hBool : ∀ W, (Instr.typeAssert (.iface 76 (.agg #[])) 53 68 true).run Tryd.prog W = .ok (.tuple #[.bool false, .bool false]) W := fun W => by kernel_rfl
  have hInt : ∀ W, (Instr.typeAssert (.iface 76 (.agg #[])) 53 70 true).run Tryd.prog W = .ok (.tuple #[.int .i64 0, .bool false]) W := fun W => by kernel_rfl
  have hText : ∀ W, (Instr.typeAssert (.iface 76 (.agg #[])) 53 71 true).run Tryd.prog W = .ok (.tuple #[.string ⟨#[]⟩, .bool false]) W := fun W => by kernel_rfl
  have hOther : ∀ W, (Instr.typeAssert (.iface 76 (.agg #[])) 53 72 true).run Tryd.prog W = .ok (.tuple #[.string ⟨#[]⟩, .bool false]) W := fun W => by kernel_rfl
  have hAlias : ∀ W, (Instr.typeAssert (.iface 76 (.agg #[])) 53 73 true).run Tryd.prog W = .ok (.tuple #[.string ⟨#[]⟩, .bool false]) W := fun W => by kernel_rfl
  have hF : Hid (((w.alloc (.cells #[.int .i64 6, .int .i64 0, .bool false, .string ⟨#[]⟩] 28)).alloc (.cells #[] 76)).heap[w.heap.size]? = some (.cells #[.int .i64 6, .int .i64 0, .bool false, .string ⟨#[]⟩] 28 (0, 0))) := by
    show ((w.heap.push _).push _)[w.heap.size]? = _
    rw [Array.getElem?_push, if_neg (by simp), Array.getElem?_push, if_pos rfl]
  have hB : Hid (Below w.heap.size w ((w.alloc (.cells #[.int .i64 6, .int .i64 0, .bool false, .string ⟨#[]⟩] 28)).alloc (.cells #[] 76))) := ((Below.refl _ w).alloc (Nat.le_refl _) _).alloc (by simp) _
  go_enter Tryd.func22, Tryd.ntmps22
  go_wp2_with fail
  refine (kMap_eq _).mono ?_
  rintro e w1 ⟨rfl, rfl⟩
  go_wp2_with fail
  refine bodyPost_ret (results_cell_row rfl _ _ w.heap.size 28 _ (0, 0) _ rfl hF.out Tryd.underlying28 rfl (by kernel_rfl)) rfl ?_
  exact ⟨rfl, hB.out⟩
set_option maxHeartbeats 4000000 in
set_option maxRecDepth 100000 in
theorem vw_7 (x : ByteArray) (w : World) :
    Calls Tryd.prog 22 #[.iface 72 (.string x)] w fun r w' => r = .returned (.agg #[.int .i64 7, .int .i64 0, .bool false, .string x]) ∧ Below w.heap.size w w' := by
  have hBool : ∀ W, (Instr.typeAssert (.iface 72 (.string x)) 53 68 true).run Tryd.prog W = .ok (.tuple #[.bool false, .bool false]) W := fun W => by kernel_rfl
  have hInt : ∀ W, (Instr.typeAssert (.iface 72 (.string x)) 53 70 true).run Tryd.prog W = .ok (.tuple #[.int .i64 0, .bool false]) W := fun W => by kernel_rfl
  have hText : ∀ W, (Instr.typeAssert (.iface 72 (.string x)) 53 71 true).run Tryd.prog W = .ok (.tuple #[.string ⟨#[]⟩, .bool false]) W := fun W => by kernel_rfl
  have hOther : ∀ W, (Instr.typeAssert (.iface 72 (.string x)) 53 72 true).run Tryd.prog W = .ok (.tuple #[.string x, .bool true]) W := fun W => by kernel_rfl
  have hF : Hid ((w.alloc (.cells #[.int .i64 7, .int .i64 0, .bool false, .string x] 28)).heap[w.heap.size]? = some (.cells #[.int .i64 7, .int .i64 0, .bool false, .string x] 28 (0, 0))) := heap_alloc_new w _
  have hB : Hid (Below w.heap.size w (w.alloc (.cells #[.int .i64 7, .int .i64 0, .bool false, .string x] 28))) := (Below.refl _ w).alloc (Nat.le_refl _) _
  go_enter Tryd.func22, Tryd.ntmps22
  go_wp2_with fail
  refine (kOther_eq x _).mono ?_
  rintro e w1 ⟨rfl, rfl⟩
  go_wp2_with fail
  refine bodyPost_ret (results_cell_row rfl _ _ w.heap.size 28 _ (0, 0) _ rfl hF.out Tryd.underlying28 rfl (by kernel_rfl)) rfl ?_
  exact ⟨rfl, hB.out⟩
set_option maxHeartbeats 4000000 in
set_option maxRecDepth 100000 in
theorem vw_8 (x : ByteArray) (w : World) :
    Calls Tryd.prog 22 #[.iface 73 (.string x)] w fun r w' => r = .returned (.agg #[.int .i64 8, .int .i64 0, .bool false, .string x]) ∧ Below w.heap.size w w' := by
  have hBool : ∀ W, (Instr.typeAssert (.iface 73 (.string x)) 53 68 true).run Tryd.prog W = .ok (.tuple #[.bool false, .bool false]) W := fun W => by kernel_rfl
  have hInt : ∀ W, (Instr.typeAssert (.iface 73 (.string x)) 53 70 true).run Tryd.prog W = .ok (.tuple #[.int .i64 0, .bool false]) W := fun W => by kernel_rfl
  have hText : ∀ W, (Instr.typeAssert (.iface 73 (.string x)) 53 71 true).run Tryd.prog W = .ok (.tuple #[.string ⟨#[]⟩, .bool false]) W := fun W => by kernel_rfl
  have hOther : ∀ W, (Instr.typeAssert (.iface 73 (.string x)) 53 72 true).run Tryd.prog W = .ok (.tuple #[.string ⟨#[]⟩, .bool false]) W := fun W => by kernel_rfl
  have hAlias : ∀ W, (Instr.typeAssert (.iface 73 (.string x)) 53 73 true).run Tryd.prog W = .ok (.tuple #[.string x, .bool true]) W := fun W => by kernel_rfl
  have hF : Hid ((w.alloc (.cells #[.int .i64 8, .int .i64 0, .bool false, .string x] 28)).heap[w.heap.size]? = some (.cells #[.int .i64 8, .int .i64 0, .bool false, .string x] 28 (0, 0))) := heap_alloc_new w _
  have hB : Hid (Below w.heap.size w (w.alloc (.cells #[.int .i64 8, .int .i64 0, .bool false, .string x] 28))) := (Below.refl _ w).alloc (Nat.le_refl _) _
  go_enter Tryd.func22, Tryd.ntmps22
  go_wp2_with fail
  refine (kAlias_eq x _).mono ?_
  rintro e w1 ⟨rfl, rfl⟩
  go_wp2_with fail
  refine bodyPost_ret (results_cell_row rfl _ _ w.heap.size 28 _ (0, 0) _ rfl hF.out Tryd.underlying28 rfl (by kernel_rfl)) rfl ?_
  exact ⟨rfl, hB.out⟩
/-- A worth with no more than its kind tells. -/
def Va.Nor (v : Va) : Prop := v = ⟨0, 0, false, ⟨#[]⟩⟩ ∨ v = ⟨1, 0, false, ⟨#[]⟩⟩ ∨ (∃ x, v = ⟨2, 0, x, ⟨#[]⟩⟩) ∨ (∃ x, v = ⟨3, x, false, ⟨#[]⟩⟩) ∨ (∃ x, v = ⟨4, 0, false, x⟩) ∨ v = ⟨5, 0, false, ⟨#[]⟩⟩ ∨ v = ⟨6, 0, false, ⟨#[]⟩⟩ ∨ (∃ x, v = ⟨7, 0, false, x⟩) ∨ ∃ x, v = ⟨8, 0, false, x⟩
theorem plV_nor (s : ByteArray) : (plV s).Nor := by
  rcases plV_four s with h | ⟨b, h⟩ | ⟨r, _, h⟩ | h
  · exact .inr (.inl h)
  · exact .inr (.inr (.inl ⟨b, h⟩))
  · exact .inr (.inr (.inr (.inl ⟨r, h⟩)))
  · exact .inr (.inr (.inr (.inr (.inl ⟨s, h⟩))))
theorem n4 (s : ByteArray) : Va.Nor ⟨4, 0, false, s⟩ := .inr (.inr (.inr (.inr (.inl ⟨s, rfl⟩))))
theorem n7 (s : ByteArray) : Va.Nor ⟨7, 0, false, s⟩ := .inr (.inr (.inr (.inr (.inr (.inr (.inr (.inl ⟨s, rfl⟩)))))))
theorem tgV_nor (s : ByteArray) (k : Int) : (tgV s k).Nor := by
  unfold tgV
  split
  · exact plV_nor s
  · exact n7 s
theorem scV_nor (st : Int) (s t : ByteArray) : (scV st s t).Nor := by
  unfold scV
  split
  · split
    · exact plV_nor s
    · exact n4 s
  · split
    · exact n4 s
    · split
      · exact n4 s
      · split
        · exact tgV_nor s _
        · split
          · exact tgV_nor s _
          · split
            · exact tgV_nor s _
            · exact n7 s
theorem woV_nor (e : Ev) : (woV e).Nor := by
  unfold woV
  split
  · exact .inr (.inr (.inr (.inr (.inr (.inl rfl)))))
  · split
    · exact .inr (.inr (.inr (.inr (.inr (.inr (.inl rfl))))))
    · split
      · exact .inr (.inr (.inr (.inr (.inr (.inr (.inr (.inr ⟨e.text, rfl⟩)))))))
      · split
        · exact scV_nor _ _ _
        · exact .inl rfl
theorem valueWith_any (v : Va) (hn : v.Nor) (w : World) : Calls Tryd.prog 22 #[wv v] w fun r w' => r = .returned (.agg v.row) ∧ Below w.heap.size w w' := by
  rcases hn with rfl | rfl | ⟨x, rfl⟩ | ⟨x, rfl⟩ | ⟨x, rfl⟩ | rfl | rfl | ⟨x, rfl⟩ | ⟨x, rfl⟩
  · exact vw_0 w
  · exact vw_1 w
  · exact vw_2 x w
  · exact vw_3 x w
  · exact vw_4 x w
  · exact vw_5 w
  · exact vw_6 w
  · exact vw_7 x w
  · exact vw_8 x w
section
variable {w : World} {b : Nat} {x0 x1 x2 x3 : Value} {t : TypeId}
theorem v4_0 (h : w.heap[b]? = some (.cells #[x0, x1, x2, x3] t (0, 0))) : w.cell? ⟨b, 0, none⟩ = some x0 := by simp [World.cell?, h]
theorem v4_1 (h : w.heap[b]? = some (.cells #[x0, x1, x2, x3] t (0, 0))) : w.cell? ⟨b, 1, none⟩ = some x1 := by simp [World.cell?, h]
theorem v4_2 (h : w.heap[b]? = some (.cells #[x0, x1, x2, x3] t (0, 0))) : w.cell? ⟨b, 2, none⟩ = some x2 := by simp [World.cell?, h]
theorem v4_3 (h : w.heap[b]? = some (.cells #[x0, x1, x2, x3] t (0, 0))) : w.cell? ⟨b, 3, none⟩ = some x3 := by simp [World.cell?, h]
theorem v4_f (h : w.heap[b]? = some (.cells #[x0, x1, x2, x3] t (0, 0))) (i : Nat) : w.frozen? ⟨b, i, none⟩ = false := by simp [World.frozen?, h]
theorem v4_setAll (h : w.heap[b]? = some (.cells #[x0, x1, x2, x3] t (0, 0))) (a0 a1 a2 a3 : Value) :
    ((((w.setCell ⟨b, 0, none⟩ a0).setCell ⟨b, 1, none⟩ a1).setCell ⟨b, 2, none⟩ a2).setCell ⟨b, 3, none⟩ a3).heap[b]? = some (.cells #[a0, a1, a2, a3] t (0, 0)) := by
  simp [World.setCell, Array.getElem?_modify, h]
theorem v4_below {lo : Nat} {W : World} (hb : Below lo W w) (hlo : lo ≤ b) (a0 a1 a2 a3 : Value) : Below lo W ((((w.setCell ⟨b, 0, none⟩ a0).setCell ⟨b, 1, none⟩ a1).setCell ⟨b, 2, none⟩ a2).setCell ⟨b, 3, none⟩ a3) :=
  (((hb.setCell (p := ⟨b, 0, none⟩) hlo a0).setCell (p := ⟨b, 1, none⟩) hlo a1).setCell (p := ⟨b, 2, none⟩) hlo a2).setCell (p := ⟨b, 3, none⟩) hlo a3
end
def zV : Array Value := #[.int .i64 0, .int .i64 0, .bool false, .string ⟨#[]⟩]
set_option maxHeartbeats 4000000 in
set_option maxRecDepth 100000 in
theorem valueOf_any (e : Ev) (w : World) (hs : e.tot ≤ 1048576) (hf : wfE e) (hv : NumV w) :
    Calls Tryd.prog 9 #[.agg e.row] w fun r w' => r = .returned (.agg (vaV e).row) ∧ Below w.heap.size w w' := by
  have hts : e.text.size ≤ 1048576 := by unfold Ev.tot at hs; omega
  have cE : Hid (∀ w, Calls Tryd.prog 21 #[.agg e.row] w fun r w' => r = .returned (.bool (evOk e)) ∧ Below w.heap.size w w') := fun w => implEo e w hs hf
  have cW : Hid (∀ w, NumV w → Calls Tryd.prog 23 #[.agg e.row] w fun r w' => r = .returned (wv (woV e)) ∧ Below w.heap.size w w') := fun w hv => worthOf_any e w hts hv
  have cV : Hid (∀ w, Calls Tryd.prog 22 #[wv (woV e)] w fun r w' => r = .returned (.agg (woV e).row) ∧ Below w.heap.size w w') := fun w => valueWith_any (woV e) (woV_nor e) w
  have hvv : vaV e = if evOk e = true then woV e else noV := rfl
  rw [hvv]
  clear hvv hs hf hts
  generalize evOk e = ok at *
  generalize wv (woV e) = X at *
  generalize woV e = v at *
  obtain ⟨kind, style, flag, text, anchor, tag, at_, code⟩ := e
  obtain ⟨k0, n0, b0, s0⟩ := v
  have HV : Hid (NumV w) := hv
  clear hv
  generalize hE : Ev.row ⟨kind, style, flag, text, anchor, tag, at_, code⟩ = E at *
  have hE' : E = #[.int .i64 kind, .int .i64 style, .bool flag, .string text, .string anchor, .string tag, .int .i64 at_, .int .i64 code] := hE.symm
  subst hE'
  clear hE
  have HB0 : Hid (Below w.heap.size w ((w.alloc (.cells #[.int .i64 kind, .int .i64 style, .bool flag, .string text, .string anchor, .string tag, .int .i64 at_, .int .i64 code] 31)).alloc (.cells zV 28))) := ((Below.refl _ w).alloc (Nat.le_refl _) _).alloc (by simp) _
  have HE0 : Hid (((w.alloc (.cells #[.int .i64 kind, .int .i64 style, .bool flag, .string text, .string anchor, .string tag, .int .i64 at_, .int .i64 code] 31)).alloc (.cells zV 28)).heap[w.heap.size]? = some (.cells #[.int .i64 kind, .int .i64 style, .bool flag, .string text, .string anchor, .string tag, .int .i64 at_, .int .i64 code] 31 (0, 0))) := by
    show ((w.heap.push _).push _)[w.heap.size]? = _
    rw [Array.getElem?_push, if_neg (by simp), Array.getElem?_push, if_pos rfl]
  have HZ0 : Hid (((w.alloc (.cells #[.int .i64 kind, .int .i64 style, .bool flag, .string text, .string anchor, .string tag, .int .i64 at_, .int .i64 code] 31)).alloc (.cells zV 28)).heap[w.heap.size + 1]? = some (.cells zV 28 (0, 0))) := by
    show ((w.heap.push _).push _)[w.heap.size + 1]? = _
    rw [Array.getElem?_push, if_pos (by simp)]
  have HS0 : Hid (((w.alloc (.cells #[.int .i64 kind, .int .i64 style, .bool flag, .string text, .string anchor, .string tag, .int .i64 at_, .int .i64 code] 31)).alloc (.cells zV 28)).heap.size = w.heap.size + 2) := by
    show ((w.heap.push _).push _).size = _
    simp
  unfold zV at HB0 HE0 HZ0 HS0
  go_enter Tryd.func9, Tryd.ntmps9
  go_wp2_with fail
  refine (cE.out _).mono ?_
  rintro e w1 ⟨rfl, hb1⟩
  have HB1 : Hid (Below w.heap.size w w1) := HB0.out.trans (hb1.mono HB0.out.size)
  have E1 : Hid (w1.heap[w.heap.size]? = some (.cells #[.int .i64 kind, .int .i64 style, .bool flag, .string text, .string anchor, .string tag, .int .i64 at_, .int .i64 code] 31 (0, 0))) := (hb1.block _ (by rw [HS0.out]; omega)).trans HE0.out
  have Z1 : Hid (w1.heap[w.heap.size + 1]? = some (.cells #[.int .i64 0, .int .i64 0, .bool false, .string ⟨#[]⟩] 28 (0, 0))) := (hb1.block _ (by rw [HS0.out]; omega)).trans HZ0.out
  have S1 : Hid (w.heap.size + 2 ≤ w1.heap.size) := by show _ ≤ _; rw [← HS0.out]; exact hb1.size
  clear hb1 HB0 HE0 HZ0 HS0 cE
  cases ok with
  | false =>
    have z0 := v4_0 Z1.out
    have z1 := v4_1 Z1.out
    have z2 := v4_2 Z1.out
    have z3 := v4_3 Z1.out
    have y0 := v4_f Z1.out 0
    have y1 := v4_f Z1.out 1
    have y2 := v4_f Z1.out 2
    have y3 := v4_f Z1.out 3
    go_wp2_with fail
    have hF := v4_setAll Z1.out (.int .i64 0) (.int .i64 0) (.bool false) (.string ⟨#[]⟩)
    have hFb := v4_below HB1.out (b := w.heap.size + 1) (by omega) (.int .i64 0) (.int .i64 0) (.bool false) (.string ⟨#[]⟩)
    try simp only [Exit.inBlock, Exit.then]
    refine bodyPost_ret (results_cell_row rfl _ _ (w.heap.size + 1) 28 _ (0, 0) _ rfl hF Tryd.underlying28 rfl (by kernel_rfl)) rfl ?_
    exact ⟨rfl, hFb⟩
  | true =>
    have q := ev_at E1.out
    obtain ⟨q0, q1, q2, q3, q4, q5, q6, q7⟩ := q
    go_wp2_with fail
    refine (cW.out _ (HV.out.later HB1.out)).mono ?_
    rintro e w2 ⟨rfl, hb2⟩
    have HB2 : Hid (Below w.heap.size w w2) := HB1.out.trans (hb2.mono HB1.out.size)
    have Z2 : Hid (w2.heap[w.heap.size + 1]? = some (.cells #[.int .i64 0, .int .i64 0, .bool false, .string ⟨#[]⟩] 28 (0, 0))) := (hb2.block _ (by have := S1.out; omega)).trans Z1.out
    have S2 : Hid (w.heap.size + 2 ≤ w2.heap.size) := Nat.le_trans S1.out hb2.size
    clear hb2 HB1 E1 Z1 S1 cW q0 q1 q2 q3 q4 q5 q6 q7
    go_wp2_with fail
    refine (cV.out _).mono ?_
    rintro e w3 ⟨rfl, hb3⟩
    have HB3 : Hid (Below w.heap.size w w3) := HB2.out.trans (hb3.mono HB2.out.size)
    have Z3 : Hid (w3.heap[w.heap.size + 1]? = some (.cells #[.int .i64 0, .int .i64 0, .bool false, .string ⟨#[]⟩] 28 (0, 0))) := (hb3.block _ (by have := S2.out; omega)).trans Z2.out
    clear hb3 HB2 Z2 S2 cV
    have z0 := v4_0 Z3.out
    have z1 := v4_1 Z3.out
    have z2 := v4_2 Z3.out
    have z3 := v4_3 Z3.out
    have y0 := v4_f Z3.out 0
    have y1 := v4_f Z3.out 1
    have y2 := v4_f Z3.out 2
    have y3 := v4_f Z3.out 3
    unfold Va.row
    go_wp2_with fail
    have hF := v4_setAll Z3.out (.int .i64 k0) (.int .i64 n0) (.bool b0) (.string s0)
    have hFb := v4_below HB3.out (b := w.heap.size + 1) (by omega) (.int .i64 k0) (.int .i64 n0) (.bool b0) (.string s0)
    try simp only [Exit.inBlock, Exit.then]
    refine bodyPost_ret (results_cell_row rfl _ _ (w.heap.size + 1) 28 _ (0, 0) _ rfl hF Tryd.underlying28 rfl (by kernel_rfl)) rfl ?_
    exact ⟨rfl, hFb⟩
end Go.Proofs.YtlfamgdmmenonaaDoor
