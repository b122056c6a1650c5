/- Several texts in one: Ik1 Ik2 Ik3 Ik4 Ik5 Ik6. -/
import Derived.Test.YtepodbjdicnjoaaMti
/- impl's ties: take, a case. -/
namespace Go.Proofs.Ytepodbjdicnjoaa
open Go.ChangeShapes Go.WideShapes Go.ChangeAt Go.RowKit Go.Maps
set_option maxRecDepth 100000 in
set_option maxHeartbeats 8000000 in
theorem take_no_alias (b B1 B2 : Nat) (lv : Value) (w0 w : World) (t : Ti) (k : Nat) (es : List Ev) (n : Sp) (e : Ev) (hS : SlE w0 lv es) (hl : totE es + es.length ≤ 1048576) (he : es[n.at_]? = some e) (hI : TsI b B1 B2 lv w0 t k w) (hk : k ≤ 1048576) (hu : n.up ≠ -1) (h6 : e.kind = 6) :
    Calls Try.prog 46 #[.pointer (some ⟨b, 0, none⟩), n.val] w fun r w' => r = .returned (.tuple #[]) ∧ TsI b B1 B2 lv w0 (Ti.tie t e.text n.at_) (k + 1) w' ∧ KeepS w w' := by
  obtain ⟨W, hW⟩ : ∃ W, w.alloc (.cells #[.int .i64 (n.at_ : Int), .int .i64 n.end_, .int .i64 n.up] 58) = W := ⟨_, rfl⟩
  have hBW : Below w.heap.size w W := by rw [← hW]; exact al_belowN w _
  have hnew : W.heap[w.heap.size]? = some (.cells #[.int .i64 (n.at_ : Int), .int .i64 n.end_, .int .i64 n.up] 58 (0, 0)) := by rw [← hW]; exact heap_alloc_new w _
  have u0 : W.cell? ⟨w.heap.size, 0, none⟩ = some (.int .i64 (n.at_ : Int)) := Lib.cell_of_heap hnew 0
  have u2 : W.cell? ⟨w.heap.size, 2, none⟩ = some (.int .i64 n.up) := Lib.cell_of_heap hnew 2
  have hIW := hI.stays hBW
  have nb : w.heap.size ≠ b := by have := hI.at_.lt; omega
  have nb' : b ≠ w.heap.size := Ne.symm nb
  have HB0 : Hid (w0.heap.size ≤ w.heap.size) := hI.below.size
  have HW : Hid (w.alloc (.cells #[.int .i64 (n.at_ : Int), .int .i64 n.end_, .int .i64 n.up] 58) = W) := hW
  have tu : (n.up == -1) = false := by rw [beq_eq_false_iff_ne]; exact hu
  obtain ⟨V, hV⟩ : ∃ V, W = V := ⟨_, rfl⟩
  have v0 : V.cell? ⟨w.heap.size, 0, none⟩ = some (.int .i64 (n.at_ : Int)) := by rw [← hV]; exact u0
  have HV1 : Hid (V.cell? ⟨w.heap.size, 1, none⟩ = some (.int .i64 n.end_)) := by show _ = _; rw [← hV]; exact Lib.cell_of_heap hnew 1
  have HV2 : Hid (V.cell? ⟨w.heap.size, 2, none⟩ = some (.int .i64 n.up)) := by show _ = _; rw [← hV]; exact u2
  have HVS : Hid (w.heap.size < V.heap.size) := by show _ < _; rw [← hV, ← hW]; simp
  have HIV : Hid (TsI b B1 B2 lv w0 t k V) := by rw [← hV]; exact hIW
  have HKV : Hid (KeepS w V) := by rw [← hV]; exact KeepS.of hBW
  have HVV : Hid (W = V) := hV
  clear hV
  have htot := totE_mem (List.mem_of_getElem? he)
  have HTX : Hid (e.text.size ≤ 1073741824 ∧ e.anchor.size ≤ 1073741824 ∧ n.at_ ≤ 1048576 ∧ k ≤ 1048576) := by
    have := (List.getElem?_eq_some_iff.1 he).1
    unfold Ev.tot at htot
    exact ⟨by omega, by omega, by omega, hk⟩
  obtain ⟨la, lc, rfl⟩ := hS.sl
  obtain ⟨bb, off, rfl, hbb, ⟨c0, c1, c2, c3, c4, c5, c6, c7⟩⟩ := hS.at HIV.out.below he
  have hlt' : (n.at_ : Int) < (es.length : Int) := by have := (List.getElem?_eq_some_iff.1 he).1; omega
  have hle : (es.length : Int) ≤ 1048576 := by omega
  have d0 := HIV.out.at_.c0
  unfold Sp.val
  obtain ⟨kind, style, flag, text, anchor, tag, at_, code⟩ := e
  simp only at c0 c1 c2 c3 c4 c5 c6 c7 HTX h6
  subst h6
  obtain ⟨X, hX⟩ : ∃ X, (V.alloc (.cells #[.int .i64 6, .int .i64 style, .bool flag, .string text, .string anchor, .string tag, .int .i64 at_, .int .i64 code] 39)).drew = X := ⟨_, rfl⟩
  have hBX : Below V.heap.size V X := by rw [← hX]; exact (al_belowN V _).drew
  have hnX : X.heap[V.heap.size]? = some (.cells #[.int .i64 6, .int .i64 style, .bool flag, .string text, .string anchor, .string tag, .int .i64 at_, .int .i64 code] 39 (0, 0)) := by rw [← hX]; exact heap_alloc_new V _
  obtain ⟨x0, x1, x2, x3, x4, x5, x6, x7⟩ := ev_at hnX
  have y0 : X.cell? ⟨w.heap.size, 0, none⟩ = some (.int .i64 (n.at_ : Int)) := by rw [hBX.cell (by have := HVS.out; omega)]; exact v0
  have y1 : X.cell? ⟨w.heap.size, 1, none⟩ = some (.int .i64 n.end_) := by rw [hBX.cell (by have := HVS.out; omega)]; exact HV1.out
  have y2 : X.cell? ⟨w.heap.size, 2, none⟩ = some (.int .i64 n.up) := by rw [hBX.cell (by have := HVS.out; omega)]; exact HV2.out
  have HIX : Hid (TsI b B1 B2 (.slice (some ⟨bb, off, none⟩) es.length lc) w0 t k X) := HIV.out.stays hBX
  have HKX : Hid (KeepS w X) := HKV.out.trans (KeepS.of hBX)
  have HX : Hid ((V.alloc (.cells #[.int .i64 6, .int .i64 style, .bool flag, .string text, .string anchor, .string tag, .int .i64 at_, .int .i64 code] 39)).drew = X) := hX
  obtain ⟨Z, hZ⟩ : ∃ Z, V.alloc (.cells #[.int .i64 0, .int .i64 0, .bool false, .string ⟨#[]⟩, .string ⟨#[]⟩, .string ⟨#[]⟩, .int .i64 0, .int .i64 0] 39) = Z := ⟨_, rfl⟩
  have hBZ : Below V.heap.size V Z := by rw [← hZ]; exact al_belowN V _
  have hbV : bb < V.heap.size := Nat.lt_of_lt_of_le hbb HIV.out.below.size
  have z0 : Z.cell? _ = _ := (hBZ.cell hbV).trans c0
  have z1 : Z.cell? _ = _ := (hBZ.cell hbV).trans c1
  have z2 : Z.cell? _ = _ := (hBZ.cell hbV).trans c2
  have z3 : Z.cell? _ = _ := (hBZ.cell hbV).trans c3
  have z4 : Z.cell? _ = _ := (hBZ.cell hbV).trans c4
  have z5 : Z.cell? _ = _ := (hBZ.cell hbV).trans c5
  have z6 : Z.cell? _ = _ := (hBZ.cell hbV).trans c6
  have z7 : Z.cell? _ = _ := (hBZ.cell hbV).trans c7
  have zd : Z.cell? _ = _ := (hBZ.cell HIV.out.at_.lt).trans d0
  have zv : Z.cell? _ = _ := (hBZ.cell HVS.out).trans v0
  rw [← hZ] at z0 z1 z2 z3 z4 z5 z6 z7 zd zv
  clear hS hl he hI hk hW hBW hnew hIW htot hbb hX hBX hnX HV1 HV2 hZ hBZ hbV
  go_enter Try.func46, Try.ntmps46
  go_wp2_with fail
  rw [HW.out]
  go_wp2_with fail
  rw [HVV.out]
  clear u0 u2 HVV HW

  go_region
  all_goals (
    rw [HX.out]
    clear c0 c1 c2 c3 c4 c5 c6 c7 d0 v0 HX z0 z1 z2 z3 z4 z5 z6 z7 zd zv
    have cT := tie_any b B1 B2 _ w0 X _ k text n.at_ HIX.out HTX.out.1 HTX.out.2.2.1 HTX.out.2.2.2
    go_wp2_with fail
    refine cT.mono ?_
    rintro r w2 ⟨rfl, h2, k2⟩
    have HQ : Hid (TsI b B1 B2 (.slice (some ⟨bb, off, none⟩) es.length lc) w0 (Ti.tie t text n.at_) (k + 1) w2 ∧ KeepS w w2) := ⟨h2, HKX.out.trans k2⟩
    clear cT h2 k2 x0 x1 x2 x3 x4 x5 x6 x7 y0 y1 y2
    go_wp2_with fail
    go_end0
    exact ⟨rfl, HQ.out⟩)
end Go.Proofs.Ytepodbjdicnjoaa
/- impl's ties: take, a case. -/
namespace Go.Proofs.Ytepodbjdicnjoaa
open Go.ChangeShapes Go.WideShapes Go.ChangeAt Go.RowKit Go.Maps
set_option maxRecDepth 100000 in
set_option maxHeartbeats 8000000 in
theorem take_no_name (b B1 B2 : Nat) (lv : Value) (w0 w : World) (t : Ti) (k : Nat) (es : List Ev) (n : Sp) (e : Ev) (hS : SlE w0 lv es) (hl : totE es + es.length ≤ 1048576) (he : es[n.at_]? = some e) (hI : TsI b B1 B2 lv w0 t k w) (hk : k ≤ 1048576) (hu : n.up ≠ -1) (h6 : ¬ e.kind = 6) (ha : e.anchor.toList ≠ []) :
    Calls Try.prog 46 #[.pointer (some ⟨b, 0, none⟩), n.val] w fun r w' => r = .returned (.tuple #[]) ∧ TsI b B1 B2 lv w0 (Ti.name t e.anchor n) (k + 1) w' ∧ KeepS w w' := by
  obtain ⟨W, hW⟩ : ∃ W, w.alloc (.cells #[.int .i64 (n.at_ : Int), .int .i64 n.end_, .int .i64 n.up] 58) = W := ⟨_, rfl⟩
  have hBW : Below w.heap.size w W := by rw [← hW]; exact al_belowN w _
  have hnew : W.heap[w.heap.size]? = some (.cells #[.int .i64 (n.at_ : Int), .int .i64 n.end_, .int .i64 n.up] 58 (0, 0)) := by rw [← hW]; exact heap_alloc_new w _
  have u0 : W.cell? ⟨w.heap.size, 0, none⟩ = some (.int .i64 (n.at_ : Int)) := Lib.cell_of_heap hnew 0
  have u2 : W.cell? ⟨w.heap.size, 2, none⟩ = some (.int .i64 n.up) := Lib.cell_of_heap hnew 2
  have hIW := hI.stays hBW
  have nb : w.heap.size ≠ b := by have := hI.at_.lt; omega
  have nb' : b ≠ w.heap.size := Ne.symm nb
  have HB0 : Hid (w0.heap.size ≤ w.heap.size) := hI.below.size
  have HW : Hid (w.alloc (.cells #[.int .i64 (n.at_ : Int), .int .i64 n.end_, .int .i64 n.up] 58) = W) := hW
  have tu : (n.up == -1) = false := by rw [beq_eq_false_iff_ne]; exact hu
  obtain ⟨V, hV⟩ : ∃ V, W = V := ⟨_, rfl⟩
  have v0 : V.cell? ⟨w.heap.size, 0, none⟩ = some (.int .i64 (n.at_ : Int)) := by rw [← hV]; exact u0
  have HV1 : Hid (V.cell? ⟨w.heap.size, 1, none⟩ = some (.int .i64 n.end_)) := by show _ = _; rw [← hV]; exact Lib.cell_of_heap hnew 1
  have HV2 : Hid (V.cell? ⟨w.heap.size, 2, none⟩ = some (.int .i64 n.up)) := by show _ = _; rw [← hV]; exact u2
  have HVS : Hid (w.heap.size < V.heap.size) := by show _ < _; rw [← hV, ← hW]; simp
  have HIV : Hid (TsI b B1 B2 lv w0 t k V) := by rw [← hV]; exact hIW
  have HKV : Hid (KeepS w V) := by rw [← hV]; exact KeepS.of hBW
  have HVV : Hid (W = V) := hV
  clear hV
  have htot := totE_mem (List.mem_of_getElem? he)
  have HTX : Hid (e.text.size ≤ 1073741824 ∧ e.anchor.size ≤ 1073741824 ∧ n.at_ ≤ 1048576 ∧ k ≤ 1048576) := by
    have := (List.getElem?_eq_some_iff.1 he).1
    unfold Ev.tot at htot
    exact ⟨by omega, by omega, by omega, hk⟩
  obtain ⟨la, lc, rfl⟩ := hS.sl
  obtain ⟨bb, off, rfl, hbb, ⟨c0, c1, c2, c3, c4, c5, c6, c7⟩⟩ := hS.at HIV.out.below he
  have hlt' : (n.at_ : Int) < (es.length : Int) := by have := (List.getElem?_eq_some_iff.1 he).1; omega
  have hle : (es.length : Int) ≤ 1048576 := by omega
  have d0 := HIV.out.at_.c0
  unfold Sp.val
  obtain ⟨kind, style, flag, text, anchor, tag, at_, code⟩ := e
  simp only at c0 c1 c2 c3 c4 c5 c6 c7 HTX h6 ha
  have t6 : (kind == 6) = false := by rw [beq_eq_false_iff_ne]; exact h6
  have hie : anchor.toList.isEmpty = false := by cases hh : anchor.toList with | nil => exact absurd hh ha | cons _ _ => rfl
  have hne : (anchor.toList == []) = false := by rw [beq_eq_false_iff_ne]; exact ha
  obtain ⟨X, hX⟩ : ∃ X, (V.alloc (.cells #[.int .i64 kind, .int .i64 style, .bool flag, .string text, .string anchor, .string tag, .int .i64 at_, .int .i64 code] 39)).drew = X := ⟨_, rfl⟩
  have hBX : Below V.heap.size V X := by rw [← hX]; exact (al_belowN V _).drew
  have hnX : X.heap[V.heap.size]? = some (.cells #[.int .i64 kind, .int .i64 style, .bool flag, .string text, .string anchor, .string tag, .int .i64 at_, .int .i64 code] 39 (0, 0)) := by rw [← hX]; exact heap_alloc_new V _
  obtain ⟨x0, x1, x2, x3, x4, x5, x6, x7⟩ := ev_at hnX
  have y0 : X.cell? ⟨w.heap.size, 0, none⟩ = some (.int .i64 (n.at_ : Int)) := by rw [hBX.cell (by have := HVS.out; omega)]; exact v0
  have y1 : X.cell? ⟨w.heap.size, 1, none⟩ = some (.int .i64 n.end_) := by rw [hBX.cell (by have := HVS.out; omega)]; exact HV1.out
  have y2 : X.cell? ⟨w.heap.size, 2, none⟩ = some (.int .i64 n.up) := by rw [hBX.cell (by have := HVS.out; omega)]; exact HV2.out
  have HIX : Hid (TsI b B1 B2 (.slice (some ⟨bb, off, none⟩) es.length lc) w0 t k X) := HIV.out.stays hBX
  have HKX : Hid (KeepS w X) := HKV.out.trans (KeepS.of hBX)
  have HX : Hid ((V.alloc (.cells #[.int .i64 kind, .int .i64 style, .bool flag, .string text, .string anchor, .string tag, .int .i64 at_, .int .i64 code] 39)).drew = X) := hX
  obtain ⟨Z, hZ⟩ : ∃ Z, V.alloc (.cells #[.int .i64 0, .int .i64 0, .bool false, .string ⟨#[]⟩, .string ⟨#[]⟩, .string ⟨#[]⟩, .int .i64 0, .int .i64 0] 39) = Z := ⟨_, rfl⟩
  have hBZ : Below V.heap.size V Z := by rw [← hZ]; exact al_belowN V _
  have hbV : bb < V.heap.size := Nat.lt_of_lt_of_le hbb HIV.out.below.size
  have z0 : Z.cell? _ = _ := (hBZ.cell hbV).trans c0
  have z1 : Z.cell? _ = _ := (hBZ.cell hbV).trans c1
  have z2 : Z.cell? _ = _ := (hBZ.cell hbV).trans c2
  have z3 : Z.cell? _ = _ := (hBZ.cell hbV).trans c3
  have z4 : Z.cell? _ = _ := (hBZ.cell hbV).trans c4
  have z5 : Z.cell? _ = _ := (hBZ.cell hbV).trans c5
  have z6 : Z.cell? _ = _ := (hBZ.cell hbV).trans c6
  have z7 : Z.cell? _ = _ := (hBZ.cell hbV).trans c7
  have zd : Z.cell? _ = _ := (hBZ.cell HIV.out.at_.lt).trans d0
  have zv : Z.cell? _ = _ := (hBZ.cell HVS.out).trans v0
  rw [← hZ] at z0 z1 z2 z3 z4 z5 z6 z7 zd zv
  clear hS hl he hI hk hW hBW hnew hIW htot hbb hX hBX hnX HV1 HV2 hZ hBZ hbV
  go_enter Try.func46, Try.ntmps46
  go_wp2_with fail
  rw [HW.out]
  go_wp2_with fail
  rw [HVV.out]
  clear u0 u2 HVV HW

  go_region
  all_goals (
    rw [HX.out]
    clear c0 c1 c2 c3 c4 c5 c6 c7 d0 v0 HX z0 z1 z2 z3 z4 z5 z6 z7 zd zv
    obtain ⟨w3, hup, h3, k3⟩ := (HIX.out.stays ((Below.refl X.heap.size X).drew)).putN anchor n HTX.out.2.1 (by have := HTX.out.2.2.2; omega)
    unfold Sp.val at hup
    have HQ : Hid (TsI b B1 B2 (.slice (some ⟨bb, off, none⟩) es.length lc) w0 (Ti.name t anchor n) (k + 1) w3 ∧ KeepS w w3) := ⟨h3, (HKX.out.trans (KeepS.of ((Below.refl X.heap.size X).drew))).trans k3⟩
    have zz : X.cell? ⟨b, 2, none⟩ = some (.map (some B1)) := HIX.out.at_.c2
    clear h3 k3
    go_wp2_with fail
    go_region
    all_goals (
      clear hup zz x0 x1 x2 x3 x4 x5 x6 x7 y0 y1 y2
      go_wp2_with fail
      go_end0
      exact ⟨rfl, HQ.out⟩))
end Go.Proofs.Ytepodbjdicnjoaa
/- impl's ties: take, a case. -/
namespace Go.Proofs.Ytepodbjdicnjoaa
open Go.ChangeShapes Go.WideShapes Go.ChangeAt Go.RowKit Go.Maps
set_option maxRecDepth 100000 in
set_option maxHeartbeats 8000000 in
theorem take_no_bare (b B1 B2 : Nat) (lv : Value) (w0 w : World) (t : Ti) (k : Nat) (es : List Ev) (n : Sp) (e : Ev) (hS : SlE w0 lv es) (hl : totE es + es.length ≤ 1048576) (he : es[n.at_]? = some e) (hI : TsI b B1 B2 lv w0 t k w) (hk : k ≤ 1048576) (hu : n.up ≠ -1) (h6 : ¬ e.kind = 6) (ha : e.anchor.toList = []) :
    Calls Try.prog 46 #[.pointer (some ⟨b, 0, none⟩), n.val] w fun r w' => r = .returned (.tuple #[]) ∧ TsI b B1 B2 lv w0 t (k + 1) w' ∧ KeepS w w' := by
  obtain ⟨W, hW⟩ : ∃ W, w.alloc (.cells #[.int .i64 (n.at_ : Int), .int .i64 n.end_, .int .i64 n.up] 58) = W := ⟨_, rfl⟩
  have hBW : Below w.heap.size w W := by rw [← hW]; exact al_belowN w _
  have hnew : W.heap[w.heap.size]? = some (.cells #[.int .i64 (n.at_ : Int), .int .i64 n.end_, .int .i64 n.up] 58 (0, 0)) := by rw [← hW]; exact heap_alloc_new w _
  have u0 : W.cell? ⟨w.heap.size, 0, none⟩ = some (.int .i64 (n.at_ : Int)) := Lib.cell_of_heap hnew 0
  have u2 : W.cell? ⟨w.heap.size, 2, none⟩ = some (.int .i64 n.up) := Lib.cell_of_heap hnew 2
  have hIW := hI.stays hBW
  have nb : w.heap.size ≠ b := by have := hI.at_.lt; omega
  have nb' : b ≠ w.heap.size := Ne.symm nb
  have HB0 : Hid (w0.heap.size ≤ w.heap.size) := hI.below.size
  have HW : Hid (w.alloc (.cells #[.int .i64 (n.at_ : Int), .int .i64 n.end_, .int .i64 n.up] 58) = W) := hW
  have tu : (n.up == -1) = false := by rw [beq_eq_false_iff_ne]; exact hu
  obtain ⟨V, hV⟩ : ∃ V, W = V := ⟨_, rfl⟩
  have v0 : V.cell? ⟨w.heap.size, 0, none⟩ = some (.int .i64 (n.at_ : Int)) := by rw [← hV]; exact u0
  have HV1 : Hid (V.cell? ⟨w.heap.size, 1, none⟩ = some (.int .i64 n.end_)) := by show _ = _; rw [← hV]; exact Lib.cell_of_heap hnew 1
  have HV2 : Hid (V.cell? ⟨w.heap.size, 2, none⟩ = some (.int .i64 n.up)) := by show _ = _; rw [← hV]; exact u2
  have HVS : Hid (w.heap.size < V.heap.size) := by show _ < _; rw [← hV, ← hW]; simp
  have HIV : Hid (TsI b B1 B2 lv w0 t k V) := by rw [← hV]; exact hIW
  have HKV : Hid (KeepS w V) := by rw [← hV]; exact KeepS.of hBW
  have HVV : Hid (W = V) := hV
  clear hV
  have htot := totE_mem (List.mem_of_getElem? he)
  have HTX : Hid (e.text.size ≤ 1073741824 ∧ e.anchor.size ≤ 1073741824 ∧ n.at_ ≤ 1048576 ∧ k ≤ 1048576) := by
    have := (List.getElem?_eq_some_iff.1 he).1
    unfold Ev.tot at htot
    exact ⟨by omega, by omega, by omega, hk⟩
  obtain ⟨la, lc, rfl⟩ := hS.sl
  obtain ⟨bb, off, rfl, hbb, ⟨c0, c1, c2, c3, c4, c5, c6, c7⟩⟩ := hS.at HIV.out.below he
  have hlt' : (n.at_ : Int) < (es.length : Int) := by have := (List.getElem?_eq_some_iff.1 he).1; omega
  have hle : (es.length : Int) ≤ 1048576 := by omega
  have d0 := HIV.out.at_.c0
  unfold Sp.val
  obtain ⟨kind, style, flag, text, anchor, tag, at_, code⟩ := e
  simp only at c0 c1 c2 c3 c4 c5 c6 c7 HTX h6 ha
  have t6 : (kind == 6) = false := by rw [beq_eq_false_iff_ne]; exact h6
  obtain ⟨X, hX⟩ : ∃ X, (V.alloc (.cells #[.int .i64 kind, .int .i64 style, .bool flag, .string text, .string anchor, .string tag, .int .i64 at_, .int .i64 code] 39)).drew = X := ⟨_, rfl⟩
  have hBX : Below V.heap.size V X := by rw [← hX]; exact (al_belowN V _).drew
  have hnX : X.heap[V.heap.size]? = some (.cells #[.int .i64 kind, .int .i64 style, .bool flag, .string text, .string anchor, .string tag, .int .i64 at_, .int .i64 code] 39 (0, 0)) := by rw [← hX]; exact heap_alloc_new V _
  obtain ⟨x0, x1, x2, x3, x4, x5, x6, x7⟩ := ev_at hnX
  have y0 : X.cell? ⟨w.heap.size, 0, none⟩ = some (.int .i64 (n.at_ : Int)) := by rw [hBX.cell (by have := HVS.out; omega)]; exact v0
  have y1 : X.cell? ⟨w.heap.size, 1, none⟩ = some (.int .i64 n.end_) := by rw [hBX.cell (by have := HVS.out; omega)]; exact HV1.out
  have y2 : X.cell? ⟨w.heap.size, 2, none⟩ = some (.int .i64 n.up) := by rw [hBX.cell (by have := HVS.out; omega)]; exact HV2.out
  have HIX : Hid (TsI b B1 B2 (.slice (some ⟨bb, off, none⟩) es.length lc) w0 t k X) := HIV.out.stays hBX
  have HKX : Hid (KeepS w X) := HKV.out.trans (KeepS.of hBX)
  have HX : Hid ((V.alloc (.cells #[.int .i64 kind, .int .i64 style, .bool flag, .string text, .string anchor, .string tag, .int .i64 at_, .int .i64 code] 39)).drew = X) := hX
  obtain ⟨Z, hZ⟩ : ∃ Z, V.alloc (.cells #[.int .i64 0, .int .i64 0, .bool false, .string ⟨#[]⟩, .string ⟨#[]⟩, .string ⟨#[]⟩, .int .i64 0, .int .i64 0] 39) = Z := ⟨_, rfl⟩
  have hBZ : Below V.heap.size V Z := by rw [← hZ]; exact al_belowN V _
  have hbV : bb < V.heap.size := Nat.lt_of_lt_of_le hbb HIV.out.below.size
  have z0 : Z.cell? _ = _ := (hBZ.cell hbV).trans c0
  have z1 : Z.cell? _ = _ := (hBZ.cell hbV).trans c1
  have z2 : Z.cell? _ = _ := (hBZ.cell hbV).trans c2
  have z3 : Z.cell? _ = _ := (hBZ.cell hbV).trans c3
  have z4 : Z.cell? _ = _ := (hBZ.cell hbV).trans c4
  have z5 : Z.cell? _ = _ := (hBZ.cell hbV).trans c5
  have z6 : Z.cell? _ = _ := (hBZ.cell hbV).trans c6
  have z7 : Z.cell? _ = _ := (hBZ.cell hbV).trans c7
  have zd : Z.cell? _ = _ := (hBZ.cell HIV.out.at_.lt).trans d0
  have zv : Z.cell? _ = _ := (hBZ.cell HVS.out).trans v0
  rw [← hZ] at z0 z1 z2 z3 z4 z5 z6 z7 zd zv
  clear hS hl he hI hk hW hBW hnew hIW htot hbb hX hBX hnX HV1 HV2 hZ hBZ hbV
  go_enter Try.func46, Try.ntmps46
  go_wp2_with fail
  rw [HW.out]
  go_wp2_with fail
  rw [HVV.out]
  clear u0 u2 HVV HW

  go_region
  all_goals (
    rw [HX.out]
    clear c0 c1 c2 c3 c4 c5 c6 c7 d0 v0 HX z0 z1 z2 z3 z4 z5 z6 z7 zd zv
    have HQ : Hid (TsI b B1 B2 (.slice (some ⟨bb, off, none⟩) es.length lc) w0 t (k + 1) X ∧ KeepS w X) := ⟨HIX.out.more, HKX.out⟩
    go_wp2_with fail
    go_end0
    exact ⟨rfl, HQ.out⟩)
end Go.Proofs.Ytepodbjdicnjoaa
/- impl's ties: take, a case. -/
namespace Go.Proofs.Ytepodbjdicnjoaa
open Go.ChangeShapes Go.WideShapes Go.ChangeAt Go.RowKit Go.Maps
set_option maxRecDepth 100000 in
set_option maxHeartbeats 8000000 in
theorem take_yes_alias (b B1 B2 : Nat) (lv : Value) (w0 w : World) (t : Ti) (k : Nat) (es : List Ev) (n : Sp) (e : Ev) (hS : SlE w0 lv es) (hl : totE es + es.length ≤ 1048576) (he : es[n.at_]? = some e) (hI : TsI b B1 B2 lv w0 t k w) (hk : k ≤ 1048576) (hu : n.up = -1) (h6 : e.kind = 6) :
    Calls Try.prog 46 #[.pointer (some ⟨b, 0, none⟩), n.val] w fun r w' => r = .returned (.tuple #[]) ∧ TsI b B1 B2 lv w0 (Ti.tie { t with root := n.at_ } e.text n.at_) (k + 1) w' ∧ KeepS w w' := by
  obtain ⟨W, hW⟩ : ∃ W, w.alloc (.cells #[.int .i64 (n.at_ : Int), .int .i64 n.end_, .int .i64 (-1)] 58) = W := ⟨_, rfl⟩
  have hBW : Below w.heap.size w W := by rw [← hW]; exact al_belowN w _
  have hnew : W.heap[w.heap.size]? = some (.cells #[.int .i64 (n.at_ : Int), .int .i64 n.end_, .int .i64 (-1)] 58 (0, 0)) := by rw [← hW]; exact heap_alloc_new w _
  have u0 : W.cell? ⟨w.heap.size, 0, none⟩ = some (.int .i64 (n.at_ : Int)) := Lib.cell_of_heap hnew 0
  have u2 : W.cell? ⟨w.heap.size, 2, none⟩ = some (.int .i64 (-1)) := Lib.cell_of_heap hnew 2
  have hIW := hI.stays hBW
  have nb : w.heap.size ≠ b := by have := hI.at_.lt; omega
  have nb' : b ≠ w.heap.size := Ne.symm nb
  have HB0 : Hid (w0.heap.size ≤ w.heap.size) := hI.below.size
  have HW : Hid (w.alloc (.cells #[.int .i64 (n.at_ : Int), .int .i64 n.end_, .int .i64 (-1)] 58) = W) := hW
  have HUU : Hid (n.up = -1) := hu
  clear hu
  have f1 := hIW.at_.fz 1
  have g1 := hIW.at_.c1
  obtain ⟨V, hV⟩ : ∃ V, W.setCell ⟨b, 1, none⟩ (.int .i64 (n.at_ : Int)) = V := ⟨_, rfl⟩
  have hcl : ∀ j, V.cell? ⟨w.heap.size, j, none⟩ = W.cell? ⟨w.heap.size, j, none⟩ := fun j => by rw [← hV]; exact World.cell?_setCell_other _ _ _ _ (by intro e; injection e with e _; exact nb e.symm)
  have v0 : V.cell? ⟨w.heap.size, 0, none⟩ = some (.int .i64 (n.at_ : Int)) := by rw [hcl]; exact u0
  have HV1 : Hid (V.cell? ⟨w.heap.size, 1, none⟩ = some (.int .i64 n.end_)) := by show _ = _; rw [hcl]; exact Lib.cell_of_heap hnew 1
  have HV2 : Hid (V.cell? ⟨w.heap.size, 2, none⟩ = some (.int .i64 (-1))) := by show _ = _; rw [hcl]; exact u2
  have HVS : Hid (w.heap.size < V.heap.size) := by show _ < _; rw [← hV, ← hW]; simp [World.setCell]
  have HIV : Hid (TsI b B1 B2 lv w0 { t with root := n.at_ } k V) := by
    rw [← hV]
    exact hIW.cell (t' := { t with root := n.at_ }) (hIW.at_.set1 n.at_) rfl rfl (Nat.le_refl k) hIW.ls
  have HKV : Hid (KeepS w V) := by rw [← hV]; exact (KeepS.of hBW).trans (hIW.keep 1 _)
  have HVV : Hid (W.setCell ⟨b, 1, none⟩ (.int .i64 (n.at_ : Int)) = V) := hV
  rw [← hW] at f1 g1
  clear hV hcl
  have htot := totE_mem (List.mem_of_getElem? he)
  have HTX : Hid (e.text.size ≤ 1073741824 ∧ e.anchor.size ≤ 1073741824 ∧ n.at_ ≤ 1048576 ∧ k ≤ 1048576) := by
    have := (List.getElem?_eq_some_iff.1 he).1
    unfold Ev.tot at htot
    exact ⟨by omega, by omega, by omega, hk⟩
  obtain ⟨la, lc, rfl⟩ := hS.sl
  obtain ⟨bb, off, rfl, hbb, ⟨c0, c1, c2, c3, c4, c5, c6, c7⟩⟩ := hS.at HIV.out.below he
  have hlt' : (n.at_ : Int) < (es.length : Int) := by have := (List.getElem?_eq_some_iff.1 he).1; omega
  have hle : (es.length : Int) ≤ 1048576 := by omega
  have d0 := HIV.out.at_.c0
  unfold Sp.val
  rw [HUU.out]
  obtain ⟨kind, style, flag, text, anchor, tag, at_, code⟩ := e
  simp only at c0 c1 c2 c3 c4 c5 c6 c7 HTX h6
  subst h6
  obtain ⟨X, hX⟩ : ∃ X, (V.alloc (.cells #[.int .i64 6, .int .i64 style, .bool flag, .string text, .string anchor, .string tag, .int .i64 at_, .int .i64 code] 39)).drew = X := ⟨_, rfl⟩
  have hBX : Below V.heap.size V X := by rw [← hX]; exact (al_belowN V _).drew
  have hnX : X.heap[V.heap.size]? = some (.cells #[.int .i64 6, .int .i64 style, .bool flag, .string text, .string anchor, .string tag, .int .i64 at_, .int .i64 code] 39 (0, 0)) := by rw [← hX]; exact heap_alloc_new V _
  obtain ⟨x0, x1, x2, x3, x4, x5, x6, x7⟩ := ev_at hnX
  have y0 : X.cell? ⟨w.heap.size, 0, none⟩ = some (.int .i64 (n.at_ : Int)) := by rw [hBX.cell (by have := HVS.out; omega)]; exact v0
  have y1 : X.cell? ⟨w.heap.size, 1, none⟩ = some (.int .i64 n.end_) := by rw [hBX.cell (by have := HVS.out; omega)]; exact HV1.out
  have y2 : X.cell? ⟨w.heap.size, 2, none⟩ = some (.int .i64 (-1)) := by rw [hBX.cell (by have := HVS.out; omega)]; exact HV2.out
  have HIX : Hid (TsI b B1 B2 (.slice (some ⟨bb, off, none⟩) es.length lc) w0 { t with root := n.at_ } k X) := HIV.out.stays hBX
  have HKX : Hid (KeepS w X) := HKV.out.trans (KeepS.of hBX)
  have HX : Hid ((V.alloc (.cells #[.int .i64 6, .int .i64 style, .bool flag, .string text, .string anchor, .string tag, .int .i64 at_, .int .i64 code] 39)).drew = X) := hX
  obtain ⟨Z, hZ⟩ : ∃ Z, V.alloc (.cells #[.int .i64 0, .int .i64 0, .bool false, .string ⟨#[]⟩, .string ⟨#[]⟩, .string ⟨#[]⟩, .int .i64 0, .int .i64 0] 39) = Z := ⟨_, rfl⟩
  have hBZ : Below V.heap.size V Z := by rw [← hZ]; exact al_belowN V _
  have hbV : bb < V.heap.size := Nat.lt_of_lt_of_le hbb HIV.out.below.size
  have z0 : Z.cell? _ = _ := (hBZ.cell hbV).trans c0
  have z1 : Z.cell? _ = _ := (hBZ.cell hbV).trans c1
  have z2 : Z.cell? _ = _ := (hBZ.cell hbV).trans c2
  have z3 : Z.cell? _ = _ := (hBZ.cell hbV).trans c3
  have z4 : Z.cell? _ = _ := (hBZ.cell hbV).trans c4
  have z5 : Z.cell? _ = _ := (hBZ.cell hbV).trans c5
  have z6 : Z.cell? _ = _ := (hBZ.cell hbV).trans c6
  have z7 : Z.cell? _ = _ := (hBZ.cell hbV).trans c7
  have zd : Z.cell? _ = _ := (hBZ.cell HIV.out.at_.lt).trans d0
  have zv : Z.cell? _ = _ := (hBZ.cell HVS.out).trans v0
  rw [← hZ] at z0 z1 z2 z3 z4 z5 z6 z7 zd zv
  clear hS hl he hI hk hW hBW hnew hIW htot hbb hX hBX hnX HV1 HV2 hZ hBZ hbV
  go_enter Try.func46, Try.ntmps46
  go_wp2_with fail
  rw [HW.out, HVV.out]
  clear u0 u2 f1 g1 HVV HW

  go_region
  all_goals (
    rw [HX.out]
    clear c0 c1 c2 c3 c4 c5 c6 c7 d0 v0 HX z0 z1 z2 z3 z4 z5 z6 z7 zd zv
    have cT := tie_any b B1 B2 _ w0 X _ k text n.at_ HIX.out HTX.out.1 HTX.out.2.2.1 HTX.out.2.2.2
    go_wp2_with fail
    refine cT.mono ?_
    rintro r w2 ⟨rfl, h2, k2⟩
    have HQ : Hid (TsI b B1 B2 (.slice (some ⟨bb, off, none⟩) es.length lc) w0 (Ti.tie { t with root := n.at_ } text n.at_) (k + 1) w2 ∧ KeepS w w2) := ⟨h2, HKX.out.trans k2⟩
    clear cT h2 k2 x0 x1 x2 x3 x4 x5 x6 x7 y0 y1 y2
    go_wp2_with fail
    go_end0
    exact ⟨rfl, HQ.out⟩)
end Go.Proofs.Ytepodbjdicnjoaa
/- impl's ties: take, a case. -/
namespace Go.Proofs.Ytepodbjdicnjoaa
open Go.ChangeShapes Go.WideShapes Go.ChangeAt Go.RowKit Go.Maps
set_option maxRecDepth 100000 in
set_option maxHeartbeats 8000000 in
theorem take_yes_name (b B1 B2 : Nat) (lv : Value) (w0 w : World) (t : Ti) (k : Nat) (es : List Ev) (n : Sp) (e : Ev) (hS : SlE w0 lv es) (hl : totE es + es.length ≤ 1048576) (he : es[n.at_]? = some e) (hI : TsI b B1 B2 lv w0 t k w) (hk : k ≤ 1048576) (hu : n.up = -1) (h6 : ¬ e.kind = 6) (ha : e.anchor.toList ≠ []) :
    Calls Try.prog 46 #[.pointer (some ⟨b, 0, none⟩), n.val] w fun r w' => r = .returned (.tuple #[]) ∧ TsI b B1 B2 lv w0 (Ti.name { t with root := n.at_ } e.anchor n) (k + 1) w' ∧ KeepS w w' := by
  obtain ⟨W, hW⟩ : ∃ W, w.alloc (.cells #[.int .i64 (n.at_ : Int), .int .i64 n.end_, .int .i64 (-1)] 58) = W := ⟨_, rfl⟩
  have hBW : Below w.heap.size w W := by rw [← hW]; exact al_belowN w _
  have hnew : W.heap[w.heap.size]? = some (.cells #[.int .i64 (n.at_ : Int), .int .i64 n.end_, .int .i64 (-1)] 58 (0, 0)) := by rw [← hW]; exact heap_alloc_new w _
  have u0 : W.cell? ⟨w.heap.size, 0, none⟩ = some (.int .i64 (n.at_ : Int)) := Lib.cell_of_heap hnew 0
  have u2 : W.cell? ⟨w.heap.size, 2, none⟩ = some (.int .i64 (-1)) := Lib.cell_of_heap hnew 2
  have hIW := hI.stays hBW
  have nb : w.heap.size ≠ b := by have := hI.at_.lt; omega
  have nb' : b ≠ w.heap.size := Ne.symm nb
  have HB0 : Hid (w0.heap.size ≤ w.heap.size) := hI.below.size
  have HW : Hid (w.alloc (.cells #[.int .i64 (n.at_ : Int), .int .i64 n.end_, .int .i64 (-1)] 58) = W) := hW
  have HUU : Hid (n.up = -1) := hu
  clear hu
  have f1 := hIW.at_.fz 1
  have g1 := hIW.at_.c1
  obtain ⟨V, hV⟩ : ∃ V, W.setCell ⟨b, 1, none⟩ (.int .i64 (n.at_ : Int)) = V := ⟨_, rfl⟩
  have hcl : ∀ j, V.cell? ⟨w.heap.size, j, none⟩ = W.cell? ⟨w.heap.size, j, none⟩ := fun j => by rw [← hV]; exact World.cell?_setCell_other _ _ _ _ (by intro e; injection e with e _; exact nb e.symm)
  have v0 : V.cell? ⟨w.heap.size, 0, none⟩ = some (.int .i64 (n.at_ : Int)) := by rw [hcl]; exact u0
  have HV1 : Hid (V.cell? ⟨w.heap.size, 1, none⟩ = some (.int .i64 n.end_)) := by show _ = _; rw [hcl]; exact Lib.cell_of_heap hnew 1
  have HV2 : Hid (V.cell? ⟨w.heap.size, 2, none⟩ = some (.int .i64 (-1))) := by show _ = _; rw [hcl]; exact u2
  have HVS : Hid (w.heap.size < V.heap.size) := by show _ < _; rw [← hV, ← hW]; simp [World.setCell]
  have HIV : Hid (TsI b B1 B2 lv w0 { t with root := n.at_ } k V) := by
    rw [← hV]
    exact hIW.cell (t' := { t with root := n.at_ }) (hIW.at_.set1 n.at_) rfl rfl (Nat.le_refl k) hIW.ls
  have HKV : Hid (KeepS w V) := by rw [← hV]; exact (KeepS.of hBW).trans (hIW.keep 1 _)
  have HVV : Hid (W.setCell ⟨b, 1, none⟩ (.int .i64 (n.at_ : Int)) = V) := hV
  rw [← hW] at f1 g1
  clear hV hcl
  have htot := totE_mem (List.mem_of_getElem? he)
  have HTX : Hid (e.text.size ≤ 1073741824 ∧ e.anchor.size ≤ 1073741824 ∧ n.at_ ≤ 1048576 ∧ k ≤ 1048576) := by
    have := (List.getElem?_eq_some_iff.1 he).1
    unfold Ev.tot at htot
    exact ⟨by omega, by omega, by omega, hk⟩
  obtain ⟨la, lc, rfl⟩ := hS.sl
  obtain ⟨bb, off, rfl, hbb, ⟨c0, c1, c2, c3, c4, c5, c6, c7⟩⟩ := hS.at HIV.out.below he
  have hlt' : (n.at_ : Int) < (es.length : Int) := by have := (List.getElem?_eq_some_iff.1 he).1; omega
  have hle : (es.length : Int) ≤ 1048576 := by omega
  have d0 := HIV.out.at_.c0
  unfold Sp.val
  rw [HUU.out]
  obtain ⟨kind, style, flag, text, anchor, tag, at_, code⟩ := e
  simp only at c0 c1 c2 c3 c4 c5 c6 c7 HTX h6 ha
  have t6 : (kind == 6) = false := by rw [beq_eq_false_iff_ne]; exact h6
  have hie : anchor.toList.isEmpty = false := by cases hh : anchor.toList with | nil => exact absurd hh ha | cons _ _ => rfl
  have hne : (anchor.toList == []) = false := by rw [beq_eq_false_iff_ne]; exact ha
  obtain ⟨X, hX⟩ : ∃ X, (V.alloc (.cells #[.int .i64 kind, .int .i64 style, .bool flag, .string text, .string anchor, .string tag, .int .i64 at_, .int .i64 code] 39)).drew = X := ⟨_, rfl⟩
  have hBX : Below V.heap.size V X := by rw [← hX]; exact (al_belowN V _).drew
  have hnX : X.heap[V.heap.size]? = some (.cells #[.int .i64 kind, .int .i64 style, .bool flag, .string text, .string anchor, .string tag, .int .i64 at_, .int .i64 code] 39 (0, 0)) := by rw [← hX]; exact heap_alloc_new V _
  obtain ⟨x0, x1, x2, x3, x4, x5, x6, x7⟩ := ev_at hnX
  have y0 : X.cell? ⟨w.heap.size, 0, none⟩ = some (.int .i64 (n.at_ : Int)) := by rw [hBX.cell (by have := HVS.out; omega)]; exact v0
  have y1 : X.cell? ⟨w.heap.size, 1, none⟩ = some (.int .i64 n.end_) := by rw [hBX.cell (by have := HVS.out; omega)]; exact HV1.out
  have y2 : X.cell? ⟨w.heap.size, 2, none⟩ = some (.int .i64 (-1)) := by rw [hBX.cell (by have := HVS.out; omega)]; exact HV2.out
  have HIX : Hid (TsI b B1 B2 (.slice (some ⟨bb, off, none⟩) es.length lc) w0 { t with root := n.at_ } k X) := HIV.out.stays hBX
  have HKX : Hid (KeepS w X) := HKV.out.trans (KeepS.of hBX)
  have HX : Hid ((V.alloc (.cells #[.int .i64 kind, .int .i64 style, .bool flag, .string text, .string anchor, .string tag, .int .i64 at_, .int .i64 code] 39)).drew = X) := hX
  obtain ⟨Z, hZ⟩ : ∃ Z, V.alloc (.cells #[.int .i64 0, .int .i64 0, .bool false, .string ⟨#[]⟩, .string ⟨#[]⟩, .string ⟨#[]⟩, .int .i64 0, .int .i64 0] 39) = Z := ⟨_, rfl⟩
  have hBZ : Below V.heap.size V Z := by rw [← hZ]; exact al_belowN V _
  have hbV : bb < V.heap.size := Nat.lt_of_lt_of_le hbb HIV.out.below.size
  have z0 : Z.cell? _ = _ := (hBZ.cell hbV).trans c0
  have z1 : Z.cell? _ = _ := (hBZ.cell hbV).trans c1
  have z2 : Z.cell? _ = _ := (hBZ.cell hbV).trans c2
  have z3 : Z.cell? _ = _ := (hBZ.cell hbV).trans c3
  have z4 : Z.cell? _ = _ := (hBZ.cell hbV).trans c4
  have z5 : Z.cell? _ = _ := (hBZ.cell hbV).trans c5
  have z6 : Z.cell? _ = _ := (hBZ.cell hbV).trans c6
  have z7 : Z.cell? _ = _ := (hBZ.cell hbV).trans c7
  have zd : Z.cell? _ = _ := (hBZ.cell HIV.out.at_.lt).trans d0
  have zv : Z.cell? _ = _ := (hBZ.cell HVS.out).trans v0
  rw [← hZ] at z0 z1 z2 z3 z4 z5 z6 z7 zd zv
  clear hS hl he hI hk hW hBW hnew hIW htot hbb hX hBX hnX HV1 HV2 hZ hBZ hbV
  go_enter Try.func46, Try.ntmps46
  go_wp2_with fail
  rw [HW.out, HVV.out]
  clear u0 u2 f1 g1 HVV HW

  go_region
  all_goals (
    rw [HX.out]
    clear c0 c1 c2 c3 c4 c5 c6 c7 d0 v0 HX z0 z1 z2 z3 z4 z5 z6 z7 zd zv
    obtain ⟨w3, hup, h3, k3⟩ := (HIX.out.stays ((Below.refl X.heap.size X).drew)).putN anchor n HTX.out.2.1 (by have := HTX.out.2.2.2; omega)
    unfold Sp.val at hup
    rw [HUU.out] at hup
    have HQ : Hid (TsI b B1 B2 (.slice (some ⟨bb, off, none⟩) es.length lc) w0 (Ti.name { t with root := n.at_ } anchor n) (k + 1) w3 ∧ KeepS w w3) := ⟨h3, (HKX.out.trans (KeepS.of ((Below.refl X.heap.size X).drew))).trans k3⟩
    have zz : X.cell? ⟨b, 2, none⟩ = some (.map (some B1)) := HIX.out.at_.c2
    clear h3 k3
    go_wp2_with fail
    go_region
    all_goals (
      clear hup zz x0 x1 x2 x3 x4 x5 x6 x7 y0 y1 y2
      go_wp2_with fail
      go_end0
      exact ⟨rfl, HQ.out⟩))
end Go.Proofs.Ytepodbjdicnjoaa
/- impl's ties: take, a case. -/
namespace Go.Proofs.Ytepodbjdicnjoaa
open Go.ChangeShapes Go.WideShapes Go.ChangeAt Go.RowKit Go.Maps
set_option maxRecDepth 100000 in
set_option maxHeartbeats 8000000 in
theorem take_yes_bare (b B1 B2 : Nat) (lv : Value) (w0 w : World) (t : Ti) (k : Nat) (es : List Ev) (n : Sp) (e : Ev) (hS : SlE w0 lv es) (hl : totE es + es.length ≤ 1048576) (he : es[n.at_]? = some e) (hI : TsI b B1 B2 lv w0 t k w) (hk : k ≤ 1048576) (hu : n.up = -1) (h6 : ¬ e.kind = 6) (ha : e.anchor.toList = []) :
    Calls Try.prog 46 #[.pointer (some ⟨b, 0, none⟩), n.val] w fun r w' => r = .returned (.tuple #[]) ∧ TsI b B1 B2 lv w0 ({ t with root := n.at_ } : Ti) (k + 1) w' ∧ KeepS w w' := by
  obtain ⟨W, hW⟩ : ∃ W, w.alloc (.cells #[.int .i64 (n.at_ : Int), .int .i64 n.end_, .int .i64 (-1)] 58) = W := ⟨_, rfl⟩
  have hBW : Below w.heap.size w W := by rw [← hW]; exact al_belowN w _
  have hnew : W.heap[w.heap.size]? = some (.cells #[.int .i64 (n.at_ : Int), .int .i64 n.end_, .int .i64 (-1)] 58 (0, 0)) := by rw [← hW]; exact heap_alloc_new w _
  have u0 : W.cell? ⟨w.heap.size, 0, none⟩ = some (.int .i64 (n.at_ : Int)) := Lib.cell_of_heap hnew 0
  have u2 : W.cell? ⟨w.heap.size, 2, none⟩ = some (.int .i64 (-1)) := Lib.cell_of_heap hnew 2
  have hIW := hI.stays hBW
  have nb : w.heap.size ≠ b := by have := hI.at_.lt; omega
  have nb' : b ≠ w.heap.size := Ne.symm nb
  have HB0 : Hid (w0.heap.size ≤ w.heap.size) := hI.below.size
  have HW : Hid (w.alloc (.cells #[.int .i64 (n.at_ : Int), .int .i64 n.end_, .int .i64 (-1)] 58) = W) := hW
  have HUU : Hid (n.up = -1) := hu
  clear hu
  have f1 := hIW.at_.fz 1
  have g1 := hIW.at_.c1
  obtain ⟨V, hV⟩ : ∃ V, W.setCell ⟨b, 1, none⟩ (.int .i64 (n.at_ : Int)) = V := ⟨_, rfl⟩
  have hcl : ∀ j, V.cell? ⟨w.heap.size, j, none⟩ = W.cell? ⟨w.heap.size, j, none⟩ := fun j => by rw [← hV]; exact World.cell?_setCell_other _ _ _ _ (by intro e; injection e with e _; exact nb e.symm)
  have v0 : V.cell? ⟨w.heap.size, 0, none⟩ = some (.int .i64 (n.at_ : Int)) := by rw [hcl]; exact u0
  have HV1 : Hid (V.cell? ⟨w.heap.size, 1, none⟩ = some (.int .i64 n.end_)) := by show _ = _; rw [hcl]; exact Lib.cell_of_heap hnew 1
  have HV2 : Hid (V.cell? ⟨w.heap.size, 2, none⟩ = some (.int .i64 (-1))) := by show _ = _; rw [hcl]; exact u2
  have HVS : Hid (w.heap.size < V.heap.size) := by show _ < _; rw [← hV, ← hW]; simp [World.setCell]
  have HIV : Hid (TsI b B1 B2 lv w0 { t with root := n.at_ } k V) := by
    rw [← hV]
    exact hIW.cell (t' := { t with root := n.at_ }) (hIW.at_.set1 n.at_) rfl rfl (Nat.le_refl k) hIW.ls
  have HKV : Hid (KeepS w V) := by rw [← hV]; exact (KeepS.of hBW).trans (hIW.keep 1 _)
  have HVV : Hid (W.setCell ⟨b, 1, none⟩ (.int .i64 (n.at_ : Int)) = V) := hV
  rw [← hW] at f1 g1
  clear hV hcl
  have htot := totE_mem (List.mem_of_getElem? he)
  have HTX : Hid (e.text.size ≤ 1073741824 ∧ e.anchor.size ≤ 1073741824 ∧ n.at_ ≤ 1048576 ∧ k ≤ 1048576) := by
    have := (List.getElem?_eq_some_iff.1 he).1
    unfold Ev.tot at htot
    exact ⟨by omega, by omega, by omega, hk⟩
  obtain ⟨la, lc, rfl⟩ := hS.sl
  obtain ⟨bb, off, rfl, hbb, ⟨c0, c1, c2, c3, c4, c5, c6, c7⟩⟩ := hS.at HIV.out.below he
  have hlt' : (n.at_ : Int) < (es.length : Int) := by have := (List.getElem?_eq_some_iff.1 he).1; omega
  have hle : (es.length : Int) ≤ 1048576 := by omega
  have d0 := HIV.out.at_.c0
  unfold Sp.val
  rw [HUU.out]
  obtain ⟨kind, style, flag, text, anchor, tag, at_, code⟩ := e
  simp only at c0 c1 c2 c3 c4 c5 c6 c7 HTX h6 ha
  have t6 : (kind == 6) = false := by rw [beq_eq_false_iff_ne]; exact h6
  obtain ⟨X, hX⟩ : ∃ X, (V.alloc (.cells #[.int .i64 kind, .int .i64 style, .bool flag, .string text, .string anchor, .string tag, .int .i64 at_, .int .i64 code] 39)).drew = X := ⟨_, rfl⟩
  have hBX : Below V.heap.size V X := by rw [← hX]; exact (al_belowN V _).drew
  have hnX : X.heap[V.heap.size]? = some (.cells #[.int .i64 kind, .int .i64 style, .bool flag, .string text, .string anchor, .string tag, .int .i64 at_, .int .i64 code] 39 (0, 0)) := by rw [← hX]; exact heap_alloc_new V _
  obtain ⟨x0, x1, x2, x3, x4, x5, x6, x7⟩ := ev_at hnX
  have y0 : X.cell? ⟨w.heap.size, 0, none⟩ = some (.int .i64 (n.at_ : Int)) := by rw [hBX.cell (by have := HVS.out; omega)]; exact v0
  have y1 : X.cell? ⟨w.heap.size, 1, none⟩ = some (.int .i64 n.end_) := by rw [hBX.cell (by have := HVS.out; omega)]; exact HV1.out
  have y2 : X.cell? ⟨w.heap.size, 2, none⟩ = some (.int .i64 (-1)) := by rw [hBX.cell (by have := HVS.out; omega)]; exact HV2.out
  have HIX : Hid (TsI b B1 B2 (.slice (some ⟨bb, off, none⟩) es.length lc) w0 { t with root := n.at_ } k X) := HIV.out.stays hBX
  have HKX : Hid (KeepS w X) := HKV.out.trans (KeepS.of hBX)
  have HX : Hid ((V.alloc (.cells #[.int .i64 kind, .int .i64 style, .bool flag, .string text, .string anchor, .string tag, .int .i64 at_, .int .i64 code] 39)).drew = X) := hX
  obtain ⟨Z, hZ⟩ : ∃ Z, V.alloc (.cells #[.int .i64 0, .int .i64 0, .bool false, .string ⟨#[]⟩, .string ⟨#[]⟩, .string ⟨#[]⟩, .int .i64 0, .int .i64 0] 39) = Z := ⟨_, rfl⟩
  have hBZ : Below V.heap.size V Z := by rw [← hZ]; exact al_belowN V _
  have hbV : bb < V.heap.size := Nat.lt_of_lt_of_le hbb HIV.out.below.size
  have z0 : Z.cell? _ = _ := (hBZ.cell hbV).trans c0
  have z1 : Z.cell? _ = _ := (hBZ.cell hbV).trans c1
  have z2 : Z.cell? _ = _ := (hBZ.cell hbV).trans c2
  have z3 : Z.cell? _ = _ := (hBZ.cell hbV).trans c3
  have z4 : Z.cell? _ = _ := (hBZ.cell hbV).trans c4
  have z5 : Z.cell? _ = _ := (hBZ.cell hbV).trans c5
  have z6 : Z.cell? _ = _ := (hBZ.cell hbV).trans c6
  have z7 : Z.cell? _ = _ := (hBZ.cell hbV).trans c7
  have zd : Z.cell? _ = _ := (hBZ.cell HIV.out.at_.lt).trans d0
  have zv : Z.cell? _ = _ := (hBZ.cell HVS.out).trans v0
  rw [← hZ] at z0 z1 z2 z3 z4 z5 z6 z7 zd zv
  clear hS hl he hI hk hW hBW hnew hIW htot hbb hX hBX hnX HV1 HV2 hZ hBZ hbV
  go_enter Try.func46, Try.ntmps46
  go_wp2_with fail
  rw [HW.out, HVV.out]
  clear u0 u2 f1 g1 HVV HW

  go_region
  all_goals (
    rw [HX.out]
    clear c0 c1 c2 c3 c4 c5 c6 c7 d0 v0 HX z0 z1 z2 z3 z4 z5 z6 z7 zd zv
    have HQ : Hid (TsI b B1 B2 (.slice (some ⟨bb, off, none⟩) es.length lc) w0 { t with root := n.at_ } (k + 1) X ∧ KeepS w X) := ⟨HIX.out.more, HKX.out⟩
    go_wp2_with fail
    go_end0
    exact ⟨rfl, HQ.out⟩)
end Go.Proofs.Ytepodbjdicnjoaa
