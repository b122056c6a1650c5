/- Several texts in one: Ik4 Ik5 Ik6 Itl. -/
import Derived.Test.YtkdlakcmhdiojaaZqax
/- impl's ties: take, a case. -/
namespace Go.Proofs.Ytkdlakcmhdiojaa
open Go.ChangeShapes Go.WideShapes Go.ChangeAt Go.RowKit Go.Maps
set_option maxRecDepth 100000 in
set_option maxHeartbeats 8000000 in
theorem take_yes_alias (b B1 B2 : Nat) (lv : Value) (w0 w : World) (t : Ti) (k : Nat) (es : List Ev) (n : Sp) (e : Ev) (hS : SlE w0 lv es) (hl : totE es + es.length ≤ 1048576) (he : es[n.at_]? = some e) (hI : TsI b B1 B2 lv w0 t k w) (hk : k ≤ 1048576) (hu : n.up = -1) (h6 : e.kind = 6) :
    Calls Try.prog 50 #[.pointer (some ⟨b, 0, none⟩), n.val] w fun r w' => r = .returned (.tuple #[]) ∧ TsI b B1 B2 lv w0 (Ti.tie { t with root := n.at_ } e.text n.at_) (k + 1) w' ∧ KeepO b B1 B2 w w' := by
  obtain ⟨W, hW⟩ : ∃ W, w.alloc (.cells #[.int .i64 (n.at_ : Int), .int .i64 n.end_, .int .i64 (-1)] 83) = W := ⟨_, rfl⟩
  have hBW : Below w.heap.size w W := by rw [← hW]; exact al_belowN w _
  have hnew : W.heap[w.heap.size]? = some (.cells #[.int .i64 (n.at_ : Int), .int .i64 n.end_, .int .i64 (-1)] 83 (0, 0)) := by rw [← hW]; exact heap_alloc_new w _
  have u0 : W.cell? ⟨w.heap.size, 0, none⟩ = some (.int .i64 (n.at_ : Int)) := Lib.cell_of_heap hnew 0
  have u2 : W.cell? ⟨w.heap.size, 2, none⟩ = some (.int .i64 (-1)) := Lib.cell_of_heap hnew 2
  have hIW := hI.stays hBW
  have nb : w.heap.size ≠ b := by have := hI.at_.lt; omega
  have nb' : b ≠ w.heap.size := Ne.symm nb
  have HB0 : Hid (w0.heap.size ≤ w.heap.size) := hI.below.size
  have HW : Hid (w.alloc (.cells #[.int .i64 (n.at_ : Int), .int .i64 n.end_, .int .i64 (-1)] 83) = W) := hW
  have HUU : Hid (n.up = -1) := hu
  clear hu
  have f1 := hIW.at_.fz 1
  have g1 := hIW.at_.c1
  obtain ⟨V, hV⟩ : ∃ V, W.setCell ⟨b, 1, none⟩ (.int .i64 (n.at_ : Int)) = V := ⟨_, rfl⟩
  have hcl : ∀ j, V.cell? ⟨w.heap.size, j, none⟩ = W.cell? ⟨w.heap.size, j, none⟩ := fun j => by rw [← hV]; exact World.cell?_setCell_other _ _ _ _ (by intro e; injection e with e _; exact nb e.symm)
  have v0 : V.cell? ⟨w.heap.size, 0, none⟩ = some (.int .i64 (n.at_ : Int)) := by rw [hcl]; exact u0
  have HV1 : Hid (V.cell? ⟨w.heap.size, 1, none⟩ = some (.int .i64 n.end_)) := by show _ = _; rw [hcl]; exact Lib.cell_of_heap hnew 1
  have HV2 : Hid (V.cell? ⟨w.heap.size, 2, none⟩ = some (.int .i64 (-1))) := by show _ = _; rw [hcl]; exact u2
  have HVS : Hid (w.heap.size < V.heap.size) := by show _ < _; rw [← hV, ← hW]; simp [World.setCell]
  have HIV : Hid (TsI b B1 B2 lv w0 { t with root := n.at_ } k V) := by
    rw [← hV]
    exact hIW.cell (t' := { t with root := n.at_ }) (hIW.at_.set1 n.at_) rfl rfl (Nat.le_refl k) hIW.ls
  have HKV : Hid (KeepO b B1 B2 w V) := by rw [← hV]; exact (KeepO.of hBW).trans (hIW.keep 1 _)
  have HVV : Hid (W.setCell ⟨b, 1, none⟩ (.int .i64 (n.at_ : Int)) = V) := hV
  rw [← hW] at f1 g1
  clear hV hcl
  have htot := totE_mem (List.mem_of_getElem? he)
  have HTX : Hid (e.text.size ≤ 1073741824 ∧ e.anchor.size ≤ 1073741824 ∧ n.at_ ≤ 1048576 ∧ k ≤ 1048576) := by
    have := (List.getElem?_eq_some_iff.1 he).1
    unfold Ev.tot at htot
    exact ⟨by omega, by omega, by omega, hk⟩
  obtain ⟨la, lc, rfl⟩ := hS.sl
  obtain ⟨bb, off, rfl, hbb, ⟨c0, c1, c2, c3, c4, c5, c6, c7⟩⟩ := hS.at HIV.out.below he
  have hlt' : (n.at_ : Int) < (es.length : Int) := by have := (List.getElem?_eq_some_iff.1 he).1; omega
  have hle : (es.length : Int) ≤ 1048576 := by omega
  have d0 := HIV.out.at_.c0
  unfold Sp.val
  rw [HUU.out]
  obtain ⟨kind, style, flag, text, anchor, tag, at_, code⟩ := e
  simp only at c0 c1 c2 c3 c4 c5 c6 c7 HTX h6
  subst h6
  obtain ⟨X, hX⟩ : ∃ X, (V.alloc (.cells #[.int .i64 6, .int .i64 style, .bool flag, .string text, .string anchor, .string tag, .int .i64 at_, .int .i64 code] 47)).drew = X := ⟨_, rfl⟩
  have hBX : Below V.heap.size V X := by rw [← hX]; exact (al_belowN V _).drew
  have hnX : X.heap[V.heap.size]? = some (.cells #[.int .i64 6, .int .i64 style, .bool flag, .string text, .string anchor, .string tag, .int .i64 at_, .int .i64 code] 47 (0, 0)) := by rw [← hX]; exact heap_alloc_new V _
  obtain ⟨x0, x1, x2, x3, x4, x5, x6, x7⟩ := ev_at hnX
  have y0 : X.cell? ⟨w.heap.size, 0, none⟩ = some (.int .i64 (n.at_ : Int)) := by rw [hBX.cell (by have := HVS.out; omega)]; exact v0
  have y1 : X.cell? ⟨w.heap.size, 1, none⟩ = some (.int .i64 n.end_) := by rw [hBX.cell (by have := HVS.out; omega)]; exact HV1.out
  have y2 : X.cell? ⟨w.heap.size, 2, none⟩ = some (.int .i64 (-1)) := by rw [hBX.cell (by have := HVS.out; omega)]; exact HV2.out
  have HIX : Hid (TsI b B1 B2 (.slice (some ⟨bb, off, none⟩) es.length lc) w0 { t with root := n.at_ } k X) := HIV.out.stays hBX
  have HKX : Hid (KeepO b B1 B2 w X) := HKV.out.trans (KeepO.of hBX)
  have HX : Hid ((V.alloc (.cells #[.int .i64 6, .int .i64 style, .bool flag, .string text, .string anchor, .string tag, .int .i64 at_, .int .i64 code] 47)).drew = X) := hX
  obtain ⟨Z, hZ⟩ : ∃ Z, V.alloc (.cells #[.int .i64 0, .int .i64 0, .bool false, .string ⟨#[]⟩, .string ⟨#[]⟩, .string ⟨#[]⟩, .int .i64 0, .int .i64 0] 47) = Z := ⟨_, rfl⟩
  have hBZ : Below V.heap.size V Z := by rw [← hZ]; exact al_belowN V _
  have hbV : bb < V.heap.size := Nat.lt_of_lt_of_le hbb HIV.out.below.size
  have z0 : Z.cell? _ = _ := (hBZ.cell hbV).trans c0
  have z1 : Z.cell? _ = _ := (hBZ.cell hbV).trans c1
  have z2 : Z.cell? _ = _ := (hBZ.cell hbV).trans c2
  have z3 : Z.cell? _ = _ := (hBZ.cell hbV).trans c3
  have z4 : Z.cell? _ = _ := (hBZ.cell hbV).trans c4
  have z5 : Z.cell? _ = _ := (hBZ.cell hbV).trans c5
  have z6 : Z.cell? _ = _ := (hBZ.cell hbV).trans c6
  have z7 : Z.cell? _ = _ := (hBZ.cell hbV).trans c7
  have zd : Z.cell? _ = _ := (hBZ.cell HIV.out.at_.lt).trans d0
  have zv : Z.cell? _ = _ := (hBZ.cell HVS.out).trans v0
  rw [← hZ] at z0 z1 z2 z3 z4 z5 z6 z7 zd zv
  clear hS hl he hI hk hW hBW hnew hIW htot hbb hX hBX hnX HV1 HV2 hZ hBZ hbV
  go_enter Try.func50, Try.ntmps50
  go_wp2_with fail
  rw [HW.out, HVV.out]
  clear u0 u2 f1 g1 HVV HW

  go_region
  all_goals (
    rw [HX.out]
    clear c0 c1 c2 c3 c4 c5 c6 c7 d0 v0 HX z0 z1 z2 z3 z4 z5 z6 z7 zd zv
    have cT := tie_any b B1 B2 _ w0 X _ k text n.at_ HIX.out HTX.out.1 HTX.out.2.2.1 HTX.out.2.2.2
    go_wp2_with fail
    refine cT.mono ?_
    rintro r w2 ⟨rfl, h2, k2⟩
    have HQ : Hid (TsI b B1 B2 (.slice (some ⟨bb, off, none⟩) es.length lc) w0 (Ti.tie { t with root := n.at_ } text n.at_) (k + 1) w2 ∧ KeepO b B1 B2 w w2) := ⟨h2, HKX.out.trans k2⟩
    clear cT h2 k2 x0 x1 x2 x3 x4 x5 x6 x7 y0 y1 y2
    go_wp2_with fail
    go_end0
    exact ⟨rfl, HQ.out⟩)
end Go.Proofs.Ytkdlakcmhdiojaa
/- impl's ties: take, a case. -/
namespace Go.Proofs.Ytkdlakcmhdiojaa
open Go.ChangeShapes Go.WideShapes Go.ChangeAt Go.RowKit Go.Maps
set_option maxRecDepth 100000 in
set_option maxHeartbeats 8000000 in
theorem take_yes_name (b B1 B2 : Nat) (lv : Value) (w0 w : World) (t : Ti) (k : Nat) (es : List Ev) (n : Sp) (e : Ev) (hS : SlE w0 lv es) (hl : totE es + es.length ≤ 1048576) (he : es[n.at_]? = some e) (hI : TsI b B1 B2 lv w0 t k w) (hk : k ≤ 1048576) (hu : n.up = -1) (h6 : ¬ e.kind = 6) (ha : e.anchor.toList ≠ []) :
    Calls Try.prog 50 #[.pointer (some ⟨b, 0, none⟩), n.val] w fun r w' => r = .returned (.tuple #[]) ∧ TsI b B1 B2 lv w0 (Ti.name { t with root := n.at_ } e.anchor n) (k + 1) w' ∧ KeepO b B1 B2 w w' := by
  obtain ⟨W, hW⟩ : ∃ W, w.alloc (.cells #[.int .i64 (n.at_ : Int), .int .i64 n.end_, .int .i64 (-1)] 83) = W := ⟨_, rfl⟩
  have hBW : Below w.heap.size w W := by rw [← hW]; exact al_belowN w _
  have hnew : W.heap[w.heap.size]? = some (.cells #[.int .i64 (n.at_ : Int), .int .i64 n.end_, .int .i64 (-1)] 83 (0, 0)) := by rw [← hW]; exact heap_alloc_new w _
  have u0 : W.cell? ⟨w.heap.size, 0, none⟩ = some (.int .i64 (n.at_ : Int)) := Lib.cell_of_heap hnew 0
  have u2 : W.cell? ⟨w.heap.size, 2, none⟩ = some (.int .i64 (-1)) := Lib.cell_of_heap hnew 2
  have hIW := hI.stays hBW
  have nb : w.heap.size ≠ b := by have := hI.at_.lt; omega
  have nb' : b ≠ w.heap.size := Ne.symm nb
  have HB0 : Hid (w0.heap.size ≤ w.heap.size) := hI.below.size
  have HW : Hid (w.alloc (.cells #[.int .i64 (n.at_ : Int), .int .i64 n.end_, .int .i64 (-1)] 83) = W) := hW
  have HUU : Hid (n.up = -1) := hu
  clear hu
  have f1 := hIW.at_.fz 1
  have g1 := hIW.at_.c1
  obtain ⟨V, hV⟩ : ∃ V, W.setCell ⟨b, 1, none⟩ (.int .i64 (n.at_ : Int)) = V := ⟨_, rfl⟩
  have hcl : ∀ j, V.cell? ⟨w.heap.size, j, none⟩ = W.cell? ⟨w.heap.size, j, none⟩ := fun j => by rw [← hV]; exact World.cell?_setCell_other _ _ _ _ (by intro e; injection e with e _; exact nb e.symm)
  have v0 : V.cell? ⟨w.heap.size, 0, none⟩ = some (.int .i64 (n.at_ : Int)) := by rw [hcl]; exact u0
  have HV1 : Hid (V.cell? ⟨w.heap.size, 1, none⟩ = some (.int .i64 n.end_)) := by show _ = _; rw [hcl]; exact Lib.cell_of_heap hnew 1
  have HV2 : Hid (V.cell? ⟨w.heap.size, 2, none⟩ = some (.int .i64 (-1))) := by show _ = _; rw [hcl]; exact u2
  have HVS : Hid (w.heap.size < V.heap.size) := by show _ < _; rw [← hV, ← hW]; simp [World.setCell]
  have HIV : Hid (TsI b B1 B2 lv w0 { t with root := n.at_ } k V) := by
    rw [← hV]
    exact hIW.cell (t' := { t with root := n.at_ }) (hIW.at_.set1 n.at_) rfl rfl (Nat.le_refl k) hIW.ls
  have HKV : Hid (KeepO b B1 B2 w V) := by rw [← hV]; exact (KeepO.of hBW).trans (hIW.keep 1 _)
  have HVV : Hid (W.setCell ⟨b, 1, none⟩ (.int .i64 (n.at_ : Int)) = V) := hV
  rw [← hW] at f1 g1
  clear hV hcl
  have htot := totE_mem (List.mem_of_getElem? he)
  have HTX : Hid (e.text.size ≤ 1073741824 ∧ e.anchor.size ≤ 1073741824 ∧ n.at_ ≤ 1048576 ∧ k ≤ 1048576) := by
    have := (List.getElem?_eq_some_iff.1 he).1
    unfold Ev.tot at htot
    exact ⟨by omega, by omega, by omega, hk⟩
  obtain ⟨la, lc, rfl⟩ := hS.sl
  obtain ⟨bb, off, rfl, hbb, ⟨c0, c1, c2, c3, c4, c5, c6, c7⟩⟩ := hS.at HIV.out.below he
  have hlt' : (n.at_ : Int) < (es.length : Int) := by have := (List.getElem?_eq_some_iff.1 he).1; omega
  have hle : (es.length : Int) ≤ 1048576 := by omega
  have d0 := HIV.out.at_.c0
  unfold Sp.val
  rw [HUU.out]
  obtain ⟨kind, style, flag, text, anchor, tag, at_, code⟩ := e
  simp only at c0 c1 c2 c3 c4 c5 c6 c7 HTX h6 ha
  have t6 : (kind == 6) = false := by rw [beq_eq_false_iff_ne]; exact h6
  have hie : anchor.toList.isEmpty = false := by cases hh : anchor.toList with | nil => exact absurd hh ha | cons _ _ => rfl
  have hne : (anchor.toList == []) = false := by rw [beq_eq_false_iff_ne]; exact ha
  obtain ⟨X, hX⟩ : ∃ X, (V.alloc (.cells #[.int .i64 kind, .int .i64 style, .bool flag, .string text, .string anchor, .string tag, .int .i64 at_, .int .i64 code] 47)).drew = X := ⟨_, rfl⟩
  have hBX : Below V.heap.size V X := by rw [← hX]; exact (al_belowN V _).drew
  have hnX : X.heap[V.heap.size]? = some (.cells #[.int .i64 kind, .int .i64 style, .bool flag, .string text, .string anchor, .string tag, .int .i64 at_, .int .i64 code] 47 (0, 0)) := by rw [← hX]; exact heap_alloc_new V _
  obtain ⟨x0, x1, x2, x3, x4, x5, x6, x7⟩ := ev_at hnX
  have y0 : X.cell? ⟨w.heap.size, 0, none⟩ = some (.int .i64 (n.at_ : Int)) := by rw [hBX.cell (by have := HVS.out; omega)]; exact v0
  have y1 : X.cell? ⟨w.heap.size, 1, none⟩ = some (.int .i64 n.end_) := by rw [hBX.cell (by have := HVS.out; omega)]; exact HV1.out
  have y2 : X.cell? ⟨w.heap.size, 2, none⟩ = some (.int .i64 (-1)) := by rw [hBX.cell (by have := HVS.out; omega)]; exact HV2.out
  have HIX : Hid (TsI b B1 B2 (.slice (some ⟨bb, off, none⟩) es.length lc) w0 { t with root := n.at_ } k X) := HIV.out.stays hBX
  have HKX : Hid (KeepO b B1 B2 w X) := HKV.out.trans (KeepO.of hBX)
  have HX : Hid ((V.alloc (.cells #[.int .i64 kind, .int .i64 style, .bool flag, .string text, .string anchor, .string tag, .int .i64 at_, .int .i64 code] 47)).drew = X) := hX
  obtain ⟨Z, hZ⟩ : ∃ Z, V.alloc (.cells #[.int .i64 0, .int .i64 0, .bool false, .string ⟨#[]⟩, .string ⟨#[]⟩, .string ⟨#[]⟩, .int .i64 0, .int .i64 0] 47) = Z := ⟨_, rfl⟩
  have hBZ : Below V.heap.size V Z := by rw [← hZ]; exact al_belowN V _
  have hbV : bb < V.heap.size := Nat.lt_of_lt_of_le hbb HIV.out.below.size
  have z0 : Z.cell? _ = _ := (hBZ.cell hbV).trans c0
  have z1 : Z.cell? _ = _ := (hBZ.cell hbV).trans c1
  have z2 : Z.cell? _ = _ := (hBZ.cell hbV).trans c2
  have z3 : Z.cell? _ = _ := (hBZ.cell hbV).trans c3
  have z4 : Z.cell? _ = _ := (hBZ.cell hbV).trans c4
  have z5 : Z.cell? _ = _ := (hBZ.cell hbV).trans c5
  have z6 : Z.cell? _ = _ := (hBZ.cell hbV).trans c6
  have z7 : Z.cell? _ = _ := (hBZ.cell hbV).trans c7
  have zd : Z.cell? _ = _ := (hBZ.cell HIV.out.at_.lt).trans d0
  have zv : Z.cell? _ = _ := (hBZ.cell HVS.out).trans v0
  rw [← hZ] at z0 z1 z2 z3 z4 z5 z6 z7 zd zv
  clear hS hl he hI hk hW hBW hnew hIW htot hbb hX hBX hnX HV1 HV2 hZ hBZ hbV
  go_enter Try.func50, Try.ntmps50
  go_wp2_with fail
  rw [HW.out, HVV.out]
  clear u0 u2 f1 g1 HVV HW

  go_region
  all_goals (
    rw [HX.out]
    clear c0 c1 c2 c3 c4 c5 c6 c7 d0 v0 HX z0 z1 z2 z3 z4 z5 z6 z7 zd zv
    obtain ⟨w3, hup, h3, k3⟩ := (HIX.out.stays ((Below.refl X.heap.size X).drew)).putN anchor n HTX.out.2.1 (by have := HTX.out.2.2.2; omega)
    unfold Sp.val at hup
    rw [HUU.out] at hup
    have HQ : Hid (TsI b B1 B2 (.slice (some ⟨bb, off, none⟩) es.length lc) w0 (Ti.name { t with root := n.at_ } anchor n) (k + 1) w3 ∧ KeepO b B1 B2 w w3) := ⟨h3, (HKX.out.trans (KeepO.of ((Below.refl X.heap.size X).drew))).trans k3⟩
    have zz : X.cell? ⟨b, 2, none⟩ = some (.map (some B1)) := HIX.out.at_.c2
    clear h3 k3
    go_wp2_with fail
    go_region
    all_goals (
      clear hup zz x0 x1 x2 x3 x4 x5 x6 x7 y0 y1 y2
      go_wp2_with fail
      go_end0
      exact ⟨rfl, HQ.out⟩))
end Go.Proofs.Ytkdlakcmhdiojaa
/- impl's ties: take, a case. -/
namespace Go.Proofs.Ytkdlakcmhdiojaa
open Go.ChangeShapes Go.WideShapes Go.ChangeAt Go.RowKit Go.Maps
set_option maxRecDepth 100000 in
set_option maxHeartbeats 8000000 in
theorem take_yes_bare (b B1 B2 : Nat) (lv : Value) (w0 w : World) (t : Ti) (k : Nat) (es : List Ev) (n : Sp) (e : Ev) (hS : SlE w0 lv es) (hl : totE es + es.length ≤ 1048576) (he : es[n.at_]? = some e) (hI : TsI b B1 B2 lv w0 t k w) (hk : k ≤ 1048576) (hu : n.up = -1) (h6 : ¬ e.kind = 6) (ha : e.anchor.toList = []) :
    Calls Try.prog 50 #[.pointer (some ⟨b, 0, none⟩), n.val] w fun r w' => r = .returned (.tuple #[]) ∧ TsI b B1 B2 lv w0 ({ t with root := n.at_ } : Ti) (k + 1) w' ∧ KeepO b B1 B2 w w' := by
  obtain ⟨W, hW⟩ : ∃ W, w.alloc (.cells #[.int .i64 (n.at_ : Int), .int .i64 n.end_, .int .i64 (-1)] 83) = W := ⟨_, rfl⟩
  have hBW : Below w.heap.size w W := by rw [← hW]; exact al_belowN w _
  have hnew : W.heap[w.heap.size]? = some (.cells #[.int .i64 (n.at_ : Int), .int .i64 n.end_, .int .i64 (-1)] 83 (0, 0)) := by rw [← hW]; exact heap_alloc_new w _
  have u0 : W.cell? ⟨w.heap.size, 0, none⟩ = some (.int .i64 (n.at_ : Int)) := Lib.cell_of_heap hnew 0
  have u2 : W.cell? ⟨w.heap.size, 2, none⟩ = some (.int .i64 (-1)) := Lib.cell_of_heap hnew 2
  have hIW := hI.stays hBW
  have nb : w.heap.size ≠ b := by have := hI.at_.lt; omega
  have nb' : b ≠ w.heap.size := Ne.symm nb
  have HB0 : Hid (w0.heap.size ≤ w.heap.size) := hI.below.size
  have HW : Hid (w.alloc (.cells #[.int .i64 (n.at_ : Int), .int .i64 n.end_, .int .i64 (-1)] 83) = W) := hW
  have HUU : Hid (n.up = -1) := hu
  clear hu
  have f1 := hIW.at_.fz 1
  have g1 := hIW.at_.c1
  obtain ⟨V, hV⟩ : ∃ V, W.setCell ⟨b, 1, none⟩ (.int .i64 (n.at_ : Int)) = V := ⟨_, rfl⟩
  have hcl : ∀ j, V.cell? ⟨w.heap.size, j, none⟩ = W.cell? ⟨w.heap.size, j, none⟩ := fun j => by rw [← hV]; exact World.cell?_setCell_other _ _ _ _ (by intro e; injection e with e _; exact nb e.symm)
  have v0 : V.cell? ⟨w.heap.size, 0, none⟩ = some (.int .i64 (n.at_ : Int)) := by rw [hcl]; exact u0
  have HV1 : Hid (V.cell? ⟨w.heap.size, 1, none⟩ = some (.int .i64 n.end_)) := by show _ = _; rw [hcl]; exact Lib.cell_of_heap hnew 1
  have HV2 : Hid (V.cell? ⟨w.heap.size, 2, none⟩ = some (.int .i64 (-1))) := by show _ = _; rw [hcl]; exact u2
  have HVS : Hid (w.heap.size < V.heap.size) := by show _ < _; rw [← hV, ← hW]; simp [World.setCell]
  have HIV : Hid (TsI b B1 B2 lv w0 { t with root := n.at_ } k V) := by
    rw [← hV]
    exact hIW.cell (t' := { t with root := n.at_ }) (hIW.at_.set1 n.at_) rfl rfl (Nat.le_refl k) hIW.ls
  have HKV : Hid (KeepO b B1 B2 w V) := by rw [← hV]; exact (KeepO.of hBW).trans (hIW.keep 1 _)
  have HVV : Hid (W.setCell ⟨b, 1, none⟩ (.int .i64 (n.at_ : Int)) = V) := hV
  rw [← hW] at f1 g1
  clear hV hcl
  have htot := totE_mem (List.mem_of_getElem? he)
  have HTX : Hid (e.text.size ≤ 1073741824 ∧ e.anchor.size ≤ 1073741824 ∧ n.at_ ≤ 1048576 ∧ k ≤ 1048576) := by
    have := (List.getElem?_eq_some_iff.1 he).1
    unfold Ev.tot at htot
    exact ⟨by omega, by omega, by omega, hk⟩
  obtain ⟨la, lc, rfl⟩ := hS.sl
  obtain ⟨bb, off, rfl, hbb, ⟨c0, c1, c2, c3, c4, c5, c6, c7⟩⟩ := hS.at HIV.out.below he
  have hlt' : (n.at_ : Int) < (es.length : Int) := by have := (List.getElem?_eq_some_iff.1 he).1; omega
  have hle : (es.length : Int) ≤ 1048576 := by omega
  have d0 := HIV.out.at_.c0
  unfold Sp.val
  rw [HUU.out]
  obtain ⟨kind, style, flag, text, anchor, tag, at_, code⟩ := e
  simp only at c0 c1 c2 c3 c4 c5 c6 c7 HTX h6 ha
  have t6 : (kind == 6) = false := by rw [beq_eq_false_iff_ne]; exact h6
  obtain ⟨X, hX⟩ : ∃ X, (V.alloc (.cells #[.int .i64 kind, .int .i64 style, .bool flag, .string text, .string anchor, .string tag, .int .i64 at_, .int .i64 code] 47)).drew = X := ⟨_, rfl⟩
  have hBX : Below V.heap.size V X := by rw [← hX]; exact (al_belowN V _).drew
  have hnX : X.heap[V.heap.size]? = some (.cells #[.int .i64 kind, .int .i64 style, .bool flag, .string text, .string anchor, .string tag, .int .i64 at_, .int .i64 code] 47 (0, 0)) := by rw [← hX]; exact heap_alloc_new V _
  obtain ⟨x0, x1, x2, x3, x4, x5, x6, x7⟩ := ev_at hnX
  have y0 : X.cell? ⟨w.heap.size, 0, none⟩ = some (.int .i64 (n.at_ : Int)) := by rw [hBX.cell (by have := HVS.out; omega)]; exact v0
  have y1 : X.cell? ⟨w.heap.size, 1, none⟩ = some (.int .i64 n.end_) := by rw [hBX.cell (by have := HVS.out; omega)]; exact HV1.out
  have y2 : X.cell? ⟨w.heap.size, 2, none⟩ = some (.int .i64 (-1)) := by rw [hBX.cell (by have := HVS.out; omega)]; exact HV2.out
  have HIX : Hid (TsI b B1 B2 (.slice (some ⟨bb, off, none⟩) es.length lc) w0 { t with root := n.at_ } k X) := HIV.out.stays hBX
  have HKX : Hid (KeepO b B1 B2 w X) := HKV.out.trans (KeepO.of hBX)
  have HX : Hid ((V.alloc (.cells #[.int .i64 kind, .int .i64 style, .bool flag, .string text, .string anchor, .string tag, .int .i64 at_, .int .i64 code] 47)).drew = X) := hX
  obtain ⟨Z, hZ⟩ : ∃ Z, V.alloc (.cells #[.int .i64 0, .int .i64 0, .bool false, .string ⟨#[]⟩, .string ⟨#[]⟩, .string ⟨#[]⟩, .int .i64 0, .int .i64 0] 47) = Z := ⟨_, rfl⟩
  have hBZ : Below V.heap.size V Z := by rw [← hZ]; exact al_belowN V _
  have hbV : bb < V.heap.size := Nat.lt_of_lt_of_le hbb HIV.out.below.size
  have z0 : Z.cell? _ = _ := (hBZ.cell hbV).trans c0
  have z1 : Z.cell? _ = _ := (hBZ.cell hbV).trans c1
  have z2 : Z.cell? _ = _ := (hBZ.cell hbV).trans c2
  have z3 : Z.cell? _ = _ := (hBZ.cell hbV).trans c3
  have z4 : Z.cell? _ = _ := (hBZ.cell hbV).trans c4
  have z5 : Z.cell? _ = _ := (hBZ.cell hbV).trans c5
  have z6 : Z.cell? _ = _ := (hBZ.cell hbV).trans c6
  have z7 : Z.cell? _ = _ := (hBZ.cell hbV).trans c7
  have zd : Z.cell? _ = _ := (hBZ.cell HIV.out.at_.lt).trans d0
  have zv : Z.cell? _ = _ := (hBZ.cell HVS.out).trans v0
  rw [← hZ] at z0 z1 z2 z3 z4 z5 z6 z7 zd zv
  clear hS hl he hI hk hW hBW hnew hIW htot hbb hX hBX hnX HV1 HV2 hZ hBZ hbV
  go_enter Try.func50, Try.ntmps50
  go_wp2_with fail
  rw [HW.out, HVV.out]
  clear u0 u2 f1 g1 HVV HW

  go_region
  all_goals (
    rw [HX.out]
    clear c0 c1 c2 c3 c4 c5 c6 c7 d0 v0 HX z0 z1 z2 z3 z4 z5 z6 z7 zd zv
    have HQ : Hid (TsI b B1 B2 (.slice (some ⟨bb, off, none⟩) es.length lc) w0 { t with root := n.at_ } (k + 1) X ∧ KeepO b B1 B2 w X) := ⟨HIX.out.more, HKX.out⟩
    go_wp2_with fail
    go_end0
    exact ⟨rfl, HQ.out⟩)
end Go.Proofs.Ytkdlakcmhdiojaa
/- The contracts of impl.DefOf, impl.Tied and impl.Whole. -/
namespace Go.Proofs.Ytkdlakcmhdiojaa
open Go.ChangeShapes Go.WideShapes Go.ChangeAt Go.RowKit Go.Maps
theorem ttake_any (b B1 B2 : Nat) (lv : Value) (w0 w : World) (t : Ti) (k : Nat) (es : List Ev) (n : Sp) (e : Ev) (hS : SlE w0 lv es) (hl : totE es + es.length ≤ 1048576) (he : es[n.at_]? = some e) (hI : TsI b B1 B2 lv w0 t k w) (hk : k ≤ 1048576) :
    Calls Try.prog 50 #[.pointer (some ⟨b, 0, none⟩), n.val] w fun r w' => r = .returned (.tuple #[]) ∧ TsI b B1 B2 lv w0 (t.take n e) (k + 1) w' ∧ KeepO b B1 B2 w w' := by
  unfold Ti.take Ti.at
  by_cases hu : n.up = -1
  · rw [if_pos hu]
    by_cases h6 : e.kind = 6
    · rw [if_pos h6]
      exact take_yes_alias b B1 B2 lv w0 w t k es n e hS hl he hI hk hu h6
    · rw [if_neg h6]
      by_cases ha : e.anchor.toList = []
      · rw [if_pos (show noB e.anchor = true by unfold noB; rw [ha]; rfl)]
        exact take_yes_bare b B1 B2 lv w0 w t k es n e hS hl he hI hk hu h6 ha
      · rw [if_neg (show ¬ noB e.anchor = true by unfold noB; simpa using ha)]
        exact take_yes_name b B1 B2 lv w0 w t k es n e hS hl he hI hk hu h6 ha
  · rw [if_neg hu]
    by_cases h6 : e.kind = 6
    · rw [if_pos h6]
      exact take_no_alias b B1 B2 lv w0 w t k es n e hS hl he hI hk hu h6
    · rw [if_neg h6]
      by_cases ha : e.anchor.toList = []
      · rw [if_pos (show noB e.anchor = true by unfold noB; rw [ha]; rfl)]
        exact take_no_bare b B1 B2 lv w0 w t k es n e hS hl he hI hk hu h6 ha
      · rw [if_neg (show ¬ noB e.anchor = true by unfold noB; simpa using ha)]
        exact take_no_name b B1 B2 lv w0 w t k es n e hS hl he hI hk hu h6 ha
/-- With how many nodes were told. -/
def fTie2 (es : List Ev) (p : Ti × Nat) (n : Sp) : Ti × Nat := (fTie es p.1 n, p.2 + 1)
theorem fTie2_fold (es : List Ev) : ∀ (L : List Sp) (p : Ti × Nat), L.foldl (fTie2 es) p = (L.foldl (fTie es) p.1, p.2 + L.length)
  | [], p => rfl
  | n :: t, p => by
    rw [List.foldl_cons, fTie2_fold es t, List.foldl_cons, List.length_cons]
    unfold fTie2
    simp only []
    congr 1
    omega
def TsJ (b B1 B2 : Nat) (lv : Value) (w0 : World) (p : Ti × Nat) (w : World) : Prop := TsI b B1 B2 lv w0 p.1 p.2 w
theorem spans_at {es : List Ev} {k : Nat} {n : Sp} (h : (spansF es)[k]? = some n) : ∃ e, es[n.at_]? = some e := by
  have hm := List.mem_of_getElem? h
  unfold spansF at hm
  obtain ⟨j, hj, rfl⟩ := List.mem_map.1 hm
  have := (mem_nodes.1 hj).1
  exact ⟨_, List.getElem?_eq_getElem this⟩
theorem spansF_le (es : List Ev) : (spansF es).length ≤ es.length := by
  unfold spansF
  rw [List.length_map]
  exact nodesTo_le es es.length
theorem tellTie (b B1 B2 : Nat) (lv : Value) (w0 : World) (es : List Ev) (hS : SlE w0 lv es) (hl : totE es + es.length ≤ 1048576) : TellC 50 (.pointer (some ⟨b, 0, none⟩)) (spansF es) (fTie2 es) (TsJ b B1 B2 lv w0) (Ti.start, 0) :=
  ⟨enters_of Try.func50 (by kernel_rfl) rfl, fun _ _ _ h hb => TsI.stays h hb, fun k n w hx hI => by
    obtain ⟨e, he⟩ := spans_at hx
    have hkl := (List.getElem?_eq_some_iff.1 hx).1
    have hsl := spansF_le es
    rw [fTie2_fold] at hI ⊢
    have hlen : ((spansF es).take k).length = k := by rw [List.length_take]; omega
    rw [hlen] at hI ⊢
    have h2 := ttake_any b B1 B2 lv w0 w _ _ es n e hS hl he hI (by omega)
    refine h2.mono ?_
    rintro r w' ⟨rfl, h3, h4⟩
    refine ⟨rfl, ?_, h4.toS hI⟩
    show TsI b B1 B2 lv w0 (fTie es _ n) _ w'
    unfold fTie
    rw [he]
    exact h3⟩
theorem gat2 (es : List Ev) (k : Nat) : (gat es (fTie2 es) (Ti.start, 0) k).1 = gat es (fTie es) Ti.start k := by
  unfold gat
  rw [fTie2_fold]
/-- What eachNode leaves of the ties. -/
def tiEnd (es : List Ev) : Ti := if nested es = true then gat es (fTie es) Ti.start es.length else Ti.start
theorem ti_end (es : List Ev) : (if nested es = true then gat es (fTie2 es) (Ti.start, 0) es.length else (Ti.start, 0)).1 = tiEnd es := by
  unfold tiEnd
  split
  · exact gat2 es _
  · rfl
set_option maxHeartbeats 4000000 in
theorem newTies_any (w : World) (a : Option Addr) (m c : Nat) :
    Calls Try.prog 47 #[.slice a m c] w fun e w' => ∃ b B1 B2, e = .returned (.pointer (some ⟨b, 0, none⟩)) ∧ TsI b B1 B2 (.slice a m c) w Ti.start 0 w' := by
  have hmm := @run_makeMap Try.prog
  obtain ⟨w1, hw1⟩ : ∃ w1, w.alloc (.map #[] 0) = w1 := ⟨_, rfl⟩
  obtain ⟨w2, hw2⟩ : ∃ w2, w1.alloc (.map #[] 0) = w2 := ⟨_, rfl⟩
  have s1 : w1.heap.size = w.heap.size + 1 := by rw [← hw1]; simp
  have s2 : w2.heap.size = w1.heap.size + 1 := by rw [← hw2]; simp
  obtain ⟨w3, hw3⟩ : ∃ w3, w2.alloc (.cells #[.slice a m c, .int .i64 0, .map (some w.heap.size), .map (some w1.heap.size), .int .i64 0] 99) = w3 := ⟨_, rfl⟩
  have b1 : Below w.heap.size w w1 := by rw [← hw1]; exact al_belowN w _
  have b2 : Below w1.heap.size w1 w2 := by rw [← hw2]; exact al_belowN w1 _
  have b3 : Below w2.heap.size w2 w3 := by rw [← hw3]; exact al_belowN w2 _
  have HO : Hid (TsI w2.heap.size w.heap.size w1.heap.size (.slice a m c) w Ti.start 0 w3) := by
    refine ⟨?_, ⟨0, Nat.le_refl _, ?_⟩, ⟨0, Nat.le_refl _, ?_⟩, Nat.le_refl _, (b1.trans (b2.mono (by omega))).trans (b3.mono (by omega)), ⟨by omega, by omega, by omega⟩, ⟨by omega, by omega, by omega⟩⟩
    · rw [← hw3]
      exact heap_alloc_new w2 _
    · refine (MapM.made w Try.prog 9 nkey Sp.val).same ?_
      rw [hw1, (b3.block _ (by omega)), (b2.block _ (by omega))]
    · refine (MapM.made w1 Try.prog 3 dkey natV).same ?_
      rw [hw2, (b3.block _ (by omega))]
  have HE : Hid (w2.alloc (.cells #[.slice a m c, .int .i64 0, .map (some w.heap.size), .map (some w1.heap.size), .int .i64 0] 99) = w3) := hw3
  clear b1 b2 b3 hw3 s1 s2
  subst hw2
  subst hw1
  go_enter Try.func47, Try.ntmps47
  go_wp2_with fail
  go_ret
  refine ⟨_, w.heap.size, w.heap.size + 1, rfl, ?_⟩
  have h1 := HO.out
  rw [← HE.out] at h1
  simpa using h1
set_option maxHeartbeats 4000000 in
theorem implTied : ImplTied := by
  intro w v es hV hl hf
  obtain ⟨o, ho⟩ : ∃ o, tied es = o := ⟨_, rfl⟩
  rw [ho]
  obtain ⟨a, c, rfl⟩ := hV.sl
  have HV : Hid (SlE w (.slice a es.length c) es) := hV
  have HL : Hid (totE es + es.length ≤ 1048576) := hl
  have HF : Hid (∀ e ∈ es, wfE e) := hf
  have HO : Hid (tied es = o) := ho
  have cN := newTies_any w a es.length c
  clear hV hl hf ho
  go_enter Try.func46, Try.ntmps46
  go_wp2_with fail
  refine cN.mono ?_
  rintro e w1 ⟨b, B1, B2, rfl, hI⟩
  have cE := eachNode_any _ _ _ _ (Ti.start, 0) w1 _ es (HV.out.stays hI.below) HL.out HF.out (tellTie b B1 B2 _ w es HV.out HL.out) hI
  clear cN hI
  cases hn : nested es with
  | false =>
    have HE : Hid (false = o) := by show _ = _; rw [← HO.out]; unfold tied; rw [hn]; rfl
    rw [hn] at cE
    clear hn
    go_wp2_with fail
    refine cE.mono ?_
    rintro e w2 ⟨rfl, hJ⟩
    have HB : Hid (Below w.heap.size w w2) := TsI.below hJ
    clear cE hJ
    go_wp2_with fail
    go_ret
    exact ⟨ret_bool HE.out, HB.out⟩
  | true =>
    have HE : Hid (decide ((tiEnd es).loose = 0) = o) := by
      show _ = _
      unfold tiEnd
      rw [if_pos hn, tied_gat hn, HO.out]
    have hT : (if nested es = true then gat es (fTie2 es) (Ti.start, 0) es.length else (Ti.start, 0)).1 = tiEnd es := ti_end es
    rw [hn] at cE hT
    clear hn
    go_wp2_with fail
    refine cE.mono ?_
    rintro e w2 ⟨rfl, hJ⟩
    unfold TsJ at hJ
    rw [hT] at hJ
    have HB : Hid (Below w.heap.size w w2) := hJ.below
    have c4 := hJ.at_.c4
    clear cE hJ hT
    obtain ⟨lo, hlo⟩ : ∃ lo, (tiEnd es).loose = lo := ⟨_, rfl⟩
    rw [hlo] at c4 HE
    clear hlo
    by_cases hz : lo = 0
    · subst hz
      have HE2 : Hid (true = o) := by show true = o; have := HE.out; simpa using this
      clear HE
      go_wp2_with fail
      go_ret
      exact ⟨ret_bool HE2.out, HB.out⟩
    · have t0 : ((lo : Int) == 0) = false := by rw [beq_eq_false_iff_ne]; omega
      have HE2 : Hid (false = o) := by show _ = _; rw [← HE.out, decide_eq_false hz]
      clear HE hz
      go_wp2_with fail
      go_ret
      exact ⟨ret_bool HE2.out, HB.out⟩
theorem tied_some {es : List Ev} (h : tied es = true) : es ≠ [] := by
  intro h0
  rw [h0] at h
  unfold tied nested at h
  simp [nst] at h
set_option maxHeartbeats 4000000 in
theorem implWhole : ImplWhole := by
  intro w v es hV hl hf
  obtain ⟨o, ho⟩ : ∃ o, whole es = o := ⟨_, rfl⟩
  rw [ho]
  have cT := implTied w v es hV hl hf
  obtain ⟨a, c, rfl⟩ := hV.sl
  have HV : Hid (SlE w (.slice a es.length c) es) := hV
  have HO : Hid (whole es = o) := ho
  have hlen : (es.length : Int) ≤ 1048576 := by omega
  cases ht : tied es with
  | false =>
    have HE : Hid (false = o) := by show _ = _; rw [← HO.out]; unfold whole; rw [ht]; rfl
    rw [ht] at cT
    clear hV hl hf ho ht
    go_enter Try.func25, Try.ntmps25
    go_wp2_with fail
    refine cT.mono ?_
    rintro e w1 ⟨rfl, hb1⟩
    have HB : Hid (Below w.heap.size w w1) := hb1
    clear cT hb1
    go_wp2_with fail
    go_ret
    exact ⟨ret_bool HE.out, HB.out⟩
  | true =>
    have hne := tied_some ht
    obtain ⟨m, hm⟩ : ∃ m, es.length = m + 1 := ⟨es.length - 1, by have := List.length_pos_iff.2 hne; omega⟩
    obtain ⟨e, he⟩ : ∃ e, es[m]? = some e := ⟨_, List.getElem?_eq_getElem (by omega)⟩
    have HE : Hid (decide (e.kind ≠ 10) = o) := by
      show _ = _
      rw [← HO.out]
      unfold whole
      rw [ht, show es.length - 1 = m by omega, kind_at he]
      rfl
    rw [ht] at cT
    have HX : Hid (es[m]? = some e) := he
    rw [hm] at cT hlen
    clear hV hl hf ho ht he hne
    rw [hm]
    go_enter Try.func25, Try.ntmps25
    go_wp2_with fail
    refine cT.mono ?_
    rintro r w1 ⟨rfl, hb1⟩
    have HB : Hid (Below w.heap.size w w1) := hb1
    obtain ⟨bb, off, rfl, _, ⟨c0, _, _, _, _, _, _, _⟩⟩ := HV.out.at hb1 HX.out
    obtain ⟨kd, hkd⟩ : ∃ kd, e.kind = kd := ⟨_, rfl⟩
    rw [hkd] at c0 HE
    clear cT hb1 hkd hm
    by_cases h10 : kd = 10
    · subst h10
      have HE2 : Hid (false = o) := by show false = o; have := HE.out; simpa using this
      clear HE
      go_wp2_with fail
      go_ret
      exact ⟨ret_bool HE2.out, HB.out⟩
    · have t10 : (kd != 10) = true := by rw [bne_iff_ne]; exact h10
      have HE2 : Hid (true = o) := by show _ = _; rw [← HE.out, decide_eq_true h10]
      clear HE h10
      go_wp2_with fail
      go_ret
      exact ⟨ret_bool HE2.out, HB.out⟩
end Go.Proofs.Ytkdlakcmhdiojaa
