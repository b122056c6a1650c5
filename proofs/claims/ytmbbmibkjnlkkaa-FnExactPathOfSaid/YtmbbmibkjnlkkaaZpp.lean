/- Several texts in one: Ik4 Ik5 Ik6 Itl Jrd. -/
import Derived.Test.YtmbbmibkjnlkkaaZpo
import Derived.Test.YtmbbmibkjnlkkaaZpm
/- impl's ties: take, a case. -/
namespace Go.Proofs.Ytmbbmibkjnlkkaa
open Go.ChangeShapes Go.WideShapes Go.ChangeAt Go.RowKit Go.Maps
set_option maxRecDepth 100000 in
set_option maxHeartbeats 8000000 in
theorem take_yes_alias (b B1 B2 : Nat) (lv : Value) (w0 w : World) (t : Ti) (k : Nat) (es : List Ev) (n : Sp) (e : Ev) (hS : SlE w0 lv es) (hl : totE es + es.length ≤ 1048576) (he : es[n.at_]? = some e) (hI : TsI b B1 B2 lv w0 t k w) (hk : k ≤ 1048576) (hu : n.up = -1) (h6 : e.kind = 6) :
    Calls Try.prog 34 #[.pointer (some ⟨b, 0, none⟩), n.val] w fun r w' => r = .returned (.tuple #[]) ∧ TsI b B1 B2 lv w0 (Ti.tie { t with root := n.at_ } e.text n.at_) (k + 1) w' ∧ KeepO b B1 B2 w w' := by
  obtain ⟨W, hW⟩ : ∃ W, w.alloc (.cells #[.int .i64 (n.at_ : Int), .int .i64 n.end_, .int .i64 (-1)] 64) = W := ⟨_, rfl⟩
  have hBW : Below w.heap.size w W := by rw [← hW]; exact al_belowN w _
  have hnew : W.heap[w.heap.size]? = some (.cells #[.int .i64 (n.at_ : Int), .int .i64 n.end_, .int .i64 (-1)] 64 (0, 0)) := by rw [← hW]; exact heap_alloc_new w _
  have u0 : W.cell? ⟨w.heap.size, 0, none⟩ = some (.int .i64 (n.at_ : Int)) := Lib.cell_of_heap hnew 0
  have u2 : W.cell? ⟨w.heap.size, 2, none⟩ = some (.int .i64 (-1)) := Lib.cell_of_heap hnew 2
  have hIW := hI.stays hBW
  have nb : w.heap.size ≠ b := by have := hI.at_.lt; omega
  have nb' : b ≠ w.heap.size := Ne.symm nb
  have HB0 : Hid (w0.heap.size ≤ w.heap.size) := hI.below.size
  have HW : Hid (w.alloc (.cells #[.int .i64 (n.at_ : Int), .int .i64 n.end_, .int .i64 (-1)] 64) = W) := hW
  have HUU : Hid (n.up = -1) := hu
  clear hu
  have f1 := hIW.at_.fz 1
  have g1 := hIW.at_.c1
  obtain ⟨V, hV⟩ : ∃ V, W.setCell ⟨b, 1, none⟩ (.int .i64 (n.at_ : Int)) = V := ⟨_, rfl⟩
  have hcl : ∀ j, V.cell? ⟨w.heap.size, j, none⟩ = W.cell? ⟨w.heap.size, j, none⟩ := fun j => by rw [← hV]; exact World.cell?_setCell_other _ _ _ _ (by intro e; injection e with e _; exact nb e.symm)
  have v0 : V.cell? ⟨w.heap.size, 0, none⟩ = some (.int .i64 (n.at_ : Int)) := by rw [hcl]; exact u0
  have HV1 : Hid (V.cell? ⟨w.heap.size, 1, none⟩ = some (.int .i64 n.end_)) := by show _ = _; rw [hcl]; exact Lib.cell_of_heap hnew 1
  have HV2 : Hid (V.cell? ⟨w.heap.size, 2, none⟩ = some (.int .i64 (-1))) := by show _ = _; rw [hcl]; exact u2
  have HVS : Hid (w.heap.size < V.heap.size) := by show _ < _; rw [← hV, ← hW]; simp [World.setCell]
  have HIV : Hid (TsI b B1 B2 lv w0 { t with root := n.at_ } k V) := by
    rw [← hV]
    exact hIW.cell (t' := { t with root := n.at_ }) (hIW.at_.set1 n.at_) rfl rfl (Nat.le_refl k) hIW.ls
  have HKV : Hid (KeepO b B1 B2 w V) := by rw [← hV]; exact (KeepO.of hBW).trans (hIW.keep 1 _)
  have HVV : Hid (W.setCell ⟨b, 1, none⟩ (.int .i64 (n.at_ : Int)) = V) := hV
  rw [← hW] at f1 g1
  clear hV hcl
  have htot := totE_mem (List.mem_of_getElem? he)
  have HTX : Hid (e.text.size ≤ 1073741824 ∧ e.anchor.size ≤ 1073741824 ∧ n.at_ ≤ 1048576 ∧ k ≤ 1048576) := by
    have := (List.getElem?_eq_some_iff.1 he).1
    unfold Ev.tot at htot
    exact ⟨by omega, by omega, by omega, hk⟩
  obtain ⟨la, lc, rfl⟩ := hS.sl
  obtain ⟨bb, off, rfl, hbb, ⟨c0, c1, c2, c3, c4, c5, c6, c7⟩⟩ := hS.at HIV.out.below he
  have hlt' : (n.at_ : Int) < (es.length : Int) := by have := (List.getElem?_eq_some_iff.1 he).1; omega
  have hle : (es.length : Int) ≤ 1048576 := by omega
  have d0 := HIV.out.at_.c0
  unfold Sp.val
  rw [HUU.out]
  obtain ⟨kind, style, flag, text, anchor, tag, at_, code⟩ := e
  simp only at c0 c1 c2 c3 c4 c5 c6 c7 HTX h6
  subst h6
  obtain ⟨X, hX⟩ : ∃ X, (V.alloc (.cells #[.int .i64 6, .int .i64 style, .bool flag, .string text, .string anchor, .string tag, .int .i64 at_, .int .i64 code] 38)).drew = X := ⟨_, rfl⟩
  have hBX : Below V.heap.size V X := by rw [← hX]; exact (al_belowN V _).drew
  have hnX : X.heap[V.heap.size]? = some (.cells #[.int .i64 6, .int .i64 style, .bool flag, .string text, .string anchor, .string tag, .int .i64 at_, .int .i64 code] 38 (0, 0)) := by rw [← hX]; exact heap_alloc_new V _
  obtain ⟨x0, x1, x2, x3, x4, x5, x6, x7⟩ := ev_at hnX
  have y0 : X.cell? ⟨w.heap.size, 0, none⟩ = some (.int .i64 (n.at_ : Int)) := by rw [hBX.cell (by have := HVS.out; omega)]; exact v0
  have y1 : X.cell? ⟨w.heap.size, 1, none⟩ = some (.int .i64 n.end_) := by rw [hBX.cell (by have := HVS.out; omega)]; exact HV1.out
  have y2 : X.cell? ⟨w.heap.size, 2, none⟩ = some (.int .i64 (-1)) := by rw [hBX.cell (by have := HVS.out; omega)]; exact HV2.out
  have HIX : Hid (TsI b B1 B2 (.slice (some ⟨bb, off, none⟩) es.length lc) w0 { t with root := n.at_ } k X) := HIV.out.stays hBX
  have HKX : Hid (KeepO b B1 B2 w X) := HKV.out.trans (KeepO.of hBX)
  have HX : Hid ((V.alloc (.cells #[.int .i64 6, .int .i64 style, .bool flag, .string text, .string anchor, .string tag, .int .i64 at_, .int .i64 code] 38)).drew = X) := hX
  obtain ⟨Z, hZ⟩ : ∃ Z, V.alloc (.cells #[.int .i64 0, .int .i64 0, .bool false, .string ⟨#[]⟩, .string ⟨#[]⟩, .string ⟨#[]⟩, .int .i64 0, .int .i64 0] 38) = Z := ⟨_, rfl⟩
  have hBZ : Below V.heap.size V Z := by rw [← hZ]; exact al_belowN V _
  have hbV : bb < V.heap.size := Nat.lt_of_lt_of_le hbb HIV.out.below.size
  have z0 : Z.cell? _ = _ := (hBZ.cell hbV).trans c0
  have z1 : Z.cell? _ = _ := (hBZ.cell hbV).trans c1
  have z2 : Z.cell? _ = _ := (hBZ.cell hbV).trans c2
  have z3 : Z.cell? _ = _ := (hBZ.cell hbV).trans c3
  have z4 : Z.cell? _ = _ := (hBZ.cell hbV).trans c4
  have z5 : Z.cell? _ = _ := (hBZ.cell hbV).trans c5
  have z6 : Z.cell? _ = _ := (hBZ.cell hbV).trans c6
  have z7 : Z.cell? _ = _ := (hBZ.cell hbV).trans c7
  have zd : Z.cell? _ = _ := (hBZ.cell HIV.out.at_.lt).trans d0
  have zv : Z.cell? _ = _ := (hBZ.cell HVS.out).trans v0
  rw [← hZ] at z0 z1 z2 z3 z4 z5 z6 z7 zd zv
  clear hS hl he hI hk hW hBW hnew hIW htot hbb hX hBX hnX HV1 HV2 hZ hBZ hbV
  go_enter Try.func34, Try.ntmps34
  go_wp2_with fail
  rw [HW.out, HVV.out]
  clear u0 u2 f1 g1 HVV HW

  go_region
  all_goals (
    rw [HX.out]
    clear c0 c1 c2 c3 c4 c5 c6 c7 d0 v0 HX z0 z1 z2 z3 z4 z5 z6 z7 zd zv
    have cT := tie_any b B1 B2 _ w0 X _ k text n.at_ HIX.out HTX.out.1 HTX.out.2.2.1 HTX.out.2.2.2
    go_wp2_with fail
    refine cT.mono ?_
    rintro r w2 ⟨rfl, h2, k2⟩
    have HQ : Hid (TsI b B1 B2 (.slice (some ⟨bb, off, none⟩) es.length lc) w0 (Ti.tie { t with root := n.at_ } text n.at_) (k + 1) w2 ∧ KeepO b B1 B2 w w2) := ⟨h2, HKX.out.trans k2⟩
    clear cT h2 k2 x0 x1 x2 x3 x4 x5 x6 x7 y0 y1 y2
    go_wp2_with fail
    go_end0
    exact ⟨rfl, HQ.out⟩)
end Go.Proofs.Ytmbbmibkjnlkkaa
/- impl's ties: take, a case. -/
namespace Go.Proofs.Ytmbbmibkjnlkkaa
open Go.ChangeShapes Go.WideShapes Go.ChangeAt Go.RowKit Go.Maps
set_option maxRecDepth 100000 in
set_option maxHeartbeats 8000000 in
theorem take_yes_name (b B1 B2 : Nat) (lv : Value) (w0 w : World) (t : Ti) (k : Nat) (es : List Ev) (n : Sp) (e : Ev) (hS : SlE w0 lv es) (hl : totE es + es.length ≤ 1048576) (he : es[n.at_]? = some e) (hI : TsI b B1 B2 lv w0 t k w) (hk : k ≤ 1048576) (hu : n.up = -1) (h6 : ¬ e.kind = 6) (ha : e.anchor.toList ≠ []) :
    Calls Try.prog 34 #[.pointer (some ⟨b, 0, none⟩), n.val] w fun r w' => r = .returned (.tuple #[]) ∧ TsI b B1 B2 lv w0 (Ti.name { t with root := n.at_ } e.anchor n) (k + 1) w' ∧ KeepO b B1 B2 w w' := by
  obtain ⟨W, hW⟩ : ∃ W, w.alloc (.cells #[.int .i64 (n.at_ : Int), .int .i64 n.end_, .int .i64 (-1)] 64) = W := ⟨_, rfl⟩
  have hBW : Below w.heap.size w W := by rw [← hW]; exact al_belowN w _
  have hnew : W.heap[w.heap.size]? = some (.cells #[.int .i64 (n.at_ : Int), .int .i64 n.end_, .int .i64 (-1)] 64 (0, 0)) := by rw [← hW]; exact heap_alloc_new w _
  have u0 : W.cell? ⟨w.heap.size, 0, none⟩ = some (.int .i64 (n.at_ : Int)) := Lib.cell_of_heap hnew 0
  have u2 : W.cell? ⟨w.heap.size, 2, none⟩ = some (.int .i64 (-1)) := Lib.cell_of_heap hnew 2
  have hIW := hI.stays hBW
  have nb : w.heap.size ≠ b := by have := hI.at_.lt; omega
  have nb' : b ≠ w.heap.size := Ne.symm nb
  have HB0 : Hid (w0.heap.size ≤ w.heap.size) := hI.below.size
  have HW : Hid (w.alloc (.cells #[.int .i64 (n.at_ : Int), .int .i64 n.end_, .int .i64 (-1)] 64) = W) := hW
  have HUU : Hid (n.up = -1) := hu
  clear hu
  have f1 := hIW.at_.fz 1
  have g1 := hIW.at_.c1
  obtain ⟨V, hV⟩ : ∃ V, W.setCell ⟨b, 1, none⟩ (.int .i64 (n.at_ : Int)) = V := ⟨_, rfl⟩
  have hcl : ∀ j, V.cell? ⟨w.heap.size, j, none⟩ = W.cell? ⟨w.heap.size, j, none⟩ := fun j => by rw [← hV]; exact World.cell?_setCell_other _ _ _ _ (by intro e; injection e with e _; exact nb e.symm)
  have v0 : V.cell? ⟨w.heap.size, 0, none⟩ = some (.int .i64 (n.at_ : Int)) := by rw [hcl]; exact u0
  have HV1 : Hid (V.cell? ⟨w.heap.size, 1, none⟩ = some (.int .i64 n.end_)) := by show _ = _; rw [hcl]; exact Lib.cell_of_heap hnew 1
  have HV2 : Hid (V.cell? ⟨w.heap.size, 2, none⟩ = some (.int .i64 (-1))) := by show _ = _; rw [hcl]; exact u2
  have HVS : Hid (w.heap.size < V.heap.size) := by show _ < _; rw [← hV, ← hW]; simp [World.setCell]
  have HIV : Hid (TsI b B1 B2 lv w0 { t with root := n.at_ } k V) := by
    rw [← hV]
    exact hIW.cell (t' := { t with root := n.at_ }) (hIW.at_.set1 n.at_) rfl rfl (Nat.le_refl k) hIW.ls
  have HKV : Hid (KeepO b B1 B2 w V) := by rw [← hV]; exact (KeepO.of hBW).trans (hIW.keep 1 _)
  have HVV : Hid (W.setCell ⟨b, 1, none⟩ (.int .i64 (n.at_ : Int)) = V) := hV
  rw [← hW] at f1 g1
  clear hV hcl
  have htot := totE_mem (List.mem_of_getElem? he)
  have HTX : Hid (e.text.size ≤ 1073741824 ∧ e.anchor.size ≤ 1073741824 ∧ n.at_ ≤ 1048576 ∧ k ≤ 1048576) := by
    have := (List.getElem?_eq_some_iff.1 he).1
    unfold Ev.tot at htot
    exact ⟨by omega, by omega, by omega, hk⟩
  obtain ⟨la, lc, rfl⟩ := hS.sl
  obtain ⟨bb, off, rfl, hbb, ⟨c0, c1, c2, c3, c4, c5, c6, c7⟩⟩ := hS.at HIV.out.below he
  have hlt' : (n.at_ : Int) < (es.length : Int) := by have := (List.getElem?_eq_some_iff.1 he).1; omega
  have hle : (es.length : Int) ≤ 1048576 := by omega
  have d0 := HIV.out.at_.c0
  unfold Sp.val
  rw [HUU.out]
  obtain ⟨kind, style, flag, text, anchor, tag, at_, code⟩ := e
  simp only at c0 c1 c2 c3 c4 c5 c6 c7 HTX h6 ha
  have t6 : (kind == 6) = false := by rw [beq_eq_false_iff_ne]; exact h6
  have hie : anchor.toList.isEmpty = false := by cases hh : anchor.toList with | nil => exact absurd hh ha | cons _ _ => rfl
  have hne : (anchor.toList == []) = false := by rw [beq_eq_false_iff_ne]; exact ha
  obtain ⟨X, hX⟩ : ∃ X, (V.alloc (.cells #[.int .i64 kind, .int .i64 style, .bool flag, .string text, .string anchor, .string tag, .int .i64 at_, .int .i64 code] 38)).drew = X := ⟨_, rfl⟩
  have hBX : Below V.heap.size V X := by rw [← hX]; exact (al_belowN V _).drew
  have hnX : X.heap[V.heap.size]? = some (.cells #[.int .i64 kind, .int .i64 style, .bool flag, .string text, .string anchor, .string tag, .int .i64 at_, .int .i64 code] 38 (0, 0)) := by rw [← hX]; exact heap_alloc_new V _
  obtain ⟨x0, x1, x2, x3, x4, x5, x6, x7⟩ := ev_at hnX
  have y0 : X.cell? ⟨w.heap.size, 0, none⟩ = some (.int .i64 (n.at_ : Int)) := by rw [hBX.cell (by have := HVS.out; omega)]; exact v0
  have y1 : X.cell? ⟨w.heap.size, 1, none⟩ = some (.int .i64 n.end_) := by rw [hBX.cell (by have := HVS.out; omega)]; exact HV1.out
  have y2 : X.cell? ⟨w.heap.size, 2, none⟩ = some (.int .i64 (-1)) := by rw [hBX.cell (by have := HVS.out; omega)]; exact HV2.out
  have HIX : Hid (TsI b B1 B2 (.slice (some ⟨bb, off, none⟩) es.length lc) w0 { t with root := n.at_ } k X) := HIV.out.stays hBX
  have HKX : Hid (KeepO b B1 B2 w X) := HKV.out.trans (KeepO.of hBX)
  have HX : Hid ((V.alloc (.cells #[.int .i64 kind, .int .i64 style, .bool flag, .string text, .string anchor, .string tag, .int .i64 at_, .int .i64 code] 38)).drew = X) := hX
  obtain ⟨Z, hZ⟩ : ∃ Z, V.alloc (.cells #[.int .i64 0, .int .i64 0, .bool false, .string ⟨#[]⟩, .string ⟨#[]⟩, .string ⟨#[]⟩, .int .i64 0, .int .i64 0] 38) = Z := ⟨_, rfl⟩
  have hBZ : Below V.heap.size V Z := by rw [← hZ]; exact al_belowN V _
  have hbV : bb < V.heap.size := Nat.lt_of_lt_of_le hbb HIV.out.below.size
  have z0 : Z.cell? _ = _ := (hBZ.cell hbV).trans c0
  have z1 : Z.cell? _ = _ := (hBZ.cell hbV).trans c1
  have z2 : Z.cell? _ = _ := (hBZ.cell hbV).trans c2
  have z3 : Z.cell? _ = _ := (hBZ.cell hbV).trans c3
  have z4 : Z.cell? _ = _ := (hBZ.cell hbV).trans c4
  have z5 : Z.cell? _ = _ := (hBZ.cell hbV).trans c5
  have z6 : Z.cell? _ = _ := (hBZ.cell hbV).trans c6
  have z7 : Z.cell? _ = _ := (hBZ.cell hbV).trans c7
  have zd : Z.cell? _ = _ := (hBZ.cell HIV.out.at_.lt).trans d0
  have zv : Z.cell? _ = _ := (hBZ.cell HVS.out).trans v0
  rw [← hZ] at z0 z1 z2 z3 z4 z5 z6 z7 zd zv
  clear hS hl he hI hk hW hBW hnew hIW htot hbb hX hBX hnX HV1 HV2 hZ hBZ hbV
  go_enter Try.func34, Try.ntmps34
  go_wp2_with fail
  rw [HW.out, HVV.out]
  clear u0 u2 f1 g1 HVV HW

  go_region
  all_goals (
    rw [HX.out]
    clear c0 c1 c2 c3 c4 c5 c6 c7 d0 v0 HX z0 z1 z2 z3 z4 z5 z6 z7 zd zv
    obtain ⟨w3, hup, h3, k3⟩ := (HIX.out.stays ((Below.refl X.heap.size X).drew)).putN anchor n HTX.out.2.1 (by have := HTX.out.2.2.2; omega)
    unfold Sp.val at hup
    rw [HUU.out] at hup
    have HQ : Hid (TsI b B1 B2 (.slice (some ⟨bb, off, none⟩) es.length lc) w0 (Ti.name { t with root := n.at_ } anchor n) (k + 1) w3 ∧ KeepO b B1 B2 w w3) := ⟨h3, (HKX.out.trans (KeepO.of ((Below.refl X.heap.size X).drew))).trans k3⟩
    have zz : X.cell? ⟨b, 2, none⟩ = some (.map (some B1)) := HIX.out.at_.c2
    clear h3 k3
    go_wp2_with fail
    go_region
    all_goals (
      clear hup zz x0 x1 x2 x3 x4 x5 x6 x7 y0 y1 y2
      go_wp2_with fail
      go_end0
      exact ⟨rfl, HQ.out⟩))
end Go.Proofs.Ytmbbmibkjnlkkaa
/- impl's ties: take, a case. -/
namespace Go.Proofs.Ytmbbmibkjnlkkaa
open Go.ChangeShapes Go.WideShapes Go.ChangeAt Go.RowKit Go.Maps
set_option maxRecDepth 100000 in
set_option maxHeartbeats 8000000 in
theorem take_yes_bare (b B1 B2 : Nat) (lv : Value) (w0 w : World) (t : Ti) (k : Nat) (es : List Ev) (n : Sp) (e : Ev) (hS : SlE w0 lv es) (hl : totE es + es.length ≤ 1048576) (he : es[n.at_]? = some e) (hI : TsI b B1 B2 lv w0 t k w) (hk : k ≤ 1048576) (hu : n.up = -1) (h6 : ¬ e.kind = 6) (ha : e.anchor.toList = []) :
    Calls Try.prog 34 #[.pointer (some ⟨b, 0, none⟩), n.val] w fun r w' => r = .returned (.tuple #[]) ∧ TsI b B1 B2 lv w0 ({ t with root := n.at_ } : Ti) (k + 1) w' ∧ KeepO b B1 B2 w w' := by
  obtain ⟨W, hW⟩ : ∃ W, w.alloc (.cells #[.int .i64 (n.at_ : Int), .int .i64 n.end_, .int .i64 (-1)] 64) = W := ⟨_, rfl⟩
  have hBW : Below w.heap.size w W := by rw [← hW]; exact al_belowN w _
  have hnew : W.heap[w.heap.size]? = some (.cells #[.int .i64 (n.at_ : Int), .int .i64 n.end_, .int .i64 (-1)] 64 (0, 0)) := by rw [← hW]; exact heap_alloc_new w _
  have u0 : W.cell? ⟨w.heap.size, 0, none⟩ = some (.int .i64 (n.at_ : Int)) := Lib.cell_of_heap hnew 0
  have u2 : W.cell? ⟨w.heap.size, 2, none⟩ = some (.int .i64 (-1)) := Lib.cell_of_heap hnew 2
  have hIW := hI.stays hBW
  have nb : w.heap.size ≠ b := by have := hI.at_.lt; omega
  have nb' : b ≠ w.heap.size := Ne.symm nb
  have HB0 : Hid (w0.heap.size ≤ w.heap.size) := hI.below.size
  have HW : Hid (w.alloc (.cells #[.int .i64 (n.at_ : Int), .int .i64 n.end_, .int .i64 (-1)] 64) = W) := hW
  have HUU : Hid (n.up = -1) := hu
  clear hu
  have f1 := hIW.at_.fz 1
  have g1 := hIW.at_.c1
  obtain ⟨V, hV⟩ : ∃ V, W.setCell ⟨b, 1, none⟩ (.int .i64 (n.at_ : Int)) = V := ⟨_, rfl⟩
  have hcl : ∀ j, V.cell? ⟨w.heap.size, j, none⟩ = W.cell? ⟨w.heap.size, j, none⟩ := fun j => by rw [← hV]; exact World.cell?_setCell_other _ _ _ _ (by intro e; injection e with e _; exact nb e.symm)
  have v0 : V.cell? ⟨w.heap.size, 0, none⟩ = some (.int .i64 (n.at_ : Int)) := by rw [hcl]; exact u0
  have HV1 : Hid (V.cell? ⟨w.heap.size, 1, none⟩ = some (.int .i64 n.end_)) := by show _ = _; rw [hcl]; exact Lib.cell_of_heap hnew 1
  have HV2 : Hid (V.cell? ⟨w.heap.size, 2, none⟩ = some (.int .i64 (-1))) := by show _ = _; rw [hcl]; exact u2
  have HVS : Hid (w.heap.size < V.heap.size) := by show _ < _; rw [← hV, ← hW]; simp [World.setCell]
  have HIV : Hid (TsI b B1 B2 lv w0 { t with root := n.at_ } k V) := by
    rw [← hV]
    exact hIW.cell (t' := { t with root := n.at_ }) (hIW.at_.set1 n.at_) rfl rfl (Nat.le_refl k) hIW.ls
  have HKV : Hid (KeepO b B1 B2 w V) := by rw [← hV]; exact (KeepO.of hBW).trans (hIW.keep 1 _)
  have HVV : Hid (W.setCell ⟨b, 1, none⟩ (.int .i64 (n.at_ : Int)) = V) := hV
  rw [← hW] at f1 g1
  clear hV hcl
  have htot := totE_mem (List.mem_of_getElem? he)
  have HTX : Hid (e.text.size ≤ 1073741824 ∧ e.anchor.size ≤ 1073741824 ∧ n.at_ ≤ 1048576 ∧ k ≤ 1048576) := by
    have := (List.getElem?_eq_some_iff.1 he).1
    unfold Ev.tot at htot
    exact ⟨by omega, by omega, by omega, hk⟩
  obtain ⟨la, lc, rfl⟩ := hS.sl
  obtain ⟨bb, off, rfl, hbb, ⟨c0, c1, c2, c3, c4, c5, c6, c7⟩⟩ := hS.at HIV.out.below he
  have hlt' : (n.at_ : Int) < (es.length : Int) := by have := (List.getElem?_eq_some_iff.1 he).1; omega
  have hle : (es.length : Int) ≤ 1048576 := by omega
  have d0 := HIV.out.at_.c0
  unfold Sp.val
  rw [HUU.out]
  obtain ⟨kind, style, flag, text, anchor, tag, at_, code⟩ := e
  simp only at c0 c1 c2 c3 c4 c5 c6 c7 HTX h6 ha
  have t6 : (kind == 6) = false := by rw [beq_eq_false_iff_ne]; exact h6
  obtain ⟨X, hX⟩ : ∃ X, (V.alloc (.cells #[.int .i64 kind, .int .i64 style, .bool flag, .string text, .string anchor, .string tag, .int .i64 at_, .int .i64 code] 38)).drew = X := ⟨_, rfl⟩
  have hBX : Below V.heap.size V X := by rw [← hX]; exact (al_belowN V _).drew
  have hnX : X.heap[V.heap.size]? = some (.cells #[.int .i64 kind, .int .i64 style, .bool flag, .string text, .string anchor, .string tag, .int .i64 at_, .int .i64 code] 38 (0, 0)) := by rw [← hX]; exact heap_alloc_new V _
  obtain ⟨x0, x1, x2, x3, x4, x5, x6, x7⟩ := ev_at hnX
  have y0 : X.cell? ⟨w.heap.size, 0, none⟩ = some (.int .i64 (n.at_ : Int)) := by rw [hBX.cell (by have := HVS.out; omega)]; exact v0
  have y1 : X.cell? ⟨w.heap.size, 1, none⟩ = some (.int .i64 n.end_) := by rw [hBX.cell (by have := HVS.out; omega)]; exact HV1.out
  have y2 : X.cell? ⟨w.heap.size, 2, none⟩ = some (.int .i64 (-1)) := by rw [hBX.cell (by have := HVS.out; omega)]; exact HV2.out
  have HIX : Hid (TsI b B1 B2 (.slice (some ⟨bb, off, none⟩) es.length lc) w0 { t with root := n.at_ } k X) := HIV.out.stays hBX
  have HKX : Hid (KeepO b B1 B2 w X) := HKV.out.trans (KeepO.of hBX)
  have HX : Hid ((V.alloc (.cells #[.int .i64 kind, .int .i64 style, .bool flag, .string text, .string anchor, .string tag, .int .i64 at_, .int .i64 code] 38)).drew = X) := hX
  obtain ⟨Z, hZ⟩ : ∃ Z, V.alloc (.cells #[.int .i64 0, .int .i64 0, .bool false, .string ⟨#[]⟩, .string ⟨#[]⟩, .string ⟨#[]⟩, .int .i64 0, .int .i64 0] 38) = Z := ⟨_, rfl⟩
  have hBZ : Below V.heap.size V Z := by rw [← hZ]; exact al_belowN V _
  have hbV : bb < V.heap.size := Nat.lt_of_lt_of_le hbb HIV.out.below.size
  have z0 : Z.cell? _ = _ := (hBZ.cell hbV).trans c0
  have z1 : Z.cell? _ = _ := (hBZ.cell hbV).trans c1
  have z2 : Z.cell? _ = _ := (hBZ.cell hbV).trans c2
  have z3 : Z.cell? _ = _ := (hBZ.cell hbV).trans c3
  have z4 : Z.cell? _ = _ := (hBZ.cell hbV).trans c4
  have z5 : Z.cell? _ = _ := (hBZ.cell hbV).trans c5
  have z6 : Z.cell? _ = _ := (hBZ.cell hbV).trans c6
  have z7 : Z.cell? _ = _ := (hBZ.cell hbV).trans c7
  have zd : Z.cell? _ = _ := (hBZ.cell HIV.out.at_.lt).trans d0
  have zv : Z.cell? _ = _ := (hBZ.cell HVS.out).trans v0
  rw [← hZ] at z0 z1 z2 z3 z4 z5 z6 z7 zd zv
  clear hS hl he hI hk hW hBW hnew hIW htot hbb hX hBX hnX HV1 HV2 hZ hBZ hbV
  go_enter Try.func34, Try.ntmps34
  go_wp2_with fail
  rw [HW.out, HVV.out]
  clear u0 u2 f1 g1 HVV HW

  go_region
  all_goals (
    rw [HX.out]
    clear c0 c1 c2 c3 c4 c5 c6 c7 d0 v0 HX z0 z1 z2 z3 z4 z5 z6 z7 zd zv
    have HQ : Hid (TsI b B1 B2 (.slice (some ⟨bb, off, none⟩) es.length lc) w0 { t with root := n.at_ } (k + 1) X ∧ KeepO b B1 B2 w X) := ⟨HIX.out.more, HKX.out⟩
    go_wp2_with fail
    go_end0
    exact ⟨rfl, HQ.out⟩)
end Go.Proofs.Ytmbbmibkjnlkkaa
/- The contracts of impl.DefOf, impl.Tied and impl.Whole. -/
namespace Go.Proofs.Ytmbbmibkjnlkkaa
open Go.ChangeShapes Go.WideShapes Go.ChangeAt Go.RowKit Go.Maps
theorem ttake_any (b B1 B2 : Nat) (lv : Value) (w0 w : World) (t : Ti) (k : Nat) (es : List Ev) (n : Sp) (e : Ev) (hS : SlE w0 lv es) (hl : totE es + es.length ≤ 1048576) (he : es[n.at_]? = some e) (hI : TsI b B1 B2 lv w0 t k w) (hk : k ≤ 1048576) :
    Calls Try.prog 34 #[.pointer (some ⟨b, 0, none⟩), n.val] w fun r w' => r = .returned (.tuple #[]) ∧ TsI b B1 B2 lv w0 (t.take n e) (k + 1) w' ∧ KeepO b B1 B2 w w' := by
  unfold Ti.take Ti.at
  by_cases hu : n.up = -1
  · rw [if_pos hu]
    by_cases h6 : e.kind = 6
    · rw [if_pos h6]
      exact take_yes_alias b B1 B2 lv w0 w t k es n e hS hl he hI hk hu h6
    · rw [if_neg h6]
      by_cases ha : e.anchor.toList = []
      · rw [if_pos (show noB e.anchor = true by unfold noB; rw [ha]; rfl)]
        exact take_yes_bare b B1 B2 lv w0 w t k es n e hS hl he hI hk hu h6 ha
      · rw [if_neg (show ¬ noB e.anchor = true by unfold noB; simpa using ha)]
        exact take_yes_name b B1 B2 lv w0 w t k es n e hS hl he hI hk hu h6 ha
  · rw [if_neg hu]
    by_cases h6 : e.kind = 6
    · rw [if_pos h6]
      exact take_no_alias b B1 B2 lv w0 w t k es n e hS hl he hI hk hu h6
    · rw [if_neg h6]
      by_cases ha : e.anchor.toList = []
      · rw [if_pos (show noB e.anchor = true by unfold noB; rw [ha]; rfl)]
        exact take_no_bare b B1 B2 lv w0 w t k es n e hS hl he hI hk hu h6 ha
      · rw [if_neg (show ¬ noB e.anchor = true by unfold noB; simpa using ha)]
        exact take_no_name b B1 B2 lv w0 w t k es n e hS hl he hI hk hu h6 ha
/-- With how many nodes were told. -/
def fTie2 (es : List Ev) (p : Ti × Nat) (n : Sp) : Ti × Nat := (fTie es p.1 n, p.2 + 1)
theorem fTie2_fold (es : List Ev) : ∀ (L : List Sp) (p : Ti × Nat), L.foldl (fTie2 es) p = (L.foldl (fTie es) p.1, p.2 + L.length)
  | [], p => rfl
  | n :: t, p => by
    rw [List.foldl_cons, fTie2_fold es t, List.foldl_cons, List.length_cons]
    unfold fTie2
    simp only []
    congr 1
    omega
def TsJ (b B1 B2 : Nat) (lv : Value) (w0 : World) (p : Ti × Nat) (w : World) : Prop := TsI b B1 B2 lv w0 p.1 p.2 w
theorem spans_at {es : List Ev} {k : Nat} {n : Sp} (h : (spansF es)[k]? = some n) : ∃ e, es[n.at_]? = some e := by
  have hm := List.mem_of_getElem? h
  unfold spansF at hm
  obtain ⟨j, hj, rfl⟩ := List.mem_map.1 hm
  have := (mem_nodes.1 hj).1
  exact ⟨_, List.getElem?_eq_getElem this⟩
theorem spansF_le (es : List Ev) : (spansF es).length ≤ es.length := by
  unfold spansF
  rw [List.length_map]
  exact nodesTo_le es es.length
theorem tellTie (b B1 B2 : Nat) (lv : Value) (w0 : World) (es : List Ev) (hS : SlE w0 lv es) (hl : totE es + es.length ≤ 1048576) : TellC 34 (.pointer (some ⟨b, 0, none⟩)) (spansF es) (fTie2 es) (TsJ b B1 B2 lv w0) (Ti.start, 0) :=
  ⟨enters_of Try.func34 (by kernel_rfl) rfl, fun _ _ _ h hb => TsI.stays h hb, fun k n w hx hI => by
    obtain ⟨e, he⟩ := spans_at hx
    have hkl := (List.getElem?_eq_some_iff.1 hx).1
    have hsl := spansF_le es
    rw [fTie2_fold] at hI ⊢
    have hlen : ((spansF es).take k).length = k := by rw [List.length_take]; omega
    rw [hlen] at hI ⊢
    have h2 := ttake_any b B1 B2 lv w0 w _ _ es n e hS hl he hI (by omega)
    refine h2.mono ?_
    rintro r w' ⟨rfl, h3, h4⟩
    refine ⟨rfl, ?_, h4.toS hI⟩
    show TsI b B1 B2 lv w0 (fTie es _ n) _ w'
    unfold fTie
    rw [he]
    exact h3⟩
theorem gat2 (es : List Ev) (k : Nat) : (gat es (fTie2 es) (Ti.start, 0) k).1 = gat es (fTie es) Ti.start k := by
  unfold gat
  rw [fTie2_fold]
/-- What eachNode leaves of the ties. -/
def tiEnd (es : List Ev) : Ti := if nested es = true then gat es (fTie es) Ti.start es.length else Ti.start
theorem ti_end (es : List Ev) : (if nested es = true then gat es (fTie2 es) (Ti.start, 0) es.length else (Ti.start, 0)).1 = tiEnd es := by
  unfold tiEnd
  split
  · exact gat2 es _
  · rfl
set_option maxHeartbeats 4000000 in
theorem newTies_any (w : World) (a : Option Addr) (m c : Nat) :
    Calls Try.prog 31 #[.slice a m c] w fun e w' => ∃ b B1 B2, e = .returned (.pointer (some ⟨b, 0, none⟩)) ∧ TsI b B1 B2 (.slice a m c) w Ti.start 0 w' := by
  have hmm := @run_makeMap Try.prog
  obtain ⟨w1, hw1⟩ : ∃ w1, w.alloc (.map #[] 0) = w1 := ⟨_, rfl⟩
  obtain ⟨w2, hw2⟩ : ∃ w2, w1.alloc (.map #[] 0) = w2 := ⟨_, rfl⟩
  have s1 : w1.heap.size = w.heap.size + 1 := by rw [← hw1]; simp
  have s2 : w2.heap.size = w1.heap.size + 1 := by rw [← hw2]; simp
  obtain ⟨w3, hw3⟩ : ∃ w3, w2.alloc (.cells #[.slice a m c, .int .i64 0, .map (some w.heap.size), .map (some w1.heap.size), .int .i64 0] 61) = w3 := ⟨_, rfl⟩
  have b1 : Below w.heap.size w w1 := by rw [← hw1]; exact al_belowN w _
  have b2 : Below w1.heap.size w1 w2 := by rw [← hw2]; exact al_belowN w1 _
  have b3 : Below w2.heap.size w2 w3 := by rw [← hw3]; exact al_belowN w2 _
  have HO : Hid (TsI w2.heap.size w.heap.size w1.heap.size (.slice a m c) w Ti.start 0 w3) := by
    refine ⟨?_, ⟨0, Nat.le_refl _, ?_⟩, ⟨0, Nat.le_refl _, ?_⟩, Nat.le_refl _, (b1.trans (b2.mono (by omega))).trans (b3.mono (by omega)), ⟨by omega, by omega, by omega⟩, ⟨by omega, by omega, by omega⟩⟩
    · rw [← hw3]
      exact heap_alloc_new w2 _
    · refine (MapM.made w Try.prog 9 nkey Sp.val).same ?_
      rw [hw1, (b3.block _ (by omega)), (b2.block _ (by omega))]
    · refine (MapM.made w1 Try.prog 3 dkey natV).same ?_
      rw [hw2, (b3.block _ (by omega))]
  have HE : Hid (w2.alloc (.cells #[.slice a m c, .int .i64 0, .map (some w.heap.size), .map (some w1.heap.size), .int .i64 0] 61) = w3) := hw3
  clear b1 b2 b3 hw3 s1 s2
  subst hw2
  subst hw1
  go_enter Try.func31, Try.ntmps31
  go_wp2_with fail
  go_ret
  refine ⟨_, w.heap.size, w.heap.size + 1, rfl, ?_⟩
  have h1 := HO.out
  rw [← HE.out] at h1
  simpa using h1
theorem tied_some {es : List Ev} (h : tied es = true) : es ≠ [] := by
  intro h0
  rw [h0] at h
  unfold tied nested at h
  simp [nst] at h
end Go.Proofs.Ytmbbmibkjnlkkaa
/- The contract of impl.readingOf: the nodes of a stream by their places, and what its aliases stand for. -/
namespace Go.Proofs.Ytmbbmibkjnlkkaa
open Go.ChangeShapes Go.WideShapes Go.ChangeAt Go.RowKit Go.Maps
def putN (f : Int → Option Sp) (n : Sp) : Int → Option Sp := putFn f (n.at_ : Int) n
def fRead (es : List Ev) (p : (Ti × Nat) × (Int → Option Sp)) (n : Sp) : (Ti × Nat) × (Int → Option Sp) := (fTie2 es p.1 n, putN p.2 n)
theorem fRead_fold (es : List Ev) : ∀ (L : List Sp) (p : (Ti × Nat) × (Int → Option Sp)), L.foldl (fRead es) p = (L.foldl (fTie2 es) p.1, L.foldl putN p.2)
  | [], p => rfl
  | n :: t, p => by
    rw [List.foldl_cons, fRead_fold es t]
    rfl
def nodF (l : List Ev) (k : Nat) : Int → Option Sp := fun i => if 0 ≤ i ∧ i < (k : Int) ∧ nodB l i.toNat = true then some (fin l i.toNat) else none
theorem gat_nod (l : List Ev) : ∀ k, gat l putN (fun _ => none) k = nodF l k
  | 0 => by
    rw [gat_zero]
    funext i
    unfold nodF
    rw [if_neg (by omega)]
  | k + 1 => by
    have ih := gat_nod l k
    cases hb : nodB l k
    · rw [gat_no hb, ih]
      funext i
      unfold nodF
      by_cases h : 0 ≤ i ∧ i < (k : Int) ∧ nodB l i.toNat = true
      · rw [if_pos h, if_pos ⟨h.1, by omega, h.2.2⟩]
      · rw [if_neg h, if_neg]
        rintro ⟨h1, h2, h3⟩
        by_cases e : i = (k : Int)
        · subst e
          rw [show (k : Int).toNat = k by omega, hb] at h3
          cases h3
        · exact h ⟨h1, by omega, h3⟩
    · rw [gat_yes hb, ih]
      funext i
      unfold putN putFn
      have hat : (fin l k).at_ = k := rfl
      rw [hat]
      by_cases e : (k : Int) = i
      · subst e
        rw [if_pos rfl]
        unfold nodF
        rw [if_pos ⟨by omega, by omega, by rw [show (k : Int).toNat = k by omega]; exact hb⟩, show (k : Int).toNat = k by omega]
      · rw [if_neg e]
        unfold nodF
        by_cases h : 0 ≤ i ∧ i < (k : Int) ∧ nodB l i.toNat = true
        · rw [if_pos h, if_pos ⟨h.1, by omega, h.2.2⟩]
        · rw [if_neg h, if_neg (fun h' => h ⟨h'.1, by omega, h'.2.2⟩)]
/-- The nodes and the ties as the reading gathers them. -/
structure RdI (b B1 B2 BN T R : Nat) (lv : Value) (w0 : World) (x : (Ti × Nat) × (Int → Option Sp)) (w : World) : Prop where
  ts : TsI b B1 B2 lv w0 x.1.1 x.1.2 w
  nd : ∃ m, m ≤ x.1.2 ∧ MapM Try.prog 3 dkey Sp.val w BN m x.2
  bt : w.heap[T]? = some (.cells #[.pointer (some ⟨b, 0, none⟩)] 57 (0, 0))
  br : w.heap[R]? = some (.cells #[lv, .map (some BN), .map (some B2)] 43 (0, 0))
  hi : w0.heap.size ≤ BN ∧ w0.heap.size ≤ T ∧ w0.heap.size ≤ R
  nN : BN ≠ b ∧ BN ≠ B1 ∧ BN ≠ B2
  nT : T ≠ b ∧ T ≠ B1 ∧ T ≠ B2 ∧ T ≠ BN
  nR : R ≠ b ∧ R ≠ B1 ∧ R ≠ B2 ∧ R ≠ BN
section
variable {b B1 B2 BN T R : Nat} {lv : Value} {w0 w w' : World} {x : (Ti × Nat) × (Int → Option Sp)}
theorem RdI.ltT (h : RdI b B1 B2 BN T R lv w0 x w) : T < w.heap.size := (Array.getElem?_eq_some_iff.1 h.bt).1
theorem RdI.ltR (h : RdI b B1 B2 BN T R lv w0 x w) : R < w.heap.size := (Array.getElem?_eq_some_iff.1 h.br).1
theorem RdI.stays (h : RdI b B1 B2 BN T R lv w0 x w) (hb : Below w.heap.size w w') : RdI b B1 B2 BN T R lv w0 x w' := by
  obtain ⟨m, h1, h2⟩ := h.nd
  exact ⟨h.ts.stays hb, ⟨m, h1, h2.same (hb.block _ h2.lt)⟩, (hb.block _ h.ltT).trans h.bt, (hb.block _ h.ltR).trans h.br, h.hi, h.nN, h.nT, h.nR⟩
theorem RdI.cT (h : RdI b B1 B2 BN T R lv w0 x w) : w.cell? ⟨T, 0, none⟩ = some (.pointer (some ⟨b, 0, none⟩)) := by rw [Lib.cell_of_heap h.bt]; rfl
theorem RdI.c0 (h : RdI b B1 B2 BN T R lv w0 x w) : w.cell? ⟨R, 0, none⟩ = some lv := by rw [Lib.cell_of_heap h.br]; rfl
theorem RdI.c1 (h : RdI b B1 B2 BN T R lv w0 x w) : w.cell? ⟨R, 1, none⟩ = some (.map (some BN)) := by rw [Lib.cell_of_heap h.br]; rfl
theorem RdI.c2 (h : RdI b B1 B2 BN T R lv w0 x w) : w.cell? ⟨R, 2, none⟩ = some (.map (some B2)) := by rw [Lib.cell_of_heap h.br]; rfl
/-- The ties were taken further. -/
theorem RdI.tied (h : RdI b B1 B2 BN T R lv w0 x w) {t : Ti} (ht : TsI b B1 B2 lv w0 t (x.1.2 + 1) w') (hk : KeepO b B1 B2 w w') : RdI b B1 B2 BN T R lv w0 ((t, x.1.2 + 1), x.2) w' := by
  obtain ⟨m, h1, h2⟩ := h.nd
  exact ⟨ht, ⟨m, by show m ≤ x.1.2 + 1; omega, h2.same (hk.2 _ h2.lt h.nN.1 h.nN.2.1 h.nN.2.2)⟩, (hk.2 _ h.ltT h.nT.1 h.nT.2.1 h.nT.2.2.1).trans h.bt, (hk.2 _ h.ltR h.nR.1 h.nR.2.1 h.nR.2.2.1).trans h.br, h.hi, h.nN, h.nT, h.nR⟩
theorem TsI.beside {t : Ti} {k : Nat} (h : TsI b B1 B2 lv w0 t k w) (hg : w.grownBy w' (some BN)) (hB : w0.heap.size ≤ BN) (n : BN ≠ b ∧ BN ≠ B1 ∧ BN ≠ B2) : TsI b B1 B2 lv w0 t k w' := by
  obtain ⟨n1, h1, h2⟩ := h.nm
  obtain ⟨n2, h3, h4⟩ := h.df
  exact ⟨h.at_.same (hg.block b h.at_.lt (by simp; exact Ne.symm n.1)), ⟨n1, h1, h2.same (hg.block _ h2.lt (by simp; exact Ne.symm n.2.1))⟩, ⟨n2, h3, h4.same (hg.block _ h4.lt (by simp; exact Ne.symm n.2.2))⟩, h.ls, below_map h.below hg hB, h.hi, h.ne⟩
end
theorem KeepS.grown {w w' : World} {BN : Nat} (hm : ∃ es clock, w.heap[BN]? = some (.map es clock)) (hg : w.grownBy w' (some BN)) : KeepS w w' := fun k cs fr hk => by
  obtain ⟨es, cl, he⟩ := hm
  rw [hg.block k (Array.getElem?_eq_some_iff.1 hk).1 (fun e => by
    injection e with e
    subst e
    rw [he] at hk
    cases hk)]
  exact hk
set_option maxHeartbeats 8000000 in
theorem readC_any (b B1 B2 BN T R : Nat) (lv : Value) (w0 w : World) (p : (Ti × Nat) × (Int → Option Sp)) (es : List Ev) (n : Sp) (e : Ev) (hS : SlE w0 lv es) (hl : totE es + es.length ≤ 1048576) (he : es[n.at_]? = some e) (hI : RdI b B1 B2 BN T R lv w0 p w) (hk : p.1.2 ≤ 1048576) :
    Calls Try.prog 33 #[n.val, .pointer (some ⟨T, 0, none⟩), .pointer (some ⟨R, 0, none⟩)] w fun r w' => r = .returned (.tuple #[]) ∧ RdI b B1 B2 BN T R lv w0 (fRead es p n) w' ∧ KeepS w w' := by
  have hn : n.at_ < es.length := (List.getElem?_eq_some_iff.1 he).1
  obtain ⟨V, hV⟩ : ∃ V, w.alloc (.cells #[.int .i64 (n.at_ : Int), .int .i64 n.end_, .int .i64 n.up] 64) = V := ⟨_, rfl⟩
  have HV : Hid (w.alloc (.cells #[.int .i64 (n.at_ : Int), .int .i64 n.end_, .int .i64 n.up] 64) = V) := hV
  have hbV : Below w.heap.size w V := by rw [← hV]; exact (Below.refl _ w).alloc (Nat.le_refl _) _
  have hnew : V.heap[w.heap.size]? = some (.cells #[.int .i64 (n.at_ : Int), .int .i64 n.end_, .int .i64 n.up] 64 (0, 0)) := by rw [← hV]; exact heap_alloc_new w _
  have HN : Hid (V.heap[w.heap.size]? = some (.cells #[.int .i64 (n.at_ : Int), .int .i64 n.end_, .int .i64 n.up] 64 (0, 0))) := hnew
  have u0 : V.cell? ⟨w.heap.size, 0, none⟩ = some (.int .i64 (n.at_ : Int)) := Lib.cell_of_heap hnew 0
  have u1 : V.cell? ⟨w.heap.size, 1, none⟩ = some (.int .i64 n.end_) := Lib.cell_of_heap hnew 1
  have u2 : V.cell? ⟨w.heap.size, 2, none⟩ = some (.int .i64 n.up) := Lib.cell_of_heap hnew 2
  have hIV : RdI b B1 B2 BN T R lv w0 p V := hI.stays hbV
  have cT := hIV.cT
  have cK := ttake_any b B1 B2 lv w0 V p.1.1 p.1.2 es n e hS hl he hIV.ts hk
  unfold Sp.val at cK ⊢
  have HI : Hid (RdI b B1 B2 BN T R lv w0 p V) := hIV
  have HE : Hid (es[n.at_]? = some e ∧ n.at_ ≤ 1048576 ∧ p.1.2 ≤ 1048576) := ⟨he, by omega, hk⟩
  have HKV : Hid (KeepS w V) := KeepS.of hbV
  rw [← hV] at u0 u1 u2 cT
  clear hI hIV hV hbV hnew hS hl he hk hn
  go_enter Try.func33, Try.ntmps33
  go_wp2_with fail
  rw [HV.out]
  refine cK.mono ?_
  rintro r w1 ⟨rfl, hT, hKO⟩
  have hI1 := HI.out.tied hT hKO
  have hks := hKO.toS HI.out.ts
  have hn1 : w1.heap[w.heap.size]? = some (.cells #[.int .i64 (n.at_ : Int), .int .i64 n.end_, .int .i64 n.up] 64 (0, 0)) := hks _ _ _ HN.out
  clear u0 u1 u2 cT cK
  have u0 : w1.cell? ⟨w.heap.size, 0, none⟩ = some (.int .i64 (n.at_ : Int)) := Lib.cell_of_heap hn1 0
  have u1 : w1.cell? ⟨w.heap.size, 1, none⟩ = some (.int .i64 n.end_) := Lib.cell_of_heap hn1 1
  have u2 : w1.cell? ⟨w.heap.size, 2, none⟩ = some (.int .i64 n.up) := Lib.cell_of_heap hn1 2
  have c1 := hI1.c1
  obtain ⟨m, hm1, hm0⟩ := HI.out.nd
  have hm2 := hm0.same (w' := w1) (hKO.2 _ hm0.lt HI.out.nN.1 HI.out.nN.2.1 HI.out.nN.2.2)
  obtain ⟨w2, hup, hM, hg⟩ := hm2.put dkey_fn dkeyed Try.underlying40 (n.at_ : Int) n (dkey_mk (WalkArith.wf_i64 (by have := HE.out.2.1; omega))) (by have := HE.out.2.2; unfold maxLen; omega)
  unfold Sp.val at hup
  have HO : Hid (RdI b B1 B2 BN T R lv w0 (fRead es p n) w2 ∧ KeepS w w2) := by
    have hts : TsI b B1 B2 lv w0 (fTie es p.1.1 n) (p.1.2 + 1) w1 := by
      unfold fTie
      rw [HE.out.1]
      exact hI1.ts
    refine ⟨⟨TsI.beside hts hg hI1.hi.1 hI1.nN, ⟨m + 1, ?_, hM⟩, ?_, ?_, hI1.hi, hI1.nN, hI1.nT, hI1.nR⟩, (HKV.out.trans hks).trans (KeepS.grown hm2.isMap hg)⟩
    · show m + 1 ≤ p.1.2 + 1; omega
    · exact (hg.block T hI1.ltT (by simp; exact hI1.nT.2.2.2)).trans hI1.bt
    · exact (hg.block R hI1.ltR (by simp; exact hI1.nR.2.2.2)).trans hI1.br
  clear hM hg hm1 hm2 hm0 hI1 hks hn1 hT hKO HE HI HN HKV HV
  go_wp2_with fail
  go_end0
  exact ⟨rfl, HO.out⟩
end Go.Proofs.Ytmbbmibkjnlkkaa
