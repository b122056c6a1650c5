/- spec.ValueOf, and the law on ValueOf. -/
import Derived.Test.YtlfamgdmmenonaaDoorVsp
import Derived.Test.YtlfamgdmmenonaaDoorVvw
import Derived.Test.YtlfamgdmmenonaaDoorLev
namespace Go.Proofs.YtlfamgdmmenonaaDoor
open Go.ChangeShapes Go.WideShapes Go.ChangeAt Go.RowKit
/-- The words behind CoreTag, in their order. -/
def wsL : List (List UInt8) := [[110, 117, 108, 108], [98, 111, 111, 108], [105, 110, 116]]
def coreB : ByteArray := ⟨#[116, 97, 103, 58, 121, 97, 109, 108, 46, 111, 114, 103, 44, 50, 48, 48, 50, 58]⟩
/-- What the loop over the words comes to from the k-th on. -/
def wsGo (text tag : ByteArray) : Nat → Nat → Va
  | 0, _ => ⟨7, 0, false, text⟩
  | f + 1, k => if tag.toList = (coreB ++ ⟨(wsL.getD k []).toArray⟩).toList ∧ (plV text).kind = 1 + (k : Int) then plV text else wsGo text tag f (k + 1)
theorem wsGo_no {text tag : ByteArray} {f k : Nat} {v : Va} (h : ¬ (tag.toList = (coreB ++ ⟨(wsL.getD k []).toArray⟩).toList ∧ (plV text).kind = 1 + (k : Int))) (hg : wsGo text tag (f + 1) k = v) : wsGo text tag f (k + 1) = v := by
  rw [wsGo, if_neg h] at hg
  exact hg
theorem wsGo_yes {text tag : ByteArray} {f k : Nat} {v : Va} (h : tag.toList = (coreB ++ ⟨(wsL.getD k []).toArray⟩).toList ∧ (plV text).kind = 1 + (k : Int)) (hg : wsGo text tag (f + 1) k = v) : plV text = v := by
  rw [wsGo, if_pos h] at hg
  exact hg
theorem core_lit (l : List UInt8) : (coreB ++ ⟨l.toArray⟩).toList = coreT l := by
  rw [ByteArray.toList_eq, ByteArray.data_append]
  simp [coreB, coreT]
theorem wsGo_sc {style : Int} {text tag : ByteArray} (h0 : tag.toList ≠ []) (h1 : tag.toList ≠ [33]) (h2 : tag.toList ≠ tStr) : wsGo text tag 3 0 = scV style text tag := by
  have c0 : (coreB ++ ⟨(wsL.getD 0 []).toArray⟩).toList = tNul := core_lit _
  have c1 : (coreB ++ ⟨(wsL.getD 1 []).toArray⟩).toList = tBoo := core_lit _
  have c2 : (coreB ++ ⟨(wsL.getD 2 []).toArray⟩).toList = tInt := core_lit _
  have n01 : tNul ≠ tBoo := by decide
  have n02 : tNul ≠ tInt := by decide
  have n12 : tBoo ≠ tInt := by decide
  unfold scV tgV
  rw [if_neg h0, if_neg h1, if_neg h2]
  rw [wsGo, wsGo, wsGo, wsGo, c0, c1, c2]
  by_cases e0 : tag.toList = tNul
  · rw [if_pos e0]
    by_cases k : (plV text).kind = 1
    · rw [if_pos ⟨e0, by omega⟩, if_pos k]
    · rw [if_neg (fun h => k (by have := h.2; omega)), if_neg (fun h => n01 (e0.symm.trans h.1)), if_neg (fun h => n02 (e0.symm.trans h.1)), if_neg k]
  rw [if_neg e0, if_neg (fun h => e0 h.1)]
  by_cases e1 : tag.toList = tBoo
  · rw [if_pos e1]
    by_cases k : (plV text).kind = 2
    · rw [if_pos ⟨e1, by omega⟩, if_pos k]
    · rw [if_neg (fun h => k (by have := h.2; omega)), if_neg (fun h => n12 (e1.symm.trans h.1)), if_neg k]
  rw [if_neg e1, if_neg (fun h => e1 h.1)]
  by_cases e2 : tag.toList = tInt
  · rw [if_pos e2]
    by_cases k : (plV text).kind = 3
    · rw [if_pos ⟨e2, by omega⟩, if_pos k]
    · rw [if_neg (fun h => k (by have := h.2; omega)), if_neg k]
  rw [if_neg e2, if_neg (fun h => e2 h.1)]
set_option maxHeartbeats 8000000 in
set_option maxRecDepth 100000 in
theorem spec_valueOf (e : Ev) (w : World) (hs : e.tot ≤ 1048576) :
    Calls Tryd.prog 13 #[.agg e.row] w fun r w' => r = .returned (.agg (vaV e).row) ∧ Below w.heap.size w w' := by
  have hts : e.text.size ≤ 1048576 := by unfold Ev.tot at hs; omega
  have cE : Hid (∀ w, Calls Tryd.prog 27 #[.agg e.row] w fun r w' => r = .returned (.bool (evOk e)) ∧ Below w.heap.size w w') := fun w => by
    unfold Ev.tot at hs
    exact spec_eventOk e w ⟨by unfold mx; omega, by unfold mx; omega, by unfold mx; omega⟩ _ rfl
  have cP : Hid (∀ w, Calls Tryd.prog 28 #[.string e.text] w fun r w' => r = .returned (.agg (plV e.text).row) ∧ Below w.heap.size w w') := fun w => l14Plain_any e.text w (by omega)
  obtain ⟨RV, hRV⟩ : ∃ RV, vaV e = RV := ⟨_, rfl⟩
  rw [hRV]
  have HRV : Hid ((if evOk e = true then woV e else noV) = RV) := hRV
  clear hs hts hRV
  generalize evOk e = ok at *
  obtain ⟨kind, style, flag, text, anchor, tag, at_, code⟩ := e
  generalize hE : Ev.row ⟨kind, style, flag, text, anchor, tag, at_, code⟩ = E at *
  have hE' : E = #[.int .i64 kind, .int .i64 style, .bool flag, .string text, .string anchor, .string tag, .int .i64 at_, .int .i64 code] := hE.symm
  subst hE'
  clear hE
  have HB0 : Hid (Below w.heap.size w ((w.alloc (.cells #[.int .i64 kind, .int .i64 style, .bool flag, .string text, .string anchor, .string tag, .int .i64 at_, .int .i64 code] 31)).alloc (.cells #[.int .i64 0, .int .i64 0, .bool false, .string ⟨#[]⟩] 28))) := ((Below.refl _ w).alloc (Nat.le_refl _) _).alloc (by simp) _
  have HE0 : Hid (((w.alloc (.cells #[.int .i64 kind, .int .i64 style, .bool flag, .string text, .string anchor, .string tag, .int .i64 at_, .int .i64 code] 31)).alloc (.cells #[.int .i64 0, .int .i64 0, .bool false, .string ⟨#[]⟩] 28)).heap[w.heap.size]? = some (.cells #[.int .i64 kind, .int .i64 style, .bool flag, .string text, .string anchor, .string tag, .int .i64 at_, .int .i64 code] 31 (0, 0))) := by
    show ((w.heap.push _).push _)[w.heap.size]? = _
    rw [Array.getElem?_push, if_neg (by simp), Array.getElem?_push, if_pos rfl]
  have HZ0 : Hid (((w.alloc (.cells #[.int .i64 kind, .int .i64 style, .bool flag, .string text, .string anchor, .string tag, .int .i64 at_, .int .i64 code] 31)).alloc (.cells #[.int .i64 0, .int .i64 0, .bool false, .string ⟨#[]⟩] 28)).heap[w.heap.size + 1]? = some (.cells #[.int .i64 0, .int .i64 0, .bool false, .string ⟨#[]⟩] 28 (0, 0))) := by
    show ((w.heap.push _).push _)[w.heap.size + 1]? = _
    rw [Array.getElem?_push, if_pos (by simp)]
  have HS0 : Hid (((w.alloc (.cells #[.int .i64 kind, .int .i64 style, .bool flag, .string text, .string anchor, .string tag, .int .i64 at_, .int .i64 code] 31)).alloc (.cells #[.int .i64 0, .int .i64 0, .bool false, .string ⟨#[]⟩] 28)).heap.size = w.heap.size + 2) := by
    show ((w.heap.push _).push _).size = _
    simp
  go_enter Tryd.func13, Tryd.ntmps13
  go_wp2_with fail
  refine (cE.out _).mono ?_
  rintro e w1 ⟨rfl, hb1⟩
  have HB1 : Hid (Below w.heap.size w w1) := HB0.out.trans (hb1.mono HB0.out.size)
  have E1 : Hid (w1.heap[w.heap.size]? = some (.cells #[.int .i64 kind, .int .i64 style, .bool flag, .string text, .string anchor, .string tag, .int .i64 at_, .int .i64 code] 31 (0, 0))) := (hb1.block _ (by rw [HS0.out]; omega)).trans HE0.out
  have Z1 : Hid (w1.heap[w.heap.size + 1]? = some (.cells #[.int .i64 0, .int .i64 0, .bool false, .string ⟨#[]⟩] 28 (0, 0))) := (hb1.block _ (by rw [HS0.out]; omega)).trans HZ0.out
  have S1 : Hid (w.heap.size + 2 ≤ w1.heap.size) := by show _ ≤ _; rw [← HS0.out]; exact hb1.size
  clear hb1 HB0 HE0 HZ0 HS0 cE
  cases ok with
  | false =>
    have HV : Hid (noV = RV) := HRV.out
    have z0 := v4_0 Z1.out
    have z1 := v4_1 Z1.out
    have z2 := v4_2 Z1.out
    have z3 := v4_3 Z1.out
    have y0 := v4_f Z1.out 0
    have y1 := v4_f Z1.out 1
    have y2 := v4_f Z1.out 2
    have y3 := v4_f Z1.out 3
    go_wp2_with fail
    have hF := v4_setAll Z1.out (.int .i64 0) (.int .i64 0) (.bool false) (.string ⟨#[]⟩)
    have hFb := v4_below HB1.out (b := w.heap.size + 1) (by omega) (.int .i64 0) (.int .i64 0) (.bool false) (.string ⟨#[]⟩)
    try simp only [Exit.inBlock, Exit.then]
    refine bodyPost_ret (results_cell_row rfl _ _ (w.heap.size + 1) 28 _ (0, 0) _ rfl hF Tryd.underlying28 rfl (by kernel_rfl)) rfl ?_
    exact ⟨congrArg (fun v : Va => Ending.returned (.agg v.row)) HV.out, hFb⟩
  | true =>
    have HW : Hid (woV ⟨kind, style, flag, text, anchor, tag, at_, code⟩ = RV) := HRV.out
    clear HRV
    obtain ⟨q0, q1, q2, q3, q4, q5, q6, q7⟩ := ev_at E1.out
    by_cases k3 : kind = 3
    · have HV : Hid ((⟨5, 0, false, ⟨#[]⟩⟩ : Va) = RV) := by show _ = _; rw [← HW.out]; unfold woV; rw [if_pos k3]
      have t3 : (kind == 3) = true := by rw [beq_iff_eq]; exact k3
      clear k3 HW
      have z0 := v4_0 Z1.out
      have z1 := v4_1 Z1.out
      have z2 := v4_2 Z1.out
      have z3 := v4_3 Z1.out
      have y0 := v4_f Z1.out 0
      have y1 := v4_f Z1.out 1
      have y2 := v4_f Z1.out 2
      have y3 := v4_f Z1.out 3
      go_wp2_with fail
      have hF := v4_setAll Z1.out (.int .i64 5) (.int .i64 0) (.bool false) (.string ⟨#[]⟩)
      have hFb := v4_below HB1.out (b := w.heap.size + 1) (by omega) (.int .i64 5) (.int .i64 0) (.bool false) (.string ⟨#[]⟩)
      try simp only [Exit.inBlock, Exit.then]
      refine bodyPost_ret (results_cell_row rfl _ _ (w.heap.size + 1) 28 _ (0, 0) _ rfl hF Tryd.underlying28 rfl (by kernel_rfl)) rfl ?_
      exact ⟨congrArg (fun v : Va => Ending.returned (.agg v.row)) HV.out, hFb⟩
    by_cases k4 : kind = 4
    · have HV : Hid ((⟨6, 0, false, ⟨#[]⟩⟩ : Va) = RV) := by show _ = _; rw [← HW.out]; unfold woV; rw [if_neg k3, if_pos k4]
      have t3 : (kind == 3) = false := by rw [beq_eq_false_iff_ne]; exact k3
      have t4 : (kind == 4) = true := by rw [beq_iff_eq]; exact k4
      clear k3 k4 HW
      have z0 := v4_0 Z1.out
      have z1 := v4_1 Z1.out
      have z2 := v4_2 Z1.out
      have z3 := v4_3 Z1.out
      have y0 := v4_f Z1.out 0
      have y1 := v4_f Z1.out 1
      have y2 := v4_f Z1.out 2
      have y3 := v4_f Z1.out 3
      go_wp2_with fail
      have hF := v4_setAll Z1.out (.int .i64 6) (.int .i64 0) (.bool false) (.string ⟨#[]⟩)
      have hFb := v4_below HB1.out (b := w.heap.size + 1) (by omega) (.int .i64 6) (.int .i64 0) (.bool false) (.string ⟨#[]⟩)
      try simp only [Exit.inBlock, Exit.then]
      refine bodyPost_ret (results_cell_row rfl _ _ (w.heap.size + 1) 28 _ (0, 0) _ rfl hF Tryd.underlying28 rfl (by kernel_rfl)) rfl ?_
      exact ⟨congrArg (fun v : Va => Ending.returned (.agg v.row)) HV.out, hFb⟩
    by_cases k6 : kind = 6
    · have HV : Hid ((⟨8, 0, false, text⟩ : Va) = RV) := by show _ = _; rw [← HW.out]; unfold woV; rw [if_neg k3, if_neg k4, if_pos k6]
      have t3 : (kind == 3) = false := by rw [beq_eq_false_iff_ne]; exact k3
      have t4 : (kind == 4) = false := by rw [beq_eq_false_iff_ne]; exact k4
      have t6 : (kind == 6) = true := by rw [beq_iff_eq]; exact k6
      clear k3 k4 k6 HW
      have z0 := v4_0 Z1.out
      have z1 := v4_1 Z1.out
      have z2 := v4_2 Z1.out
      have z3 := v4_3 Z1.out
      have y0 := v4_f Z1.out 0
      have y1 := v4_f Z1.out 1
      have y2 := v4_f Z1.out 2
      have y3 := v4_f Z1.out 3
      go_wp2_with fail
      have hF := v4_setAll Z1.out (.int .i64 8) (.int .i64 0) (.bool false) (.string text)
      have hFb := v4_below HB1.out (b := w.heap.size + 1) (by omega) (.int .i64 8) (.int .i64 0) (.bool false) (.string text)
      try simp only [Exit.inBlock, Exit.then]
      refine bodyPost_ret (results_cell_row rfl _ _ (w.heap.size + 1) 28 _ (0, 0) _ rfl hF Tryd.underlying28 rfl (by kernel_rfl)) rfl ?_
      exact ⟨congrArg (fun v : Va => Ending.returned (.agg v.row)) HV.out, hFb⟩
    have t3 : (kind == 3) = false := by rw [beq_eq_false_iff_ne]; exact k3
    have t4 : (kind == 4) = false := by rw [beq_eq_false_iff_ne]; exact k4
    have t6 : (kind == 6) = false := by rw [beq_eq_false_iff_ne]; exact k6
    by_cases k5 : kind = 5
    case neg =>
      have HV : Hid (noV = RV) := by show _ = _; rw [← HW.out]; unfold woV; rw [if_neg k3, if_neg k4, if_neg k6, if_neg k5]
      have t5 : (kind == 5) = false := by rw [beq_eq_false_iff_ne]; exact k5
      clear k3 k4 k5 k6 HW
      have z0 := v4_0 Z1.out
      have z1 := v4_1 Z1.out
      have z2 := v4_2 Z1.out
      have z3 := v4_3 Z1.out
      have y0 := v4_f Z1.out 0
      have y1 := v4_f Z1.out 1
      have y2 := v4_f Z1.out 2
      have y3 := v4_f Z1.out 3
      go_wp2_with fail
      have hF := v4_setAll Z1.out (.int .i64 0) (.int .i64 0) (.bool false) (.string ⟨#[]⟩)
      have hFb := v4_below HB1.out (b := w.heap.size + 1) (by omega) (.int .i64 0) (.int .i64 0) (.bool false) (.string ⟨#[]⟩)
      try simp only [Exit.inBlock, Exit.then]
      refine bodyPost_ret (results_cell_row rfl _ _ (w.heap.size + 1) 28 _ (0, 0) _ rfl hF Tryd.underlying28 rfl (by kernel_rfl)) rfl ?_
      exact ⟨congrArg (fun v : Va => Ending.returned (.agg v.row)) HV.out, hFb⟩
    have t5 : (kind == 5) = true := by rw [beq_iff_eq]; exact k5
    have HV : Hid (scV style text tag = RV) := by show _ = _; rw [← HW.out]; unfold woV; rw [if_neg k3, if_neg k4, if_neg k6, if_pos k5]
    clear k3 k4 k5 k6 HW
    go_wp2_with fail
    refine (cP.out _).mono ?_
    rintro e w2 ⟨rfl, hb2⟩
    clear q0 q1 q2 q3 q4 q5 q6 q7
    obtain ⟨pk, pn, pb, ps, hp⟩ : ∃ pk pn pb ps, plV text = ⟨pk, pn, pb, ps⟩ := ⟨_, _, _, _, rfl⟩
    have HP : Hid (plV text = ⟨pk, pn, pb, ps⟩) := hp
    rw [hp]
    clear hp cP
    unfold Va.row
    have HB2 : Hid (Below w.heap.size w w2) := HB1.out.trans (hb2.mono HB1.out.size)
    have E2 : Hid (w2.heap[w.heap.size]? = some (.cells #[.int .i64 kind, .int .i64 style, .bool flag, .string text, .string anchor, .string tag, .int .i64 at_, .int .i64 code] 31 (0, 0))) := (hb2.block _ (by have := S1.out; omega)).trans E1.out
    have Z2 : Hid (w2.heap[w.heap.size + 1]? = some (.cells #[.int .i64 0, .int .i64 0, .bool false, .string ⟨#[]⟩] 28 (0, 0))) := (hb2.block _ (by have := S1.out; omega)).trans Z1.out
    have S2 : Hid (w.heap.size + 2 ≤ w2.heap.size) := Nat.le_trans S1.out hb2.size
    clear hb2 HB1 E1 Z1 S1
    obtain ⟨w3, hw3⟩ : ∃ w3, w2.alloc (.cells #[.int .i64 pk, .int .i64 pn, .bool pb, .string ps] 28) = w3 := ⟨_, rfl⟩
    have HB3 : Hid (Below w.heap.size w w3) := by show Below _ _ _; rw [← hw3]; exact HB2.out.alloc HB2.out.size _
    have E3 : Hid (w3.heap[w.heap.size]? = some (.cells #[.int .i64 kind, .int .i64 style, .bool flag, .string text, .string anchor, .string tag, .int .i64 at_, .int .i64 code] 31 (0, 0))) := by
      show _ = _
      rw [← hw3]
      show (w2.heap.push _)[w.heap.size]? = _
      rw [Array.getElem?_push, if_neg (by have := S2.out; omega)]
      exact E2.out
    have Z3 : Hid (w3.heap[w.heap.size + 1]? = some (.cells #[.int .i64 0, .int .i64 0, .bool false, .string ⟨#[]⟩] 28 (0, 0))) := by
      show _ = _
      rw [← hw3]
      show (w2.heap.push _)[w.heap.size + 1]? = _
      rw [Array.getElem?_push, if_neg (by have := S2.out; omega)]
      exact Z2.out
    have P3 : Hid (w3.heap[w2.heap.size]? = some (.cells #[.int .i64 pk, .int .i64 pn, .bool pb, .string ps] 28 (0, 0))) := by
      show _ = _
      rw [← hw3]
      exact heap_alloc_new w2 _
    have S3 : Hid (w3.heap.size = w2.heap.size + 1) := by
      show _ = _
      rw [← hw3]
      show (w2.heap.push _).size = _
      simp
    clear HB2 E2 Z2
    subst hw3
    have hne : w2.heap.size ≠ w.heap.size + 1 := by have := S2.out; omega
    by_cases e0 : tag.toList = []
    · have f0 : tag.toList.isEmpty = true := by rw [e0]; rfl
      by_cases s1 : style = 1
      · have u1 : (style == 1) = true := by rw [beq_iff_eq]; exact s1
        have HA : Hid ((⟨pk, pn, pb, ps⟩ : Va) = RV) := by show _ = _; rw [← HV.out]; unfold scV; rw [if_pos e0, if_pos s1, HP.out]
        clear e0 s1
        obtain ⟨q0, q1, q2, q3, q4, q5, q6, q7⟩ := ev_at E3.out
        obtain ⟨p0, p1, p2, p3⟩ : _ ∧ _ ∧ _ ∧ _ := ⟨v4_0 P3.out, v4_1 P3.out, v4_2 P3.out, v4_3 P3.out⟩
        have z0 := v4_0 Z3.out
        have z1 := v4_1 Z3.out
        have z2 := v4_2 Z3.out
        have z3 := v4_3 Z3.out
        have y0 := v4_f Z3.out 0
        have y1 := v4_f Z3.out 1
        have y2 := v4_f Z3.out 2
        have y3 := v4_f Z3.out 3
        go_wp2_with fail
        have hF := v4_setAll Z3.out (.int .i64 pk) (.int .i64 pn) (.bool pb) (.string ps)
        have hFb := v4_below HB3.out (b := w.heap.size + 1) (by omega) (.int .i64 pk) (.int .i64 pn) (.bool pb) (.string ps)
        try simp only [Exit.inBlock, Exit.then]
        refine bodyPost_ret (results_cell_row rfl _ _ (w.heap.size + 1) 28 _ (0, 0) _ rfl hF Tryd.underlying28 rfl (by kernel_rfl)) rfl ?_
        exact ⟨congrArg (fun v : Va => Ending.returned (.agg v.row)) HA.out, hFb⟩
      · have u1 : (style == 1) = false := by rw [beq_eq_false_iff_ne]; exact s1
        have HA : Hid ((⟨4, 0, false, text⟩ : Va) = RV) := by show _ = _; rw [← HV.out]; unfold scV; rw [if_pos e0, if_neg s1]
        clear e0 s1
        obtain ⟨q0, q1, q2, q3, q4, q5, q6, q7⟩ := ev_at E3.out
        obtain ⟨p0, p1, p2, p3⟩ : _ ∧ _ ∧ _ ∧ _ := ⟨v4_0 P3.out, v4_1 P3.out, v4_2 P3.out, v4_3 P3.out⟩
        have z0 := v4_0 Z3.out
        have z1 := v4_1 Z3.out
        have z2 := v4_2 Z3.out
        have z3 := v4_3 Z3.out
        have y0 := v4_f Z3.out 0
        have y1 := v4_f Z3.out 1
        have y2 := v4_f Z3.out 2
        have y3 := v4_f Z3.out 3
        go_wp2_with fail
        have hF := v4_setAll Z3.out (.int .i64 4) (.int .i64 0) (.bool false) (.string text)
        have hFb := v4_below HB3.out (b := w.heap.size + 1) (by omega) (.int .i64 4) (.int .i64 0) (.bool false) (.string text)
        try simp only [Exit.inBlock, Exit.then]
        refine bodyPost_ret (results_cell_row rfl _ _ (w.heap.size + 1) 28 _ (0, 0) _ rfl hF Tryd.underlying28 rfl (by kernel_rfl)) rfl ?_
        exact ⟨congrArg (fun v : Va => Ending.returned (.agg v.row)) HA.out, hFb⟩
    by_cases e1 : tag.toList = [33]
    · have f0 : tag.toList.isEmpty = false := emp_no e0
      have f1 := lst_yes e1
      have HA : Hid ((⟨4, 0, false, text⟩ : Va) = RV) := by show _ = _; rw [← HV.out]; unfold scV; rw [if_neg e0, if_pos e1]
      clear e0 e1
      obtain ⟨q0, q1, q2, q3, q4, q5, q6, q7⟩ := ev_at E3.out
      obtain ⟨p0, p1, p2, p3⟩ : _ ∧ _ ∧ _ ∧ _ := ⟨v4_0 P3.out, v4_1 P3.out, v4_2 P3.out, v4_3 P3.out⟩
      have z0 := v4_0 Z3.out
      have z1 := v4_1 Z3.out
      have z2 := v4_2 Z3.out
      have z3 := v4_3 Z3.out
      have y0 := v4_f Z3.out 0
      have y1 := v4_f Z3.out 1
      have y2 := v4_f Z3.out 2
      have y3 := v4_f Z3.out 3
      go_wp2_with fail
      have hF := v4_setAll Z3.out (.int .i64 4) (.int .i64 0) (.bool false) (.string text)
      have hFb := v4_below HB3.out (b := w.heap.size + 1) (by omega) (.int .i64 4) (.int .i64 0) (.bool false) (.string text)
      try simp only [Exit.inBlock, Exit.then]
      refine bodyPost_ret (results_cell_row rfl _ _ (w.heap.size + 1) 28 _ (0, 0) _ rfl hF Tryd.underlying28 rfl (by kernel_rfl)) rfl ?_
      exact ⟨congrArg (fun v : Va => Ending.returned (.agg v.row)) HA.out, hFb⟩
    by_cases e2 : tag.toList = tStr
    · have f0 : tag.toList.isEmpty = false := emp_no e0
      have f1 := lst_no e1
      have f2 := lst_yes e2
      unfold tStr at f2
      have HA : Hid ((⟨4, 0, false, text⟩ : Va) = RV) := by show _ = _; rw [← HV.out]; unfold scV; rw [if_neg e0, if_neg e1, if_pos e2]
      clear e0 e1 e2
      obtain ⟨q0, q1, q2, q3, q4, q5, q6, q7⟩ := ev_at E3.out
      obtain ⟨p0, p1, p2, p3⟩ : _ ∧ _ ∧ _ ∧ _ := ⟨v4_0 P3.out, v4_1 P3.out, v4_2 P3.out, v4_3 P3.out⟩
      have z0 := v4_0 Z3.out
      have z1 := v4_1 Z3.out
      have z2 := v4_2 Z3.out
      have z3 := v4_3 Z3.out
      have y0 := v4_f Z3.out 0
      have y1 := v4_f Z3.out 1
      have y2 := v4_f Z3.out 2
      have y3 := v4_f Z3.out 3
      go_wp2_with fail
      have hF := v4_setAll Z3.out (.int .i64 4) (.int .i64 0) (.bool false) (.string text)
      have hFb := v4_below HB3.out (b := w.heap.size + 1) (by omega) (.int .i64 4) (.int .i64 0) (.bool false) (.string text)
      try simp only [Exit.inBlock, Exit.then]
      refine bodyPost_ret (results_cell_row rfl _ _ (w.heap.size + 1) 28 _ (0, 0) _ rfl hF Tryd.underlying28 rfl (by kernel_rfl)) rfl ?_
      exact ⟨congrArg (fun v : Va => Ending.returned (.agg v.row)) HA.out, hFb⟩
    have HG : Hid (wsGo text tag 3 0 = RV) := by show _ = _; rw [← HV.out, wsGo_sc e0 e1 e2]
    have f0 : tag.toList.isEmpty = false := emp_no e0
    have f1 := lst_no e1
    have f2 := lst_no e2
    unfold tStr at f2
    clear e0 e1 e2
    obtain ⟨q0, q1, q2, q3, q4, q5, q6, q7⟩ := ev_at E3.out
    obtain ⟨p0, p1, p2, p3⟩ : _ ∧ _ ∧ _ ∧ _ := ⟨v4_0 P3.out, v4_1 P3.out, v4_2 P3.out, v4_3 P3.out⟩
    have z0 := v4_0 Z3.out
    have z1 := v4_1 Z3.out
    have z2 := v4_2 Z3.out
    have z3 := v4_3 Z3.out
    have y0 := v4_f Z3.out 0
    have y1 := v4_f Z3.out 1
    have y2 := v4_f Z3.out 2
    have y3 := v4_f Z3.out 3
    have E4 : Hid (((w2.alloc (.cells #[.int .i64 pk, .int .i64 pn, .bool pb, .string ps] 28)).alloc (.cells #[.string ⟨#[110, 117, 108, 108]⟩, .string ⟨#[98, 111, 111, 108]⟩, .string ⟨#[105, 110, 116]⟩] 9)).heap[w.heap.size]? = some (.cells #[.int .i64 kind, .int .i64 style, .bool flag, .string text, .string anchor, .string tag, .int .i64 at_, .int .i64 code] 31 (0, 0))) := by
      show (((w2.alloc _).heap.push _)[w.heap.size]? = _)
      rw [Array.getElem?_push, if_neg (by rw [S3.out]; have := S2.out; omega)]
      exact E3.out
    have Z4 : Hid (((w2.alloc (.cells #[.int .i64 pk, .int .i64 pn, .bool pb, .string ps] 28)).alloc (.cells #[.string ⟨#[110, 117, 108, 108]⟩, .string ⟨#[98, 111, 111, 108]⟩, .string ⟨#[105, 110, 116]⟩] 9)).heap[w.heap.size + 1]? = some (.cells #[.int .i64 0, .int .i64 0, .bool false, .string ⟨#[]⟩] 28 (0, 0))) := by
      show (((w2.alloc _).heap.push _)[w.heap.size + 1]? = _)
      rw [Array.getElem?_push, if_neg (by rw [S3.out]; have := S2.out; omega)]
      exact Z3.out
    have P4 : Hid (((w2.alloc (.cells #[.int .i64 pk, .int .i64 pn, .bool pb, .string ps] 28)).alloc (.cells #[.string ⟨#[110, 117, 108, 108]⟩, .string ⟨#[98, 111, 111, 108]⟩, .string ⟨#[105, 110, 116]⟩] 9)).heap[w2.heap.size]? = some (.cells #[.int .i64 pk, .int .i64 pn, .bool pb, .string ps] 28 (0, 0))) := by
      show (((w2.alloc _).heap.push _)[w2.heap.size]? = _)
      rw [Array.getElem?_push, if_neg (by rw [S3.out]; omega)]
      exact P3.out
    have L4 : Hid (((w2.alloc (.cells #[.int .i64 pk, .int .i64 pn, .bool pb, .string ps] 28)).alloc (.cells #[.string ⟨#[110, 117, 108, 108]⟩, .string ⟨#[98, 111, 111, 108]⟩, .string ⟨#[105, 110, 116]⟩] 9)).heap[w2.heap.size + 1]? = some (.cells #[.string ⟨#[110, 117, 108, 108]⟩, .string ⟨#[98, 111, 111, 108]⟩, .string ⟨#[105, 110, 116]⟩] 9 (0, 0))) := by
      show (((w2.alloc _).heap.push _)[w2.heap.size + 1]? = _)
      rw [Array.getElem?_push, if_pos (by rw [S3.out])]
    have HB4 : Hid (Below w.heap.size w ((w2.alloc (.cells #[.int .i64 pk, .int .i64 pn, .bool pb, .string ps] 28)).alloc (.cells #[.string ⟨#[110, 117, 108, 108]⟩, .string ⟨#[98, 111, 111, 108]⟩, .string ⟨#[105, 110, 116]⟩] 9))) := HB3.out.alloc HB3.out.size _
    go_wp2_with fail
    clear q0 q1 q2 q3 q4 q5 q6 q7 p0 p1 p2 p3 z0 z1 z2 z3 y0 y1 y2 y3
    go_loop [47] (fun vi => ∃ k : Nat, vi = .int .i64 k ∧ k ≤ 3 ∧ Hid (wsGo text tag (3 - k) k = RV)) (fun vi => 3 - (intOf vi).toNat)
    case atStart => exact ⟨0, rfl, by omega, HG⟩
    case round =>
      obtain ⟨k, rfl, hk, HK⟩ := hrel
      obtain ⟨q0, q1, q2, q3, q4, q5, q6, q7⟩ := ev_at E4.out
      obtain ⟨p0, p1, p2, p3⟩ : _ ∧ _ ∧ _ ∧ _ := ⟨v4_0 P4.out, v4_1 P4.out, v4_2 P4.out, v4_3 P4.out⟩
      have l0 := Lib.cell_of_heap L4.out 0
      have l1 := Lib.cell_of_heap L4.out 1
      have l2 := Lib.cell_of_heap L4.out 2
      simp at l0 l1 l2
      have z0 := v4_0 Z4.out
      have z1 := v4_1 Z4.out
      have z2 := v4_2 Z4.out
      have z3 := v4_3 Z4.out
      have y0 := v4_f Z4.out 0
      have y1 := v4_f Z4.out 1
      have y2 := v4_f Z4.out 2
      have y3 := v4_f Z4.out 3
      by_cases k0 : k = 0
      · subst k0
        have HG : Hid (wsGo text tag 3 0 = RV) := HK.out
        by_cases g : tag.toList = ((⟨#[116, 97, 103, 58, 121, 97, 109, 108, 46, 111, 114, 103, 44, 50, 48, 48, 50, 58]⟩ : ByteArray) ++ (⟨#[110, 117, 108, 108]⟩ : ByteArray)).toList
        · have gq := lst_yes g
          by_cases d : pk = 1
          · have dq : (pk == 1) = true := by rw [beq_iff_eq]; exact d
            have HA : Hid ((⟨pk, pn, pb, ps⟩ : Va) = RV) := by show _ = _; rw [← HP.out]; exact wsGo_yes ⟨g, by rw [HP.out]; show pk = 1 + ((0 : Nat) : Int); omega⟩ HG.out
            clear g d HK HG hk
            go_wp2_with fail
            have hF := v4_setAll Z4.out (.int .i64 pk) (.int .i64 pn) (.bool pb) (.string ps)
            have hFb := v4_below HB4.out (b := w.heap.size + 1) (by omega) (.int .i64 pk) (.int .i64 pn) (.bool pb) (.string ps)
            try simp only [Exit.inBlock, Exit.then]
            refine bodyPost_ret (results_cell_row rfl _ _ (w.heap.size + 1) 28 _ (0, 0) _ rfl hF Tryd.underlying28 rfl (by kernel_rfl)) rfl ?_
            exact ⟨congrArg (fun v : Va => Ending.returned (.agg v.row)) HA.out, hFb⟩
          · have dq : (pk == 1) = false := by rw [beq_eq_false_iff_ne]; exact d
            have HN : Hid (wsGo text tag 2 1 = RV) := wsGo_no (fun h => d (by have := h.2; rw [HP.out] at this; have this : pk = 1 + ((0 : Nat) : Int) := this; omega)) HG.out
            clear g d HK HG hk
            go_wp2_with fail
            go_round
            case rel => exact ⟨1, by go_num, by omega, HN⟩
            case measure => simp [intOf]
        · have gq := lst_no g
          have HN : Hid (wsGo text tag 2 1 = RV) := wsGo_no (fun h => g h.1) HG.out
          clear g HK HG hk
          go_wp2_with fail
          go_round
          case rel => exact ⟨1, by go_num, by omega, HN⟩
          case measure => simp [intOf]
      by_cases k1 : k = 1
      · subst k1
        have HG : Hid (wsGo text tag 2 1 = RV) := HK.out
        by_cases g : tag.toList = ((⟨#[116, 97, 103, 58, 121, 97, 109, 108, 46, 111, 114, 103, 44, 50, 48, 48, 50, 58]⟩ : ByteArray) ++ (⟨#[98, 111, 111, 108]⟩ : ByteArray)).toList
        · have gq := lst_yes g
          by_cases d : pk = 2
          · have dq : (pk == 2) = true := by rw [beq_iff_eq]; exact d
            have HA : Hid ((⟨pk, pn, pb, ps⟩ : Va) = RV) := by show _ = _; rw [← HP.out]; exact wsGo_yes ⟨g, by rw [HP.out]; show pk = 1 + ((1 : Nat) : Int); omega⟩ HG.out
            clear g d HK HG hk
            go_wp2_with fail
            have hF := v4_setAll Z4.out (.int .i64 pk) (.int .i64 pn) (.bool pb) (.string ps)
            have hFb := v4_below HB4.out (b := w.heap.size + 1) (by omega) (.int .i64 pk) (.int .i64 pn) (.bool pb) (.string ps)
            try simp only [Exit.inBlock, Exit.then]
            refine bodyPost_ret (results_cell_row rfl _ _ (w.heap.size + 1) 28 _ (0, 0) _ rfl hF Tryd.underlying28 rfl (by kernel_rfl)) rfl ?_
            exact ⟨congrArg (fun v : Va => Ending.returned (.agg v.row)) HA.out, hFb⟩
          · have dq : (pk == 2) = false := by rw [beq_eq_false_iff_ne]; exact d
            have HN : Hid (wsGo text tag 1 2 = RV) := wsGo_no (fun h => d (by have := h.2; rw [HP.out] at this; have this : pk = 1 + ((1 : Nat) : Int) := this; omega)) HG.out
            clear g d HK HG hk
            go_wp2_with fail
            go_round
            case rel => exact ⟨2, by go_num, by omega, HN⟩
            case measure => simp [intOf]
        · have gq := lst_no g
          have HN : Hid (wsGo text tag 1 2 = RV) := wsGo_no (fun h => g h.1) HG.out
          clear g HK HG hk
          go_wp2_with fail
          go_round
          case rel => exact ⟨2, by go_num, by omega, HN⟩
          case measure => simp [intOf]
      by_cases k2 : k = 2
      · subst k2
        have HG : Hid (wsGo text tag 1 2 = RV) := HK.out
        by_cases g : tag.toList = ((⟨#[116, 97, 103, 58, 121, 97, 109, 108, 46, 111, 114, 103, 44, 50, 48, 48, 50, 58]⟩ : ByteArray) ++ (⟨#[105, 110, 116]⟩ : ByteArray)).toList
        · have gq := lst_yes g
          by_cases d : pk = 3
          · have dq : (pk == 3) = true := by rw [beq_iff_eq]; exact d
            have HA : Hid ((⟨pk, pn, pb, ps⟩ : Va) = RV) := by show _ = _; rw [← HP.out]; exact wsGo_yes ⟨g, by rw [HP.out]; show pk = 1 + ((2 : Nat) : Int); omega⟩ HG.out
            clear g d HK HG hk
            go_wp2_with fail
            have hF := v4_setAll Z4.out (.int .i64 pk) (.int .i64 pn) (.bool pb) (.string ps)
            have hFb := v4_below HB4.out (b := w.heap.size + 1) (by omega) (.int .i64 pk) (.int .i64 pn) (.bool pb) (.string ps)
            try simp only [Exit.inBlock, Exit.then]
            refine bodyPost_ret (results_cell_row rfl _ _ (w.heap.size + 1) 28 _ (0, 0) _ rfl hF Tryd.underlying28 rfl (by kernel_rfl)) rfl ?_
            exact ⟨congrArg (fun v : Va => Ending.returned (.agg v.row)) HA.out, hFb⟩
          · have dq : (pk == 3) = false := by rw [beq_eq_false_iff_ne]; exact d
            have HN : Hid (wsGo text tag 0 3 = RV) := wsGo_no (fun h => d (by have := h.2; rw [HP.out] at this; have this : pk = 1 + ((2 : Nat) : Int) := this; omega)) HG.out
            clear g d HK HG hk
            go_wp2_with fail
            go_round
            case rel => exact ⟨3, by go_num, by omega, HN⟩
            case measure => simp [intOf]
        · have gq := lst_no g
          have HN : Hid (wsGo text tag 0 3 = RV) := wsGo_no (fun h => g h.1) HG.out
          clear g HK HG hk
          go_wp2_with fail
          go_round
          case rel => exact ⟨3, by go_num, by omega, HN⟩
          case measure => simp [intOf]
      have k3 : k = 3 := by omega
      subst k3
      have HA : Hid ((⟨7, 0, false, text⟩ : Va) = RV) := HK.out
      clear hk HK
      go_wp2_with fail
      have hF := v4_setAll Z4.out (.int .i64 7) (.int .i64 0) (.bool false) (.string text)
      have hFb := v4_below HB4.out (b := w.heap.size + 1) (by omega) (.int .i64 7) (.int .i64 0) (.bool false) (.string text)
      try simp only [Exit.inBlock, Exit.then]
      refine bodyPost_ret (results_cell_row rfl _ _ (w.heap.size + 1) 28 _ (0, 0) _ rfl hF Tryd.underlying28 rfl (by kernel_rfl)) rfl ?_
      exact ⟨congrArg (fun v : Va => Ending.returned (.agg v.row)) HA.out, hFb⟩
end Go.Proofs.YtlfamgdmmenonaaDoor
