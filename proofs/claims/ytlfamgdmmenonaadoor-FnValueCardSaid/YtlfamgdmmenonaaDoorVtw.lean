/- impl's taggedWorth, scalarWorth, worthOf. -/
import Derived.Test.YtlfamgdmmenonaaDoorVpw
import Derived.Handy
namespace Go.Proofs.YtlfamgdmmenonaaDoor
open Go.ChangeShapes Go.WideShapes Go.ChangeAt Go.RowKit
theorem kNull_eq (w : World) : Calls Tryd.prog 104 #[.agg #[]] w fun e w' => e = .returned (.int .i64 1) ∧ w' = w.alloc (.cells #[] 77) := by
  go_enter Tryd.func104, Tryd.ntmps104
  go_wp2_with fail
  go_ret
  exact ⟨rfl, rfl⟩
theorem kNull_any (w : World) : Calls Tryd.prog 104 #[.agg #[]] w fun e w' => e = .returned (.int .i64 1) ∧ Below w.heap.size w w' := by
  refine (kNull_eq w).mono ?_
  rintro e w' ⟨rfl, rfl⟩
  exact ⟨rfl, (Below.refl _ w).alloc (Nat.le_refl _) _⟩
theorem kList_eq (w : World) : Calls Tryd.prog 102 #[.agg #[]] w fun e w' => e = .returned (.int .i64 5) ∧ w' = w.alloc (.cells #[] 75) := by
  go_enter Tryd.func102, Tryd.ntmps102
  go_wp2_with fail
  go_ret
  exact ⟨rfl, rfl⟩
theorem kList_any (w : World) : Calls Tryd.prog 102 #[.agg #[]] w fun e w' => e = .returned (.int .i64 5) ∧ Below w.heap.size w w' := by
  refine (kList_eq w).mono ?_
  rintro e w' ⟨rfl, rfl⟩
  exact ⟨rfl, (Below.refl _ w).alloc (Nat.le_refl _) _⟩
theorem kMap_eq (w : World) : Calls Tryd.prog 103 #[.agg #[]] w fun e w' => e = .returned (.int .i64 6) ∧ w' = w.alloc (.cells #[] 76) := by
  go_enter Tryd.func103, Tryd.ntmps103
  go_wp2_with fail
  go_ret
  exact ⟨rfl, rfl⟩
theorem kMap_any (w : World) : Calls Tryd.prog 103 #[.agg #[]] w fun e w' => e = .returned (.int .i64 6) ∧ Below w.heap.size w w' := by
  refine (kMap_eq w).mono ?_
  rintro e w' ⟨rfl, rfl⟩
  exact ⟨rfl, (Below.refl _ w).alloc (Nat.le_refl _) _⟩
theorem kBool_eq (x : Bool) (w : World) : Calls Tryd.prog 38 #[.bool x] w fun e w' => e = .returned (.int .i64 2) ∧ w' = w := by
  go_enter Tryd.func38, Tryd.ntmps38
  go_wp2_with fail
  go_ret
  exact ⟨rfl, rfl⟩
theorem kBool_any (x : Bool) (w : World) : Calls Tryd.prog 38 #[.bool x] w fun e w' => e = .returned (.int .i64 2) ∧ Below w.heap.size w w' := by
  refine (kBool_eq x w).mono ?_
  rintro e w' ⟨rfl, rfl⟩
  exact ⟨rfl, Below.refl _ _⟩
theorem kInt_eq (x : Int) (w : World) : Calls Tryd.prog 39 #[.int .i64 x] w fun e w' => e = .returned (.int .i64 3) ∧ w' = w := by
  go_enter Tryd.func39, Tryd.ntmps39
  go_wp2_with fail
  go_ret
  exact ⟨rfl, rfl⟩
theorem kInt_any (x : Int) (w : World) : Calls Tryd.prog 39 #[.int .i64 x] w fun e w' => e = .returned (.int .i64 3) ∧ Below w.heap.size w w' := by
  refine (kInt_eq x w).mono ?_
  rintro e w' ⟨rfl, rfl⟩
  exact ⟨rfl, Below.refl _ _⟩
theorem kText_eq (x : ByteArray) (w : World) : Calls Tryd.prog 40 #[.string x] w fun e w' => e = .returned (.int .i64 4) ∧ w' = w := by
  go_enter Tryd.func40, Tryd.ntmps40
  go_wp2_with fail
  go_ret
  exact ⟨rfl, rfl⟩
theorem kText_any (x : ByteArray) (w : World) : Calls Tryd.prog 40 #[.string x] w fun e w' => e = .returned (.int .i64 4) ∧ Below w.heap.size w w' := by
  refine (kText_eq x w).mono ?_
  rintro e w' ⟨rfl, rfl⟩
  exact ⟨rfl, Below.refl _ _⟩
theorem kOther_eq (x : ByteArray) (w : World) : Calls Tryd.prog 41 #[.string x] w fun e w' => e = .returned (.int .i64 7) ∧ w' = w := by
  go_enter Tryd.func41, Tryd.ntmps41
  go_wp2_with fail
  go_ret
  exact ⟨rfl, rfl⟩
theorem kOther_any (x : ByteArray) (w : World) : Calls Tryd.prog 41 #[.string x] w fun e w' => e = .returned (.int .i64 7) ∧ Below w.heap.size w w' := by
  refine (kOther_eq x w).mono ?_
  rintro e w' ⟨rfl, rfl⟩
  exact ⟨rfl, Below.refl _ _⟩
theorem kAlias_eq (x : ByteArray) (w : World) : Calls Tryd.prog 42 #[.string x] w fun e w' => e = .returned (.int .i64 8) ∧ w' = w := by
  go_enter Tryd.func42, Tryd.ntmps42
  go_wp2_with fail
  go_ret
  exact ⟨rfl, rfl⟩
theorem kAlias_any (x : ByteArray) (w : World) : Calls Tryd.prog 42 #[.string x] w fun e w' => e = .returned (.int .i64 8) ∧ Below w.heap.size w w' := by
  refine (kAlias_eq x w).mono ?_
  rintro e w' ⟨rfl, rfl⟩
  exact ⟨rfl, Below.refl _ _⟩
set_option maxHeartbeats 4000000 in
theorem tagged_any (s : ByteArray) (k : Int) (w : World) (hs : s.size ≤ 1048576) (hv : NumV w) :
    Calls Tryd.prog 59 #[.string s, .int .i64 k] w fun e w' => e = .returned (wv (tgV s k)) ∧ Below w.heap.size w w' := by
  have cP := plainWorth_any s w hs hv
  clear hs hv
  rcases plV_four s with h | ⟨b, h⟩ | ⟨r, _, h⟩ | h
  · have HV : Hid (wv (plV s) = .iface 77 (.agg #[])) := by show _ = _; rw [h]; rfl
    by_cases hk : k = 1
    · have HO : Hid (wv (tgV s k) = .iface 77 (.agg #[])) := by show _ = _; unfold tgV; rw [h, if_pos (by show (1 : Int) = k; omega)]; rfl
      have hq : ((1 : Int) == k) = true := by rw [beq_iff_eq]; omega
      rw [HV.out] at cP
      clear hk h HV
      go_enter Tryd.func59, Tryd.ntmps59
      go_wp2_with fail
      refine cP.mono ?_
      rintro e w1 ⟨rfl, hb1⟩
      have HB1 : Hid (Below w.heap.size w w1) := hb1
      clear hb1 cP
      go_wp2_with fail
      refine (kNull_any _).mono ?_
      rintro e w2 ⟨rfl, hb2⟩
      have HB2 : Hid (Below w.heap.size w w2) := HB1.out.trans (hb2.mono HB1.out.size)
      clear hb2 HB1
      go_wp2_with fail
      go_ret
      exact ⟨congrArg Ending.returned HO.out.symm, HB2.out⟩
    · have HO : Hid (wv (tgV s k) = .iface 72 (.string s)) := by show _ = _; unfold tgV; rw [h, if_neg (by show ¬ (1 : Int) = k; omega)]; rfl
      have hq : ((1 : Int) == k) = false := by rw [beq_eq_false_iff_ne]; omega
      rw [HV.out] at cP
      clear hk h HV
      go_enter Tryd.func59, Tryd.ntmps59
      go_wp2_with fail
      refine cP.mono ?_
      rintro e w1 ⟨rfl, hb1⟩
      have HB1 : Hid (Below w.heap.size w w1) := hb1
      clear hb1 cP
      go_wp2_with fail
      refine (kNull_any _).mono ?_
      rintro e w2 ⟨rfl, hb2⟩
      have HB2 : Hid (Below w.heap.size w w2) := HB1.out.trans (hb2.mono HB1.out.size)
      clear hb2 HB1
      go_wp2_with fail
      go_ret
      exact ⟨congrArg Ending.returned HO.out.symm, HB2.out⟩
  · have HV : Hid (wv (plV s) = .iface 68 (.bool b)) := by show _ = _; rw [h]; rfl
    by_cases hk : k = 2
    · have HO : Hid (wv (tgV s k) = .iface 68 (.bool b)) := by show _ = _; unfold tgV; rw [h, if_pos (by show (2 : Int) = k; omega)]; rfl
      have hq : ((2 : Int) == k) = true := by rw [beq_iff_eq]; omega
      rw [HV.out] at cP
      clear hk h HV
      go_enter Tryd.func59, Tryd.ntmps59
      go_wp2_with fail
      refine cP.mono ?_
      rintro e w1 ⟨rfl, hb1⟩
      have HB1 : Hid (Below w.heap.size w w1) := hb1
      clear hb1 cP
      go_wp2_with fail
      refine (kBool_any b _).mono ?_
      rintro e w2 ⟨rfl, hb2⟩
      have HB2 : Hid (Below w.heap.size w w2) := HB1.out.trans (hb2.mono HB1.out.size)
      clear hb2 HB1
      go_wp2_with fail
      go_ret
      exact ⟨congrArg Ending.returned HO.out.symm, HB2.out⟩
    · have HO : Hid (wv (tgV s k) = .iface 72 (.string s)) := by show _ = _; unfold tgV; rw [h, if_neg (by show ¬ (2 : Int) = k; omega)]; rfl
      have hq : ((2 : Int) == k) = false := by rw [beq_eq_false_iff_ne]; omega
      rw [HV.out] at cP
      clear hk h HV
      go_enter Tryd.func59, Tryd.ntmps59
      go_wp2_with fail
      refine cP.mono ?_
      rintro e w1 ⟨rfl, hb1⟩
      have HB1 : Hid (Below w.heap.size w w1) := hb1
      clear hb1 cP
      go_wp2_with fail
      refine (kBool_any b _).mono ?_
      rintro e w2 ⟨rfl, hb2⟩
      have HB2 : Hid (Below w.heap.size w w2) := HB1.out.trans (hb2.mono HB1.out.size)
      clear hb2 HB1
      go_wp2_with fail
      go_ret
      exact ⟨congrArg Ending.returned HO.out.symm, HB2.out⟩
  · have HV : Hid (wv (plV s) = .iface 70 (.int .i64 r)) := by show _ = _; rw [h]; rfl
    by_cases hk : k = 3
    · have HO : Hid (wv (tgV s k) = .iface 70 (.int .i64 r)) := by show _ = _; unfold tgV; rw [h, if_pos (by show (3 : Int) = k; omega)]; rfl
      have hq : ((3 : Int) == k) = true := by rw [beq_iff_eq]; omega
      rw [HV.out] at cP
      clear hk h HV
      go_enter Tryd.func59, Tryd.ntmps59
      go_wp2_with fail
      refine cP.mono ?_
      rintro e w1 ⟨rfl, hb1⟩
      have HB1 : Hid (Below w.heap.size w w1) := hb1
      clear hb1 cP
      go_wp2_with fail
      refine (kInt_any r _).mono ?_
      rintro e w2 ⟨rfl, hb2⟩
      have HB2 : Hid (Below w.heap.size w w2) := HB1.out.trans (hb2.mono HB1.out.size)
      clear hb2 HB1
      go_wp2_with fail
      go_ret
      exact ⟨congrArg Ending.returned HO.out.symm, HB2.out⟩
    · have HO : Hid (wv (tgV s k) = .iface 72 (.string s)) := by show _ = _; unfold tgV; rw [h, if_neg (by show ¬ (3 : Int) = k; omega)]; rfl
      have hq : ((3 : Int) == k) = false := by rw [beq_eq_false_iff_ne]; omega
      rw [HV.out] at cP
      clear hk h HV
      go_enter Tryd.func59, Tryd.ntmps59
      go_wp2_with fail
      refine cP.mono ?_
      rintro e w1 ⟨rfl, hb1⟩
      have HB1 : Hid (Below w.heap.size w w1) := hb1
      clear hb1 cP
      go_wp2_with fail
      refine (kInt_any r _).mono ?_
      rintro e w2 ⟨rfl, hb2⟩
      have HB2 : Hid (Below w.heap.size w w2) := HB1.out.trans (hb2.mono HB1.out.size)
      clear hb2 HB1
      go_wp2_with fail
      go_ret
      exact ⟨congrArg Ending.returned HO.out.symm, HB2.out⟩
  · have HV : Hid (wv (plV s) = .iface 71 (.string s)) := by show _ = _; rw [h]; rfl
    by_cases hk : k = 4
    · have HO : Hid (wv (tgV s k) = .iface 71 (.string s)) := by show _ = _; unfold tgV; rw [h, if_pos (by show (4 : Int) = k; omega)]; rfl
      have hq : ((4 : Int) == k) = true := by rw [beq_iff_eq]; omega
      rw [HV.out] at cP
      clear hk h HV
      go_enter Tryd.func59, Tryd.ntmps59
      go_wp2_with fail
      refine cP.mono ?_
      rintro e w1 ⟨rfl, hb1⟩
      have HB1 : Hid (Below w.heap.size w w1) := hb1
      clear hb1 cP
      go_wp2_with fail
      refine (kText_any s _).mono ?_
      rintro e w2 ⟨rfl, hb2⟩
      have HB2 : Hid (Below w.heap.size w w2) := HB1.out.trans (hb2.mono HB1.out.size)
      clear hb2 HB1
      go_wp2_with fail
      go_ret
      exact ⟨congrArg Ending.returned HO.out.symm, HB2.out⟩
    · have HO : Hid (wv (tgV s k) = .iface 72 (.string s)) := by show _ = _; unfold tgV; rw [h, if_neg (by show ¬ (4 : Int) = k; omega)]; rfl
      have hq : ((4 : Int) == k) = false := by rw [beq_eq_false_iff_ne]; omega
      rw [HV.out] at cP
      clear hk h HV
      go_enter Tryd.func59, Tryd.ntmps59
      go_wp2_with fail
      refine cP.mono ?_
      rintro e w1 ⟨rfl, hb1⟩
      have HB1 : Hid (Below w.heap.size w w1) := hb1
      clear hb1 cP
      go_wp2_with fail
      refine (kText_any s _).mono ?_
      rintro e w2 ⟨rfl, hb2⟩
      have HB2 : Hid (Below w.heap.size w w2) := HB1.out.trans (hb2.mono HB1.out.size)
      clear hb2 HB1
      go_wp2_with fail
      go_ret
      exact ⟨congrArg Ending.returned HO.out.symm, HB2.out⟩
set_option maxHeartbeats 4000000 in
theorem scalar_any (kind style : Int) (flag : Bool) (text anchor tag : ByteArray) (at_ code : Int) (w : World) (hs : text.size ≤ 1048576) (hv : NumV w) :
    Calls Tryd.prog 43 #[.agg #[.int .i64 kind, .int .i64 style, .bool flag, .string text, .string anchor, .string tag, .int .i64 at_, .int .i64 code]] w fun e w' => e = .returned (wv (scV style text tag)) ∧ Below w.heap.size w w' := by
  have HAL : Hid (Below w.heap.size w (w.alloc (.cells #[.int .i64 kind, .int .i64 style, .bool flag, .string text, .string anchor, .string tag, .int .i64 at_, .int .i64 code] 31))) := (Below.refl _ w).alloc (Nat.le_refl _) _
  have HV : Hid (NumV (w.alloc (.cells #[.int .i64 kind, .int .i64 style, .bool flag, .string text, .string anchor, .string tag, .int .i64 at_, .int .i64 code] 31))) := hv.later HAL.out
  have HS : Hid (text.size ≤ 1048576) := hs
  clear hs hv
  by_cases e0 : tag.toList = []
  · by_cases h1 : style = 1
    · have HO : Hid (wv (scV style text tag) = wv (plV text)) := by show _ = _; unfold scV; rw [if_pos e0, if_pos h1]
      have f0 : tag.toList.isEmpty = true := by rw [e0]; rfl
      have q1 : (style == 1) = true := by rw [beq_iff_eq]; exact h1
      clear e0 h1
      go_enter Tryd.func43, Tryd.ntmps43
      go_wp2_with fail
      refine (plainWorth_any text _ HS.out HV.out).mono ?_
      rintro e w1 ⟨rfl, hb1⟩
      go_wp2_with fail
      go_ret
      exact ⟨congrArg Ending.returned HO.out.symm, HAL.out.trans (hb1.mono HAL.out.size)⟩
    · have HO : Hid (wv (scV style text tag) = .iface 71 (.string text)) := by show _ = _; unfold scV; rw [if_pos e0, if_neg h1]; rfl
      have f0 : tag.toList.isEmpty = true := by rw [e0]; rfl
      have q1 : (style == 1) = false := by rw [beq_eq_false_iff_ne]; exact h1
      clear e0 h1
      go_enter Tryd.func43, Tryd.ntmps43
      go_wp2_with fail
      go_ret
      exact ⟨congrArg Ending.returned HO.out.symm, HAL.out⟩
  by_cases e1 : tag.toList = [33]
  · have HO : Hid (wv (scV style text tag) = .iface 71 (.string text)) := by show _ = _; unfold scV; rw [if_neg e0, if_pos e1]; rfl
    have f0 := emp_no e0
    have f1 := lst_yes e1
    clear e0 e1
    go_enter Tryd.func43, Tryd.ntmps43
    go_wp2_with fail
    go_ret
    exact ⟨congrArg Ending.returned HO.out.symm, HAL.out⟩
  by_cases e2 : tag.toList = tStr
  · have HO : Hid (wv (scV style text tag) = .iface 71 (.string text)) := by show _ = _; unfold scV; rw [if_neg e0, if_neg e1, if_pos e2]; rfl
    have f0 := emp_no e0
    have f1 := lst_no e1
    have f2 := lst_yes e2
    unfold tStr at f2
    clear e0 e1 e2
    go_enter Tryd.func43, Tryd.ntmps43
    go_wp2_with fail
    go_ret
    exact ⟨congrArg Ending.returned HO.out.symm, HAL.out⟩
  by_cases e3 : tag.toList = tNul
  · have HO : Hid (wv (scV style text tag) = wv (tgV text 1)) := by show _ = _; unfold scV; rw [if_neg e0, if_neg e1, if_neg e2, if_pos e3]
    have f0 := emp_no e0
    have f1 := lst_no e1
    have f2 := lst_no e2
    have f3 := lst_yes e3
    unfold tStr at f2
    unfold tNul at f3
    clear e0 e1 e2 e3
    go_enter Tryd.func43, Tryd.ntmps43
    go_wp2_with fail
    refine (tagged_any text 1 _ HS.out HV.out).mono ?_
    rintro e w1 ⟨rfl, hb1⟩
    go_wp2_with fail
    go_ret
    exact ⟨congrArg Ending.returned HO.out.symm, HAL.out.trans (hb1.mono HAL.out.size)⟩
  by_cases e4 : tag.toList = tBoo
  · have HO : Hid (wv (scV style text tag) = wv (tgV text 2)) := by show _ = _; unfold scV; rw [if_neg e0, if_neg e1, if_neg e2, if_neg e3, if_pos e4]
    have f0 := emp_no e0
    have f1 := lst_no e1
    have f2 := lst_no e2
    have f3 := lst_no e3
    have f4 := lst_yes e4
    unfold tStr at f2
    unfold tNul at f3
    unfold tBoo at f4
    clear e0 e1 e2 e3 e4
    go_enter Tryd.func43, Tryd.ntmps43
    go_wp2_with fail
    refine (tagged_any text 2 _ HS.out HV.out).mono ?_
    rintro e w1 ⟨rfl, hb1⟩
    go_wp2_with fail
    go_ret
    exact ⟨congrArg Ending.returned HO.out.symm, HAL.out.trans (hb1.mono HAL.out.size)⟩
  by_cases e5 : tag.toList = tInt
  · have HO : Hid (wv (scV style text tag) = wv (tgV text 3)) := by show _ = _; unfold scV; rw [if_neg e0, if_neg e1, if_neg e2, if_neg e3, if_neg e4, if_pos e5]
    have f0 := emp_no e0
    have f1 := lst_no e1
    have f2 := lst_no e2
    have f3 := lst_no e3
    have f4 := lst_no e4
    have f5 := lst_yes e5
    unfold tStr at f2
    unfold tNul at f3
    unfold tBoo at f4
    unfold tInt at f5
    clear e0 e1 e2 e3 e4 e5
    go_enter Tryd.func43, Tryd.ntmps43
    go_wp2_with fail
    refine (tagged_any text 3 _ HS.out HV.out).mono ?_
    rintro e w1 ⟨rfl, hb1⟩
    go_wp2_with fail
    go_ret
    exact ⟨congrArg Ending.returned HO.out.symm, HAL.out.trans (hb1.mono HAL.out.size)⟩
  have HO : Hid (wv (scV style text tag) = .iface 72 (.string text)) := by show _ = _; unfold scV; rw [if_neg e0, if_neg e1, if_neg e2, if_neg e3, if_neg e4, if_neg e5]; rfl
  have f0 := emp_no e0
  have f1 := lst_no e1
  have f2 := lst_no e2
  have f3 := lst_no e3
  have f4 := lst_no e4
  have f5 := lst_no e5
  unfold tStr at f2
  unfold tNul at f3
  unfold tBoo at f4
  unfold tInt at f5
  clear e0 e1 e2 e3 e4 e5
  go_enter Tryd.func43, Tryd.ntmps43
  go_wp2_with fail
  go_ret
  exact ⟨congrArg Ending.returned HO.out.symm, HAL.out⟩
set_option maxHeartbeats 4000000 in
theorem worthOf_any (e : Ev) (w : World) (hs : e.text.size ≤ 1048576) (hv : NumV w) :
    Calls Tryd.prog 23 #[.agg e.row] w fun r w' => r = .returned (wv (woV e)) ∧ Below w.heap.size w w' := by
  obtain ⟨kind, style, flag, text, anchor, tag, at_, code⟩ := e
  show Calls Tryd.prog 23 #[.agg #[.int .i64 kind, .int .i64 style, .bool flag, .string text, .string anchor, .string tag, .int .i64 at_, .int .i64 code]] w fun r w' => r = .returned (wv (woV ⟨kind, style, flag, text, anchor, tag, at_, code⟩)) ∧ Below w.heap.size w w'
  have HAL : Hid (Below w.heap.size w (w.alloc (.cells #[.int .i64 kind, .int .i64 style, .bool flag, .string text, .string anchor, .string tag, .int .i64 at_, .int .i64 code] 31))) := (Below.refl _ w).alloc (Nat.le_refl _) _
  have HV : Hid (NumV (w.alloc (.cells #[.int .i64 kind, .int .i64 style, .bool flag, .string text, .string anchor, .string tag, .int .i64 at_, .int .i64 code] 31))) := hv.later HAL.out
  have HS : Hid (text.size ≤ 1048576) := hs
  clear hs hv
  by_cases k3 : kind = 3
  · have HO : Hid (wv (woV ⟨kind, style, flag, text, anchor, tag, at_, code⟩) = .iface 75 (.agg #[])) := by show _ = _; unfold woV; rw [if_pos k3]; rfl
    have q3 : (kind == 3) = true := by rw [beq_iff_eq]; exact k3
    clear k3
    go_enter Tryd.func23, Tryd.ntmps23
    go_wp2_with fail
    go_ret
    exact ⟨congrArg Ending.returned HO.out.symm, HAL.out⟩
  by_cases k4 : kind = 4
  · have HO : Hid (wv (woV ⟨kind, style, flag, text, anchor, tag, at_, code⟩) = .iface 76 (.agg #[])) := by show _ = _; unfold woV; rw [if_neg k3, if_pos k4]; rfl
    have q3 : (kind == 3) = false := by rw [beq_eq_false_iff_ne]; exact k3
    have q4 : (kind == 4) = true := by rw [beq_iff_eq]; exact k4
    clear k3 k4
    go_enter Tryd.func23, Tryd.ntmps23
    go_wp2_with fail
    go_ret
    exact ⟨congrArg Ending.returned HO.out.symm, HAL.out⟩
  by_cases k6 : kind = 6
  · have HO : Hid (wv (woV ⟨kind, style, flag, text, anchor, tag, at_, code⟩) = .iface 73 (.string text)) := by show _ = _; unfold woV; rw [if_neg k3, if_neg k4, if_pos k6]; rfl
    have q3 : (kind == 3) = false := by rw [beq_eq_false_iff_ne]; exact k3
    have q4 : (kind == 4) = false := by rw [beq_eq_false_iff_ne]; exact k4
    have q6 : (kind == 6) = true := by rw [beq_iff_eq]; exact k6
    clear k3 k4 k6
    go_enter Tryd.func23, Tryd.ntmps23
    go_wp2_with fail
    go_ret
    exact ⟨congrArg Ending.returned HO.out.symm, HAL.out⟩
  by_cases k5 : kind = 5
  · have HO : Hid (wv (woV ⟨kind, style, flag, text, anchor, tag, at_, code⟩) = wv (scV style text tag)) := by show _ = _; unfold woV; rw [if_neg k3, if_neg k4, if_neg k6, if_pos k5]
    have q3 : (kind == 3) = false := by rw [beq_eq_false_iff_ne]; exact k3
    have q4 : (kind == 4) = false := by rw [beq_eq_false_iff_ne]; exact k4
    have q6 : (kind == 6) = false := by rw [beq_eq_false_iff_ne]; exact k6
    have q5 : (kind == 5) = true := by rw [beq_iff_eq]; exact k5
    clear k3 k4 k6 k5
    go_enter Tryd.func23, Tryd.ntmps23
    go_wp2_with fail
    refine (scalar_any kind style flag text anchor tag at_ code _ HS.out HV.out).mono ?_
    rintro e w1 ⟨rfl, hb1⟩
    go_wp2_with fail
    go_ret
    exact ⟨congrArg Ending.returned HO.out.symm, HAL.out.trans (hb1.mono HAL.out.size)⟩
  have HO : Hid (wv (woV ⟨kind, style, flag, text, anchor, tag, at_, code⟩) = .nilIface) := by show _ = _; unfold woV; rw [if_neg k3, if_neg k4, if_neg k6, if_neg k5]; rfl
  have q3 : (kind == 3) = false := by rw [beq_eq_false_iff_ne]; exact k3
  have q4 : (kind == 4) = false := by rw [beq_eq_false_iff_ne]; exact k4
  have q6 : (kind == 6) = false := by rw [beq_eq_false_iff_ne]; exact k6
  have q5 : (kind == 5) = false := by rw [beq_eq_false_iff_ne]; exact k5
  clear k3 k4 k6 k5
  go_enter Tryd.func23, Tryd.ntmps23
  go_wp2_with fail
  go_ret
  exact ⟨congrArg Ending.returned HO.out.symm, HAL.out⟩
end Go.Proofs.YtlfamgdmmenonaaDoor
