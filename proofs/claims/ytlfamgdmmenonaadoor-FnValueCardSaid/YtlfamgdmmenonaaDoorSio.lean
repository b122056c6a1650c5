/- spec.IntOf answers 'numOf'; the law on IntOf over impl's contract. -/
import Derived.Test.YtlfamgdmmenonaaDoorSva
namespace Go.Proofs.YtlfamgdmmenonaaDoor
open Go.ChangeShapes Go.WideShapes Go.ChangeAt Go.RowKit
theorem tne_v {a b : ByteArray} (h : a ≠ b) : (a.toList == b.toList) = false := by
  rw [beq_eq_false_iff_ne]
  intro h'
  apply h
  rw [ByteArray.toList_eq, ByteArray.toList_eq] at h'
  cases a; cases b; simp at h'; simp [h']
theorem two_no {a : ByteArray} {c d : UInt8} (h : a ≠ ⟨#[c, d]⟩) : (a.toList == [c, d]) = false := by
  have := tne_v h
  rw [show (ByteArray.mk #[c, d]).toList = [c, d] from by rw [ByteArray.toList_eq]] at this
  exact this
theorem two_yes {a : ByteArray} {c d : UInt8} (h : a = ⟨#[c, d]⟩) : (a.toList == [c, d]) = true := by
  rw [h, show (ByteArray.mk #[c, d]).toList = [c, d] from by rw [ByteArray.toList_eq]]
  exact beq_self_eq_true _
/-- The ending that says what IntOf answers. -/
def NumP (s : ByteArray) (e : Ending) : Prop := ∃ (r : Int) (b : Bool), e = .returned (.tuple #[.int .i64 r, .bool b]) ∧ numOf s = (r, b)
set_option maxHeartbeats 4000000 in
theorem spec_intOf (s : ByteArray) (hm : s.size ≤ 4611686018427387903) (w : World) :
    Calls Tryd.prog 11 #[.string s] w fun e w' => NumP s e ∧ w' = w := by
  by_cases h2 : 2 < s.size
  · by_cases e1 : s.extract 0 2 = ⟨#[48, 111]⟩
    · have t1 := two_yes e1
      obtain ⟨R, hR⟩ : ∃ R, digV (s.extract 2 s.size) 8 = R := ⟨_, rfl⟩
      have hRl := digV_le (s.extract 2 s.size) 8
      rw [hR] at hRl
      obtain ⟨hR1, hR2⟩ := hRl
      have HN : Hid (numOf s = finN R) := by show _ = _; rw [← hR]; unfold numOf; rw [if_pos ⟨h2, e1⟩]
      have cD : Hid (∀ w', Calls Tryd.prog 26 #[.string ((s.extract 2 s.size)), .int .i64 8] w' fun e w'' => e = .returned (.int .i64 R) ∧ w'' = w') := fun w' => digits_8 _ (by first | (rw [ByteArray.size_extract]; omega) | omega) w' R hR
      clear hR
      go_enter Tryd.func11, Tryd.ntmps11
      go_wp2_with fail
      refine (cD.out _).mono ?_
      rintro e w1 ⟨rfl, rfl⟩
      clear cD
      by_cases hneg : R < 0
      · have HE : Hid (numOf s = (0, false)) := by show _ = _; rw [HN.out, finN_neg hneg]
        clear HN
        go_wp2_with fail
        go_ret2
        exact ⟨⟨_, _, rfl, HE.out⟩, rfl⟩
      have HE : Hid (numOf s = (R, true)) := by show _ = _; rw [HN.out, finN_pos hneg]
      clear HN
      have hpos : 0 ≤ R := by omega
      clear hneg
      go_wp2_with fail
      go_ret2
      exact ⟨⟨_, _, rfl, HE.out⟩, rfl⟩
    by_cases e2 : s.extract 0 2 = ⟨#[48, 120]⟩
    · have t1 := two_no e1
      have t2 := two_yes e2
      obtain ⟨R, hR⟩ : ∃ R, digV (s.extract 2 s.size) 16 = R := ⟨_, rfl⟩
      have hRl := digV_le (s.extract 2 s.size) 16
      rw [hR] at hRl
      obtain ⟨hR1, hR2⟩ := hRl
      have HN : Hid (numOf s = finN R) := by show _ = _; rw [← hR]; unfold numOf; rw [if_neg (fun h => e1 h.2), if_pos ⟨h2, e2⟩]
      have cD : Hid (∀ w', Calls Tryd.prog 26 #[.string ((s.extract 2 s.size)), .int .i64 16] w' fun e w'' => e = .returned (.int .i64 R) ∧ w'' = w') := fun w' => digits_16 _ (by first | (rw [ByteArray.size_extract]; omega) | omega) w' R hR
      clear hR
      go_enter Tryd.func11, Tryd.ntmps11
      go_wp2_with fail
      refine (cD.out _).mono ?_
      rintro e w1 ⟨rfl, rfl⟩
      clear cD
      by_cases hneg : R < 0
      · have HE : Hid (numOf s = (0, false)) := by show _ = _; rw [HN.out, finN_neg hneg]
        clear HN
        go_wp2_with fail
        go_ret2
        exact ⟨⟨_, _, rfl, HE.out⟩, rfl⟩
      have HE : Hid (numOf s = (R, true)) := by show _ = _; rw [HN.out, finN_pos hneg]
      clear HN
      have hpos : 0 ≤ R := by omega
      clear hneg
      go_wp2_with fail
      go_ret2
      exact ⟨⟨_, _, rfl, HE.out⟩, rfl⟩
    have t1 := two_no e1
    have t2 := two_no e2
    have h0 : 0 < s.size := by omega
    by_cases s1 : (s[0]'h0).toNat = 45
    · have b1 : bt s 0 = 45 := by rw [← bt_get s 0 h0]; exact s1
      have q1 : (((s[0]'h0).toNat : Int) == 45) = true := by rw [s1]; rfl
      obtain ⟨R, hR⟩ : ∃ R, digV (s.extract 1 s.size) 10 = R := ⟨_, rfl⟩
      have hRl := digV_le (s.extract 1 s.size) 10
      rw [hR] at hRl
      obtain ⟨hR1, hR2⟩ := hRl
      have HN : Hid (numOf s = negN R) := by show _ = _; rw [← hR]; unfold numOf; rw [if_neg (fun h => e1 h.2), if_neg (fun h => e2 h.2)]; rw [if_pos ⟨by omega, b1⟩]
      have cD : Hid (∀ w', Calls Tryd.prog 26 #[.string ((s.extract 1 s.size)), .int .i64 10] w' fun e w'' => e = .returned (.int .i64 R) ∧ w'' = w') := fun w' => digits_10 _ (by first | (rw [ByteArray.size_extract]; omega) | omega) w' R hR
      clear hR
      go_enter Tryd.func11, Tryd.ntmps11
      go_wp2_with fail
      refine (cD.out _).mono ?_
      rintro e w1 ⟨rfl, rfl⟩
      clear cD
      by_cases hneg : R < 0
      · have HE : Hid (numOf s = (0, false)) := by show _ = _; rw [HN.out, negN_neg hneg]
        clear HN
        go_wp2_with fail
        go_ret2
        exact ⟨⟨_, _, rfl, HE.out⟩, rfl⟩
      have HE : Hid (numOf s = (-R, true)) := by show _ = _; rw [HN.out, negN_pos hneg]
      clear HN
      have hpos : 0 ≤ R := by omega
      clear hneg
      go_wp2_with fail
      go_ret2
      exact ⟨⟨_, _, rfl, HE.out⟩, rfl⟩
    by_cases s2 : (s[0]'h0).toNat = 43
    · have b1 : ¬ bt s 0 = 45 := by rw [← bt_get s 0 h0]; exact s1
      have q1 : (((s[0]'h0).toNat : Int) == 45) = false := by rw [beq_eq_false_iff_ne]; omega
      have q2 : (((s[0]'h0).toNat : Int) == 43) = true := by rw [s2]; rfl
      have b2 : bt s 0 = 43 := by rw [← bt_get s 0 h0]; exact s2
      obtain ⟨R, hR⟩ : ∃ R, digV (s.extract 1 s.size) 10 = R := ⟨_, rfl⟩
      have hRl := digV_le (s.extract 1 s.size) 10
      rw [hR] at hRl
      obtain ⟨hR1, hR2⟩ := hRl
      have HN : Hid (numOf s = finN R) := by show _ = _; rw [← hR]; unfold numOf; rw [if_neg (fun h => e1 h.2), if_neg (fun h => e2 h.2)]; rw [if_neg (fun h => b1 h.2), if_pos ⟨by omega, b2⟩]
      have cD : Hid (∀ w', Calls Tryd.prog 26 #[.string ((s.extract 1 s.size)), .int .i64 10] w' fun e w'' => e = .returned (.int .i64 R) ∧ w'' = w') := fun w' => digits_10 _ (by first | (rw [ByteArray.size_extract]; omega) | omega) w' R hR
      clear hR
      go_enter Tryd.func11, Tryd.ntmps11
      go_wp2_with fail
      refine (cD.out _).mono ?_
      rintro e w1 ⟨rfl, rfl⟩
      clear cD
      by_cases hneg : R < 0
      · have HE : Hid (numOf s = (0, false)) := by show _ = _; rw [HN.out, finN_neg hneg]
        clear HN
        go_wp2_with fail
        go_ret2
        exact ⟨⟨_, _, rfl, HE.out⟩, rfl⟩
      have HE : Hid (numOf s = (R, true)) := by show _ = _; rw [HN.out, finN_pos hneg]
      clear HN
      have hpos : 0 ≤ R := by omega
      clear hneg
      go_wp2_with fail
      go_ret2
      exact ⟨⟨_, _, rfl, HE.out⟩, rfl⟩
    have b1 : ¬ bt s 0 = 45 := by rw [← bt_get s 0 h0]; exact s1
    have q1 : (((s[0]'h0).toNat : Int) == 45) = false := by rw [beq_eq_false_iff_ne]; omega
    have q2 : (((s[0]'h0).toNat : Int) == 43) = false := by rw [beq_eq_false_iff_ne]; omega
    have b2 : ¬ bt s 0 = 43 := by rw [← bt_get s 0 h0]; exact s2
    obtain ⟨R, hR⟩ : ∃ R, digV s 10 = R := ⟨_, rfl⟩
    have hRl := digV_le s 10
    rw [hR] at hRl
    obtain ⟨hR1, hR2⟩ := hRl
    have HN : Hid (numOf s = finN R) := by show _ = _; rw [← hR]; unfold numOf; rw [if_neg (fun h => e1 h.2), if_neg (fun h => e2 h.2)]; rw [if_neg (fun h => b1 h.2), if_neg (fun h => b2 h.2)]
    have cD : Hid (∀ w', Calls Tryd.prog 26 #[.string (s), .int .i64 10] w' fun e w'' => e = .returned (.int .i64 R) ∧ w'' = w') := fun w' => digits_10 _ (by first | (rw [ByteArray.size_extract]; omega) | omega) w' R hR
    clear hR
    go_enter Tryd.func11, Tryd.ntmps11
    go_wp2_with fail
    refine (cD.out _).mono ?_
    rintro e w1 ⟨rfl, rfl⟩
    clear cD
    by_cases hneg : R < 0
    · have HE : Hid (numOf s = (0, false)) := by show _ = _; rw [HN.out, finN_neg hneg]
      clear HN
      go_wp2_with fail
      go_ret2
      exact ⟨⟨_, _, rfl, HE.out⟩, rfl⟩
    have HE : Hid (numOf s = (R, true)) := by show _ = _; rw [HN.out, finN_pos hneg]
    clear HN
    have hpos : 0 ≤ R := by omega
    clear hneg
    go_wp2_with fail
    go_ret2
    exact ⟨⟨_, _, rfl, HE.out⟩, rfl⟩
  by_cases h1 : 1 < s.size
  · have h0 : 0 < s.size := by omega
    by_cases s1 : (s[0]'h0).toNat = 45
    · have b1 : bt s 0 = 45 := by rw [← bt_get s 0 h0]; exact s1
      have q1 : (((s[0]'h0).toNat : Int) == 45) = true := by rw [s1]; rfl
      obtain ⟨R, hR⟩ : ∃ R, digV (s.extract 1 s.size) 10 = R := ⟨_, rfl⟩
      have hRl := digV_le (s.extract 1 s.size) 10
      rw [hR] at hRl
      obtain ⟨hR1, hR2⟩ := hRl
      have HN : Hid (numOf s = negN R) := by show _ = _; rw [← hR]; unfold numOf; rw [if_neg (fun h => h2 h.1), if_neg (fun h => h2 h.1)]; rw [if_pos ⟨by omega, b1⟩]
      have cD : Hid (∀ w', Calls Tryd.prog 26 #[.string ((s.extract 1 s.size)), .int .i64 10] w' fun e w'' => e = .returned (.int .i64 R) ∧ w'' = w') := fun w' => digits_10 _ (by first | (rw [ByteArray.size_extract]; omega) | omega) w' R hR
      clear hR
      go_enter Tryd.func11, Tryd.ntmps11
      go_wp2_with fail
      refine (cD.out _).mono ?_
      rintro e w1 ⟨rfl, rfl⟩
      clear cD
      by_cases hneg : R < 0
      · have HE : Hid (numOf s = (0, false)) := by show _ = _; rw [HN.out, negN_neg hneg]
        clear HN
        go_wp2_with fail
        go_ret2
        exact ⟨⟨_, _, rfl, HE.out⟩, rfl⟩
      have HE : Hid (numOf s = (-R, true)) := by show _ = _; rw [HN.out, negN_pos hneg]
      clear HN
      have hpos : 0 ≤ R := by omega
      clear hneg
      go_wp2_with fail
      go_ret2
      exact ⟨⟨_, _, rfl, HE.out⟩, rfl⟩
    by_cases s2 : (s[0]'h0).toNat = 43
    · have b1 : ¬ bt s 0 = 45 := by rw [← bt_get s 0 h0]; exact s1
      have q1 : (((s[0]'h0).toNat : Int) == 45) = false := by rw [beq_eq_false_iff_ne]; omega
      have q2 : (((s[0]'h0).toNat : Int) == 43) = true := by rw [s2]; rfl
      have b2 : bt s 0 = 43 := by rw [← bt_get s 0 h0]; exact s2
      obtain ⟨R, hR⟩ : ∃ R, digV (s.extract 1 s.size) 10 = R := ⟨_, rfl⟩
      have hRl := digV_le (s.extract 1 s.size) 10
      rw [hR] at hRl
      obtain ⟨hR1, hR2⟩ := hRl
      have HN : Hid (numOf s = finN R) := by show _ = _; rw [← hR]; unfold numOf; rw [if_neg (fun h => h2 h.1), if_neg (fun h => h2 h.1)]; rw [if_neg (fun h => b1 h.2), if_pos ⟨by omega, b2⟩]
      have cD : Hid (∀ w', Calls Tryd.prog 26 #[.string ((s.extract 1 s.size)), .int .i64 10] w' fun e w'' => e = .returned (.int .i64 R) ∧ w'' = w') := fun w' => digits_10 _ (by first | (rw [ByteArray.size_extract]; omega) | omega) w' R hR
      clear hR
      go_enter Tryd.func11, Tryd.ntmps11
      go_wp2_with fail
      refine (cD.out _).mono ?_
      rintro e w1 ⟨rfl, rfl⟩
      clear cD
      by_cases hneg : R < 0
      · have HE : Hid (numOf s = (0, false)) := by show _ = _; rw [HN.out, finN_neg hneg]
        clear HN
        go_wp2_with fail
        go_ret2
        exact ⟨⟨_, _, rfl, HE.out⟩, rfl⟩
      have HE : Hid (numOf s = (R, true)) := by show _ = _; rw [HN.out, finN_pos hneg]
      clear HN
      have hpos : 0 ≤ R := by omega
      clear hneg
      go_wp2_with fail
      go_ret2
      exact ⟨⟨_, _, rfl, HE.out⟩, rfl⟩
    have b1 : ¬ bt s 0 = 45 := by rw [← bt_get s 0 h0]; exact s1
    have q1 : (((s[0]'h0).toNat : Int) == 45) = false := by rw [beq_eq_false_iff_ne]; omega
    have q2 : (((s[0]'h0).toNat : Int) == 43) = false := by rw [beq_eq_false_iff_ne]; omega
    have b2 : ¬ bt s 0 = 43 := by rw [← bt_get s 0 h0]; exact s2
    obtain ⟨R, hR⟩ : ∃ R, digV s 10 = R := ⟨_, rfl⟩
    have hRl := digV_le s 10
    rw [hR] at hRl
    obtain ⟨hR1, hR2⟩ := hRl
    have HN : Hid (numOf s = finN R) := by show _ = _; rw [← hR]; unfold numOf; rw [if_neg (fun h => h2 h.1), if_neg (fun h => h2 h.1)]; rw [if_neg (fun h => b1 h.2), if_neg (fun h => b2 h.2)]
    have cD : Hid (∀ w', Calls Tryd.prog 26 #[.string (s), .int .i64 10] w' fun e w'' => e = .returned (.int .i64 R) ∧ w'' = w') := fun w' => digits_10 _ (by first | (rw [ByteArray.size_extract]; omega) | omega) w' R hR
    clear hR
    go_enter Tryd.func11, Tryd.ntmps11
    go_wp2_with fail
    refine (cD.out _).mono ?_
    rintro e w1 ⟨rfl, rfl⟩
    clear cD
    by_cases hneg : R < 0
    · have HE : Hid (numOf s = (0, false)) := by show _ = _; rw [HN.out, finN_neg hneg]
      clear HN
      go_wp2_with fail
      go_ret2
      exact ⟨⟨_, _, rfl, HE.out⟩, rfl⟩
    have HE : Hid (numOf s = (R, true)) := by show _ = _; rw [HN.out, finN_pos hneg]
    clear HN
    have hpos : 0 ≤ R := by omega
    clear hneg
    go_wp2_with fail
    go_ret2
    exact ⟨⟨_, _, rfl, HE.out⟩, rfl⟩
  obtain ⟨R, hR⟩ : ∃ R, digV s 10 = R := ⟨_, rfl⟩
  have hRl := digV_le s 10
  rw [hR] at hRl
  obtain ⟨hR1, hR2⟩ := hRl
  have HN : Hid (numOf s = finN R) := by show _ = _; rw [← hR]; unfold numOf; rw [if_neg (fun h => h2 h.1), if_neg (fun h => h2 h.1), if_neg (fun h => h1 h.1), if_neg (fun h => h1 h.1)]
  have cD : Hid (∀ w', Calls Tryd.prog 26 #[.string (s), .int .i64 10] w' fun e w'' => e = .returned (.int .i64 R) ∧ w'' = w') := fun w' => digits_10 _ (by first | (rw [ByteArray.size_extract]; omega) | omega) w' R hR
  clear hR
  go_enter Tryd.func11, Tryd.ntmps11
  go_wp2_with fail
  refine (cD.out _).mono ?_
  rintro e w1 ⟨rfl, rfl⟩
  clear cD
  by_cases hneg : R < 0
  · have HE : Hid (numOf s = (0, false)) := by show _ = _; rw [HN.out, finN_neg hneg]
    clear HN
    go_wp2_with fail
    go_ret2
    exact ⟨⟨_, _, rfl, HE.out⟩, rfl⟩
  have HE : Hid (numOf s = (R, true)) := by show _ = _; rw [HN.out, finN_pos hneg]
  clear HN
  have hpos : 0 ≤ R := by omega
  clear hneg
  go_wp2_with fail
  go_ret2
  exact ⟨⟨_, _, rfl, HE.out⟩, rfl⟩
/-- What is asked of impl.IntOf. -/
def ImplIntOf : Prop := ∀ (s : ByteArray) (w : World), s.size ≤ 1048576 → Calls Tryd.prog 8 #[.string s] w fun e w' => NumP s e ∧ Below w.heap.size w w'
set_option maxHeartbeats 1000000 in
theorem law_intOf (HI : ImplIntOf) (s : ByteArray) (hs : s.size ≤ 4611686018427387903) (w : World) :
    Calls Tryd.prog 4 #[.string s] w fun e w' => e = .returned (.bool true) ∧ Below w.heap.size w w' := by
  by_cases hl : 1048576 < s.size
  · go_enter Tryd.func4, Tryd.ntmps4
    go_wp2_with fail
    go_ret
    exact ⟨rfl, Below.refl _ _⟩
  have hl' : s.size ≤ 1048576 := by omega
  have cI : Hid (∀ w', Calls Tryd.prog 8 #[.string s] w' fun e w'' => NumP s e ∧ Below w'.heap.size w' w'') := fun w' => HI s w' hl'
  clear HI hl'
  go_enter Tryd.func4, Tryd.ntmps4
  go_wp2_with fail
  refine (spec_intOf s hs _).mono ?_
  rintro e w1 ⟨⟨r, b, rfl, hr⟩, rfl⟩
  have HR : Hid (numOf s = (r, b)) := hr
  clear hr
  go_wp2_with fail
  refine (cI.out _).mono ?_
  rintro e w2 ⟨⟨r', b', rfl, hr⟩, hb2⟩
  rw [HR.out] at hr
  obtain ⟨rfl, rfl⟩ := Prod.mk.inj hr
  have hrr : (r != r) = false := by simp
  have hbb : (b != b) = false := by simp
  have HB : Hid (Below w1.heap.size w1 w2) := hb2
  clear hb2 HR cI
  go_wp2_with fail
  go_ret
  exact ⟨rfl, HB.out⟩
end Go.Proofs.YtlfamgdmmenonaaDoor
