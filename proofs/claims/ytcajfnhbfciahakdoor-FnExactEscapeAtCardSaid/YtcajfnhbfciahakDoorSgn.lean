/- impl.signNumber and impl.digitsBehind. -/
import Derived.Test.YtcajfnhbfciahakDoorEsc
namespace Go.Proofs.YtcajfnhbfciahakDoor
open Go.ChangeShapes Go.WideShapes Go.ChangeAt Go.RowKit
theorem escT_has {x : Nat} (h : escT x ≠ none) : x = 48 ∨ x = 97 ∨ x = 98 ∨ x = 116 ∨ x = 9 ∨ x = 110 ∨ x = 118 ∨ x = 102 ∨ x = 114 ∨ x = 101 ∨ x = 32 ∨ x = 34 ∨ x = 47 ∨ x = 92 ∨ x = 78 ∨ x = 95 ∨ x = 76 ∨ x = 80 := by
  refine Classical.byContradiction fun hc => h ?_
  unfold escT
  rw [if_neg (by omega), if_neg (by omega), if_neg (by omega), if_neg (by omega), if_neg (by omega), if_neg (by omega), if_neg (by omega), if_neg (by omega), if_neg (by omega), if_neg (by omega), if_neg (by omega), if_neg (by omega), if_neg (by omega), if_neg (by omega), if_neg (by omega), if_neg (by omega), if_neg (by omega), if_neg (by omega)]
theorem escT_not {x : Nat} (h : escT x = none) : x ≠ 48 ∧ x ≠ 97 ∧ x ≠ 98 ∧ x ≠ 116 ∧ x ≠ 9 ∧ x ≠ 110 ∧ x ≠ 118 ∧ x ≠ 102 ∧ x ≠ 114 ∧ x ≠ 101 ∧ x ≠ 32 ∧ x ≠ 34 ∧ x ≠ 47 ∧ x ≠ 92 ∧ x ≠ 78 ∧ x ≠ 95 ∧ x ≠ 76 ∧ x ≠ 80 := by
  unfold escT at h
  refine ⟨?_, ?_, ?_, ?_, ?_, ?_, ?_, ?_, ?_, ?_, ?_, ?_, ?_, ?_, ?_, ?_, ?_, ?_⟩ <;> (rintro rfl; simp at h)
set_option maxHeartbeats 4000000 in
theorem signNumber_any (y : Nat) (w : World) (r : Int) (hr : snN y = r) : Calls Tryd.prog 13 #[.int .u8 (y : Int)] w fun e w' => e = .returned (.int .i64 r) ∧ w' = w := by
  by_cases h : escT y = none
  · have HO : Hid (r = -1) := by show r = -1; rw [← hr]; unfold snN; rw [h]
    obtain ⟨n48, n97, n98, n116, n9, n110, n118, n102, n114, n101, n32, n34, n47, n92, n78, n95, n76, n80⟩ := escT_not h
    have t48 : ((y : Int) == 48) = false := by rw [beq_eq_false_iff_ne]; omega
    have t97 : ((y : Int) == 97) = false := by rw [beq_eq_false_iff_ne]; omega
    have t98 : ((y : Int) == 98) = false := by rw [beq_eq_false_iff_ne]; omega
    have t116 : ((y : Int) == 116) = false := by rw [beq_eq_false_iff_ne]; omega
    have t9 : ((y : Int) == 9) = false := by rw [beq_eq_false_iff_ne]; omega
    have t110 : ((y : Int) == 110) = false := by rw [beq_eq_false_iff_ne]; omega
    have t118 : ((y : Int) == 118) = false := by rw [beq_eq_false_iff_ne]; omega
    have t102 : ((y : Int) == 102) = false := by rw [beq_eq_false_iff_ne]; omega
    have t114 : ((y : Int) == 114) = false := by rw [beq_eq_false_iff_ne]; omega
    have t101 : ((y : Int) == 101) = false := by rw [beq_eq_false_iff_ne]; omega
    have t32 : ((y : Int) == 32) = false := by rw [beq_eq_false_iff_ne]; omega
    have t34 : ((y : Int) == 34) = false := by rw [beq_eq_false_iff_ne]; omega
    have t47 : ((y : Int) == 47) = false := by rw [beq_eq_false_iff_ne]; omega
    have t92 : ((y : Int) == 92) = false := by rw [beq_eq_false_iff_ne]; omega
    have t78 : ((y : Int) == 78) = false := by rw [beq_eq_false_iff_ne]; omega
    have t95 : ((y : Int) == 95) = false := by rw [beq_eq_false_iff_ne]; omega
    have t76 : ((y : Int) == 76) = false := by rw [beq_eq_false_iff_ne]; omega
    have t80 : ((y : Int) == 80) = false := by rw [beq_eq_false_iff_ne]; omega
    clear h hr n48 n97 n98 n116 n9 n110 n118 n102 n114 n101 n32 n34 n47 n92 n78 n95 n76 n80
    go_enter Tryd.func13, Tryd.ntmps13
    go_wp2_with fail
    go_ret
    exact ⟨ret_int HO.out.symm, rfl⟩
  · rcases escT_has h with rfl | rfl | rfl | rfl | rfl | rfl | rfl | rfl | rfl | rfl | rfl | rfl | rfl | rfl | rfl | rfl | rfl | rfl
    · obtain rfl : r = 0 := by rw [← hr]; rfl
      clear h hr
      show Calls Tryd.prog 13 #[.int .u8 48] w _
      go_enter Tryd.func13, Tryd.ntmps13
      go_wp2_with fail
      go_ret
      exact ⟨rfl, rfl⟩
    · obtain rfl : r = 7 := by rw [← hr]; rfl
      clear h hr
      show Calls Tryd.prog 13 #[.int .u8 97] w _
      go_enter Tryd.func13, Tryd.ntmps13
      go_wp2_with fail
      go_ret
      exact ⟨rfl, rfl⟩
    · obtain rfl : r = 8 := by rw [← hr]; rfl
      clear h hr
      show Calls Tryd.prog 13 #[.int .u8 98] w _
      go_enter Tryd.func13, Tryd.ntmps13
      go_wp2_with fail
      go_ret
      exact ⟨rfl, rfl⟩
    · obtain rfl : r = 9 := by rw [← hr]; rfl
      clear h hr
      show Calls Tryd.prog 13 #[.int .u8 116] w _
      go_enter Tryd.func13, Tryd.ntmps13
      go_wp2_with fail
      go_ret
      exact ⟨rfl, rfl⟩
    · obtain rfl : r = 9 := by rw [← hr]; rfl
      clear h hr
      show Calls Tryd.prog 13 #[.int .u8 9] w _
      go_enter Tryd.func13, Tryd.ntmps13
      go_wp2_with fail
      go_ret
      exact ⟨rfl, rfl⟩
    · obtain rfl : r = 10 := by rw [← hr]; rfl
      clear h hr
      show Calls Tryd.prog 13 #[.int .u8 110] w _
      go_enter Tryd.func13, Tryd.ntmps13
      go_wp2_with fail
      go_ret
      exact ⟨rfl, rfl⟩
    · obtain rfl : r = 11 := by rw [← hr]; rfl
      clear h hr
      show Calls Tryd.prog 13 #[.int .u8 118] w _
      go_enter Tryd.func13, Tryd.ntmps13
      go_wp2_with fail
      go_ret
      exact ⟨rfl, rfl⟩
    · obtain rfl : r = 12 := by rw [← hr]; rfl
      clear h hr
      show Calls Tryd.prog 13 #[.int .u8 102] w _
      go_enter Tryd.func13, Tryd.ntmps13
      go_wp2_with fail
      go_ret
      exact ⟨rfl, rfl⟩
    · obtain rfl : r = 13 := by rw [← hr]; rfl
      clear h hr
      show Calls Tryd.prog 13 #[.int .u8 114] w _
      go_enter Tryd.func13, Tryd.ntmps13
      go_wp2_with fail
      go_ret
      exact ⟨rfl, rfl⟩
    · obtain rfl : r = 27 := by rw [← hr]; rfl
      clear h hr
      show Calls Tryd.prog 13 #[.int .u8 101] w _
      go_enter Tryd.func13, Tryd.ntmps13
      go_wp2_with fail
      go_ret
      exact ⟨rfl, rfl⟩
    · obtain rfl : r = 32 := by rw [← hr]; rfl
      clear h hr
      show Calls Tryd.prog 13 #[.int .u8 32] w _
      go_enter Tryd.func13, Tryd.ntmps13
      go_wp2_with fail
      go_ret
      exact ⟨rfl, rfl⟩
    · obtain rfl : r = 34 := by rw [← hr]; rfl
      clear h hr
      show Calls Tryd.prog 13 #[.int .u8 34] w _
      go_enter Tryd.func13, Tryd.ntmps13
      go_wp2_with fail
      go_ret
      exact ⟨rfl, rfl⟩
    · obtain rfl : r = 47 := by rw [← hr]; rfl
      clear h hr
      show Calls Tryd.prog 13 #[.int .u8 47] w _
      go_enter Tryd.func13, Tryd.ntmps13
      go_wp2_with fail
      go_ret
      exact ⟨rfl, rfl⟩
    · obtain rfl : r = 92 := by rw [← hr]; rfl
      clear h hr
      show Calls Tryd.prog 13 #[.int .u8 92] w _
      go_enter Tryd.func13, Tryd.ntmps13
      go_wp2_with fail
      go_ret
      exact ⟨rfl, rfl⟩
    · obtain rfl : r = 133 := by rw [← hr]; rfl
      clear h hr
      show Calls Tryd.prog 13 #[.int .u8 78] w _
      go_enter Tryd.func13, Tryd.ntmps13
      go_wp2_with fail
      go_ret
      exact ⟨rfl, rfl⟩
    · obtain rfl : r = 160 := by rw [← hr]; rfl
      clear h hr
      show Calls Tryd.prog 13 #[.int .u8 95] w _
      go_enter Tryd.func13, Tryd.ntmps13
      go_wp2_with fail
      go_ret
      exact ⟨rfl, rfl⟩
    · obtain rfl : r = 8232 := by rw [← hr]; rfl
      clear h hr
      show Calls Tryd.prog 13 #[.int .u8 76] w _
      go_enter Tryd.func13, Tryd.ntmps13
      go_wp2_with fail
      go_ret
      exact ⟨rfl, rfl⟩
    · obtain rfl : r = 8233 := by rw [← hr]; rfl
      clear h hr
      show Calls Tryd.prog 13 #[.int .u8 80] w _
      go_enter Tryd.func13, Tryd.ntmps13
      go_wp2_with fail
      go_ret
      exact ⟨rfl, rfl⟩
theorem digits_any (y : Nat) (w : World) (r : Nat) (hr : escN y = r) : Calls Tryd.prog 14 #[.int .u8 (y : Int)] w fun e w' => e = .returned (.int .i64 (r : Int)) ∧ w' = w := by
  by_cases h1 : y = 120
  · subst h1
    obtain rfl : r = 2 := by rw [← hr]; rfl
    clear hr
    show Calls Tryd.prog 14 #[.int .u8 120] w _
    go_enter Tryd.func14, Tryd.ntmps14
    go_wp2_with fail
    go_ret
    exact ⟨rfl, rfl⟩
  · by_cases h2 : y = 117
    · subst h2
      obtain rfl : r = 4 := by rw [← hr]; rfl
      clear hr h1
      show Calls Tryd.prog 14 #[.int .u8 117] w _
      go_enter Tryd.func14, Tryd.ntmps14
      go_wp2_with fail
      go_ret
      exact ⟨rfl, rfl⟩
    · by_cases h3 : y = 85
      · subst h3
        obtain rfl : r = 8 := by rw [← hr]; rfl
        clear hr h1 h2
        show Calls Tryd.prog 14 #[.int .u8 85] w _
        go_enter Tryd.func14, Tryd.ntmps14
        go_wp2_with fail
        go_ret
        exact ⟨rfl, rfl⟩
      · obtain rfl : r = 0 := by rw [← hr]; unfold escN; rw [if_neg h1, if_neg h2, if_neg h3]
        have t1 : ((y : Int) == 120) = false := by rw [beq_eq_false_iff_ne]; omega
        have t2 : ((y : Int) == 117) = false := by rw [beq_eq_false_iff_ne]; omega
        have t3 : ((y : Int) == 85) = false := by rw [beq_eq_false_iff_ne]; omega
        clear hr h1 h2 h3
        go_enter Tryd.func14, Tryd.ntmps14
        go_wp2_with fail
        go_ret
        exact ⟨rfl, rfl⟩
end Go.Proofs.YtcajfnhbfciahakDoor
