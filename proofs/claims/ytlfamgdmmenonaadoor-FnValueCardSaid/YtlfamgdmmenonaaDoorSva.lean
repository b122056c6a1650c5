/- spec.l14Digits answers what the digits of a base are worth. -/
import Derived.Test.YtlfamgdmmenonaaDoorPva
import Derived.OwnWalk
import Derived.Test.YtlfamgdmmenonaaDoorProg
namespace Go.Proofs.YtlfamgdmmenonaaDoor
open Go.ChangeShapes Go.WideShapes Go.ChangeAt Go.RowKit
theorem ret_iv {a c : Int} (h : a = c) : Ending.returned (.int .i64 a) = .returned (.int .i64 c) := by rw [h]
set_option maxHeartbeats 4000000 in
theorem digits_8 (s : ByteArray) (hm : s.size ≤ 4611686018427387903) (w : World) (R : Int) (hR : digV s 8 = R) :
    Calls Tryd.prog 26 #[.string s, .int .i64 8] w fun e w' => e = .returned (.int .i64 R) ∧ w' = w := by
  have HR : Hid (digG s 8 (s.size - 0) 0 0 = R) := hR
  clear hR
  go_enter Tryd.func26, Tryd.ntmps26
  go_wp2_with fail
  go_loop [5, 6] (fun nv iv => ∃ (k n : Nat), k ≤ s.size ∧ iv = .int .i64 (k : Int) ∧ nv = .int .i64 (n : Int) ∧ n ≤ 9007199254740991 ∧ Hid (digG s 8 (s.size - k) k n = R)) (fun _ iv => s.size - (intOf iv).toNat)
  case atStart => exact ⟨0, 0, Nat.zero_le _, rfl, rfl, by omega, HR⟩
  case round =>
    clear HR
    obtain ⟨k, n, hk, rfl, rfl, hn, HG⟩ := hrel
    by_cases hlt : k < s.size
    · by_cases hu47 : (s[k]'hlt).toNat ≤ 47
      · have HE : Hid (R = -1) := by
          show R = -1
          rw [← HG.out]
          exact digG_bad hlt (by rw [← bt_get s k hlt]; unfold dig; rw [if_neg (by omega), if_neg (by omega), if_neg (by omega)]; omega)
        go_wp2_with fail
        go_ret
        exact ⟨ret_iv HE.out.symm, rfl⟩
      by_cases hu57 : (s[k]'hlt).toNat ≤ 57
      · have l48 : 48 ≤ (s[k]'hlt).toNat := by omega
        have HD : Hid (dig (bt s k) = (s[k]'hlt).toNat - 48) := by
          show dig (bt s k) = _
          rw [← bt_get s k hlt]; unfold dig
          rw [if_pos (by omega)]
        by_cases hb : 56 ≤ (s[k]'hlt).toNat
        · have HE : Hid (R = -1) := by
            show R = -1
            rw [← HG.out]
            exact digG_bad hlt (by rw [HD.out]; omega)
          go_wp2_with fail
          go_ret
          exact ⟨ret_iv HE.out.symm, rfl⟩
        by_cases ho : 9007199254740991 < n * 8 + ((s[k]'hlt).toNat - 48)
        · have HE : Hid (R = -1) := by
            show R = -1
            rw [← HG.out]
            exact digG_big hlt (by rw [HD.out]; omega) (by rw [HD.out]; omega)
          go_wp2_with fail
          go_ret
          exact ⟨ret_iv HE.out.symm, rfl⟩
        have HS : Hid (digG s 8 (s.size - (k + 1)) (k + 1) (n * 8 + ((s[k]'hlt).toNat - 48)) = R) := by
          show _ = R
          rw [← HG.out, digG_step hlt (by rw [HD.out]; omega) (by rw [HD.out]; omega), HD.out]
        clear HG HD
        go_wp2_with fail
        go_round
        case rel => exact ⟨k + 1, n * 8 + ((s[k]'hlt).toNat - 48), by omega, by go_num, congrArg (Value.int .i64) (by omega), by omega, HS⟩
        case measure => simp [intOf]; omega
      by_cases hu64 : (s[k]'hlt).toNat ≤ 64
      · have HE : Hid (R = -1) := by
          show R = -1
          rw [← HG.out]
          exact digG_bad hlt (by rw [← bt_get s k hlt]; unfold dig; rw [if_neg (by omega), if_neg (by omega), if_neg (by omega)]; omega)
        go_wp2_with fail
        go_ret
        exact ⟨ret_iv HE.out.symm, rfl⟩
      by_cases hu70 : (s[k]'hlt).toNat ≤ 70
      · have l65 : 65 ≤ (s[k]'hlt).toNat := by omega
        have HD : Hid (dig (bt s k) = (s[k]'hlt).toNat - 55) := by
          show dig (bt s k) = _
          rw [← bt_get s k hlt]; unfold dig
          rw [if_neg (by omega), if_neg (by omega), if_pos (by omega)]
        have HE : Hid (R = -1) := by
          show R = -1
          rw [← HG.out]
          exact digG_bad hlt (by rw [HD.out]; omega)
        go_wp2_with fail
        go_ret
        exact ⟨ret_iv HE.out.symm, rfl⟩
      by_cases hu96 : (s[k]'hlt).toNat ≤ 96
      · have HE : Hid (R = -1) := by
          show R = -1
          rw [← HG.out]
          exact digG_bad hlt (by rw [← bt_get s k hlt]; unfold dig; rw [if_neg (by omega), if_neg (by omega), if_neg (by omega)]; omega)
        go_wp2_with fail
        go_ret
        exact ⟨ret_iv HE.out.symm, rfl⟩
      by_cases hu102 : (s[k]'hlt).toNat ≤ 102
      · have l97 : 97 ≤ (s[k]'hlt).toNat := by omega
        have HD : Hid (dig (bt s k) = (s[k]'hlt).toNat - 87) := by
          show dig (bt s k) = _
          rw [← bt_get s k hlt]; unfold dig
          rw [if_neg (by omega), if_pos (by omega)]
        have HE : Hid (R = -1) := by
          show R = -1
          rw [← HG.out]
          exact digG_bad hlt (by rw [HD.out]; omega)
        go_wp2_with fail
        go_ret
        exact ⟨ret_iv HE.out.symm, rfl⟩
      have HE : Hid (R = -1) := by
        show R = -1
        rw [← HG.out]
        exact digG_bad hlt (by rw [← bt_get s k hlt]; unfold dig; rw [if_neg (by omega), if_neg (by omega), if_neg (by omega)]; omega)
      go_wp2_with fail
      go_ret
      exact ⟨ret_iv HE.out.symm, rfl⟩
    · have hke : s.size ≤ k := by omega
      by_cases h0 : s.size = 0
      · have HE : Hid (R = -1) := by
          show R = -1
          rw [← HG.out, digG_end hke, if_pos h0]
        have hs : s = ⟨#[]⟩ := by
          cases s with
          | mk d => congr 1; exact Array.eq_empty_of_size_eq_zero h0
        subst hs
        clear HG
        go_wp2_with fail
        go_ret
        exact ⟨ret_iv HE.out.symm, rfl⟩
      · have HE : Hid (R = (n : Int)) := by
          show R = _
          rw [← HG.out, digG_end hke, if_neg h0]
        have hne : (s.toList == ([] : List UInt8)) = false := by
          rw [beq_eq_false_iff_ne]
          intro h
          apply h0
          rw [ByteArray.toList_eq] at h
          have := congrArg List.length h
          simpa using this
        have hem : s.toList.isEmpty = false := by
          cases h : s.toList with
          | nil => rw [h] at hne; simp at hne
          | cons a l => rfl
        clear HG
        go_wp2_with fail
        go_ret
        exact ⟨ret_iv HE.out.symm, rfl⟩
set_option maxHeartbeats 4000000 in
theorem digits_10 (s : ByteArray) (hm : s.size ≤ 4611686018427387903) (w : World) (R : Int) (hR : digV s 10 = R) :
    Calls Tryd.prog 26 #[.string s, .int .i64 10] w fun e w' => e = .returned (.int .i64 R) ∧ w' = w := by
  have HR : Hid (digG s 10 (s.size - 0) 0 0 = R) := hR
  clear hR
  go_enter Tryd.func26, Tryd.ntmps26
  go_wp2_with fail
  go_loop [5, 6] (fun nv iv => ∃ (k n : Nat), k ≤ s.size ∧ iv = .int .i64 (k : Int) ∧ nv = .int .i64 (n : Int) ∧ n ≤ 9007199254740991 ∧ Hid (digG s 10 (s.size - k) k n = R)) (fun _ iv => s.size - (intOf iv).toNat)
  case atStart => exact ⟨0, 0, Nat.zero_le _, rfl, rfl, by omega, HR⟩
  case round =>
    clear HR
    obtain ⟨k, n, hk, rfl, rfl, hn, HG⟩ := hrel
    by_cases hlt : k < s.size
    · by_cases hu47 : (s[k]'hlt).toNat ≤ 47
      · have HE : Hid (R = -1) := by
          show R = -1
          rw [← HG.out]
          exact digG_bad hlt (by rw [← bt_get s k hlt]; unfold dig; rw [if_neg (by omega), if_neg (by omega), if_neg (by omega)]; omega)
        go_wp2_with fail
        go_ret
        exact ⟨ret_iv HE.out.symm, rfl⟩
      by_cases hu57 : (s[k]'hlt).toNat ≤ 57
      · have l48 : 48 ≤ (s[k]'hlt).toNat := by omega
        have HD : Hid (dig (bt s k) = (s[k]'hlt).toNat - 48) := by
          show dig (bt s k) = _
          rw [← bt_get s k hlt]; unfold dig
          rw [if_pos (by omega)]
        by_cases ho : 9007199254740991 < n * 10 + ((s[k]'hlt).toNat - 48)
        · have HE : Hid (R = -1) := by
            show R = -1
            rw [← HG.out]
            exact digG_big hlt (by rw [HD.out]; omega) (by rw [HD.out]; omega)
          go_wp2_with fail
          go_ret
          exact ⟨ret_iv HE.out.symm, rfl⟩
        have HS : Hid (digG s 10 (s.size - (k + 1)) (k + 1) (n * 10 + ((s[k]'hlt).toNat - 48)) = R) := by
          show _ = R
          rw [← HG.out, digG_step hlt (by rw [HD.out]; omega) (by rw [HD.out]; omega), HD.out]
        clear HG HD
        go_wp2_with fail
        go_round
        case rel => exact ⟨k + 1, n * 10 + ((s[k]'hlt).toNat - 48), by omega, by go_num, congrArg (Value.int .i64) (by omega), by omega, HS⟩
        case measure => simp [intOf]; omega
      by_cases hu64 : (s[k]'hlt).toNat ≤ 64
      · have HE : Hid (R = -1) := by
          show R = -1
          rw [← HG.out]
          exact digG_bad hlt (by rw [← bt_get s k hlt]; unfold dig; rw [if_neg (by omega), if_neg (by omega), if_neg (by omega)]; omega)
        go_wp2_with fail
        go_ret
        exact ⟨ret_iv HE.out.symm, rfl⟩
      by_cases hu70 : (s[k]'hlt).toNat ≤ 70
      · have l65 : 65 ≤ (s[k]'hlt).toNat := by omega
        have HD : Hid (dig (bt s k) = (s[k]'hlt).toNat - 55) := by
          show dig (bt s k) = _
          rw [← bt_get s k hlt]; unfold dig
          rw [if_neg (by omega), if_neg (by omega), if_pos (by omega)]
        have HE : Hid (R = -1) := by
          show R = -1
          rw [← HG.out]
          exact digG_bad hlt (by rw [HD.out]; omega)
        go_wp2_with fail
        go_ret
        exact ⟨ret_iv HE.out.symm, rfl⟩
      by_cases hu96 : (s[k]'hlt).toNat ≤ 96
      · have HE : Hid (R = -1) := by
          show R = -1
          rw [← HG.out]
          exact digG_bad hlt (by rw [← bt_get s k hlt]; unfold dig; rw [if_neg (by omega), if_neg (by omega), if_neg (by omega)]; omega)
        go_wp2_with fail
        go_ret
        exact ⟨ret_iv HE.out.symm, rfl⟩
      by_cases hu102 : (s[k]'hlt).toNat ≤ 102
      · have l97 : 97 ≤ (s[k]'hlt).toNat := by omega
        have HD : Hid (dig (bt s k) = (s[k]'hlt).toNat - 87) := by
          show dig (bt s k) = _
          rw [← bt_get s k hlt]; unfold dig
          rw [if_neg (by omega), if_pos (by omega)]
        have HE : Hid (R = -1) := by
          show R = -1
          rw [← HG.out]
          exact digG_bad hlt (by rw [HD.out]; omega)
        go_wp2_with fail
        go_ret
        exact ⟨ret_iv HE.out.symm, rfl⟩
      have HE : Hid (R = -1) := by
        show R = -1
        rw [← HG.out]
        exact digG_bad hlt (by rw [← bt_get s k hlt]; unfold dig; rw [if_neg (by omega), if_neg (by omega), if_neg (by omega)]; omega)
      go_wp2_with fail
      go_ret
      exact ⟨ret_iv HE.out.symm, rfl⟩
    · have hke : s.size ≤ k := by omega
      by_cases h0 : s.size = 0
      · have HE : Hid (R = -1) := by
          show R = -1
          rw [← HG.out, digG_end hke, if_pos h0]
        have hs : s = ⟨#[]⟩ := by
          cases s with
          | mk d => congr 1; exact Array.eq_empty_of_size_eq_zero h0
        subst hs
        clear HG
        go_wp2_with fail
        go_ret
        exact ⟨ret_iv HE.out.symm, rfl⟩
      · have HE : Hid (R = (n : Int)) := by
          show R = _
          rw [← HG.out, digG_end hke, if_neg h0]
        have hne : (s.toList == ([] : List UInt8)) = false := by
          rw [beq_eq_false_iff_ne]
          intro h
          apply h0
          rw [ByteArray.toList_eq] at h
          have := congrArg List.length h
          simpa using this
        have hem : s.toList.isEmpty = false := by
          cases h : s.toList with
          | nil => rw [h] at hne; simp at hne
          | cons a l => rfl
        clear HG
        go_wp2_with fail
        go_ret
        exact ⟨ret_iv HE.out.symm, rfl⟩
set_option maxHeartbeats 4000000 in
theorem digits_16 (s : ByteArray) (hm : s.size ≤ 4611686018427387903) (w : World) (R : Int) (hR : digV s 16 = R) :
    Calls Tryd.prog 26 #[.string s, .int .i64 16] w fun e w' => e = .returned (.int .i64 R) ∧ w' = w := by
  have HR : Hid (digG s 16 (s.size - 0) 0 0 = R) := hR
  clear hR
  go_enter Tryd.func26, Tryd.ntmps26
  go_wp2_with fail
  go_loop [5, 6] (fun nv iv => ∃ (k n : Nat), k ≤ s.size ∧ iv = .int .i64 (k : Int) ∧ nv = .int .i64 (n : Int) ∧ n ≤ 9007199254740991 ∧ Hid (digG s 16 (s.size - k) k n = R)) (fun _ iv => s.size - (intOf iv).toNat)
  case atStart => exact ⟨0, 0, Nat.zero_le _, rfl, rfl, by omega, HR⟩
  case round =>
    clear HR
    obtain ⟨k, n, hk, rfl, rfl, hn, HG⟩ := hrel
    by_cases hlt : k < s.size
    · by_cases hu47 : (s[k]'hlt).toNat ≤ 47
      · have HE : Hid (R = -1) := by
          show R = -1
          rw [← HG.out]
          exact digG_bad hlt (by rw [← bt_get s k hlt]; unfold dig; rw [if_neg (by omega), if_neg (by omega), if_neg (by omega)]; omega)
        go_wp2_with fail
        go_ret
        exact ⟨ret_iv HE.out.symm, rfl⟩
      by_cases hu57 : (s[k]'hlt).toNat ≤ 57
      · have l48 : 48 ≤ (s[k]'hlt).toNat := by omega
        have HD : Hid (dig (bt s k) = (s[k]'hlt).toNat - 48) := by
          show dig (bt s k) = _
          rw [← bt_get s k hlt]; unfold dig
          rw [if_pos (by omega)]
        by_cases ho : 9007199254740991 < n * 16 + ((s[k]'hlt).toNat - 48)
        · have HE : Hid (R = -1) := by
            show R = -1
            rw [← HG.out]
            exact digG_big hlt (by rw [HD.out]; omega) (by rw [HD.out]; omega)
          go_wp2_with fail
          go_ret
          exact ⟨ret_iv HE.out.symm, rfl⟩
        have HS : Hid (digG s 16 (s.size - (k + 1)) (k + 1) (n * 16 + ((s[k]'hlt).toNat - 48)) = R) := by
          show _ = R
          rw [← HG.out, digG_step hlt (by rw [HD.out]; omega) (by rw [HD.out]; omega), HD.out]
        clear HG HD
        go_wp2_with fail
        go_round
        case rel => exact ⟨k + 1, n * 16 + ((s[k]'hlt).toNat - 48), by omega, by go_num, congrArg (Value.int .i64) (by omega), by omega, HS⟩
        case measure => simp [intOf]; omega
      by_cases hu64 : (s[k]'hlt).toNat ≤ 64
      · have HE : Hid (R = -1) := by
          show R = -1
          rw [← HG.out]
          exact digG_bad hlt (by rw [← bt_get s k hlt]; unfold dig; rw [if_neg (by omega), if_neg (by omega), if_neg (by omega)]; omega)
        go_wp2_with fail
        go_ret
        exact ⟨ret_iv HE.out.symm, rfl⟩
      by_cases hu70 : (s[k]'hlt).toNat ≤ 70
      · have l65 : 65 ≤ (s[k]'hlt).toNat := by omega
        have HD : Hid (dig (bt s k) = (s[k]'hlt).toNat - 55) := by
          show dig (bt s k) = _
          rw [← bt_get s k hlt]; unfold dig
          rw [if_neg (by omega), if_neg (by omega), if_pos (by omega)]
        by_cases ho : 9007199254740991 < n * 16 + ((s[k]'hlt).toNat - 55)
        · have HE : Hid (R = -1) := by
            show R = -1
            rw [← HG.out]
            exact digG_big hlt (by rw [HD.out]; omega) (by rw [HD.out]; omega)
          go_wp2_with fail
          go_ret
          exact ⟨ret_iv HE.out.symm, rfl⟩
        have HS : Hid (digG s 16 (s.size - (k + 1)) (k + 1) (n * 16 + ((s[k]'hlt).toNat - 55)) = R) := by
          show _ = R
          rw [← HG.out, digG_step hlt (by rw [HD.out]; omega) (by rw [HD.out]; omega), HD.out]
        clear HG HD
        go_wp2_with fail
        go_round
        case rel => exact ⟨k + 1, n * 16 + ((s[k]'hlt).toNat - 55), by omega, by go_num, congrArg (Value.int .i64) (by omega), by omega, HS⟩
        case measure => simp [intOf]; omega
      by_cases hu96 : (s[k]'hlt).toNat ≤ 96
      · have HE : Hid (R = -1) := by
          show R = -1
          rw [← HG.out]
          exact digG_bad hlt (by rw [← bt_get s k hlt]; unfold dig; rw [if_neg (by omega), if_neg (by omega), if_neg (by omega)]; omega)
        go_wp2_with fail
        go_ret
        exact ⟨ret_iv HE.out.symm, rfl⟩
      by_cases hu102 : (s[k]'hlt).toNat ≤ 102
      · have l97 : 97 ≤ (s[k]'hlt).toNat := by omega
        have HD : Hid (dig (bt s k) = (s[k]'hlt).toNat - 87) := by
          show dig (bt s k) = _
          rw [← bt_get s k hlt]; unfold dig
          rw [if_neg (by omega), if_pos (by omega)]
        by_cases ho : 9007199254740991 < n * 16 + ((s[k]'hlt).toNat - 87)
        · have HE : Hid (R = -1) := by
            show R = -1
            rw [← HG.out]
            exact digG_big hlt (by rw [HD.out]; omega) (by rw [HD.out]; omega)
          go_wp2_with fail
          go_ret
          exact ⟨ret_iv HE.out.symm, rfl⟩
        have HS : Hid (digG s 16 (s.size - (k + 1)) (k + 1) (n * 16 + ((s[k]'hlt).toNat - 87)) = R) := by
          show _ = R
          rw [← HG.out, digG_step hlt (by rw [HD.out]; omega) (by rw [HD.out]; omega), HD.out]
        clear HG HD
        go_wp2_with fail
        go_round
        case rel => exact ⟨k + 1, n * 16 + ((s[k]'hlt).toNat - 87), by omega, by go_num, congrArg (Value.int .i64) (by omega), by omega, HS⟩
        case measure => simp [intOf]; omega
      have HE : Hid (R = -1) := by
        show R = -1
        rw [← HG.out]
        exact digG_bad hlt (by rw [← bt_get s k hlt]; unfold dig; rw [if_neg (by omega), if_neg (by omega), if_neg (by omega)]; omega)
      go_wp2_with fail
      go_ret
      exact ⟨ret_iv HE.out.symm, rfl⟩
    · have hke : s.size ≤ k := by omega
      by_cases h0 : s.size = 0
      · have HE : Hid (R = -1) := by
          show R = -1
          rw [← HG.out, digG_end hke, if_pos h0]
        have hs : s = ⟨#[]⟩ := by
          cases s with
          | mk d => congr 1; exact Array.eq_empty_of_size_eq_zero h0
        subst hs
        clear HG
        go_wp2_with fail
        go_ret
        exact ⟨ret_iv HE.out.symm, rfl⟩
      · have HE : Hid (R = (n : Int)) := by
          show R = _
          rw [← HG.out, digG_end hke, if_neg h0]
        have hne : (s.toList == ([] : List UInt8)) = false := by
          rw [beq_eq_false_iff_ne]
          intro h
          apply h0
          rw [ByteArray.toList_eq] at h
          have := congrArg List.length h
          simpa using this
        have hem : s.toList.isEmpty = false := by
          cases h : s.toList with
          | nil => rw [h] at hne; simp at hne
          | cons a l => rfl
        clear HG
        go_wp2_with fail
        go_ret
        exact ⟨ret_iv HE.out.symm, rfl⟩
end Go.Proofs.YtlfamgdmmenonaaDoor
