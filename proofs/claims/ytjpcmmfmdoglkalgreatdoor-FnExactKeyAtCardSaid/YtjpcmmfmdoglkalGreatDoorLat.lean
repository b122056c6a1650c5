/- spec.LineAt and impl.LineAt both answer the beginning of the line, Col how far that is; nothing that was there is changed. -/
import Derived.Test.YtjpcmmfmdoglkalGreatDoorLn
import Derived.Test.YtjpcmmfmdoglkalGreatDoorProg
import Derived.WalkKit
import Derived.ProofKit
import Derived.WalkLawsBesides
import Derived.WalkSpells
import Derived.Below
import Derived.Shelf.Strings.LastIndex
namespace Go.Proofs
open Go.Shelf
def Tryz.lays149_ren : Go.Shelf.Ren := ⟨fun | 149 => 134 | 222 => 175 | n => n, fun | 3 => 3 | 4 => 4 | 5 => 5 | 9 => 9 | n => n, fun | n => n⟩
theorem Tryz.lays149 : Go.Proofs.Lays.n149 Tryz.prog Tryz.lays149_ren := {
  mixed := by kernel_rfl
  f149 := Tryz.func134.trans (congrArg some (by kernel_rfl))
  f222 := Tryz.func175.trans (congrArg some (by kernel_rfl))
  t3 := Tryz.underlying3
  a3 := Tryz.isAgg3
  z3 := Tryz.sizeOf3
  v3 := Tryz.zeroValue3
  t4 := Tryz.underlying4
  a4 := Tryz.isAgg4
  z4 := Tryz.sizeOf4
  v4 := Tryz.zeroValue4
  t5 := Tryz.underlying5
  a5 := Tryz.isAgg5
  z5 := Tryz.sizeOf5
  v5 := Tryz.zeroValue5
  t9 := Tryz.underlying9
  a9 := Tryz.isAgg9
  z9 := Tryz.sizeOf9
  v9 := Tryz.zeroValue9 }

end Go.Proofs
namespace Go.Proofs.YtjpcmmfmdoglkalGreatDoor
open Go.ChangeShapes Go.WideShapes Go.ChangeAt Go.RowKit
theorem ret_int {k : IntKind} {a b : Int} (h : a = b) : Ending.returned (.int k a) = .returned (.int k b) := by rw [h]
theorem ret_bool {a b : Bool} (h : a = b) : Ending.returned (.bool a) = .returned (.bool b) := by rw [h]
theorem l01P_any (s : ByteArray) (p : Int) (w : World) (hs : s.size ≤ mx) :
    Calls Tryz.prog 15 #[.string s, .int .i64 p] w fun e w' => e = .returned (.int .i64 (cl s.size p)) ∧ w' = w := by
  unfold mx at hs
  by_cases h : p < 0
  · go_enter Tryz.func15, Tryz.ntmps15
    go_wp2
    go_ret
    exact ⟨ret_int (by unfold cl; omega), rfl⟩
  · by_cases h2 : (s.size : Int) < p
    · go_enter Tryz.func15, Tryz.ntmps15
      go_wp2
      go_ret
      exact ⟨ret_int (by unfold cl; omega), rfl⟩
    · go_enter Tryz.func15, Tryz.ntmps15
      go_wp2
      go_ret
      exact ⟨ret_int (by unfold cl; omega), rfl⟩
theorem bring_any (s : ByteArray) (p : Int) (w : World) (hs : s.size ≤ mx) :
    Calls Tryz.prog 34 #[.string s, .int .i64 p] w fun e w' => e = .returned (.int .i64 (cl s.size p)) ∧ w' = w := by
  unfold mx at hs
  go_enter Tryz.func34, Tryz.ntmps34
  go_wp2
  all_goals
    go_ret
    refine ⟨ret_int ?_, rfl⟩
    unfold cl
    first | omega | (split at * <;> omega) | (trace_state; done)
theorem lastIndex_any (s : ByteArray) (w : World) (hs : s.size ≤ mx) :
    Calls Tryz.prog 134 #[.string s, .int .u8 10] w fun e w' => e = .returned (.int .i64 (Lib.lastIndexByte s 10)) ∧ w' = w :=
  Any.strings_LastIndexByte Tryz.lays149 s 10 (by unfold mx at hs; omega) w
set_option maxHeartbeats 1000000 in
theorem spec_line (s : ByteArray) (p : Int) (w : World) (hs : s.size ≤ mx) :
    Calls Tryz.prog 81 #[.string s, .int .i64 p] w fun e w' => e = .returned (.int .i64 (lnb s (cl s.size p))) ∧ w' = w := by
  have hcl := cl_le s.size p
  unfold mx at hs
  go_enter Tryz.func81, Tryz.ntmps81
  go_wp2_with fail
  refine (l01P_any _ _ _ hs).mono ?_
  rintro e w1 ⟨rfl, rfl⟩
  generalize hq : cl s.size p = q at *
  have HQ : Hid (cl s.size p = q) := hq
  clear hq
  go_wp2_with fail
  go_loop [1] (fun t => ∃ k : Nat, k ≤ s.size ∧ t = .int .i64 k ∧ Hid (lnb s k = lnb s q)) (fun t => (intOf t).toNat)
  case atStart => exact ⟨q, hcl, rfl, rfl⟩
  case round =>
    obtain ⟨k, hk, rfl, HL⟩ := hrel
    by_cases h0 : k = 0
    · subst h0
      have HE : Hid (lnb s q = 0) := by show lnb s q = 0; rw [← HL.out]; rfl
      go_wp2_with fail
      go_ret
      exact ⟨ret_int (by rw [HQ.out, HE.out]; rfl), rfl⟩
    · obtain ⟨j, rfl⟩ : ∃ j, k = j + 1 := ⟨k - 1, by omega⟩
      have hj : j < s.size := by omega
      have hb := bt_get s j hj
      by_cases h10 : bt s j = 10
      · have HE : Hid (lnb s q = j + 1) := by show lnb s q = j + 1; rw [← HL.out]; unfold lnb; rw [if_pos h10]
        have hc : (s[j]'hj).toNat = 10 := by rw [hb]; exact h10
        clear hb h10 h0
        go_wp2_with fail
        go_ret
        exact ⟨ret_int (by rw [HQ.out, HE.out]; rfl), rfl⟩
      · have HE : Hid (lnb s j = lnb s q) := by show lnb s j = lnb s q; rw [← HL.out]; conv => rhs; unfold lnb; rw [if_neg h10]
        have hc : (((s[j]'hj).toNat : Int) == 10) = false := by rw [hb, beq_eq_false_iff_ne]; omega
        clear hb h10 h0
        go_wp2_with fail
        go_round
        case rel => exact ⟨j, by omega, by go_num, HE⟩
        case measure => simp [intOf]
theorem line_any (s : ByteArray) (p : Int) (w : World) (hs : s.size ≤ mx) :
    Calls Tryz.prog 90 #[.string s, .int .i64 p] w fun e w' => e = .returned (.int .i64 (lnb s (cl s.size p))) ∧ w' = w := by
  have hcl := cl_le s.size p
  have hz : (s.extract 0 (cl s.size p)).size = cl s.size p := by rw [ByteArray.size_extract]; omega
  have HL : Hid (Lib.lastIndexByte (s.extract 0 (cl s.size p)) 10 + 1 = (lnb s (cl s.size p) : Int)) := by
    show Lib.lastIndexByte (s.extract 0 (cl s.size p)) 10 + 1 = (lnb s (cl s.size p) : Int)
    unfold Lib.lastIndexByte
    rw [hz]
    exact lastIdx_lnb s _ _ (Nat.le_refl _) hcl
  have hll := lnb_le s (cl s.size p)
  obtain ⟨z, hzv⟩ : ∃ z, Lib.lastIndexByte (s.extract 0 (cl s.size p)) 10 = z := ⟨_, rfl⟩
  have hz1 : -1 ≤ z ∧ z < cl s.size p := by have := HL.out; rw [hzv] at this; omega
  have HV : Hid (Lib.lastIndexByte (s.extract 0 (cl s.size p)) 10 = z) := hzv
  have hmx : (s.extract 0 (cl s.size p)).size ≤ mx := by omega
  obtain ⟨hz1, hz2⟩ := hz1
  clear hzv hz hll
  have hs' := hs
  unfold mx at hs'
  go_enter Tryz.func90, Tryz.ntmps90
  go_wp2_with fail
  refine (bring_any _ _ _ hs).mono ?_
  rintro e w1 ⟨rfl, rfl⟩
  go_wp2_with fail
  refine (lastIndex_any _ _ hmx).mono ?_
  rintro e w2 ⟨rfl, rfl⟩
  rw [HV.out]
  go_wp2_with fail
  go_ret
  exact ⟨ret_int (by rw [← HL.out, HV.out]), rfl⟩
end Go.Proofs.YtjpcmmfmdoglkalGreatDoor
