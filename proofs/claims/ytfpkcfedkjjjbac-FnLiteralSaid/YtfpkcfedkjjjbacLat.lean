/- spec.LineAt and impl.LineAt both answer the beginning of the line, Col how far that is; nothing that was there is changed. -/
import Derived.Test.YtfpkcfedkjjjbacLn
import Derived.Test.YtfpkcfedkjjjbacProg
import Derived.WalkKit
import Derived.ProofKit
import Derived.WalkLawsBesides
import Derived.WalkSpells
import Derived.Below
import Derived.Shelf.Strings.LastIndex
namespace Go.Proofs
open Go.Shelf
def Try.lays149_ren : Go.Shelf.Ren := ⟨fun | 149 => 77 | 222 => 80 | n => n, fun | 3 => 3 | 4 => 4 | 5 => 5 | 9 => 9 | n => n, fun | n => n⟩
theorem Try.lays149 : Go.Proofs.Lays.n149 Try.prog Try.lays149_ren := {
  mixed := by kernel_rfl
  f149 := Try.func77.trans (congrArg some (by kernel_rfl))
  f222 := Try.func80.trans (congrArg some (by kernel_rfl))
  t3 := Try.underlying3
  a3 := Try.isAgg3
  z3 := Try.sizeOf3
  v3 := Try.zeroValue3
  t4 := Try.underlying4
  a4 := Try.isAgg4
  z4 := Try.sizeOf4
  v4 := Try.zeroValue4
  t5 := Try.underlying5
  a5 := Try.isAgg5
  z5 := Try.sizeOf5
  v5 := Try.zeroValue5
  t9 := Try.underlying9
  a9 := Try.isAgg9
  z9 := Try.sizeOf9
  v9 := Try.zeroValue9 }

end Go.Proofs
namespace Go.Proofs.Ytfpkcfedkjjjbac
open Go.ChangeShapes Go.WideShapes Go.ChangeAt Go.RowKit
theorem ret_int {k : IntKind} {a b : Int} (h : a = b) : Ending.returned (.int k a) = .returned (.int k b) := by rw [h]
theorem ret_bool {a b : Bool} (h : a = b) : Ending.returned (.bool a) = .returned (.bool b) := by rw [h]
theorem bring_any (s : ByteArray) (p : Int) (w : World) (hs : s.size ≤ mx) :
    Calls Try.prog 25 #[.string s, .int .i64 p] w fun e w' => e = .returned (.int .i64 (cl s.size p)) ∧ w' = w := by
  unfold mx at hs
  go_enter Try.func25, Try.ntmps25
  go_wp2
  all_goals
    go_ret
    refine ⟨ret_int ?_, rfl⟩
    unfold cl
    first | omega | (split at * <;> omega) | (trace_state; done)
theorem lastIndex_any (s : ByteArray) (w : World) (hs : s.size ≤ mx) :
    Calls Try.prog 77 #[.string s, .int .u8 10] w fun e w' => e = .returned (.int .i64 (Lib.lastIndexByte s 10)) ∧ w' = w :=
  Any.strings_LastIndexByte Try.lays149 s 10 (by unfold mx at hs; omega) w
theorem line_any (s : ByteArray) (p : Int) (w : World) (hs : s.size ≤ mx) :
    Calls Try.prog 65 #[.string s, .int .i64 p] w fun e w' => e = .returned (.int .i64 (lnb s (cl s.size p))) ∧ w' = w := by
  have hcl := cl_le s.size p
  have hz : (s.extract 0 (cl s.size p)).size = cl s.size p := by rw [ByteArray.size_extract]; omega
  have HL : Hid (Lib.lastIndexByte (s.extract 0 (cl s.size p)) 10 + 1 = (lnb s (cl s.size p) : Int)) := by
    show Lib.lastIndexByte (s.extract 0 (cl s.size p)) 10 + 1 = (lnb s (cl s.size p) : Int)
    unfold Lib.lastIndexByte
    rw [hz]
    exact lastIdx_lnb s _ _ (Nat.le_refl _) hcl
  have hll := lnb_le s (cl s.size p)
  obtain ⟨z, hzv⟩ : ∃ z, Lib.lastIndexByte (s.extract 0 (cl s.size p)) 10 = z := ⟨_, rfl⟩
  have hz1 : -1 ≤ z ∧ z < cl s.size p := by have := HL.out; rw [hzv] at this; omega
  have HV : Hid (Lib.lastIndexByte (s.extract 0 (cl s.size p)) 10 = z) := hzv
  have hmx : (s.extract 0 (cl s.size p)).size ≤ mx := by omega
  obtain ⟨hz1, hz2⟩ := hz1
  clear hzv hz hll
  have hs' := hs
  unfold mx at hs'
  go_enter Try.func65, Try.ntmps65
  go_wp2_with fail
  refine (bring_any _ _ _ hs).mono ?_
  rintro e w1 ⟨rfl, rfl⟩
  go_wp2_with fail
  refine (lastIndex_any _ _ hmx).mono ?_
  rintro e w2 ⟨rfl, rfl⟩
  rw [HV.out]
  go_wp2_with fail
  go_ret
  exact ⟨ret_int (by rw [← HL.out, HV.out]), rfl⟩
end Go.Proofs.Ytfpkcfedkjjjbac
