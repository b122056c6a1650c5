/- The text that marks a place: the contract of the laws' markText. -/
import Derived.Test.YtgaibajkegfpoaaDoorProg
import Derived.WalkKit
import Derived.ProofKit
import Derived.WalkLawsBesides
import Derived.WalkSpells
import Derived.Below
import Derived.Deep.RegionWith
import Derived.Lib.LaidTab
import Derived.Lib.SmallJoins
namespace Go.Proofs.YtgaibajkegfpoaaDoor
open Go.ChangeShapes Go.WideShapes Go.ChangeAt Go.RowKit
theorem conv1m (w : World) (a : Int) : (convert 86 9 (.slice (some ⟨w.heap.size, 0, none⟩) 1 1)).run Tryd.prog (w.alloc (.cells #[.int .u8 a] 5)) = .ok (.string (strOfNums [a])) (w.alloc (.cells #[.int .u8 a] 5)) :=
  run_convert_bytes_arg _ 86 5 Tryd.underlying86 Tryd.underlying5 _ 0 1 1 [a] rfl (fun i hi => by
    match i, hi with
    | 0, _ => simp) 9 Tryd.underlying9
theorem ret_strm {a b : ByteArray} (h : a = b) : Ending.returned (.string a) = .returned (.string b) := by rw [h]
/-- The digits of a number, ahead of a text. -/
def mtGo : Nat → Nat → ByteArray → ByteArray
  | 0, _, o => o
  | f + 1, k, o => if k = 0 then o else mtGo f (k / 10) (strOfNums [((48 + k % 10 : Nat) : Int)] ++ o)
def mT (k : Nat) : ByteArray := ⟨#[109]⟩ ++ mtGo (k + 1) k ByteArray.empty
theorem mt_zero (f : Nat) (o : ByteArray) : mtGo f 0 o = o := by cases f <;> rfl
theorem mt_step (f k : Nat) (o : ByteArray) (h : k ≠ 0) : mtGo (f + 1) k o = mtGo f (k / 10) (strOfNums [((48 + k % 10 : Nat) : Int)] ++ o) := by rw [mtGo, if_neg h]
set_option maxHeartbeats 2000000 in
theorem markText_any (k : Nat) (w : World) (h0 : 0 < k) (h1 : k ≤ 100000000) :
    Calls Tryd.prog 29 #[.int .i64 (k : Int)] w fun e w' => e = .returned (.string (mT k)) ∧ Below w.heap.size w w' := by
  obtain ⟨X, hX⟩ : ∃ X, mtGo (k + 1) k ByteArray.empty = X := ⟨_, rfl⟩
  have HX : Hid (mtGo (k + 1) k ByteArray.empty = X) := hX
  have HM : Hid (mT k = ⟨#[109]⟩ ++ X) := by show mT k = _; unfold mT; rw [hX]
  have h0' : ¬ (k : Int) ≤ 0 := by omega
  clear hX
  go_enter Tryd.func29, Tryd.ntmps29
  go_wp2_with fail
  go_loopw [0, 3] (fun kv ov wr => ∃ (j f : Nat) (o : ByteArray), kv = .int .i64 (j : Int) ∧ ov = .string o ∧ j ≤ 100000000 ∧ o.size + j ≤ 100000000 ∧ Hid (j < f) ∧ Hid (mtGo f j o = X) ∧ Hid (Below w.heap.size w wr)) (fun kv _ _ => (intOf kv).toNat)
  case atStart => exact ⟨k, k + 1, ByteArray.empty, rfl, rfl, h1, by show 0 + k ≤ _; omega, by show k < k + 1; omega, HX, Below.refl _ _⟩
  case round =>
    obtain ⟨j, f, o, rfl, rfl, hj, ho, HF, HG, HB⟩ := hrel
    by_cases hz : j = 0
    · subst hz
      have HE : Hid (o = X) := by show o = X; rw [← HG.out, mt_zero]
      have ho' : o.size ≤ 100000000 := by omega
      clear ho
      go_wp2_with fail
      go_ret
      exact ⟨ret_strm (by rw [HM.out, HE.out]), HB.out⟩
    · have hz' : (0 : Int) < (j : Int) := by omega
      obtain ⟨f, rfl⟩ : ∃ f', f = f' + 1 := ⟨f - 1, by have := HF.out; omega⟩
      have HG2 : Hid (mtGo f (j / 10) (strOfNums [((48 + j % 10 : Nat) : Int)] ++ o) = X) := by show _ = X; rw [← HG.out, mt_step _ _ _ hz]
      have hc := conv1m wr
      have hsz : (strOfNums [((48 + j % 10 : Nat) : Int)] ++ o).size = o.size + 1 := by
        rw [ByteArray.size_append, strOfNums_size]; simp; omega
      have HSZ : Hid ((strOfNums [((48 + j % 10 : Nat) : Int)] ++ o).size = o.size + 1) := hsz
      have hadd : ∀ (w : World) (d : Int), (Op.stringOp .add (strOfNums [d]) o).run Tryd.prog w = .ok (.string (strOfNums [d] ++ o)) w := fun w d =>
        run_string_add_sum w _ _ (by rw [strOfNums_size]; simp; omega)
      have HF2 : Hid (j / 10 < f) := by have := HF.out; show j / 10 < f; omega
      have HBD : Hid (j / 10 ≤ 100000000 ∧ o.size + 1 + j / 10 ≤ 100000000) := by show _ ∧ _; omega
      clear hsz HG HF ho
      go_wp2_with fail
      go_roundw
      case rel => exact ⟨j / 10, f, strOfNums [((48 + j % 10 : Nat) : Int)] ++ o, by go_num, rfl, HBD.out.1, by rw [HSZ.out]; exact HBD.out.2, HF2, HG2, HB.out.alloc HB.out.size _⟩
      case measure => simp [intOf]; omega
end Go.Proofs.YtgaibajkegfpoaaDoor
