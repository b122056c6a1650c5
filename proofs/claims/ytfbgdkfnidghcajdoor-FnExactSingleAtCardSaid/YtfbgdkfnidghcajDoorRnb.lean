/- spec.RuneBytes and impl.RuneBytes both answer the bytes 'rb r' of the rune r, and change nothing that was there. -/
import Derived.Test.YtfbgdkfnidghcajDoorProg
import Derived.WalkKit
import Derived.ProofKit
import Derived.WalkLawsBesides
import Derived.WalkSpells
import Derived.Below
namespace Go.Proofs.YtfbgdkfnidghcajDoor
open Go.ChangeShapes Go.WideShapes Go.ChangeAt Go.RowKit

def rb (r : Int) : ByteArray := if Utf8.valid r then Utf8.encode r else ⟨#[]⟩

theorem rb_bad (r : Int) (h : r < 0 ∨ 1114111 < r ∨ (55296 ≤ r ∧ r ≤ 57343)) : rb r = ⟨#[]⟩ := by
  unfold rb; rw [if_neg]; simp [Utf8.valid]; omega
theorem rb_good (r : Int) (h0 : 0 ≤ r) (h1 : r ≤ 1114111) (h2 : r < 55296 ∨ 57343 < r) : rb r = Utf8.encode r := by
  unfold rb; rw [if_pos]; simp [Utf8.valid]; omega
theorem valid_of (r : Int) (h0 : 0 ≤ r) (h1 : r ≤ 1114111) (h2 : r < 55296 ∨ 57343 < r) : Utf8.valid r = true := by
  simp [Utf8.valid]; omega
theorem rb_1 (r : Int) (h0 : 0 ≤ r) (h1 : r < 128) : rb r = strOfNums [r] := by
  rw [rb_good r h0 (by omega) (by omega)]
  unfold Utf8.encode; simp only [valid_of r h0 (by omega) (by omega), if_true]
  rw [if_pos (by omega)]; rfl
theorem rb_2 (r : Int) (h0 : 128 ≤ r) (h1 : r < 2048) : rb r = strOfNums [192 + r / 64, 128 + r % 64] := by
  rw [rb_good r (by omega) (by omega) (by omega)]
  unfold Utf8.encode; simp only [valid_of r (by omega) (by omega) (by omega), if_true]
  rw [if_neg (by omega), if_pos (by omega)]
  have e1 : (192 + r / 64).toNat = 0xC0 + r.toNat / 64 := by omega
  have e2 : (128 + r % 64).toNat = 0x80 + r.toNat % 64 := by omega
  simp only [strOfNums, List.map_cons, List.map_nil, e1, e2]
theorem rb_3 (r : Int) (h0 : 2048 ≤ r) (h1 : r < 65536) (h2 : r < 55296 ∨ 57343 < r) : rb r = strOfNums [224 + r / 4096, 128 + r / 64 % 64, 128 + r % 64] := by
  rw [rb_good r (by omega) (by omega) (by omega)]
  unfold Utf8.encode; simp only [valid_of r (by omega) (by omega) (by omega), if_true]
  rw [if_neg (by omega), if_neg (by omega), if_pos (by omega)]
  have e1 : (224 + r / 4096).toNat = 0xE0 + r.toNat / 4096 := by omega
  have e2 : (128 + r / 64 % 64).toNat = 0x80 + r.toNat / 64 % 64 := by omega
  have e3 : (128 + r % 64).toNat = 0x80 + r.toNat % 64 := by omega
  simp only [strOfNums, List.map_cons, List.map_nil, e1, e2, e3]
theorem rb_4 (r : Int) (h0 : 65536 ≤ r) (h1 : r ≤ 1114111) : rb r = strOfNums [240 + r / 262144, 128 + r / 4096 % 64, 128 + r / 64 % 64, 128 + r % 64] := by
  rw [rb_good r (by omega) (by omega) (by omega)]
  unfold Utf8.encode; simp only [valid_of r (by omega) (by omega) (by omega), if_true]
  rw [if_neg (by omega), if_neg (by omega), if_neg (by omega)]
  have e0 : (240 + r / 262144).toNat = 0xF0 + r.toNat / 262144 := by omega
  have e1 : (128 + r / 4096 % 64).toNat = 0x80 + r.toNat / 4096 % 64 := by omega
  have e2 : (128 + r / 64 % 64).toNat = 0x80 + r.toNat / 64 % 64 := by omega
  have e3 : (128 + r % 64).toNat = 0x80 + r.toNat % 64 := by omega
  simp only [strOfNums, List.map_cons, List.map_nil, e0, e1, e2, e3]

theorem conv1 (w : World) (a : Int) : (convert 27 9 (.slice (some ⟨w.heap.size, 0, none⟩) 1 1)).run Tryd.prog (w.alloc (.cells #[.int .u8 a] 5)) = .ok (.string (strOfNums [a])) (w.alloc (.cells #[.int .u8 a] 5)) :=
  run_convert_bytes_arg _ 27 5 Tryd.underlying27 Tryd.underlying5 _ 0 1 1 [a] rfl (fun i hi => by
    match i, hi with
    | 0, _ => simp) 9 Tryd.underlying9
theorem conv2 (w : World) (a b : Int) : (convert 27 9 (.slice (some ⟨w.heap.size, 0, none⟩) 2 2)).run Tryd.prog (w.alloc (.cells #[.int .u8 a, .int .u8 b] 5)) = .ok (.string (strOfNums [a, b])) (w.alloc (.cells #[.int .u8 a, .int .u8 b] 5)) :=
  run_convert_bytes_arg _ 27 5 Tryd.underlying27 Tryd.underlying5 _ 0 2 2 [a, b] rfl (fun i hi => by
    match i, hi with
    | 0, _ => simp
    | 1, _ => simp) 9 Tryd.underlying9
theorem conv3 (w : World) (a b c : Int) : (convert 27 9 (.slice (some ⟨w.heap.size, 0, none⟩) 3 3)).run Tryd.prog (w.alloc (.cells #[.int .u8 a, .int .u8 b, .int .u8 c] 5)) = .ok (.string (strOfNums [a, b, c])) (w.alloc (.cells #[.int .u8 a, .int .u8 b, .int .u8 c] 5)) :=
  run_convert_bytes_arg _ 27 5 Tryd.underlying27 Tryd.underlying5 _ 0 3 3 [a, b, c] rfl (fun i hi => by
    match i, hi with
    | 0, _ => simp
    | 1, _ => simp
    | 2, _ => simp) 9 Tryd.underlying9
theorem conv4 (w : World) (a b c d : Int) : (convert 27 9 (.slice (some ⟨w.heap.size, 0, none⟩) 4 4)).run Tryd.prog (w.alloc (.cells #[.int .u8 a, .int .u8 b, .int .u8 c, .int .u8 d] 5)) = .ok (.string (strOfNums [a, b, c, d])) (w.alloc (.cells #[.int .u8 a, .int .u8 b, .int .u8 c, .int .u8 d] 5)) :=
  run_convert_bytes_arg _ 27 5 Tryd.underlying27 Tryd.underlying5 _ 0 4 4 [a, b, c, d] rfl (fun i hi => by
    match i, hi with
    | 0, _ => simp
    | 1, _ => simp
    | 2, _ => simp
    | 3, _ => simp) 9 Tryd.underlying9

theorem ret_strR {a b : ByteArray} (h : a = b) : Ending.returned (.string a) = .returned (.string b) := by rw [h]

end Go.Proofs.YtfbgdkfnidghcajDoor
