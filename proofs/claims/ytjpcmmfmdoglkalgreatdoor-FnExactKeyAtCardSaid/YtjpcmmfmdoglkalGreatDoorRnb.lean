/- spec.RuneBytes and impl.RuneBytes both answer the bytes 'rb r' of the rune r, and change nothing that was there. -/
import Derived.Test.YtjpcmmfmdoglkalGreatDoorProg
import Derived.WalkKit
import Derived.ProofKit
import Derived.WalkLawsBesides
import Derived.WalkSpells
import Derived.Below
namespace Go.Proofs.YtjpcmmfmdoglkalGreatDoor
open Go.ChangeShapes Go.WideShapes Go.ChangeAt Go.RowKit

def rb (r : Int) : ByteArray := if Utf8.valid r then Utf8.encode r else ⟨#[]⟩

theorem rb_bad (r : Int) (h : r < 0 ∨ 1114111 < r ∨ (55296 ≤ r ∧ r ≤ 57343)) : rb r = ⟨#[]⟩ := by
  unfold rb; rw [if_neg]; simp [Utf8.valid]; omega
theorem rb_good (r : Int) (h0 : 0 ≤ r) (h1 : r ≤ 1114111) (h2 : r < 55296 ∨ 57343 < r) : rb r = Utf8.encode r := by
  unfold rb; rw [if_pos]; simp [Utf8.valid]; omega
theorem valid_of (r : Int) (h0 : 0 ≤ r) (h1 : r ≤ 1114111) (h2 : r < 55296 ∨ 57343 < r) : Utf8.valid r = true := by
  simp [Utf8.valid]; omega
theorem rb_1 (r : Int) (h0 : 0 ≤ r) (h1 : r < 128) : rb r = strOfNums [r] := by
  rw [rb_good r h0 (by omega) (by omega)]
  unfold Utf8.encode; simp only [valid_of r h0 (by omega) (by omega), if_true]
  rw [if_pos (by omega)]; rfl
theorem rb_2 (r : Int) (h0 : 128 ≤ r) (h1 : r < 2048) : rb r = strOfNums [192 + r / 64, 128 + r % 64] := by
  rw [rb_good r (by omega) (by omega) (by omega)]
  unfold Utf8.encode; simp only [valid_of r (by omega) (by omega) (by omega), if_true]
  rw [if_neg (by omega), if_pos (by omega)]
  have e1 : (192 + r / 64).toNat = 0xC0 + r.toNat / 64 := by omega
  have e2 : (128 + r % 64).toNat = 0x80 + r.toNat % 64 := by omega
  simp only [strOfNums, List.map_cons, List.map_nil, e1, e2]
theorem rb_3 (r : Int) (h0 : 2048 ≤ r) (h1 : r < 65536) (h2 : r < 55296 ∨ 57343 < r) : rb r = strOfNums [224 + r / 4096, 128 + r / 64 % 64, 128 + r % 64] := by
  rw [rb_good r (by omega) (by omega) (by omega)]
  unfold Utf8.encode; simp only [valid_of r (by omega) (by omega) (by omega), if_true]
  rw [if_neg (by omega), if_neg (by omega), if_pos (by omega)]
  have e1 : (224 + r / 4096).toNat = 0xE0 + r.toNat / 4096 := by omega
  have e2 : (128 + r / 64 % 64).toNat = 0x80 + r.toNat / 64 % 64 := by omega
  have e3 : (128 + r % 64).toNat = 0x80 + r.toNat % 64 := by omega
  simp only [strOfNums, List.map_cons, List.map_nil, e1, e2, e3]
theorem rb_4 (r : Int) (h0 : 65536 ≤ r) (h1 : r ≤ 1114111) : rb r = strOfNums [240 + r / 262144, 128 + r / 4096 % 64, 128 + r / 64 % 64, 128 + r % 64] := by
  rw [rb_good r (by omega) (by omega) (by omega)]
  unfold Utf8.encode; simp only [valid_of r (by omega) (by omega) (by omega), if_true]
  rw [if_neg (by omega), if_neg (by omega), if_neg (by omega)]
  have e0 : (240 + r / 262144).toNat = 0xF0 + r.toNat / 262144 := by omega
  have e1 : (128 + r / 4096 % 64).toNat = 0x80 + r.toNat / 4096 % 64 := by omega
  have e2 : (128 + r / 64 % 64).toNat = 0x80 + r.toNat / 64 % 64 := by omega
  have e3 : (128 + r % 64).toNat = 0x80 + r.toNat % 64 := by omega
  simp only [strOfNums, List.map_cons, List.map_nil, e0, e1, e2, e3]

theorem conv1 (w : World) (a : Int) : (convert 89 9 (.slice (some ⟨w.heap.size, 0, none⟩) 1 1)).run Tryz.prog (w.alloc (.cells #[.int .u8 a] 5)) = .ok (.string (strOfNums [a])) (w.alloc (.cells #[.int .u8 a] 5)) :=
  run_convert_bytes_arg _ 89 5 Tryz.underlying89 Tryz.underlying5 _ 0 1 1 [a] rfl (fun i hi => by
    match i, hi with
    | 0, _ => simp) 9 Tryz.underlying9
theorem conv2 (w : World) (a b : Int) : (convert 89 9 (.slice (some ⟨w.heap.size, 0, none⟩) 2 2)).run Tryz.prog (w.alloc (.cells #[.int .u8 a, .int .u8 b] 5)) = .ok (.string (strOfNums [a, b])) (w.alloc (.cells #[.int .u8 a, .int .u8 b] 5)) :=
  run_convert_bytes_arg _ 89 5 Tryz.underlying89 Tryz.underlying5 _ 0 2 2 [a, b] rfl (fun i hi => by
    match i, hi with
    | 0, _ => simp
    | 1, _ => simp) 9 Tryz.underlying9
theorem conv3 (w : World) (a b c : Int) : (convert 89 9 (.slice (some ⟨w.heap.size, 0, none⟩) 3 3)).run Tryz.prog (w.alloc (.cells #[.int .u8 a, .int .u8 b, .int .u8 c] 5)) = .ok (.string (strOfNums [a, b, c])) (w.alloc (.cells #[.int .u8 a, .int .u8 b, .int .u8 c] 5)) :=
  run_convert_bytes_arg _ 89 5 Tryz.underlying89 Tryz.underlying5 _ 0 3 3 [a, b, c] rfl (fun i hi => by
    match i, hi with
    | 0, _ => simp
    | 1, _ => simp
    | 2, _ => simp) 9 Tryz.underlying9
theorem conv4 (w : World) (a b c d : Int) : (convert 89 9 (.slice (some ⟨w.heap.size, 0, none⟩) 4 4)).run Tryz.prog (w.alloc (.cells #[.int .u8 a, .int .u8 b, .int .u8 c, .int .u8 d] 5)) = .ok (.string (strOfNums [a, b, c, d])) (w.alloc (.cells #[.int .u8 a, .int .u8 b, .int .u8 c, .int .u8 d] 5)) :=
  run_convert_bytes_arg _ 89 5 Tryz.underlying89 Tryz.underlying5 _ 0 4 4 [a, b, c, d] rfl (fun i hi => by
    match i, hi with
    | 0, _ => simp
    | 1, _ => simp
    | 2, _ => simp
    | 3, _ => simp) 9 Tryz.underlying9

theorem ret_strR {a b : ByteArray} (h : a = b) : Ending.returned (.string a) = .returned (.string b) := by rw [h]

set_option maxHeartbeats 1000000 in
theorem impl_rb (r : Int) (w : World) :
    Calls Tryz.prog 223 #[.int .i64 r] w fun e w' => e = .returned (.string (rb r)) ∧ w' = w := by
  by_cases h : r < 0 ∨ 1114111 < r ∨ (55296 ≤ r ∧ r ≤ 57343)
  · have e := rb_bad r h
    have H : Hid (rb r = ⟨#[]⟩) := e
    clear e
    by_cases a : r < 0
    · go_enter Tryz.func223, Tryz.ntmps223
      go_wp2
      go_ret
      exact ⟨ret_strR H.out.symm, rfl⟩
    · by_cases b : 1114111 < r
      · go_enter Tryz.func223, Tryz.ntmps223
        go_wp2
        go_ret
        exact ⟨ret_strR H.out.symm, rfl⟩
      · have c : 55296 ≤ r := by omega
        have d : r ≤ 57343 := by omega
        clear h
        go_enter Tryz.func223, Tryz.ntmps223
        go_wp2
        go_ret
        exact ⟨ret_strR H.out.symm, rfl⟩
  · have a : 0 ≤ r := by omega
    have b : r ≤ 1114111 := by omega
    have c : r < 55296 ∨ 57343 < r := by omega
    have e := rb_good r a b c
    have H : Hid (rb r = Utf8.encode r) := e
    clear e h
    rcases c with c | c
    · go_enter Tryz.func223, Tryz.ntmps223
      go_wp2
      go_ret
      exact ⟨ret_strR H.out.symm, rfl⟩
    · go_enter Tryz.func223, Tryz.ntmps223
      go_wp2
      go_ret
      exact ⟨ret_strR H.out.symm, rfl⟩

theorem spec_rb_bad (r : Int) (w : World) (h : r < 0 ∨ 1114111 < r ∨ (55296 ≤ r ∧ r ≤ 57343)) :
    Calls Tryz.prog 118 #[.int .i64 r] w fun e w' => e = .returned (.string (rb r)) ∧ w' = w := by
  have e := rb_bad r h
  have H : Hid (rb r = ⟨#[]⟩) := e
  clear e
  by_cases a : r < 0
  · go_enter Tryz.func118, Tryz.ntmps118
    go_wp2
    go_ret
    exact ⟨ret_strR H.out.symm, rfl⟩
  · by_cases b : 1114111 < r
    · go_enter Tryz.func118, Tryz.ntmps118
      go_wp2
      go_ret
      exact ⟨ret_strR H.out.symm, rfl⟩
    · have c : 55296 ≤ r := by omega
      have d : r ≤ 57343 := by omega
      clear h
      go_enter Tryz.func118, Tryz.ntmps118
      go_wp2
      go_ret
      exact ⟨ret_strR H.out.symm, rfl⟩
theorem spec_rb_1 (r : Int) (w : World) (h0 : 0 ≤ r) (h1 : r < 128) :
    Calls Tryz.prog 118 #[.int .i64 r] w fun e w' => e = .returned (.string (rb r)) ∧ ∃ xs, w' = w.alloc (.cells xs 5) := by
  have H : Hid (rb r = strOfNums [r]) := rb_1 r h0 h1
  have hc := conv1 w
  go_enter Tryz.func118, Tryz.ntmps118
  go_wp2
  go_ret
  exact ⟨ret_strR H.out.symm, _, rfl⟩
theorem spec_rb_2 (r : Int) (w : World) (h0 : 128 ≤ r) (h1 : r < 2048) :
    Calls Tryz.prog 118 #[.int .i64 r] w fun e w' => e = .returned (.string (rb r)) ∧ ∃ xs, w' = w.alloc (.cells xs 5) := by
  have H : Hid (rb r = strOfNums [192 + r / 64, 128 + r % 64]) := rb_2 r h0 h1
  have hc := conv2 w
  go_enter Tryz.func118, Tryz.ntmps118
  go_wp2
  go_ret
  exact ⟨ret_strR H.out.symm, _, rfl⟩
theorem spec_rb_3 (r : Int) (w : World) (h0 : 2048 ≤ r) (h1 : r < 65536) (h2 : r < 55296 ∨ 57343 < r) :
    Calls Tryz.prog 118 #[.int .i64 r] w fun e w' => e = .returned (.string (rb r)) ∧ ∃ xs, w' = w.alloc (.cells xs 5) := by
  have H : Hid (rb r = strOfNums [224 + r / 4096, 128 + r / 64 % 64, 128 + r % 64]) := rb_3 r h0 h1 h2
  have hc := conv3 w
  rcases h2 with h2 | h2
  · go_enter Tryz.func118, Tryz.ntmps118
    go_wp2
    go_ret
    exact ⟨ret_strR H.out.symm, _, rfl⟩
  · go_enter Tryz.func118, Tryz.ntmps118
    go_wp2
    go_ret
    exact ⟨ret_strR H.out.symm, _, rfl⟩
theorem spec_rb_4 (r : Int) (w : World) (h0 : 65536 ≤ r) (h1 : r ≤ 1114111) :
    Calls Tryz.prog 118 #[.int .i64 r] w fun e w' => e = .returned (.string (rb r)) ∧ ∃ xs, w' = w.alloc (.cells xs 5) := by
  have H : Hid (rb r = strOfNums [240 + r / 262144, 128 + r / 4096 % 64, 128 + r / 64 % 64, 128 + r % 64]) := rb_4 r h0 h1
  have hc := conv4 w
  go_enter Tryz.func118, Tryz.ntmps118
  go_wp2
  go_ret
  exact ⟨ret_strR H.out.symm, _, rfl⟩
theorem spec_rb (r : Int) (w : World) :
    Calls Tryz.prog 118 #[.int .i64 r] w fun e w' => e = .returned (.string (rb r)) ∧ (w' = w ∨ ∃ xs, w' = w.alloc (.cells xs 5)) := by
  by_cases h : r < 0 ∨ 1114111 < r ∨ (55296 ≤ r ∧ r ≤ 57343)
  · exact (spec_rb_bad r w h).mono fun e w' ⟨a, b⟩ => ⟨a, .inl b⟩
  · by_cases h1 : r < 128
    · exact (spec_rb_1 r w (by omega) h1).mono fun e w' ⟨a, b⟩ => ⟨a, .inr b⟩
    · by_cases h2 : r < 2048
      · exact (spec_rb_2 r w (by omega) h2).mono fun e w' ⟨a, b⟩ => ⟨a, .inr b⟩
      · by_cases h3 : r < 65536
        · exact (spec_rb_3 r w (by omega) h3 (by omega)).mono fun e w' ⟨a, b⟩ => ⟨a, .inr b⟩
        · exact (spec_rb_4 r w (by omega) (by omega)).mono fun e w' ⟨a, b⟩ => ⟨a, .inr b⟩
end Go.Proofs.YtjpcmmfmdoglkalGreatDoor
