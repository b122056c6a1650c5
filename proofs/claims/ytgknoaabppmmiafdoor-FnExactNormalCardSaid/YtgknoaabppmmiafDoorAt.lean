/- Plain facts on 'ra', and the contracts of the small functions: l01P, HasPrefix, stands. -/
import Derived.Test.YtgknoaabppmmiafDoorUtf
import Derived.WalkKit
import Derived.ProofKit
import Derived.WalkLawsBesides
import Derived.WalkSpells
import Derived.Below
import Derived.Deep.QuietTactic
import Derived.BigQuiet
namespace Go.Proofs.YtgknoaabppmmiafDoor
open Go.ChangeShapes Go.WideShapes Go.ChangeAt Go.RowKit

theorem ba_ext {a b : ByteArray} (h : a.data.toList = b.data.toList) : a = b := by
  cases a; cases b; simp at h; simp [h]
theorem get_bt (s : ByteArray) (i : Nat) (h : i < s.size) : s.data.toList[i]? = some (UInt8.ofNat (bt s i).toNat) := by
  have h' : i < s.data.size := h
  rw [show s.data.toList[i]? = s.data[i]? from by simp, Array.getElem?_eq_getElem h']
  have e : s.get! i = s.data[i] := by
    show s.data[i]! = _
    exact getElem!_pos s.data i h'
  simp [bt, e]
theorem ext_list (s : ByteArray) (p k : Nat) : (s.extract p (p + k)).data.toList = (s.data.toList.drop p).take k := by
  rw [ByteArray.data_extract, Array.toList_extract]
  simp [List.extract_eq_take_drop]
theorem take_drop_cons (l : List UInt8) (p k : Nat) (x : UInt8) (h : l[p]? = some x) : (l.drop p).take (k + 1) = x :: (l.drop (p + 1)).take k := by
  have hp : p < l.length := by
    rcases Nat.lt_or_ge p l.length with h' | h'
    · exact h'
    · rw [List.getElem?_eq_none h'] at h; cases h
  rw [List.drop_eq_getElem_cons hp, List.take_succ_cons]
  rw [List.getElem?_eq_getElem hp] at h
  cases h; rfl
theorem ext1 (s : ByteArray) (p : Nat) (h : p + 1 ≤ s.size) : s.extract p (p + 1) = strOfNums [bt s p] := by
  apply ba_ext
  rw [ext_list, strOfNums_data, take_drop_cons _ _ _ _ (get_bt s p (by omega))]; simp
theorem ext2 (s : ByteArray) (p : Nat) (h : p + 2 ≤ s.size) : s.extract p (p + 2) = strOfNums [bt s p, bt s (p + 1)] := by
  apply ba_ext
  rw [ext_list, strOfNums_data, take_drop_cons _ _ _ _ (get_bt s p (by omega)), take_drop_cons _ _ _ _ (get_bt s (p + 1) (by omega))]; simp
theorem ext3 (s : ByteArray) (p : Nat) (h : p + 3 ≤ s.size) : s.extract p (p + 3) = strOfNums [bt s p, bt s (p + 1), bt s (p + 2)] := by
  apply ba_ext
  rw [ext_list, strOfNums_data, take_drop_cons _ _ _ _ (get_bt s p (by omega)), take_drop_cons _ _ _ _ (get_bt s (p + 1) (by omega)), take_drop_cons _ _ _ _ (get_bt s (p + 1 + 1) (by omega))]; simp
theorem ext4 (s : ByteArray) (p : Nat) (h : p + 4 ≤ s.size) : s.extract p (p + 4) = strOfNums [bt s p, bt s (p + 1), bt s (p + 2), bt s (p + 3)] := by
  apply ba_ext
  rw [ext_list, strOfNums_data, take_drop_cons _ _ _ _ (get_bt s p (by omega)), take_drop_cons _ _ _ _ (get_bt s (p + 1) (by omega)), take_drop_cons _ _ _ _ (get_bt s (p + 1 + 1) (by omega)), take_drop_cons _ _ _ _ (get_bt s (p + 1 + 1 + 1) (by omega))]; simp

/-- The rune that k bytes at p spell. -/
def cand (s : ByteArray) (p : Nat) : Nat → Int
  | 1 => bt s p
  | 2 => c2 (bt s p) (bt s (p + 1))
  | 3 => c3 (bt s p) (bt s (p + 1)) (bt s (p + 2))
  | 4 => c4 (bt s p) (bt s (p + 1)) (bt s (p + 2)) (bt s (p + 3))
  | _ => 0
/-- They are its bytes. -/
def fits (s : ByteArray) (p k : Nat) : Prop := p + k ≤ s.size ∧ rb (cand s p k) = s.extract p (p + k)
theorem fitz1 (s : ByteArray) (p : Nat) : fits s p 1 ↔ p < s.size ∧ bt s p < 128 := by
  unfold fits cand
  constructor
  · rintro ⟨h, e⟩; rw [ext1 s p h] at e; exact ⟨by omega, (is1 _ ⟨bt_lo _ _, bt_hi _ _⟩).1 e⟩
  · rintro ⟨h, e⟩; exact ⟨by omega, by rw [ext1 s p (by omega)]; exact (is1 _ ⟨bt_lo _ _, bt_hi _ _⟩).2 e⟩
theorem fitz2 (s : ByteArray) (p : Nat) : fits s p 2 ↔ p + 1 < s.size ∧ bt s p / 32 = 6 ∧ bt s (p + 1) / 64 = 2 ∧ 128 ≤ c2 (bt s p) (bt s (p + 1)) := by
  unfold fits cand
  constructor
  · rintro ⟨h, e⟩; rw [ext2 s p h] at e; exact ⟨by omega, (is2 _ _ ⟨bt_lo _ _, bt_hi _ _⟩ ⟨bt_lo _ _, bt_hi _ _⟩).1 e⟩
  · rintro ⟨h, e⟩; exact ⟨by omega, by rw [ext2 s p (by omega)]; exact (is2 _ _ ⟨bt_lo _ _, bt_hi _ _⟩ ⟨bt_lo _ _, bt_hi _ _⟩).2 e⟩
theorem fitz3 (s : ByteArray) (p : Nat) : fits s p 3 ↔ p + 2 < s.size ∧ bt s p / 16 = 14 ∧ bt s (p + 1) / 64 = 2 ∧ bt s (p + 2) / 64 = 2 ∧ 2048 ≤ c3 (bt s p) (bt s (p + 1)) (bt s (p + 2)) ∧ (c3 (bt s p) (bt s (p + 1)) (bt s (p + 2)) < 55296 ∨ 57343 < c3 (bt s p) (bt s (p + 1)) (bt s (p + 2))) := by
  unfold fits cand
  constructor
  · rintro ⟨h, e⟩; rw [ext3 s p h] at e; exact ⟨by omega, (is3 _ _ _ ⟨bt_lo _ _, bt_hi _ _⟩ ⟨bt_lo _ _, bt_hi _ _⟩ ⟨bt_lo _ _, bt_hi _ _⟩).1 e⟩
  · rintro ⟨h, e⟩; exact ⟨by omega, by rw [ext3 s p (by omega)]; exact (is3 _ _ _ ⟨bt_lo _ _, bt_hi _ _⟩ ⟨bt_lo _ _, bt_hi _ _⟩ ⟨bt_lo _ _, bt_hi _ _⟩).2 e⟩
theorem fitz4 (s : ByteArray) (p : Nat) : fits s p 4 ↔ p + 3 < s.size ∧ bt s p / 8 = 30 ∧ bt s (p + 1) / 64 = 2 ∧ bt s (p + 2) / 64 = 2 ∧ bt s (p + 3) / 64 = 2 ∧ 65536 ≤ c4 (bt s p) (bt s (p + 1)) (bt s (p + 2)) (bt s (p + 3)) ∧ c4 (bt s p) (bt s (p + 1)) (bt s (p + 2)) (bt s (p + 3)) ≤ 1114111 := by
  unfold fits cand
  constructor
  · rintro ⟨h, e⟩; rw [ext4 s p h] at e; exact ⟨by omega, (is4 _ _ _ _ ⟨bt_lo _ _, bt_hi _ _⟩ ⟨bt_lo _ _, bt_hi _ _⟩ ⟨bt_lo _ _, bt_hi _ _⟩ ⟨bt_lo _ _, bt_hi _ _⟩).1 e⟩
  · rintro ⟨h, e⟩; exact ⟨by omega, by rw [ext4 s p (by omega)]; exact (is4 _ _ _ _ ⟨bt_lo _ _, bt_hi _ _⟩ ⟨bt_lo _ _, bt_hi _ _⟩ ⟨bt_lo _ _, bt_hi _ _⟩ ⟨bt_lo _ _, bt_hi _ _⟩).2 e⟩

/-- 'ra', by the first size that fits. -/
theorem ra_fit (s : ByteArray) (p k : Nat) (h1 : 1 ≤ k) (h4 : k ≤ 4) (h : fits s p k) : ra s p = (cand s p k, (k : Int)) := by
  have b0 := bt_lo s p; have B0 := bt_hi s p
  match k, h1, h4 with
  | 1, _, _ => rw [fitz1] at h; unfold ra cand; rw [if_pos h.1, if_pos h.2]; simp
  | 2, _, _ => rw [fitz2] at h; unfold ra cand; rw [if_pos (by omega), if_neg (by omega), if_pos h]; simp
  | 3, _, _ => rw [fitz3] at h; unfold ra cand; rw [if_pos (by omega), if_neg (by omega), if_neg (by omega), if_pos h]; simp
  | 4, _, _ => rw [fitz4] at h; unfold ra cand; rw [if_pos (by omega), if_neg (by omega), if_neg (by omega), if_neg (by omega), if_pos h]; simp
theorem ra_none (s : ByteArray) (p : Nat) (h : ∀ k, 1 ≤ k → k ≤ 4 → ¬ fits s p k) : ra s p = (0, 0) := by
  have h1 := h 1 (by omega) (by omega)
  have h2 := h 2 (by omega) (by omega)
  have h3 := h 3 (by omega) (by omega)
  have h4 := h 4 (by omega) (by omega)
  rw [fitz1] at h1; rw [fitz2] at h2; rw [fitz3] at h3; rw [fitz4] at h4
  unfold ra
  by_cases hp : p < s.size
  · rw [if_pos hp, if_neg (fun x => h1 ⟨hp, x⟩), if_neg h2, if_neg h3, if_neg h4]
  · rw [if_neg hp]
theorem ra_cases (s : ByteArray) (p : Nat) : ra s p = (0, 0) ∨ ∃ k, 1 ≤ k ∧ k ≤ 4 ∧ fits s p k ∧ ra s p = (cand s p k, (k : Int)) := by
  by_cases h : ∃ k, 1 ≤ k ∧ k ≤ 4 ∧ fits s p k
  · obtain ⟨k, a, b, c⟩ := h; exact .inr ⟨k, a, b, c, ra_fit s p k a b c⟩
  · exact .inl (ra_none s p fun k a b c => h ⟨k, a, b, c⟩)

def cl (n : Nat) (p : Int) : Nat := min p.toNat n
theorem cl_le (n : Nat) (p : Int) : cl n p ≤ n := by unfold cl; omega
theorem ret_int {k : IntKind} {a b : Int} (h : a = b) : Ending.returned (.int k a) = .returned (.int k b) := by rw [h]
theorem ret_bool {a b : Bool} (h : a = b) : Ending.returned (.bool a) = .returned (.bool b) := by rw [h]
theorem l01P_any (s : ByteArray) (p : Int) (w : World) (hs : s.size ≤ maxLen) :
    Calls Tryd.prog 30 #[.string s, .int .i64 p] w fun e w' => e = .returned (.int .i64 (cl s.size p)) ∧ w' = w := by
  unfold maxLen at hs
  by_cases h : p < 0
  · go_enter Tryd.func30, Tryd.ntmps30
    go_wp2
    go_ret
    exact ⟨ret_int (by unfold cl; omega), rfl⟩
  · by_cases h2 : (s.size : Int) < p
    · go_enter Tryd.func30, Tryd.ntmps30
      go_wp2
      go_ret
      exact ⟨ret_int (by unfold cl; omega), rfl⟩
    · go_enter Tryd.func30, Tryd.ntmps30
      go_wp2
      go_ret
      exact ⟨ret_int (by unfold cl; omega), rfl⟩
def pre (s t : ByteArray) : Bool := decide (t.size ≤ s.size ∧ s.extract 0 t.size = t)
theorem toList_beq (a b : ByteArray) : (a.toList == b.toList) = decide (a = b) := by
  rw [Bool.eq_iff_iff]; simp only [beq_iff_eq, decide_eq_true_eq]
  constructor
  · intro h
    apply ba_ext
    rw [← ByteArray.toList_eq, ← ByteArray.toList_eq, h]
  · intro h; rw [h]
theorem hp_any (s t : ByteArray) (w : World) :
    Calls Tryd.prog 39 #[.string s, .string t] w fun e w' => e = .returned (.bool (pre s t)) ∧ w' = w := by
  by_cases h : t.size ≤ s.size
  · go_enter Tryd.func39, Tryd.ntmps39
    go_wp2
    go_ret
    exact ⟨ret_bool (by rw [toList_beq]; simp [pre, h]), rfl⟩
  · go_enter Tryd.func39, Tryd.ntmps39
    go_wp2
    go_ret
    exact ⟨ret_bool (by simp [pre, h]), rfl⟩

theorem pre_at (s : ByteArray) (p : Nat) : pre (s.extract p s.size) (rb 65533) = true ↔ ra s p = (65533, 3) := by
  have e : rb 65533 = strOfNums [239, 191, 189] := rb_3 65533 (by omega) (by omega) (by omega)
  have ez : (rb 65533).size = 3 := by rw [e]; rfl
  have hx : ∀ h : p + 3 ≤ s.size, (s.extract p s.size).extract 0 3 = s.extract p (p + 3) := by
    intro h
    apply ba_ext
    rw [ext_list, ByteArray.data_extract, Array.toList_extract, ByteArray.data_extract, Array.toList_extract]
    simp only [List.extract_eq_take_drop, List.drop_zero, Nat.sub_zero]
    rw [List.take_take]
    congr 1
    omega
  unfold pre
  rw [decide_eq_true_eq, ez]
  constructor
  · rintro ⟨h, h'⟩
    have hz : p + 3 ≤ s.size := by
      rw [ByteArray.size_extract] at h; omega
    rw [hx hz, ext3 s p hz, e] at h'
    have h2 := strOf_eq _ _ h'
    simp only [List.map_cons, List.map_nil, List.cons.injEq, and_true] at h2
    have a0 := bytes_inj ⟨bt_lo _ _, bt_hi _ _⟩ (by omega) h2.1
    have a1 := bytes_inj ⟨bt_lo _ _, bt_hi _ _⟩ (by omega) h2.2.1
    have a2 := bytes_inj ⟨bt_lo _ _, bt_hi _ _⟩ (by omega) h2.2.2
    have hc : cand s p 3 = 65533 := by unfold cand c3; rw [a0, a1, a2]; rfl
    have hf : fits s p 3 := by
      refine ⟨hz, ?_⟩
      rw [hc, e, ext3 s p hz, a0, a1, a2]
    rw [ra_fit s p 3 (by omega) (by omega) hf, hc]; rfl
  · intro h
    rcases ra_cases s p with h0 | ⟨k, k1, k4, hf, hk⟩
    · rw [h0] at h; simp at h
    · rw [hk] at h
      simp only [Prod.mk.injEq] at h
      obtain ⟨hc, hk3⟩ := h
      obtain rfl : k = 3 := by omega
      obtain ⟨hz, hb⟩ := hf
      rw [hc] at hb
      exact ⟨by rw [ByteArray.size_extract]; omega, by rw [hx hz, hb]⟩

def stB (s : ByteArray) (p : Nat) (r : Int) : Bool := decide (r = 65533 → ra s p = (65533, 3))
/-- What 'stands' answers at place p for the rune that the decoder tells there. -/
theorem stands_any (s : ByteArray) (p : Nat) (r : Int) (w : World) (hp : p ≤ s.size) :
    Calls Tryd.prog 26 #[.string s, .int .i64 (p : Int), .int .i32 r] w fun e w' => e = .returned (.bool (stB s p r)) ∧ ∃ n, w' = w.drewN n := by
  by_cases h : r = 65533
  · subst h
    go_enter Tryd.func26, Tryd.ntmps26
    go_wp2
    go_quiet ((first | (go_at_call 16; exact Calls.quiet_of_same (impl_rb _ _)) | (go_at_call 39; exact Calls.quiet_of_same (hp_any _ _ _))))
    go_wp2
    go_ret
    refine ⟨ret_bool ?_, _, rfl⟩
    rw [Bool.eq_iff_iff, pre_at, stB, decide_eq_true_eq]
    simp
  · have h' : (r == 65533) = false := by simpa using h
    have h2 : (r != 65533) = true := by simpa using h
    go_enter Tryd.func26, Tryd.ntmps26
    go_wp2
    go_quiet (fail)
    go_wp2
    go_ret
    exact ⟨ret_bool (by simp [stB, h]), _, rfl⟩
end Go.Proofs.YtgknoaabppmmiafDoor
