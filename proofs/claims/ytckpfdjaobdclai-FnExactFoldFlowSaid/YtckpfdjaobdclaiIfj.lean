/- What stands between two pieces or lines (pieceJoint, lineJoint), and the endings of a text. -/
import Derived.Test.YtckpfdjaobdclaiBld
import Derived.Test.YtckpfdjaobdclaiOvr
import Derived.WalkLawsBesides
import Derived.WalkSpells
import Derived.WalkMore
import Derived.Deep.QuietTactic
import Derived.BigQuiet
import Derived.Deep.Light
namespace Go.Proofs.Ytckpfdjaobdclai
open Go.ChangeShapes Go.WideShapes Go.ChangeAt Go.RowKit
theorem ret_str {a b : ByteArray} (h : a = b) : Ending.returned (.string a) = .returned (.string b) := by rw [h]
/-- What stands between two pieces. -/
def pj (n : Nat) (g : Bool) : ByteArray := if 0 < n then brks n else if g then ByteArray.empty else b32
theorem pj_size (n : Nat) (g : Bool) : (pj n g).size ≤ n + 1 := by
  unfold pj
  split
  · rw [brks_size]; omega
  · split
    · exact Nat.zero_le _
    · show 1 ≤ n + 1; omega
theorem pieceJoint_any (n : ByteArray) (g : Bool) (k : Nat) (w : World) (hk : k ≤ 33554432) (o : ByteArray) (ho : pj k g = o) :
    Calls Try.prog 51 #[.agg #[.string n, .bool g], .int .i64 (k : Int)] w fun e w' => e = .returned (.string o) ∧ Below w.heap.size w w' := by
  by_cases h0 : 0 < k
  · have h0' : (0 : Int) < (k : Int) := by omega
    have HO : Hid (brks k = o) := by show brks k = o; rw [← ho]; unfold pj; rw [if_pos h0]
    clear ho h0
    go_enter Try.func51, Try.ntmps51
    go_wp2_with fail
    refine (rep_any k _ hk).mono ?_
    rintro e w1 ⟨rfl, hb1⟩
    go_wp2_with fail
    go_ret
    exact ⟨ret_str HO.out, ((Below.refl _ w).alloc (Nat.le_refl _) _).trans (hb1.mono (by simp))⟩
  · have h0' : ¬ (0 : Int) < (k : Int) := by omega
    cases g with
    | true =>
      have HO : Hid (ByteArray.empty = o) := by show _ = o; rw [← ho]; unfold pj; rw [if_neg h0, if_pos rfl]
      clear ho h0
      go_enter Try.func51, Try.ntmps51
      go_wp2_with fail
      go_ret
      exact ⟨ret_str HO.out, (Below.refl _ w).alloc (Nat.le_refl _) _⟩
    | false =>
      have HO : Hid (b32 = o) := by show _ = o; rw [← ho]; unfold pj; rw [if_neg h0]; rfl
      clear ho h0
      go_enter Try.func51, Try.ntmps51
      go_wp2_with fail
      go_ret
      exact ⟨ret_str HO.out, (Below.refl _ w).alloc (Nat.le_refl _) _⟩

set_option maxHeartbeats 2000000 in
theorem signW (s : ByteArray) (w : World) (b : Bool) (hb : b = farS s) :
    Calls Try.prog 61 #[.string s, .int .i64 0, .string ⟨#[32, 9]⟩] w fun e w' => e = .returned (.bool b) ∧ Below w.heap.size w w' := by
  by_cases hlt : 0 < s.size
  · have HG : Hid (pW (bt s 0) = b) := by
      show pW (bt s 0) = b
      rw [hb]; unfold farS; rw [decide_eq_true hlt, Bool.true_and]
      rw [Bool.eq_iff_iff]; simp [pW, bt]
    have ask : ∀ (A : Nat) (w1 : World), w1.heap[A]? = some (.cells #[.string ⟨#[32, 9]⟩] 9 (0, 0)) → Calls Try.prog 70 #[.int .u8 ((s[0]'hlt).toNat : Int), .pointer (some ⟨A, 0, none⟩)] w1 fun e w' => e = .returned (.bool b) ∧ Below w1.heap.size w1 w' := by
      intro A w1 hA
      have h := amongC_any ⟨#[32, 9]⟩ pW A w1 hA pW_signs w1 (bt s 0) (bt_lt s 0) (Below.refl _ _)
      rw [HG.out] at h
      rw [← bt_get s 0 hlt] at h
      exact h
    have ASK : Hid (∀ (A : Nat) (w1 : World), w1.heap[A]? = some (.cells #[.string ⟨#[32, 9]⟩] 9 (0, 0)) → Calls Try.prog 70 #[.int .u8 ((s[0]'hlt).toNat : Int), .pointer (some ⟨A, 0, none⟩)] w1 fun e w' => e = .returned (.bool b) ∧ Below w1.heap.size w1 w') := ask
    clear hb ask
    go_enter Try.func61, Try.ntmps61
    go_wp2_with fail
    go_region_with (first
      | (go_at_call 55; refine (among_any _ _).mono ?_; rintro e w1 ⟨A, rfl, hA, hb1⟩)
      | (go_at_call 70; refine (ASK.out A _ hA).mono ?_; rintro e w2 ⟨rfl, hb2⟩))
    all_goals
      go_wp2_with fail
      go_ret
      have hb3 : Below w.heap.size w w1 := ((Below.refl _ w).drew).trans (hb1.mono (by simp))
      exact ⟨ret_bool rfl, hb3.trans (hb2.mono hb3.size)⟩
  · have HB : Hid (b = false) := by show b = false; rw [hb]; unfold farS; rw [decide_eq_false hlt]; rfl
    have hd : decide (0 < s.size) = false := decide_eq_false hlt
    clear hb
    go_enter Try.func61, Try.ntmps61
    go_wp2_with fail
    go_quiet (fail)
    go_wp2
    go_ret
    exact ⟨ret_bool HB.out.symm, below_dq _ _⟩
/-- What stands ahead of a line. -/
def lj (last : ByteArray) (x : ByteArray) (n : Nat) : ByteArray :=
  if last = ByteArray.empty then brks n else if (farS x || farS last) = true then brks (n + 1) else if n = 0 then b32 else brks n
theorem lj_size (last x : ByteArray) (n : Nat) : (lj last x n).size ≤ n + 1 := by
  unfold lj
  split
  · rw [brks_size]; omega
  · split
    · rw [brks_size]; omega
    · split
      · show 1 ≤ n + 1; omega
      · rw [brks_size]; omega
theorem brks_snoc : ∀ n, brks n ++ b10 = brks (n + 1)
  | 0 => by rw [brks, brks, brks, empty_app, app_empty]
  | n + 1 => by rw [brks, app_assoc, brks_snoc n]; rfl
theorem e_list : (ByteArray.empty.toList == ([] : List UInt8)) = true := by rw [ByteArray.toList_eq]; rfl
theorem ne_list {t : ByteArray} (h : t ≠ ByteArray.empty) : (t.toList == []) = false := by
  rw [beq_eq_false_iff_ne]
  intro e
  apply h
  rw [ByteArray.toList_eq] at e
  apply ba_ext'
  apply Array.ext'
  rw [e]; rfl
end Go.Proofs.Ytckpfdjaobdclai
