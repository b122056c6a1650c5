/- What stands between two pieces or lines (pieceJoint, lineJoint), and the endings of a text. -/
import Derived.Test.YtfpkcfedkjjjbacBld
import Derived.Test.YtfpkcfedkjjjbacOvr
import Derived.WalkLawsBesides
import Derived.WalkSpells
import Derived.WalkMore
import Derived.Deep.QuietTactic
import Derived.BigQuiet
import Derived.Deep.Light
namespace Go.Proofs.Ytfpkcfedkjjjbac
open Go.ChangeShapes Go.WideShapes Go.ChangeAt Go.RowKit
theorem ret_str {a b : ByteArray} (h : a = b) : Ending.returned (.string a) = .returned (.string b) := by rw [h]
/-- What stands between two pieces. -/
def pj (n : Nat) (g : Bool) : ByteArray := if 0 < n then brks n else if g then ByteArray.empty else b32
theorem pj_size (n : Nat) (g : Bool) : (pj n g).size ≤ n + 1 := by
  unfold pj
  split
  · rw [brks_size]; omega
  · split
    · exact Nat.zero_le _
    · show 1 ≤ n + 1; omega
theorem pieceJoint_any (n : ByteArray) (g : Bool) (k : Nat) (w : World) (hk : k ≤ 33554432) (o : ByteArray) (ho : pj k g = o) :
    Calls Try.prog 32 #[.agg #[.string n, .bool g], .int .i64 (k : Int)] w fun e w' => e = .returned (.string o) ∧ Below w.heap.size w w' := by
  by_cases h0 : 0 < k
  · have h0' : (0 : Int) < (k : Int) := by omega
    have HO : Hid (brks k = o) := by show brks k = o; rw [← ho]; unfold pj; rw [if_pos h0]
    clear ho h0
    go_enter Try.func32, Try.ntmps32
    go_wp2_with fail
    refine (rep_any k _ hk).mono ?_
    rintro e w1 ⟨rfl, hb1⟩
    go_wp2_with fail
    go_ret
    exact ⟨ret_str HO.out, ((Below.refl _ w).alloc (Nat.le_refl _) _).trans (hb1.mono (by simp))⟩
  · have h0' : ¬ (0 : Int) < (k : Int) := by omega
    cases g with
    | true =>
      have HO : Hid (ByteArray.empty = o) := by show _ = o; rw [← ho]; unfold pj; rw [if_neg h0, if_pos rfl]
      clear ho h0
      go_enter Try.func32, Try.ntmps32
      go_wp2_with fail
      go_ret
      exact ⟨ret_str HO.out, (Below.refl _ w).alloc (Nat.le_refl _) _⟩
    | false =>
      have HO : Hid (b32 = o) := by show _ = o; rw [← ho]; unfold pj; rw [if_neg h0]; rfl
      clear ho h0
      go_enter Try.func32, Try.ntmps32
      go_wp2_with fail
      go_ret
      exact ⟨ret_str HO.out, (Below.refl _ w).alloc (Nat.le_refl _) _⟩

set_option maxHeartbeats 2000000 in
theorem signW (s : ByteArray) (w : World) (b : Bool) (hb : b = farS s) :
    Calls Try.prog 24 #[.string s, .int .i64 0, .string ⟨#[32, 9]⟩] w fun e w' => e = .returned (.bool b) ∧ Below w.heap.size w w' := by
  by_cases hlt : 0 < s.size
  · have HG : Hid (pW (bt s 0) = b) := by
      show pW (bt s 0) = b
      rw [hb]; unfold farS; rw [decide_eq_true hlt, Bool.true_and]
      rw [Bool.eq_iff_iff]; simp [pW, bt]
    have ask : ∀ (A : Nat) (w1 : World), w1.heap[A]? = some (.cells #[.string ⟨#[32, 9]⟩] 9 (0, 0)) → Calls Try.prog 67 #[.int .u8 ((s[0]'hlt).toNat : Int), .pointer (some ⟨A, 0, none⟩)] w1 fun e w' => e = .returned (.bool b) ∧ Below w1.heap.size w1 w' := by
      intro A w1 hA
      have h := amongC_any ⟨#[32, 9]⟩ pW A w1 hA pW_signs w1 (bt s 0) (bt_lt s 0) (Below.refl _ _)
      rw [HG.out] at h
      rw [← bt_get s 0 hlt] at h
      exact h
    have ASK : Hid (∀ (A : Nat) (w1 : World), w1.heap[A]? = some (.cells #[.string ⟨#[32, 9]⟩] 9 (0, 0)) → Calls Try.prog 67 #[.int .u8 ((s[0]'hlt).toNat : Int), .pointer (some ⟨A, 0, none⟩)] w1 fun e w' => e = .returned (.bool b) ∧ Below w1.heap.size w1 w') := ask
    clear hb ask
    go_enter Try.func24, Try.ntmps24
    go_wp2_with fail
    go_region_with (first
      | (go_at_call 47; refine (among_any _ _).mono ?_; rintro e w1 ⟨A, rfl, hA, hb1⟩)
      | (go_at_call 67; refine (ASK.out A _ hA).mono ?_; rintro e w2 ⟨rfl, hb2⟩))
    all_goals
      go_wp2_with fail
      go_ret
      have hb3 : Below w.heap.size w w1 := ((Below.refl _ w).drew).trans (hb1.mono (by simp))
      exact ⟨ret_bool rfl, hb3.trans (hb2.mono hb3.size)⟩
  · have HB : Hid (b = false) := by show b = false; rw [hb]; unfold farS; rw [decide_eq_false hlt]; rfl
    have hd : decide (0 < s.size) = false := decide_eq_false hlt
    clear hb
    go_enter Try.func24, Try.ntmps24
    go_wp2_with fail
    go_quiet (fail)
    go_wp2
    go_ret
    exact ⟨ret_bool HB.out.symm, below_dq _ _⟩
theorem far_any (s : ByteArray) (w : World) (b : Bool) (hb : b = farS s) :
    Calls Try.prog 69 #[.string s] w fun e w' => e = .returned (.bool b) ∧ Below w.heap.size w w' := by
  have c := signW s w b hb
  clear hb
  go_enter Try.func69, Try.ntmps69
  go_wp2_with fail
  refine c.mono ?_
  rintro e w1 ⟨rfl, hb1⟩
  go_wp2_with fail
  go_ret
  exact ⟨rfl, hb1⟩
/-- What stands ahead of a line. -/
def lj (last : ByteArray) (x : ByteArray) (n : Nat) : ByteArray :=
  if last = ByteArray.empty then brks n else if (farS x || farS last) = true then brks (n + 1) else if n = 0 then b32 else brks n
theorem lj_size (last x : ByteArray) (n : Nat) : (lj last x n).size ≤ n + 1 := by
  unfold lj
  split
  · rw [brks_size]; omega
  · split
    · rw [brks_size]; omega
    · split
      · show 1 ≤ n + 1; omega
      · rw [brks_size]; omega
theorem brks_snoc : ∀ n, brks n ++ b10 = brks (n + 1)
  | 0 => by rw [brks, brks, brks, empty_app, app_empty]
  | n + 1 => by rw [brks, app_assoc, brks_snoc n]; rfl
theorem e_list : (ByteArray.empty.toList == ([] : List UInt8)) = true := by rw [ByteArray.toList_eq]; rfl
theorem ne_list {t : ByteArray} (h : t ≠ ByteArray.empty) : (t.toList == []) = false := by
  rw [beq_eq_false_iff_ne]
  intro e
  apply h
  rw [ByteArray.toList_eq] at e
  apply ba_ext'
  apply Array.ext'
  rw [e]; rfl
theorem lineJoint_any (y x : ByteArray) (k : Nat) (w : World) (hk : k ≤ 33554432) (o : ByteArray) (ho : lj y x k = o) :
    Calls Try.prog 49 #[.string y, .string x, .int .i64 (k : Int)] w fun e w' => e = .returned (.string o) ∧ Below w.heap.size w w' := by
  have hz : (brks k).size ≤ 33554432 := by rw [brks_size]; exact hk
  obtain ⟨T, hT⟩ : ∃ T, brks k = T := ⟨_, rfl⟩
  have cR := rep_any k w hk
  rw [hT] at cR hz
  have HT : Hid (brks k = T) := hT
  clear hT
  by_cases h0 : y = ByteArray.empty
  · subst h0
    have hE := e_list
    have HO : Hid (T = o) := by show T = o; rw [← ho, ← HT.out]; unfold lj; rw [if_pos rfl]
    clear ho
    go_enter Try.func49, Try.ntmps49
    go_wp2_with fail
    refine cR.mono ?_
    rintro e w1 ⟨rfl, hb1⟩
    clear cR
    go_wp2_with fail
    go_ret
    exact ⟨ret_str HO.out, hb1⟩
  · have hN := ne_list h0
    have HL : Hid ((if (farS x || farS y) = true then brks (k + 1) else if k = 0 then b32 else brks k) = o) := by
      show _ = o
      rw [← ho]; unfold lj; rw [if_neg h0]
    clear ho h0
    cases hf : farS y with
    | true =>
      have HO : Hid (T ++ ⟨#[10]⟩ = o) := by show T ++ b10 = o; rw [← HL.out, hf, Bool.or_true, if_pos rfl, ← HT.out]; exact brks_snoc k
      clear HL
      go_enter Try.func49, Try.ntmps49
      go_wp2_with fail
      refine cR.mono ?_
      rintro e w1 ⟨rfl, hb1⟩
      clear cR
      have cF := far_any y w1 true hf.symm
      clear hf
      go_wp2_with fail
      refine cF.mono ?_
      rintro e w2 ⟨rfl, hb2⟩
      clear cF
      go_wp2_with fail
      go_ret
      exact ⟨ret_str HO.out, hb1.trans (hb2.mono hb1.size)⟩
    | false =>
      cases hx : farS x with
      | true =>
        have HO : Hid (T ++ ⟨#[10]⟩ = o) := by show T ++ b10 = o; rw [← HL.out, hx, Bool.true_or, if_pos rfl, ← HT.out]; exact brks_snoc k
        clear HL
        go_enter Try.func49, Try.ntmps49
        go_wp2_with fail
        refine cR.mono ?_
        rintro e w1 ⟨rfl, hb1⟩
        clear cR
        have cF := far_any y w1 false hf.symm
        clear hf
        go_wp2_with fail
        refine cF.mono ?_
        rintro e w2 ⟨rfl, hb2⟩
        clear cF
        have cF := far_any x w2 true hx.symm
        clear hx
        go_wp2_with fail
        refine cF.mono ?_
        rintro e w3 ⟨rfl, hb3⟩
        clear cF
        go_wp2_with fail
        go_ret
        have hB2 : Below w.heap.size w w2 := hb1.trans (hb2.mono hb1.size)
        exact ⟨ret_str HO.out, hB2.trans (hb3.mono hB2.size)⟩
      | false =>
        have HL2 : Hid ((if k = 0 then b32 else T) = o) := by show _ = o; rw [← HL.out, hx, hf, ← HT.out]; rfl
        clear HL
        by_cases hk0 : k = 0
        · have hk' : ((k : Int) == 0) = true := by rw [hk0]; rfl
          have HO : Hid (⟨#[32]⟩ = o) := by show b32 = o; rw [← HL2.out, if_pos hk0]
          clear HL2 hk0
          go_enter Try.func49, Try.ntmps49
          go_wp2_with fail
          refine cR.mono ?_
          rintro e w1 ⟨rfl, hb1⟩
          clear cR
          have cF := far_any y w1 false hf.symm
          clear hf
          go_wp2_with fail
          refine cF.mono ?_
          rintro e w2 ⟨rfl, hb2⟩
          clear cF
          have cF := far_any x w2 false hx.symm
          clear hx
          go_wp2_with fail
          refine cF.mono ?_
          rintro e w3 ⟨rfl, hb3⟩
          clear cF
          go_wp2_with fail
          go_ret
          have hB2 : Below w.heap.size w w2 := hb1.trans (hb2.mono hb1.size)
          exact ⟨ret_str HO.out, hB2.trans (hb3.mono hB2.size)⟩
        · have hk' : ((k : Int) == 0) = false := by rw [beq_eq_false_iff_ne]; omega
          have HO : Hid (T = o) := by show T = o; rw [← HL2.out, if_neg hk0]
          clear HL2 hk0
          go_enter Try.func49, Try.ntmps49
          go_wp2_with fail
          refine cR.mono ?_
          rintro e w1 ⟨rfl, hb1⟩
          clear cR
          have cF := far_any y w1 false hf.symm
          clear hf
          go_wp2_with fail
          refine cF.mono ?_
          rintro e w2 ⟨rfl, hb2⟩
          clear cF
          have cF := far_any x w2 false hx.symm
          clear hx
          go_wp2_with fail
          refine cF.mono ?_
          rintro e w3 ⟨rfl, hb3⟩
          clear cF
          go_wp2_with fail
          go_ret
          have hB2 : Below w.heap.size w w2 := hb1.trans (hb2.mono hb1.size)
          exact ⟨ret_str HO.out, hB2.trans (hb3.mono hB2.size)⟩
end Go.Proofs.Ytfpkcfedkjjjbac
