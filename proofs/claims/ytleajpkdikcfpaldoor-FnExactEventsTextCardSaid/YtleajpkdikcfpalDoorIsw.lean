/- The contract of impl.shown. -/
import Derived.Test.YtleajpkdikcfpalDoorIsh
import Derived.Test.YtleajpkdikcfpalDoorSec
namespace Go.Proofs.YtleajpkdikcfpalDoor
open Go.ChangeShapes Go.WideShapes Go.ChangeAt Go.RowKit
theorem strN_app (l m : List Nat) : strN (l ++ m) = strN l ++ strN m := by
  unfold strN
  apply ba_ext
  rw [strOfNums_data, ByteArray.data_append, Array.toList_append, strOfNums_data, strOfNums_data, List.map_append, List.map_append]
theorem strN_one (c : Nat) : strN [c] = ⟨#[c.toUInt8]⟩ := rfl
theorem strN_len (l : List Nat) : (strN l).size = l.length := by unfold strN; rw [strOfNums_size]; simp
theorem ix_none (c : Nat) (hc : c < 256) (h : c ≠ 92 ∧ c ≠ 10 ∧ c ≠ 9 ∧ c ≠ 13 ∧ c ≠ 8 ∧ c ≠ 0) : Lib.indexByte (⟨#[92, 10, 9, 13, 8, 0]⟩ : ByteArray).data.toList (c : Int).toNat.toUInt8 = -1 := by
  have e : ∀ k : Nat, k < 256 → c ≠ k → (k.toUInt8 == c.toUInt8) = false := fun k hk hne => by
    rw [beq_eq_false_iff_ne]
    intro he
    have := congrArg UInt8.toNat he
    simp [Nat.toUInt8] at this
    omega
  have cons : ∀ (b : UInt8) (l : List UInt8), (b == c.toUInt8) = false → Lib.indexByte l c.toUInt8 = -1 → Lib.indexByte (b :: l) c.toUInt8 = -1 := fun b l h1 h2 => by
    unfold Lib.indexByte
    rw [h2, h1]
    rfl
  show Lib.indexByte [92, 10, 9, 13, 8, 0] c.toUInt8 = -1
  exact cons 92 _ (e 92 (by decide) h.1) (cons 10 _ (e 10 (by decide) h.2.1) (cons 9 _ (e 9 (by decide) h.2.2.1) (cons 13 _ (e 13 (by decide) h.2.2.2.1) (cons 8 _ (e 8 (by decide) h.2.2.2.2.1) (cons 0 _ (e 0 (by decide) h.2.2.2.2.2) rfl)))))
theorem esc1_none (c : Nat) (h : c ≠ 92 ∧ c ≠ 10 ∧ c ≠ 9 ∧ c ≠ 13 ∧ c ≠ 8 ∧ c ≠ 0) : esc1 c = [c] := by
  unfold esc1
  rw [if_neg h.1, if_neg h.2.1, if_neg h.2.2.1, if_neg h.2.2.2.1, if_neg h.2.2.2.2.1, if_neg h.2.2.2.2.2]
/-- Where a byte lies among the hidden ones, and its sign. -/
theorem esc_some (c : Nat) (h : ¬ (c ≠ 92 ∧ c ≠ 10 ∧ c ≠ 9 ∧ c ≠ 13 ∧ c ≠ 8 ∧ c ≠ 0)) :
    ∃ j d : Nat, j < 6 ∧ d < 256 ∧ Lib.indexByte (⟨#[92, 10, 9, 13, 8, 0]⟩ : ByteArray).data.toList (c : Int).toNat.toUInt8 = (j : Int) ∧ bt ⟨#[92, 110, 116, 114, 98, 48]⟩ j = d ∧ esc1 c = [92, d] := by
  by_cases h1 : c = 92
  · subst h1; exact ⟨0, 92, by decide, by decide, by decide, by decide, by decide⟩
  by_cases h2 : c = 10
  · subst h2; exact ⟨1, 110, by decide, by decide, by decide, by decide, by decide⟩
  by_cases h3 : c = 9
  · subst h3; exact ⟨2, 116, by decide, by decide, by decide, by decide, by decide⟩
  by_cases h4 : c = 13
  · subst h4; exact ⟨3, 114, by decide, by decide, by decide, by decide, by decide⟩
  by_cases h5 : c = 8
  · subst h5; exact ⟨4, 98, by decide, by decide, by decide, by decide, by decide⟩
  by_cases h6 : c = 0
  · subst h6; exact ⟨5, 48, by decide, by decide, by decide, by decide, by decide⟩
  exact absurd ⟨h1, h2, h3, h4, h5, h6⟩ h
set_option maxHeartbeats 8000000 in
theorem shown_any (s : ByteArray) (w : World) (hs : s.size ≤ 1048576) (t : ByteArray) (ht : strN (escTo s s.size) = t) :
    Calls Tryd.prog 26 #[.string s] w fun e w' => e = .returned (.string t) ∧ Below w.heap.size w w' := by
  have HT : Hid (strN (escTo s s.size) = t) := ht
  have HS : Hid (s.size ≤ 1048576) := hs
  have hs' : s.size < 9223372036854775807 := by omega
  have HD0 : Hid (Bd w.heap.size w.heap.size (strN (escTo s 0)) (w.alloc (.cells #[.pointer none, .slice none 0 0] 38))) := Bd.fresh w
  have HB0 : Hid (Below w.heap.size w (w.alloc (.cells #[.pointer none, .slice none 0 0] 38))) := (Below.refl _ w).alloc (Nat.le_refl _) _
  clear hs ht
  go_enter Tryd.func26, Tryd.ntmps26
  go_wp2_with fail
  go_loopw [8] (fun kv wr => ∃ k : Nat, kv = .int .i64 (k : Int) ∧ k ≤ s.size ∧ Hid (Bd w.heap.size w.heap.size (strN (escTo s k)) wr) ∧ Hid (Below w.heap.size w wr)) (fun kv _ => s.size - (intOf kv).toNat)
  case atStart => exact ⟨0, rfl, Nat.zero_le _, HD0, HB0⟩
  case round =>
    clear HD0 HB0
    obtain ⟨k, rfl, hk, HD, HB⟩ := hrel
    by_cases hlt : k < s.size
    · have hlt' : (k : Int) < (s.size : Int) := by omega
      have hlen : Hid ((strN (escTo s k)).size ≤ 4000000) := by
        show (strN (escTo s k)).size ≤ 4000000
        rw [strN_len]
        have h1 := escTo_len s k
        have h2 := HS.out
        omega
      have cI : Hid (∀ w, Calls Tryd.prog 32 #[.string ⟨#[92, 10, 9, 13, 8, 0]⟩, .int .u8 ((s[k]'hlt).toNat : Int)] w fun e w' => e = .returned (.int .i64 (Lib.indexByte (⟨#[92, 10, 9, 13, 8, 0]⟩ : ByteArray).data.toList ((s[k]'hlt).toNat : Int).toNat.toUInt8)) ∧ w' = w) := fun w => indexByte_any _ _ w
      have HE : Hid (escTo s (k + 1) = escTo s k ++ esc1 (bt s k)) := rfl
      have hbt := bt_get s k hlt
      have HBT : Hid (bt s k < 256) := bt_lt s k
      by_cases h6 : bt s k ≠ 92 ∧ bt s k ≠ 10 ∧ bt s k ≠ 9 ∧ bt s k ≠ 13 ∧ bt s k ≠ 8 ∧ bt s k ≠ 0
      · have hi := ix_none (bt s k) (bt_lt s k) h6
        have he := esc1_none (bt s k) h6
        rw [hbt, hi] at cI
        have cW : Hid (∀ V, Bd w.heap.size w.heap.size (strN (escTo s k)) V → w.heap.size ≤ V.heap.size → Calls Tryd.prog 14 #[.pointer (some ⟨w.heap.size, 0, none⟩), .int .u8 ((s[k]'hlt).toNat : Int)] V fun e w' => e = .returned .nilIface ∧ Bd w.heap.size w.heap.size (strN (escTo s (k + 1))) w' ∧ Below w.heap.size V w') := fun V hV hz => by
          rw [hbt, HE.out, he, strN_app, strN_one]
          exact writeByte_any _ _ _ _ V hV (bt_lt s k) (by have := hlen.out; omega) hz
        rw [← hbt] at cI
        clear hi he h6 HE hbt HBT
        go_wp2_with fail
        refine (cI.out _).mono ?_
        rintro e w1 ⟨rfl, rfl⟩
        clear cI
        go_wp2_with fail
        refine (cW.out _ HD.out HB.out.size).mono ?_
        rintro e w2 ⟨rfl, hd2, hb2⟩
        have HD2 : Hid (Bd w.heap.size w.heap.size (strN (escTo s (k + 1))) w2) := hd2
        have HB2 : Hid (Below w.heap.size w w2) := HB.out.trans hb2
        clear cW hd2 hb2
        go_wp2_with fail
        go_roundw
        case rel => exact ⟨k + 1, by go_num, hlt, HD2, HB2⟩
        case measure => simp [intOf]; omega
      · obtain ⟨j, d, hj, hd, hi, hbd, he⟩ := esc_some (bt s k) h6
        rw [hbt, hi] at cI
        have hj6 : j < (⟨#[92, 110, 116, 114, 98, 48]⟩ : ByteArray).size := hj
        have hbj := bt_get (⟨#[92, 110, 116, 114, 98, 48]⟩ : ByteArray) j hj6
        have cW1 : Hid (∀ V, Bd w.heap.size w.heap.size (strN (escTo s k)) V → w.heap.size ≤ V.heap.size → Calls Tryd.prog 14 #[.pointer (some ⟨w.heap.size, 0, none⟩), .int .u8 92] V fun e w' => e = .returned .nilIface ∧ Bd w.heap.size w.heap.size (strN (escTo s k) ++ strN [92]) w' ∧ Below w.heap.size V w') := fun V hV hz =>
          writeByte_any _ _ _ 92 V hV (by decide) (by have := hlen.out; omega) hz
        have cW2 : Hid (∀ V, Bd w.heap.size w.heap.size (strN (escTo s k) ++ strN [92]) V → w.heap.size ≤ V.heap.size → Calls Tryd.prog 14 #[.pointer (some ⟨w.heap.size, 0, none⟩), .int .u8 (((⟨#[92, 110, 116, 114, 98, 48]⟩ : ByteArray)[j]'hj6).toNat : Int)] V fun e w' => e = .returned .nilIface ∧ Bd w.heap.size w.heap.size (strN (escTo s (k + 1))) w' ∧ Below w.heap.size V w') := fun V hV hz => by
          rw [hbj, hbd, HE.out, he, show [92, d] = [92] ++ [d] from rfl, strN_app, strN_app, ← ByteArray.append_assoc, strN_one d]
          exact writeByte_any _ _ _ d V hV hd (by have := hlen.out; rw [ByteArray.size_append]; show _ + 1 + 1 ≤ _; omega) hz
        rw [← hbt] at cI
        have hj0 : ¬ (j : Int) < 0 := by omega
        clear hi he h6 HE hbt HBT hbj hbd hd hlen
        go_wp2_with fail
        refine (cI.out _).mono ?_
        rintro e w1 ⟨rfl, rfl⟩
        clear cI
        go_wp2_with fail
        refine (cW1.out _ HD.out HB.out.size).mono ?_
        rintro e w2 ⟨rfl, hd2, hb2⟩
        have HD2 : Hid (Bd w.heap.size w.heap.size (strN (escTo s k) ++ strN [92]) w2) := hd2
        have HB2 : Hid (Below w.heap.size w w2) := HB.out.trans hb2
        clear cW1 hd2 hb2
        go_wp2_with fail
        refine (cW2.out _ HD2.out HB2.out.size).mono ?_
        rintro e w3 ⟨rfl, hd3, hb3⟩
        have HD3 : Hid (Bd w.heap.size w.heap.size (strN (escTo s (k + 1))) w3) := hd3
        have HB3 : Hid (Below w.heap.size w w3) := HB2.out.trans hb3
        clear cW2 hd3 hb3
        go_wp2_with fail
        go_roundw
        case rel => exact ⟨k + 1, by go_num, hlt, HD3, HB3⟩
        case measure => simp [intOf]; omega
    · have hlt' : ¬ (k : Int) < (s.size : Int) := by omega
      have cS := string_any w.heap.size w.heap.size _ wr HD.out HB.out.size
      rw [show k = s.size from by omega, HT.out] at cS
      clear HD
      go_wp2_with fail
      refine cS.mono ?_
      rintro e w1 ⟨rfl, hb1⟩
      go_wp2_with fail
      go_ret
      exact ⟨rfl, HB.out.trans hb1⟩
end Go.Proofs.YtleajpkdikcfpalDoor
