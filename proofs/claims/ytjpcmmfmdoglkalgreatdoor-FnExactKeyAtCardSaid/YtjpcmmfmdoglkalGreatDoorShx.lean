/- The contract of spec.l07Hex. -/
import Derived.Test.YtjpcmmfmdoglkalGreatDoorQut
import Derived.Test.YtjpcmmfmdoglkalGreatDoorProg
import Derived.WalkLawsBesides
import Derived.WalkSpells
import Derived.WalkMore
namespace Go.Proofs.YtjpcmmfmdoglkalGreatDoor
open Go.ChangeShapes Go.WideShapes Go.ChangeAt Go.RowKit
/-- A digit of base sixteen. -/
def dg (x : Nat) : Option Nat := if 48 ≤ x ∧ x ≤ 57 then some (x - 48) else if 97 ≤ x ∧ x ≤ 102 then some (x - 87) else if 65 ≤ x ∧ x ≤ 70 then some (x - 55) else none
/-- c digits from i on. -/
def hexGo (s : ByteArray) : Nat → Nat → Nat → Int
  | 0, _, x => (x : Int)
  | c + 1, i, x => if s.size ≤ i then -1 else match dg (bt s i) with
    | none => -1
    | some d => hexGo s c (i + 1) (x * 16 + d)
theorem hex_end {s : ByteArray} {c i x : Nat} (h : s.size ≤ i) : hexGo s (c + 1) i x = -1 := by rw [hexGo, if_pos h]
theorem hex_bad {s : ByteArray} {c i x : Nat} (h : i < s.size) (hd : dg (bt s i) = none) : hexGo s (c + 1) i x = -1 := by rw [hexGo, if_neg (by omega), hd]
theorem hex_dig {s : ByteArray} {c i x d : Nat} (h : i < s.size) (hd : dg (bt s i) = some d) : hexGo s (c + 1) i x = hexGo s c (i + 1) (x * 16 + d) := by rw [hexGo, if_neg (by omega), hd]
theorem pow_step {x d c : Nat} (hc : c < 8) (h : x < 16 ^ (7 - c)) (hd : d < 16) : x * 16 + d < 16 ^ (8 - c) := by
  have e : 8 - c = (7 - c) + 1 := by omega
  rw [e, Nat.pow_succ]
  omega
theorem pow_le (c : Nat) : 16 ^ (7 - c) ≤ 268435456 := by
  have : 16 ^ (7 - c) ≤ 16 ^ 7 := Nat.pow_le_pow_right (by decide) (by omega)
  exact this
set_option maxHeartbeats 2000000 in
theorem spec_hex (s : ByteArray) (p n : Nat) (w : World) (hs : s.size ≤ 1048576) (hp : p ≤ 1048578) (hn : n ≤ 8) :
    Calls Tryz.prog 119 #[.string s, .int .i64 (p : Int), .int .i64 (n : Int)] w fun e w' => e = .returned (.int .i64 (hexGo s n p 0)) ∧ w' = w := by
  obtain ⟨R, hR⟩ : ∃ R, hexGo s n p 0 = R := ⟨_, rfl⟩
  have HR : Hid (hexGo s n p 0 = R) := hR
  rw [hR]
  clear hR
  go_enter Tryz.func119, Tryz.ntmps119
  go_wp2_with fail
  go_loop [7, 8] (fun xv iv => ∃ (c i x : Nat), xv = .int .i64 (x : Int) ∧ iv = .int .i64 (i : Int) ∧ i + c = p + n ∧ p ≤ i ∧ Hid (x < 16 ^ (8 - c)) ∧ Hid (hexGo s c i x = R)) (fun _ iv => p + n - (intOf iv).toNat)
  case atStart => exact ⟨n, p, 0, rfl, rfl, rfl, Nat.le_refl _, by show 0 < 16 ^ (8 - n); exact Nat.pow_pos (by decide), HR⟩
  case round =>
    obtain ⟨c, i, x, rfl, rfl, hic, hpi, HX, HG⟩ := hrel
    cases c with
    | zero =>
      have hlt' : ¬ (i : Int) < (p : Int) + (n : Int) := by omega
      have HO : Hid ((x : Int) = R) := by rw [← HG.out]; rfl
      clear HG HX hic
      go_wp2_with fail
      go_ret
      exact ⟨ret_int HO.out, rfl⟩
    | succ c =>
      have hlt' : (i : Int) < (p : Int) + (n : Int) := by omega
      have hc7 : c < 8 := by omega
      have HX7 : Hid (x < 16 ^ (7 - c)) := by
        have h := HX.out
        rw [show 8 - (c + 1) = 7 - c by omega] at h
        exact h
      have hx7 : x ≤ 268435456 := by have h := HX7.out; have := pow_le c; omega
      by_cases hl : i < s.size
      · have hl' : ¬ (s.size : Int) ≤ (i : Int) := by omega
        have hb := bt_get s i hl
        obtain ⟨y, hy⟩ : ∃ y, (s[i]'hl).toNat = y := ⟨_, rfl⟩
        have hy256 : y < 256 := by rw [← hy, hb]; exact bt_lt s i
        have HY : Hid (bt s i = y) := by show bt s i = y; rw [← hb]; exact hy
        have hic2 : i + 1 + c = p + n := by omega
        cases hd : dg y with
        | none =>
          have HO : Hid ((-1 : Int) = R) := by rw [← HG.out, hex_bad hl (by rw [HY.out]; exact hd)]; rfl
          have h1 : ¬ (48 ≤ y ∧ y ≤ 57) := by intro h; unfold dg at hd; rw [if_pos h] at hd; cases hd
          have h2 : ¬ (97 ≤ y ∧ y ≤ 102) := by intro h; unfold dg at hd; rw [if_neg h1, if_pos h] at hd; cases hd
          have h3 : ¬ (65 ≤ y ∧ y ≤ 70) := by intro h; unfold dg at hd; rw [if_neg h1, if_neg h2, if_pos h] at hd; cases hd
          have hway : (y < 48) ∨ (57 < y ∧ y < 65) ∨ (70 < y ∧ y < 97) ∨ 102 < y := by omega
          clear HG HX HX7 hd h1 h2 h3 hic hic2 hb
          rcases hway with h | ⟨h, h'⟩ | ⟨h, h'⟩ | h
          · have a1 : ¬ (48 : Int) ≤ (y : Int) := by omega
            have a2 : ¬ (97 : Int) ≤ (y : Int) := by omega
            have a3 : ¬ (65 : Int) ≤ (y : Int) := by omega
            go_wp2_with fail
            go_ret
            exact ⟨ret_int HO.out, rfl⟩
          · have a1 : (48 : Int) ≤ (y : Int) := by omega
            have a1' : ¬ (y : Int) ≤ 57 := by omega
            have a2 : ¬ (97 : Int) ≤ (y : Int) := by omega
            have a3 : ¬ (65 : Int) ≤ (y : Int) := by omega
            go_wp2_with fail
            go_ret
            exact ⟨ret_int HO.out, rfl⟩
          · have a1 : (48 : Int) ≤ (y : Int) := by omega
            have a1' : ¬ (y : Int) ≤ 57 := by omega
            have a2 : ¬ (97 : Int) ≤ (y : Int) := by omega
            have a3 : (65 : Int) ≤ (y : Int) := by omega
            have a3' : ¬ (y : Int) ≤ 70 := by omega
            go_wp2_with fail
            go_ret
            exact ⟨ret_int HO.out, rfl⟩
          · have a1 : (48 : Int) ≤ (y : Int) := by omega
            have a1' : ¬ (y : Int) ≤ 57 := by omega
            have a2 : (97 : Int) ≤ (y : Int) := by omega
            have a2' : ¬ (y : Int) ≤ 102 := by omega
            have a3 : (65 : Int) ≤ (y : Int) := by omega
            have a3' : ¬ (y : Int) ≤ 70 := by omega
            go_wp2_with fail
            go_ret
            exact ⟨ret_int HO.out, rfl⟩
        | some d =>
          have hd16 : d < 16 ∧ ((48 ≤ y ∧ y ≤ 57 ∧ d + 48 = y) ∨ (97 ≤ y ∧ y ≤ 102 ∧ d + 87 = y) ∨ (65 ≤ y ∧ y ≤ 70 ∧ d + 55 = y)) := by
            unfold dg at hd
            split at hd
            · injection hd with hd; omega
            · split at hd
              · injection hd with hd; omega
              · split at hd
                · injection hd with hd; omega
                · cases hd
          have HG2 : Hid (hexGo s c (i + 1) (x * 16 + d) = R) := by
            show hexGo s c (i + 1) (x * 16 + d) = R
            rw [← HG.out, hex_dig hl (by rw [HY.out]; exact hd)]
          have HX2 : Hid (x * 16 + d < 16 ^ (8 - c)) := pow_step hc7 HX7.out hd16.1
          obtain ⟨hd1, hway⟩ := hd16
          clear HG HX HX7 hd hic hb
          rcases hway with ⟨h, h', h3⟩ | ⟨h, h', h3⟩ | ⟨h, h', h3⟩
          · have a1 : (48 : Int) ≤ (y : Int) := by omega
            have a1' : (y : Int) ≤ 57 := by omega
            go_wp2_with fail
            go_round
            case rel => exact ⟨c, i + 1, x * 16 + d, by go_num, by go_num, by omega, by omega, HX2, HG2⟩
            case measure => simp [intOf]; omega
          · have a1 : (48 : Int) ≤ (y : Int) := by omega
            have a1' : ¬ (y : Int) ≤ 57 := by omega
            have a2 : (97 : Int) ≤ (y : Int) := by omega
            have a2' : (y : Int) ≤ 102 := by omega
            go_wp2_with fail
            go_round
            case rel => exact ⟨c, i + 1, x * 16 + d, by go_num, by go_num, by omega, by omega, HX2, HG2⟩
            case measure => simp [intOf]; omega
          · have a1 : (48 : Int) ≤ (y : Int) := by omega
            have a1' : ¬ (y : Int) ≤ 57 := by omega
            have a2 : ¬ (97 : Int) ≤ (y : Int) := by omega
            have a3 : (65 : Int) ≤ (y : Int) := by omega
            have a3' : (y : Int) ≤ 70 := by omega
            go_wp2_with fail
            go_round
            case rel => exact ⟨c, i + 1, x * 16 + d, by go_num, by go_num, by omega, by omega, HX2, HG2⟩
            case measure => simp [intOf]; omega
      · have hl' : (s.size : Int) ≤ (i : Int) := by omega
        have HO : Hid ((-1 : Int) = R) := by rw [← HG.out, hex_end (by omega)]; rfl
        clear HG HX HX7 hic
        go_wp2_with fail
        go_ret
        exact ⟨ret_int HO.out, rfl⟩
end Go.Proofs.YtjpcmmfmdoglkalGreatDoor
