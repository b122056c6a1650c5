/- The contract of spec.l07Cut. -/
import Derived.Test.YtjpcmmfmdoglkalGreatDoorQut
import Derived.Test.YtjpcmmfmdoglkalGreatDoorProg
import Derived.WalkLawsBesides
import Derived.WalkSpells
import Derived.WalkMore
namespace Go.Proofs.YtjpcmmfmdoglkalGreatDoor
open Go.ChangeShapes Go.WideShapes Go.ChangeAt Go.RowKit
def slLen : Value → Nat
  | .slice _ n _ => n
  | _ => 0
set_option maxHeartbeats 2000000 in
theorem cut_any (w : World) (g cap keep : Nat) (b : ByteArray) (hB : Lib.Bytes w g 0 b) (hc : b.size ≤ cap) (hs : b.size ≤ 8388608) (hk : keep ≤ 8388608) :
    Calls Tryz.prog 66 #[.slice (some ⟨g, 0, none⟩) b.size cap, .int .i64 (keep : Int)] w fun e w' => e = .returned (.string (cutB b keep)) ∧ w' = w := by
  obtain ⟨R, hR⟩ : ∃ R, cutN b keep b.size = R := ⟨_, rfl⟩
  have HO : Hid (b.extract 0 R = cutB b keep) := by show b.extract 0 R = cutB b keep; rw [← hR]; rfl
  have HR : Hid (cutN b keep b.size = R) := hR
  have HB : Hid (Lib.Bytes w g 0 b) := hB
  clear hR hB
  rw [← HO.out]
  go_enter Tryz.func66, Tryz.ntmps66
  go_wp2_with fail
  go_loop [0] (fun v => ∃ k : Nat, k ≤ b.size ∧ v = .slice (some ⟨g, 0, none⟩) k cap ∧ Hid (cutN b keep k = R)) (fun v => slLen v)
  case atStart => exact ⟨b.size, Nat.le_refl _, rfl, HR⟩
  case round =>
    obtain ⟨k, hkb, rfl, HK⟩ := hrel
    by_cases h0 : k ≤ keep
    · have h0' : ¬ (keep : Int) < (k : Int) := by omega
      have hkR : k = R := by rw [← HK.out, cutN_low h0]
      have hcv := Lib.run_convert_window (P := Tryz.prog) w 89 5 9 Tryz.underlying89 Tryz.underlying5 Tryz.underlying9 g 0 b HB.out 0 k cap (by omega)
      rw [Nat.add_zero, Nat.zero_add] at hcv
      subst hkR
      clear h0 HK
      go_wp2_with fail
      go_ret
      exact ⟨rfl, rfl⟩
    · have h0' : (keep : Int) < (k : Int) := by omega
      obtain ⟨j, hj⟩ : ∃ j, k = j + 1 := ⟨k - 1, by omega⟩
      have hjb : j < b.size := by omega
      have e1 : (k : Int) - 1 = (j : Int) := by omega
      have hjk : (j : Int) < (k : Int) := by omega
      have hjn : (0 : Int) ≤ (j : Int) := by omega
      have hjc : (j : Int) ≤ (cap : Int) := by omega
      have c1 : w.cell? ⟨g, j, none⟩ = some (.int .u8 ((b[j]'hjb).toNat : Int)) := by have := HB.out j hjb; rwa [Nat.zero_add] at this
      have hbt := bt_get b j hjb
      by_cases hp : pW (bt b j) = true
      · have HK2 : Hid (cutN b keep j = R) := by show cutN b keep j = R; rw [← HK.out, hj, cutN_step (by omega) hp]
        have hway : (b[j]'hjb).toNat = 32 ∨ ((b[j]'hjb).toNat ≠ 32 ∧ (b[j]'hjb).toNat = 9) := by
          rw [hbt]; simp [pW] at hp; omega
        clear hp HK hbt
        rcases hway with h | ⟨h, h2⟩
        · have t1 : (((b[j]'hjb).toNat : Int) == 32) = true := by rw [h]; rfl
          clear h hj h0
          go_wp2_with fail
          go_round
          case rel => exact ⟨j, by omega, rfl, HK2⟩
          case measure => simp [slLen]; omega
        · have t1 : (((b[j]'hjb).toNat : Int) == 32) = false := by rw [beq_eq_false_iff_ne]; omega
          have t2 : (((b[j]'hjb).toNat : Int) == 9) = true := by rw [h2]; rfl
          clear h h2 hj h0
          go_wp2_with fail
          go_round
          case rel => exact ⟨j, by omega, rfl, HK2⟩
          case measure => simp [slLen]; omega
      · have hkR : k = R := by rw [← HK.out, hj, cutN_stop (fun h => hp h.2)]
        have t1 : (((b[j]'hjb).toNat : Int) == 32) = false := by rw [beq_eq_false_iff_ne, hbt]; simp [pW] at hp; omega
        have t2 : (((b[j]'hjb).toNat : Int) == 9) = false := by rw [beq_eq_false_iff_ne, hbt]; simp [pW] at hp; omega
        have hcv := Lib.run_convert_window (P := Tryz.prog) w 89 5 9 Tryz.underlying89 Tryz.underlying5 Tryz.underlying9 g 0 b HB.out 0 k cap (by omega)
        rw [Nat.add_zero, Nat.zero_add] at hcv
        subst hkR
        clear hp HK hj h0 hbt
        go_wp2_with fail
        go_ret
        exact ⟨rfl, rfl⟩
end Go.Proofs.YtjpcmmfmdoglkalGreatDoor
