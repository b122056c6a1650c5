/- The draws, sharper: l01New makes a cursor; l01Of answers one of its texts, of which something was asked ahead. -/
import Derived.Test.YtlfamgdmmenonaaDoorDwa
namespace Go.Proofs.YtlfamgdmmenonaaDoor
open Go.ChangeShapes Go.WideShapes Go.ChangeAt Go.RowKit
set_option maxHeartbeats 2000000 in
theorem newC_any (a : Option Addr) (len cap : Nat) (w : World) (hb : Bs w.heap.size a len w) :
    Calls Tryd.prog 16 #[.slice a len cap] w fun e w' => e = .returned (.pointer (some ⟨w.heap.size, 0, none⟩)) ∧ Cu w.heap.size w' ∧ Below w.heap.size w w' := by
  have hl := hb.1
  go_enter Tryd.func16, Tryd.ntmps16
  go_wp2_with fail
  go_loop [3, 4] (fun h t => ∃ (k : Nat) (z : Int), t = .int .i64 k ∧ h = .int .i64 z ∧ k ≤ len) (fun _ t => len - (intOf t).toNat)
  case atStart => exact ⟨0, _, rfl, rfl, Nat.zero_le _⟩
  case round =>
    obtain ⟨k, z, rfl, rfl, hk⟩ := hrel
    by_cases hlt : k < len
    · by_cases h4 : k < 4000
      · have h4' : (k : Int) < 4000 := by omega
        clear h4
        obtain ⟨b, off, rfl, hbP, hcell⟩ := hb.2 (by omega)
        obtain ⟨y, hy, hy0, hy1⟩ := hcell k hlt
        clear hcell
        go_wp2_with fail
        go_round
        case rel => exact ⟨k + 1, _, by go_num, rfl, by omega⟩
        case measure => simp [intOf]; omega
      · have h4' : decide ((k : Int) < 4000) = false := by rw [decide_eq_false_iff_not]; omega
        clear h4
        have HL : Hid (len ≤ 1048576) := hl
        clear hl
        go_wp2_with fail
        go_ret
        refine ⟨rfl, ⟨a, len, cap, 0, z, ?_, by omega, by omega, ?_⟩, (Below.refl _ w).alloc (Nat.le_refl _) _⟩
        · show (w.heap.push _)[w.heap.size]? = _
          simp
        · exact hb.later ((Below.refl _ w).alloc (Nat.le_refl _) _)
    · go_wp2_with fail
      go_ret
      refine ⟨rfl, ⟨a, len, cap, 0, z, ?_, by omega, by omega, ?_⟩, (Below.refl _ w).alloc (Nat.le_refl _) _⟩
      · show (w.heap.push _)[w.heap.size]? = _
        simp
      · exact hb.later ((Below.refl _ w).alloc (Nat.le_refl _) _)
/-- A list of texts of which Pd was asked. -/
def txtP (Pd : ByteArray → Bool) : Value → Bool
  | .string t => Pd t
  | _ => false
end Go.Proofs.YtlfamgdmmenonaaDoor
