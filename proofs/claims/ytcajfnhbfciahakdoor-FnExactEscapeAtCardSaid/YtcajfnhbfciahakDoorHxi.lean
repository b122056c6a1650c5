/- strconv.ParseUint at base sixteen and 32 bits, of one to eight bytes. -/
import Derived.Test.YtcajfnhbfciahakDoorSyn
import Derived.Test.YtcajfnhbfciahakDoorShx
import Derived.Lib.Strings
import Derived.Lib.Walk
import Derived.Lib.ConvBytes
import Derived.Lib.AtoiAllMem
import Derived.Lib.Hide
import Derived.Laws.Strings3
import Derived.Laws.Closers25
import Derived.Laws.Closers25b
import Derived.BigCall
import Derived.BigGuard
import Derived.Lib.IfaceEq
namespace Go.Proofs.YtcajfnhbfciahakDoor
open Go.ChangeShapes Go.WideShapes Go.ChangeAt Go.RowKit Go.Shelf
def lowN (y : Nat) : Nat := y ||| 32
theorem low_bits (y : Nat) (hy : y < 256) : bits .or .u8 (y : Int) 32 = (lowN y : Int) := by
  have h : ∀ z : Fin 256, bits .or .u8 (z.val : Int) 32 = (lowN z.val : Int) := by decide +kernel
  exact h ⟨y, hy⟩
theorem low_none {y : Nat} (hy : y < 256) (hd : dg y = none) : lowN y < 97 ∨ (103 ≤ lowN y ∧ lowN y ≤ 122) ∨ (122 < lowN y ∧ lowN y < 256) := by
  have h : ∀ z : Fin 256, dg z.val = none → lowN z.val < 97 ∨ (103 ≤ lowN z.val ∧ lowN z.val ≤ 122) ∨ (122 < lowN z.val ∧ lowN z.val < 256) := by decide +kernel
  exact h ⟨y, hy⟩ hd
theorem low_some {y d : Nat} (hy : y < 256) (hd : dg y = some d) : (48 ≤ y ∧ y ≤ 57 ∧ y = d + 48) ∨ ((y < 48 ∨ 57 < y) ∧ 97 ≤ lowN y ∧ lowN y ≤ 102 ∧ lowN y = d + 87) := by
  have h : ∀ z : Fin 256, ∀ d : Fin 16, dg z.val = some d.val → (48 ≤ z.val ∧ z.val ≤ 57 ∧ z.val = d.val + 48) ∨ ((z.val < 48 ∨ 57 < z.val) ∧ 97 ≤ lowN z.val ∧ lowN z.val ≤ 102 ∧ lowN z.val = d.val + 87) := by decide +kernel
  have h16 : d < 16 := by
    unfold dg at hd
    split at hd
    · injection hd with hd; omega
    · split at hd
      · injection hd with hd; omega
      · split at hd
        · injection hd with hd; omega
        · cases hd
  exact h ⟨y, hy⟩ ⟨d, h16⟩ hd
theorem lower_is (y m : Nat) (hy : y < 256) (hm : lowN y = m) (w : World) :
    Calls Tryd.prog 45 #[.int .u8 (y : Int)] w fun e w' => e = .returned (.int .u8 (m : Int)) ∧ w' = w := by
  have H : Hid (bits .or .u8 (y : Int) 32 = (m : Int)) := by show _ = _; rw [low_bits y hy, hm]
  clear hm
  go_enter Tryd.func45, Tryd.ntmps45
  go_wp2
  go_ret
  exact ⟨ret_int H.out, rfl⟩
/-- What ParseUint answers within: the number, or that it isn't one. -/
def puV (R : Int) : Value := if R < 0 then .tuple #[.int .u64 0, .iface 59 (.int .i64 2)] else .tuple #[.int .u64 R, .nilIface]
theorem puV_neg {R : Int} (h : R = -1) : puV R = .tuple #[.int .u64 0, .iface 59 (.int .i64 2)] := by subst h; rfl
theorem puV_nat (x : Nat) : puV (x : Int) = .tuple #[.int .u64 (x : Int), .nilIface] := by unfold puV; rw [if_neg (by omega)]
set_option maxHeartbeats 32000000 in
set_option maxRecDepth 100000 in
theorem inner_pu (t : ByteArray) (hne : t.size ≠ 0) (h8 : t.size ≤ 8) (w : World) (R : Int) (hR : hexGo t t.size 0 0 = R) :
    Calls Tryd.prog 34 #[.string t, .int .i64 16, .int .i64 32] w fun e w' => e = .returned (puV R) ∧ w' = Lib.bytesWorld w 5 t := by
  have eL : ∀ args w, (callFunc 45 args).run Tryd.prog w = .ok (.enter 45 args) w := enters_of Tryd.func45 (by kernel_rfl) rfl
  have hemp : t.toList.isEmpty = false := by
    rw [← decide_eq_emptyBytes]
    exact decide_eq_false (fun h => hne (by rw [h]; rfl))
  have hcv := Lib.run_convert_string_bytes (P := Tryd.prog) w 9 28 5 t (u := .string) Tryd.underlying9 Tryd.underlying28 Tryd.underlying5
  have hB : ∀ j, j < t.size → (Lib.bytesWorld w 5 t).cell? ⟨w.heap.size, j, none⟩ = some (.int .u8 (bt t j : Int)) := fun j hj => by
    rw [Lib.bytesWorld_cell w 5 t j hj, ← bt_get t j hj]
    have hl : j < t.data.toList.length := by simpa using hj
    simp [List.getD, List.getElem?_eq_getElem hl]
    rfl
  obtain ⟨W1, hW1⟩ : ∃ W1, W1 = Lib.bytesWorld w 5 t := ⟨_, rfl⟩
  rw [← hW1] at hcv hB ⊢
  have HB : Hid (∀ j, j < t.size → W1.cell? ⟨w.heap.size, j, none⟩ = some (.int .u8 (bt t j : Int))) := hB
  have HR : Hid (hexGo t t.size 0 0 = R) := hR
  clear hW1 hB hR
  have hmv : IntKind.u64.wrap (IntKind.u64.wrap 4294967296 - 1) = 4294967295 := by
    rw [IntKind.wrap_u64, IntKind.wrap_u64]
    decide
  go_enter Tryd.func34, Tryd.ntmps34
  go_wp2
  go_loop [12, 13, 101] (fun vu vn vi => ∃ (c k acc : Nat) (a : Int), vu = .bool false ∧ vn = .int .u64 a ∧ vi = .int .i64 k ∧ k + c = t.size ∧ Hid (a = (acc : Int)) ∧ Hid (acc < 16 ^ (8 - c)) ∧ Hid (hexGo t c k acc = R))
    (fun _ _ vi => t.size - (intOf vi).toNat)
  case atStart => exact ⟨t.size, 0, 0, 0, rfl, rfl, rfl, by omega, rfl, by show 0 < 16 ^ (8 - t.size); exact Nat.pow_pos (by decide), HR⟩
  case round =>
    obtain ⟨c, k, acc, a, rfl, rfl, rfl, hkc, HA, HX, HG⟩ := hrel
    cases c with
    | zero =>
      have hkk : k = t.size := by omega
      have HO : Hid (puV R = .tuple #[.int .u64 a, .nilIface]) := by
        show puV R = _
        rw [← HG.out, HA.out]
        exact puV_nat acc
      subst hkk
      clear HG HX hkc HA
      go_wp2
      go_ret2
      exact ⟨congrArg Ending.returned HO.out.symm, rfl⟩
    | succ c =>
      have hkn : k < t.size := by omega
      have hlt : (k : Int) < (t.size : Int) := by omega
      have hc7 : c < 8 := by omega
      have HX7 : Hid (acc < 16 ^ (7 - c)) := by
        have h := HX.out
        rw [show 8 - (c + 1) = 7 - c by omega] at h
        exact h
      have hx7 : acc ≤ 268435455 := by have h := HX7.out; have := pow_le c; omega
      have a0 : 0 ≤ a := by rw [HA.out]; omega
      have a1 : a ≤ 268435455 := by rw [HA.out]; omega
      have hc := HB.out k hkn
      have hy256 : bt t k < 256 := bt_lt t k
      obtain ⟨y, hy⟩ : ∃ y, bt t k = y := ⟨_, rfl⟩
      have HY : Hid (bt t k = y) := hy
      rw [hy] at hc hy256
      clear hy
      have hy256' : (y : Int) < 256 := by omega
      obtain ⟨m, hm⟩ : ∃ m, lowN y = m := ⟨_, rfl⟩
      have HM : Hid (lowN y = m) := hm
      have HY2 : Hid (y < 256) := hy256
      cases hd : dg y with
      | none =>
        have HO : Hid (puV R = .tuple #[.int .u64 0, .iface 59 (.int .i64 2)]) := by
          show puV R = _
          exact puV_neg (by rw [← HG.out, hex_bad hkn (by rw [HY.out]; exact hd)])
        have hnd : ¬ (48 ≤ y ∧ y ≤ 57) := by intro h; unfold dg at hd; rw [if_pos h] at hd; cases hd
        have hway := low_none hy256 hd
        rw [hm] at hway
        have h95 : ((y : Int) == 95) = true ∨ ((y : Int) == 95) = false := by cases ((y : Int) == 95) <;> simp
        clear HG HX HX7 hd hkc hx7 hm hy256
        have hdw : (y : Int) < 48 ∨ (48 ≤ (y : Int) ∧ ¬ (y : Int) ≤ 57) := by omega
        rcases h95 with h95 | h95
        all_goals (
          rcases hdw with h1 | ⟨h1, h2⟩
          all_goals (
            rcases hway with h | ⟨h, h'⟩ | ⟨h, h'⟩
            · have m1 : ¬ (97 : Int) ≤ (m : Int) := by omega
              clear h hnd
              go_wp2_with (go_at_fn 45; refine (lower_is y m HY2.out HM.out _).mono ?_; rintro e w' ⟨rfl, rfl⟩)
              go_ret2
              exact ⟨congrArg Ending.returned HO.out.symm, rfl⟩
            · have m1 : (97 : Int) ≤ (m : Int) := by omega
              have m2 : (m : Int) ≤ 122 := by omega
              have m3 : (103 : Int) ≤ (m : Int) := by omega
              clear h h' hnd
              go_wp2_with (go_at_fn 45; refine (lower_is y m HY2.out HM.out _).mono ?_; rintro e w' ⟨rfl, rfl⟩)
              go_ret2
              exact ⟨congrArg Ending.returned HO.out.symm, rfl⟩
            · have m1 : (97 : Int) ≤ (m : Int) := by omega
              have m2 : ¬ (m : Int) ≤ 122 := by omega
              clear h h' hnd
              go_wp2_with (go_at_fn 45; refine (lower_is y m HY2.out HM.out _).mono ?_; rintro e w' ⟨rfl, rfl⟩)
              go_ret2
              exact ⟨congrArg Ending.returned HO.out.symm, rfl⟩))
      | some d =>
        have hway := low_some hy256 hd
        rw [hm] at hway
        have hd15 : d ≤ 15 := by omega
        have HG2 : Hid (hexGo t c (k + 1) (acc * 16 + d) = R) := by
          show hexGo t c (k + 1) (acc * 16 + d) = R
          rw [← HG.out, hex_dig hkn (by rw [HY.out]; exact hd)]
        have HX2 : Hid (acc * 16 + d < 16 ^ (8 - c)) := pow_step hc7 HX7.out (by omega)
        have hkc2 : k + 1 + c = t.size := by omega
        have HK2 : Hid (k + 1 + c = t.size) := hkc2
        have h95 : ((y : Int) == 95) = false := by
          rw [beq_eq_false_iff_ne]
          intro e
          have : y = 95 := by omega
          subst this
          cases hd
        clear HG HX HX7 hd hkc hx7 hm hy256 hkc2
        rcases hway with ⟨h1, h2, h3⟩ | ⟨h0, h1, h2, h3⟩
        · have m1 : (48 : Int) ≤ (y : Int) := by omega
          have m2 : (y : Int) ≤ 57 := by omega
          have HV : Hid (a * 16 + ((y : Int) - 48) = ((acc * 16 + d : Nat) : Int)) := by show _ = _; rw [HA.out]; omega
          clear h1 h2 h3 hd15 HA
          go_wp2
          go_round
          case rel => exact ⟨c, k + 1, acc * 16 + d, a * 16 + ((y : Int) - 48), rfl, rfl, by go_num, HK2.out, HV, HX2, HG2⟩
          case measure => simp [intOf]; omega
        · have m1 : (97 : Int) ≤ (m : Int) := by omega
          have m2 : (m : Int) ≤ 102 := by omega
          have HV : Hid (a * 16 + ((m : Int) - 97 + 10) = ((acc * 16 + d : Nat) : Int)) := by show _ = _; rw [HA.out]; omega
          have hdw : (y : Int) < 48 ∨ (48 ≤ (y : Int) ∧ ¬ (y : Int) ≤ 57) := by omega
          clear h0 h1 h2 h3 hd15 HA
          rcases hdw with h1 | ⟨h1, h2⟩
          all_goals (
            go_wp2_with (go_at_fn 45; refine (lower_is y m HY2.out HM.out _).mono ?_; rintro e w' ⟨rfl, rfl⟩)
            go_round
            case rel => exact ⟨c, k + 1, acc * 16 + d, a * 16 + ((m : Int) - 97 + 10), rfl, rfl, by go_num, HK2.out, HV, HX2, HG2⟩
            case measure => simp [intOf]; omega)
end Go.Proofs.YtcajfnhbfciahakDoor
