/- internal/strconv.ParseUint at the bases eight, ten and sixteen and 64 bits: the number that the digits write where it is at most MaxInt. -/
import Derived.Test.YtlfamgdmmenonaaDoorPva
import Derived.Test.YtlfamgdmmenonaaDoorLat
import Derived.Shelf.Pu.SyntaxError
import Derived.Lib.Strings
import Derived.Lib.Walk
import Derived.Lib.ConvBytes
import Derived.Lib.AtoiAllMem
import Derived.Lib.Hide
import Derived.Laws.Strings3
import Derived.Laws.Closers25
import Derived.Laws.Closers25b
import Derived.BigCall
import Derived.BigGuard
import Derived.Lib.IfaceEq
namespace Go.Proofs.YtlfamgdmmenonaaDoor
open Go.ChangeShapes Go.WideShapes Go.ChangeAt Go.RowKit Go.Shelf
def lowM (y : Nat) : Nat := y ||| 32
theorem lowM_bits (y : Nat) (hy : y < 256) : bits .or .u8 (y : Int) 32 = (lowM y : Int) := by
  have h : ∀ z : Fin 256, bits .or .u8 (z.val : Int) 32 = (lowM z.val : Int) := by decide +kernel
  exact h ⟨y, hy⟩
theorem dig_num {y : Nat} (h1 : 48 ≤ y) (h2 : y ≤ 57) : dig y = y - 48 := by unfold dig; rw [if_pos ⟨h1, h2⟩]
theorem dig_let {y : Nat} (hy : y < 256) (hn : ¬ (48 ≤ y ∧ y ≤ 57)) (h1 : 97 ≤ lowM y) (h2 : lowM y ≤ 102) : dig y = lowM y - 87 := by
  have h : ∀ z : Fin 256, ¬ (48 ≤ z.val ∧ z.val ≤ 57) → 97 ≤ lowM z.val → lowM z.val ≤ 102 → dig z.val = lowM z.val - 87 := by decide +kernel
  exact h ⟨y, hy⟩ hn h1 h2
theorem dig_off {y : Nat} (hy : y < 256) (hn : ¬ (48 ≤ y ∧ y ≤ 57)) (h1 : lowM y < 97 ∨ 102 < lowM y) : 16 ≤ dig y := by
  have h : ∀ z : Fin 256, ¬ (48 ≤ z.val ∧ z.val ≤ 57) → (lowM z.val < 97 ∨ 102 < lowM z.val) → 16 ≤ dig z.val := by decide +kernel
  exact h ⟨y, hy⟩ hn h1
theorem lowM_lt {y : Nat} (hy : y < 256) : lowM y < 256 := by
  have h : ∀ z : Fin 256, lowM z.val < 256 := by decide +kernel
  exact h ⟨y, hy⟩
theorem lowerM_is (y m : Nat) (hy : y < 256) (hm : lowM y = m) (w : World) :
    Calls Tryd.prog 50 #[.int .u8 (y : Int)] w fun e w' => e = .returned (.int .u8 (m : Int)) ∧ w' = w := by
  have H : Hid (bits .or .u8 (y : Int) 32 = (m : Int)) := by show _ = _; rw [lowM_bits y hy, hm]
  clear hm
  go_enter Tryd.func50, Tryd.ntmps50
  go_wp2
  go_ret
  exact ⟨ret_int H.out, rfl⟩
/-- What ParseUint comes to within: the number, one that is too great, or an error. -/
def InP (R : Int) (e : Ending) : Prop := (0 ≤ R ∧ e = .returned (.tuple #[.int .u64 R, .nilIface])) ∨ (R < 0 ∧ ((∃ x : Int, 9007199254740991 < x ∧ x < 18446744073709551616 ∧ e = .returned (.tuple #[.int .u64 x, .nilIface])) ∨ (∃ x : Int, e = .returned (.tuple #[.int .u64 x, .iface 82 (.int .i64 2)])) ∨ ∃ x : Int, e = .returned (.tuple #[.int .u64 x, .iface 82 (.int .i64 1)])))
theorem InP.syn {R : Int} (h : R = -1) (x : Int) : InP R (.returned (.tuple #[.int .u64 x, .iface 82 (.int .i64 2)])) := .inr ⟨by omega, .inr (.inl ⟨x, rfl⟩)⟩
theorem InP.rng {R : Int} (h : R = -1) (x : Int) : InP R (.returned (.tuple #[.int .u64 x, .iface 82 (.int .i64 1)])) := .inr ⟨by omega, .inr (.inr ⟨x, rfl⟩)⟩
/-- What is gathered ahead of the k-th byte. -/
def Pst (t : ByteArray) (b : Nat) (R : Int) (k acc : Nat) (a : Int) : Prop := a = (acc : Int) ∧ acc < 18446744073709551616 ∧ ((acc ≤ 9007199254740991 ∧ digG t b (t.size - k) k acc = R) ∨ (9007199254740991 < acc ∧ R = -1))
theorem Pst.step {t : ByteArray} {b : Nat} {R : Int} {k acc d : Nat} {a a' : Int} (h : Pst t b R k acc a) (hb : 0 < b) (hk : k < t.size) (hd : dig (bt t k) = d) (hdb : d < b) (hl : acc * b + d < 18446744073709551616) (ha : a' = ((acc * b + d : Nat) : Int)) : Pst t b R (k + 1) (acc * b + d) a' := by
  subst hd
  refine ⟨ha, hl, ?_⟩
  rcases h.2.2 with ⟨h1, h2⟩ | ⟨h1, h2⟩
  · by_cases hm : acc * b + dig (bt t k) ≤ 9007199254740991
    · exact .inl ⟨hm, by rw [← h2, digG_step hk hdb hm]⟩
    · exact .inr ⟨by omega, by rw [← h2, digG_big hk hdb (by omega)]⟩
  · have := Nat.le_mul_of_pos_right acc hb
    exact .inr ⟨by omega, h2⟩
theorem Pst.bad {t : ByteArray} {b : Nat} {R : Int} {k acc : Nat} {a : Int} (h : Pst t b R k acc a) (hk : k < t.size) (hd : b ≤ dig (bt t k)) : R = -1 := by
  rcases h.2.2 with ⟨_, h2⟩ | ⟨_, h2⟩
  · rw [← h2, digG_bad hk hd]
  · exact h2
theorem Pst.cut {t : ByteArray} {b : Nat} {R : Int} {k acc : Nat} {a : Int} (h : Pst t b R k acc a) (hc : 9007199254740991 < acc) : R = -1 := by
  rcases h.2.2 with ⟨h1, _⟩ | ⟨_, h2⟩
  · omega
  · exact h2
theorem Pst.over {t : ByteArray} {b : Nat} {R : Int} {k acc d : Nat} {a : Int} (h : Pst t b R k acc a) (hk : k < t.size) (hd : dig (bt t k) = d) (hdb : d < b) (hl : 9007199254740991 < acc * b + d) : R = -1 := by
  subst hd
  rcases h.2.2 with ⟨_, h2⟩ | ⟨_, h2⟩
  · rw [← h2, digG_big hk hdb hl]
  · exact h2
theorem Pst.done {t : ByteArray} {b : Nat} {R : Int} {acc : Nat} {a : Int} (h : Pst t b R t.size acc a) (hne : t.size ≠ 0) : InP R (.returned (.tuple #[.int .u64 a, .nilIface])) := by
  have hl := h.2.1
  have e := h.1
  rcases h.2.2 with ⟨h1, h2⟩ | ⟨h1, h2⟩
  · rw [digG_end (Nat.le_refl _), if_neg hne] at h2
    have : a = R := by omega
    subst this
    exact .inl ⟨by omega, rfl⟩
  · exact .inr ⟨by omega, .inl ⟨a, by omega, by omega, rfl⟩⟩
set_option maxHeartbeats 32000000 in
set_option maxRecDepth 100000 in
theorem innerB_8 (t : ByteArray) (hne : t.size ≠ 0) (hmax : t.size ≤ 1048576) (w : World) (R : Int) (hR : digV t 8 = R) :
    Calls Tryd.prog 34 #[.string t, .int .i64 8, .int .i64 64] w fun e w' => InP R e ∧ w' = Lib.bytesWorld w 5 t := by
  have eL : ∀ args w, (callFunc 50 args).run Tryd.prog w = .ok (.enter 50 args) w := enters_of Tryd.func50 (by kernel_rfl) rfl
  have hemp : t.toList.isEmpty = false := by
    rw [← decide_eq_emptyBytes]
    exact decide_eq_false (fun h => hne (by rw [h]; rfl))
  have hcv := Lib.run_convert_string_bytes (P := Tryd.prog) w 9 22 5 t (u := .string) Tryd.underlying9 Tryd.underlying22 Tryd.underlying5
  have hB : ∀ j, j < t.size → (Lib.bytesWorld w 5 t).cell? ⟨w.heap.size, j, none⟩ = some (.int .u8 (bt t j : Int)) := fun j hj => by
    rw [Lib.bytesWorld_cell w 5 t j hj, ← bt_get t j hj]
    have hl : j < t.data.toList.length := by simpa using hj
    simp [List.getD, List.getElem?_eq_getElem hl]
    rfl
  obtain ⟨W1, hW1⟩ : ∃ W1, W1 = Lib.bytesWorld w 5 t := ⟨_, rfl⟩
  rw [← hW1] at hcv hB ⊢
  have HB : Hid (∀ j, j < t.size → W1.cell? ⟨w.heap.size, j, none⟩ = some (.int .u8 (bt t j : Int))) := hB
  have HS0 : Hid (Pst t 8 R 0 0 0) := ⟨rfl, by omega, .inl ⟨by omega, hR⟩⟩
  have HNE : Hid (t.size ≠ 0) := hne
  clear hW1 hB hR
  have hmv : IntKind.u64.wrap (IntKind.u64.wrap 18446744073709551616 - 1) = 18446744073709551615 := by
    rw [IntKind.wrap_u64, IntKind.wrap_u64]
    decide
  go_enter Tryd.func34, Tryd.ntmps34
  go_wp2
  go_loop [12, 13, 101] (fun vu vn vi => ∃ (k acc : Nat) (a : Int), vu = .bool false ∧ vn = .int .u64 a ∧ vi = .int .i64 k ∧ k ≤ t.size ∧ Hid (Pst t 8 R k acc a))
    (fun _ _ vi => t.size - (intOf vi).toNat)
  case atStart => exact ⟨0, 0, 0, rfl, rfl, rfl, by omega, HS0⟩
  case round =>
    obtain ⟨k, acc, a, rfl, rfl, rfl, hk, HS⟩ := hrel
    by_cases hkn : k < t.size
    case neg =>
      have hkk : k = t.size := by omega
      subst hkk
      have HO : Hid (InP R (.returned (.tuple #[.int .u64 a, .nilIface]))) := HS.out.done HNE.out
      clear HS hkn
      go_wp2
      go_ret2
      exact ⟨HO.out, rfl⟩
    have hlt : (k : Int) < (t.size : Int) := by omega
    have a0 : 0 ≤ a := by have := HS.out.1; omega
    have a1 : a < 18446744073709551616 := by have := HS.out.1; have := HS.out.2.1; omega
    have hc := HB.out k hkn
    have hy256 : bt t k < 256 := bt_lt t k
    obtain ⟨y, hy⟩ : ∃ y, bt t k = y := ⟨_, rfl⟩
    have HY : Hid (bt t k = y) := hy
    rw [hy] at hc hy256
    clear hy
    have hyI : (y : Int) < 256 := by omega
    have HY2 : Hid (y < 256) := hy256
    have HKN : Hid (k < t.size) := hkn
    by_cases hn : 48 ≤ y ∧ y ≤ 57
    · -- a digit
      have hdg := dig_num hn.1 hn.2
      have m1 : (48 : Int) ≤ (y : Int) := by omega
      have m2 : (y : Int) ≤ 57 := by omega
      have HDG : Hid (dig (bt t k) = y - 48) := by show _ = _; rw [HY.out, hdg]
      have h95 : ((y : Int) == 95) = false := by rw [beq_eq_false_iff_ne]; omega
      clear hdg
      by_cases h8 : y ≤ 55
      case neg =>
        have HO : Hid (R = -1) := HS.out.bad HKN.out (by rw [HDG.out]; omega)
        have h8' : (56 : Int) ≤ (y : Int) := by omega
        clear h8 HS hkn hn hy256
        go_wp2
        go_ret2
        exact ⟨InP.syn HO.out _, rfl⟩
      have h8' : (y : Int) ≤ 55 := by omega
      by_cases hcut : 2305843009213693952 ≤ a
      · have HO : Hid (R = -1) := HS.out.cut (by have := HS.out.1; omega)
        clear HS hkn hn hy256
        go_wp2
        go_ret2
        exact ⟨InP.rng HO.out _, rfl⟩
      have hcut' : a < 2305843009213693952 := by omega
      clear hcut
      have hov' : a * 8 + ((y : Int) - 48) < 18446744073709551616 := by omega
      have HS2 : Hid (Pst t 8 R (k + 1) (acc * 8 + (y - 48)) (a * 8 + ((y : Int) - 48))) := HS.out.step (by decide) HKN.out HDG.out (by omega) (by have := HS.out.1; omega) (by have := HS.out.1; omega)
      clear HS hn hy256
      go_wp2
      go_round
      case rel => exact ⟨k + 1, acc * 8 + (y - 48), a * 8 + ((y : Int) - 48), rfl, rfl, by go_num, by omega, HS2⟩
      case measure => simp [intOf]; omega
    · have hdw : (y : Int) < 48 ∨ (48 ≤ (y : Int) ∧ ¬ (y : Int) ≤ 57) := by omega
      have h95 : ((y : Int) == 95) = true ∨ ((y : Int) == 95) = false := by cases ((y : Int) == 95) <;> simp
      obtain ⟨m, hm⟩ : ∃ m, lowM y = m := ⟨_, rfl⟩
      have HM : Hid (lowM y = m) := hm
      have hm256 : (m : Int) < 256 := by have := lowM_lt hy256; omega
      by_cases hlet : 97 ≤ m ∧ m ≤ 96
      case neg =>
        have HO : Hid (R = -1) := by
          show R = -1
          refine HS.out.bad HKN.out ?_
          rw [HY.out]
          by_cases hz : m ≤ 102 ∧ 97 ≤ m
          · rw [dig_let HY2.out hn (by rw [HM.out]; omega) (by rw [HM.out]; omega), HM.out]; omega
          · have := dig_off HY2.out hn (by rw [HM.out]; omega); omega
        have hway : (m : Int) < 97 ∨ (97 ≤ (m : Int) ∧ (m : Int) ≤ 122) ∨ ((97 : Int) ≤ (m : Int) ∧ 122 < (m : Int)) := by omega
        clear hlet hm HS hkn hn hy256
        rcases h95 with h95 | h95
        all_goals (
          rcases hdw with h1 | ⟨h1, h2⟩
          all_goals (
            rcases hway with h | ⟨h, h'⟩ | ⟨h, h'⟩
            · have m1 : ¬ (97 : Int) ≤ (m : Int) := by omega
              clear h
              go_wp2_with (go_at_fn 50; refine (lowerM_is y m HY2.out HM.out _).mono ?_; rintro e w' ⟨rfl, rfl⟩)
              go_ret2
              exact ⟨InP.syn HO.out _, rfl⟩
            · have m1 : (97 : Int) ≤ (m : Int) := by omega
              have m2 : (m : Int) ≤ 122 := by omega
              clear h h'
              go_wp2_with (go_at_fn 50; refine (lowerM_is y m HY2.out HM.out _).mono ?_; rintro e w' ⟨rfl, rfl⟩)
              go_ret2
              exact ⟨InP.syn HO.out _, rfl⟩
            · have m1 : (97 : Int) ≤ (m : Int) := by omega
              have m2 : ¬ (m : Int) ≤ 122 := by omega
              clear h h'
              go_wp2_with (go_at_fn 50; refine (lowerM_is y m HY2.out HM.out _).mono ?_; rintro e w' ⟨rfl, rfl⟩)
              go_ret2
              exact ⟨InP.syn HO.out _, rfl⟩))
      exact absurd hlet (by omega)
set_option maxHeartbeats 32000000 in
set_option maxRecDepth 100000 in
theorem innerB_10 (t : ByteArray) (hne : t.size ≠ 0) (hmax : t.size ≤ 1048576) (w : World) (R : Int) (hR : digV t 10 = R) :
    Calls Tryd.prog 34 #[.string t, .int .i64 10, .int .i64 64] w fun e w' => InP R e ∧ w' = Lib.bytesWorld w 5 t := by
  have eL : ∀ args w, (callFunc 50 args).run Tryd.prog w = .ok (.enter 50 args) w := enters_of Tryd.func50 (by kernel_rfl) rfl
  have hemp : t.toList.isEmpty = false := by
    rw [← decide_eq_emptyBytes]
    exact decide_eq_false (fun h => hne (by rw [h]; rfl))
  have hcv := Lib.run_convert_string_bytes (P := Tryd.prog) w 9 22 5 t (u := .string) Tryd.underlying9 Tryd.underlying22 Tryd.underlying5
  have hB : ∀ j, j < t.size → (Lib.bytesWorld w 5 t).cell? ⟨w.heap.size, j, none⟩ = some (.int .u8 (bt t j : Int)) := fun j hj => by
    rw [Lib.bytesWorld_cell w 5 t j hj, ← bt_get t j hj]
    have hl : j < t.data.toList.length := by simpa using hj
    simp [List.getD, List.getElem?_eq_getElem hl]
    rfl
  obtain ⟨W1, hW1⟩ : ∃ W1, W1 = Lib.bytesWorld w 5 t := ⟨_, rfl⟩
  rw [← hW1] at hcv hB ⊢
  have HB : Hid (∀ j, j < t.size → W1.cell? ⟨w.heap.size, j, none⟩ = some (.int .u8 (bt t j : Int))) := hB
  have HS0 : Hid (Pst t 10 R 0 0 0) := ⟨rfl, by omega, .inl ⟨by omega, hR⟩⟩
  have HNE : Hid (t.size ≠ 0) := hne
  clear hW1 hB hR
  have hmv : IntKind.u64.wrap (IntKind.u64.wrap 18446744073709551616 - 1) = 18446744073709551615 := by
    rw [IntKind.wrap_u64, IntKind.wrap_u64]
    decide
  go_enter Tryd.func34, Tryd.ntmps34
  go_wp2
  go_loop [12, 13, 101] (fun vu vn vi => ∃ (k acc : Nat) (a : Int), vu = .bool false ∧ vn = .int .u64 a ∧ vi = .int .i64 k ∧ k ≤ t.size ∧ Hid (Pst t 10 R k acc a))
    (fun _ _ vi => t.size - (intOf vi).toNat)
  case atStart => exact ⟨0, 0, 0, rfl, rfl, rfl, by omega, HS0⟩
  case round =>
    obtain ⟨k, acc, a, rfl, rfl, rfl, hk, HS⟩ := hrel
    by_cases hkn : k < t.size
    case neg =>
      have hkk : k = t.size := by omega
      subst hkk
      have HO : Hid (InP R (.returned (.tuple #[.int .u64 a, .nilIface]))) := HS.out.done HNE.out
      clear HS hkn
      go_wp2
      go_ret2
      exact ⟨HO.out, rfl⟩
    have hlt : (k : Int) < (t.size : Int) := by omega
    have a0 : 0 ≤ a := by have := HS.out.1; omega
    have a1 : a < 18446744073709551616 := by have := HS.out.1; have := HS.out.2.1; omega
    have hc := HB.out k hkn
    have hy256 : bt t k < 256 := bt_lt t k
    obtain ⟨y, hy⟩ : ∃ y, bt t k = y := ⟨_, rfl⟩
    have HY : Hid (bt t k = y) := hy
    rw [hy] at hc hy256
    clear hy
    have hyI : (y : Int) < 256 := by omega
    have HY2 : Hid (y < 256) := hy256
    have HKN : Hid (k < t.size) := hkn
    by_cases hn : 48 ≤ y ∧ y ≤ 57
    · -- a digit
      have hdg := dig_num hn.1 hn.2
      have m1 : (48 : Int) ≤ (y : Int) := by omega
      have m2 : (y : Int) ≤ 57 := by omega
      have HDG : Hid (dig (bt t k) = y - 48) := by show _ = _; rw [HY.out, hdg]
      have h95 : ((y : Int) == 95) = false := by rw [beq_eq_false_iff_ne]; omega
      clear hdg
      by_cases hcut : 1844674407370955162 ≤ a
      · have HO : Hid (R = -1) := HS.out.cut (by have := HS.out.1; omega)
        clear HS hkn hn hy256
        go_wp2
        go_ret2
        exact ⟨InP.rng HO.out _, rfl⟩
      have hcut' : a < 1844674407370955162 := by omega
      clear hcut
      by_cases hov : 18446744073709551616 ≤ a * 10 + ((y : Int) - 48)
      · have HO : Hid (R = -1) := HS.out.over HKN.out HDG.out (by omega) (by have := HS.out.1; omega)
        have hwr : IntKind.u64.wrap (a * 10 + ((y : Int) - 48)) = a * 10 + ((y : Int) - 48) - 18446744073709551616 := by
          rw [IntKind.wrap_u64]
          omega
        clear HS hkn hn hy256
        go_wp2
        go_ret2
        exact ⟨InP.rng HO.out _, rfl⟩
      have hov' : a * 10 + ((y : Int) - 48) < 18446744073709551616 := by omega
      have HS2 : Hid (Pst t 10 R (k + 1) (acc * 10 + (y - 48)) (a * 10 + ((y : Int) - 48))) := HS.out.step (by decide) HKN.out HDG.out (by omega) (by have := HS.out.1; omega) (by have := HS.out.1; omega)
      clear hov HS hn hy256
      go_wp2
      go_round
      case rel => exact ⟨k + 1, acc * 10 + (y - 48), a * 10 + ((y : Int) - 48), rfl, rfl, by go_num, by omega, HS2⟩
      case measure => simp [intOf]; omega
    · have hdw : (y : Int) < 48 ∨ (48 ≤ (y : Int) ∧ ¬ (y : Int) ≤ 57) := by omega
      have h95 : ((y : Int) == 95) = true ∨ ((y : Int) == 95) = false := by cases ((y : Int) == 95) <;> simp
      obtain ⟨m, hm⟩ : ∃ m, lowM y = m := ⟨_, rfl⟩
      have HM : Hid (lowM y = m) := hm
      have hm256 : (m : Int) < 256 := by have := lowM_lt hy256; omega
      by_cases hlet : 97 ≤ m ∧ m ≤ 96
      case neg =>
        have HO : Hid (R = -1) := by
          show R = -1
          refine HS.out.bad HKN.out ?_
          rw [HY.out]
          by_cases hz : m ≤ 102 ∧ 97 ≤ m
          · rw [dig_let HY2.out hn (by rw [HM.out]; omega) (by rw [HM.out]; omega), HM.out]; omega
          · have := dig_off HY2.out hn (by rw [HM.out]; omega); omega
        have hway : (m : Int) < 97 ∨ (97 ≤ (m : Int) ∧ (m : Int) ≤ 122) ∨ ((97 : Int) ≤ (m : Int) ∧ 122 < (m : Int)) := by omega
        clear hlet hm HS hkn hn hy256
        rcases h95 with h95 | h95
        all_goals (
          rcases hdw with h1 | ⟨h1, h2⟩
          all_goals (
            rcases hway with h | ⟨h, h'⟩ | ⟨h, h'⟩
            · have m1 : ¬ (97 : Int) ≤ (m : Int) := by omega
              clear h
              go_wp2_with (go_at_fn 50; refine (lowerM_is y m HY2.out HM.out _).mono ?_; rintro e w' ⟨rfl, rfl⟩)
              go_ret2
              exact ⟨InP.syn HO.out _, rfl⟩
            · have m1 : (97 : Int) ≤ (m : Int) := by omega
              have m2 : (m : Int) ≤ 122 := by omega
              clear h h'
              go_wp2_with (go_at_fn 50; refine (lowerM_is y m HY2.out HM.out _).mono ?_; rintro e w' ⟨rfl, rfl⟩)
              go_ret2
              exact ⟨InP.syn HO.out _, rfl⟩
            · have m1 : (97 : Int) ≤ (m : Int) := by omega
              have m2 : ¬ (m : Int) ≤ 122 := by omega
              clear h h'
              go_wp2_with (go_at_fn 50; refine (lowerM_is y m HY2.out HM.out _).mono ?_; rintro e w' ⟨rfl, rfl⟩)
              go_ret2
              exact ⟨InP.syn HO.out _, rfl⟩))
      exact absurd hlet (by omega)
set_option maxHeartbeats 32000000 in
set_option maxRecDepth 100000 in
theorem innerB_16 (t : ByteArray) (hne : t.size ≠ 0) (hmax : t.size ≤ 1048576) (w : World) (R : Int) (hR : digV t 16 = R) :
    Calls Tryd.prog 34 #[.string t, .int .i64 16, .int .i64 64] w fun e w' => InP R e ∧ w' = Lib.bytesWorld w 5 t := by
  have eL : ∀ args w, (callFunc 50 args).run Tryd.prog w = .ok (.enter 50 args) w := enters_of Tryd.func50 (by kernel_rfl) rfl
  have hemp : t.toList.isEmpty = false := by
    rw [← decide_eq_emptyBytes]
    exact decide_eq_false (fun h => hne (by rw [h]; rfl))
  have hcv := Lib.run_convert_string_bytes (P := Tryd.prog) w 9 22 5 t (u := .string) Tryd.underlying9 Tryd.underlying22 Tryd.underlying5
  have hB : ∀ j, j < t.size → (Lib.bytesWorld w 5 t).cell? ⟨w.heap.size, j, none⟩ = some (.int .u8 (bt t j : Int)) := fun j hj => by
    rw [Lib.bytesWorld_cell w 5 t j hj, ← bt_get t j hj]
    have hl : j < t.data.toList.length := by simpa using hj
    simp [List.getD, List.getElem?_eq_getElem hl]
    rfl
  obtain ⟨W1, hW1⟩ : ∃ W1, W1 = Lib.bytesWorld w 5 t := ⟨_, rfl⟩
  rw [← hW1] at hcv hB ⊢
  have HB : Hid (∀ j, j < t.size → W1.cell? ⟨w.heap.size, j, none⟩ = some (.int .u8 (bt t j : Int))) := hB
  have HS0 : Hid (Pst t 16 R 0 0 0) := ⟨rfl, by omega, .inl ⟨by omega, hR⟩⟩
  have HNE : Hid (t.size ≠ 0) := hne
  clear hW1 hB hR
  have hmv : IntKind.u64.wrap (IntKind.u64.wrap 18446744073709551616 - 1) = 18446744073709551615 := by
    rw [IntKind.wrap_u64, IntKind.wrap_u64]
    decide
  go_enter Tryd.func34, Tryd.ntmps34
  go_wp2
  go_loop [12, 13, 101] (fun vu vn vi => ∃ (k acc : Nat) (a : Int), vu = .bool false ∧ vn = .int .u64 a ∧ vi = .int .i64 k ∧ k ≤ t.size ∧ Hid (Pst t 16 R k acc a))
    (fun _ _ vi => t.size - (intOf vi).toNat)
  case atStart => exact ⟨0, 0, 0, rfl, rfl, rfl, by omega, HS0⟩
  case round =>
    obtain ⟨k, acc, a, rfl, rfl, rfl, hk, HS⟩ := hrel
    by_cases hkn : k < t.size
    case neg =>
      have hkk : k = t.size := by omega
      subst hkk
      have HO : Hid (InP R (.returned (.tuple #[.int .u64 a, .nilIface]))) := HS.out.done HNE.out
      clear HS hkn
      go_wp2
      go_ret2
      exact ⟨HO.out, rfl⟩
    have hlt : (k : Int) < (t.size : Int) := by omega
    have a0 : 0 ≤ a := by have := HS.out.1; omega
    have a1 : a < 18446744073709551616 := by have := HS.out.1; have := HS.out.2.1; omega
    have hc := HB.out k hkn
    have hy256 : bt t k < 256 := bt_lt t k
    obtain ⟨y, hy⟩ : ∃ y, bt t k = y := ⟨_, rfl⟩
    have HY : Hid (bt t k = y) := hy
    rw [hy] at hc hy256
    clear hy
    have hyI : (y : Int) < 256 := by omega
    have HY2 : Hid (y < 256) := hy256
    have HKN : Hid (k < t.size) := hkn
    by_cases hn : 48 ≤ y ∧ y ≤ 57
    · -- a digit
      have hdg := dig_num hn.1 hn.2
      have m1 : (48 : Int) ≤ (y : Int) := by omega
      have m2 : (y : Int) ≤ 57 := by omega
      have HDG : Hid (dig (bt t k) = y - 48) := by show _ = _; rw [HY.out, hdg]
      have h95 : ((y : Int) == 95) = false := by rw [beq_eq_false_iff_ne]; omega
      clear hdg
      by_cases hcut : 1152921504606846976 ≤ a
      · have HO : Hid (R = -1) := HS.out.cut (by have := HS.out.1; omega)
        clear HS hkn hn hy256
        go_wp2
        go_ret2
        exact ⟨InP.rng HO.out _, rfl⟩
      have hcut' : a < 1152921504606846976 := by omega
      clear hcut
      have hov' : a * 16 + ((y : Int) - 48) < 18446744073709551616 := by omega
      have HS2 : Hid (Pst t 16 R (k + 1) (acc * 16 + (y - 48)) (a * 16 + ((y : Int) - 48))) := HS.out.step (by decide) HKN.out HDG.out (by omega) (by have := HS.out.1; omega) (by have := HS.out.1; omega)
      clear HS hn hy256
      go_wp2
      go_round
      case rel => exact ⟨k + 1, acc * 16 + (y - 48), a * 16 + ((y : Int) - 48), rfl, rfl, by go_num, by omega, HS2⟩
      case measure => simp [intOf]; omega
    · have hdw : (y : Int) < 48 ∨ (48 ≤ (y : Int) ∧ ¬ (y : Int) ≤ 57) := by omega
      have h95 : ((y : Int) == 95) = true ∨ ((y : Int) == 95) = false := by cases ((y : Int) == 95) <;> simp
      obtain ⟨m, hm⟩ : ∃ m, lowM y = m := ⟨_, rfl⟩
      have HM : Hid (lowM y = m) := hm
      have hm256 : (m : Int) < 256 := by have := lowM_lt hy256; omega
      by_cases hlet : 97 ≤ m ∧ m ≤ 102
      case neg =>
        have HO : Hid (R = -1) := by
          show R = -1
          refine HS.out.bad HKN.out ?_
          rw [HY.out]
          exact dig_off HY2.out hn (by rw [HM.out]; omega)
        have hway : (m : Int) < 97 ∨ (103 ≤ (m : Int) ∧ (m : Int) ≤ 122) ∨ ((97 : Int) ≤ (m : Int) ∧ 122 < (m : Int)) := by omega
        clear hlet hm HS hkn hn hy256
        rcases h95 with h95 | h95
        all_goals (
          rcases hdw with h1 | ⟨h1, h2⟩
          all_goals (
            rcases hway with h | ⟨h, h'⟩ | ⟨h, h'⟩
            · have m1 : ¬ (97 : Int) ≤ (m : Int) := by omega
              clear h
              go_wp2_with (go_at_fn 50; refine (lowerM_is y m HY2.out HM.out _).mono ?_; rintro e w' ⟨rfl, rfl⟩)
              go_ret2
              exact ⟨InP.syn HO.out _, rfl⟩
            · have m1 : (97 : Int) ≤ (m : Int) := by omega
              have m2 : (m : Int) ≤ 122 := by omega
              have m3 : (103 : Int) ≤ (m : Int) := by omega
              clear h h'
              go_wp2_with (go_at_fn 50; refine (lowerM_is y m HY2.out HM.out _).mono ?_; rintro e w' ⟨rfl, rfl⟩)
              go_ret2
              exact ⟨InP.syn HO.out _, rfl⟩
            · have m1 : (97 : Int) ≤ (m : Int) := by omega
              have m2 : ¬ (m : Int) ≤ 122 := by omega
              clear h h'
              go_wp2_with (go_at_fn 50; refine (lowerM_is y m HY2.out HM.out _).mono ?_; rintro e w' ⟨rfl, rfl⟩)
              go_ret2
              exact ⟨InP.syn HO.out _, rfl⟩))
      have m1 : (97 : Int) ≤ (m : Int) := by omega
      have m2 : (m : Int) ≤ 102 := by omega
      have h95 : ((y : Int) == 95) = false := by
        rw [beq_eq_false_iff_ne]
        intro e
        have e2 : y = 95 := by omega
        rw [e2] at hm
        have e3 : lowM 95 = 127 := by decide
        omega
      have HDG : Hid (dig (bt t k) = m - 87) := by show _ = _; rw [HY.out, dig_let HY2.out hn (by rw [HM.out]; omega) (by rw [HM.out]; omega), HM.out]
      have hnn : ¬ (48 ≤ y ∧ y ≤ 57) := hn
      clear hm
      rcases hdw with h1 | ⟨h1, h2⟩
      · by_cases hcut : 1152921504606846976 ≤ a
        · have HO : Hid (R = -1) := HS.out.cut (by have := HS.out.1; omega)
          clear HS hkn hn hnn hy256
          go_wp2_with (go_at_fn 50; refine (lowerM_is y m HY2.out HM.out _).mono ?_; rintro e w' ⟨rfl, rfl⟩)
          go_ret2
          exact ⟨InP.rng HO.out _, rfl⟩
        have hcut' : a < 1152921504606846976 := by omega
        clear hcut
        have hov' : a * 16 + ((m : Int) - 97 + 10) < 18446744073709551616 := by omega
        have HS2 : Hid (Pst t 16 R (k + 1) (acc * 16 + (m - 87)) (a * 16 + ((m : Int) - 97 + 10))) := HS.out.step (by decide) HKN.out HDG.out (by omega) (by have := HS.out.1; omega) (by have := HS.out.1; omega)
        clear HS hn hnn hy256
        go_wp2_with (go_at_fn 50; refine (lowerM_is y m HY2.out HM.out _).mono ?_; rintro e w' ⟨rfl, rfl⟩)
        go_round
        case rel => exact ⟨k + 1, acc * 16 + (m - 87), a * 16 + ((m : Int) - 97 + 10), rfl, rfl, by go_num, by omega, HS2⟩
        case measure => simp [intOf]; omega
      · by_cases hcut : 1152921504606846976 ≤ a
        · have HO : Hid (R = -1) := HS.out.cut (by have := HS.out.1; omega)
          clear HS hkn hn hnn hy256
          go_wp2_with (go_at_fn 50; refine (lowerM_is y m HY2.out HM.out _).mono ?_; rintro e w' ⟨rfl, rfl⟩)
          go_ret2
          exact ⟨InP.rng HO.out _, rfl⟩
        have hcut' : a < 1152921504606846976 := by omega
        clear hcut
        have hov' : a * 16 + ((m : Int) - 97 + 10) < 18446744073709551616 := by omega
        have HS2 : Hid (Pst t 16 R (k + 1) (acc * 16 + (m - 87)) (a * 16 + ((m : Int) - 97 + 10))) := HS.out.step (by decide) HKN.out HDG.out (by omega) (by have := HS.out.1; omega) (by have := HS.out.1; omega)
        clear HS hn hnn hy256
        go_wp2_with (go_at_fn 50; refine (lowerM_is y m HY2.out HM.out _).mono ?_; rintro e w' ⟨rfl, rfl⟩)
        go_round
        case rel => exact ⟨k + 1, acc * 16 + (m - 87), a * 16 + ((m : Int) - 97 + 10), rfl, rfl, by go_num, by omega, HS2⟩
        case measure => simp [intOf]; omega
end Go.Proofs.YtlfamgdmmenonaaDoor
