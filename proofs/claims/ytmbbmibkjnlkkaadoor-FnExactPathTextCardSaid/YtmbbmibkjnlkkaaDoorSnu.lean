/- The contract of spec.NumText. -/
import Derived.Test.YtmbbmibkjnlkkaaDoorProg
import Derived.WalkKit
import Derived.ProofKit
import Derived.WalkLawsBesides
import Derived.WalkSpells
import Derived.Below
import Derived.Deep.RegionWith
import Derived.Lib.ItoaNum
import Derived.Lib.LaidTab
import Derived.Lib.SmallJoins
namespace Go.Proofs.YtmbbmibkjnlkkaaDoor
open Go.ChangeShapes Go.WideShapes Go.ChangeAt Go.RowKit
theorem conv1 (w : World) (a : Int) : (convert 22 9 (.slice (some ⟨w.heap.size, 0, none⟩) 1 1)).run Tryd.prog (w.alloc (.cells #[.int .u8 a] 5)) = .ok (.string (strOfNums [a])) (w.alloc (.cells #[.int .u8 a] 5)) :=
  run_convert_bytes_arg _ 22 5 Tryd.underlying22 Tryd.underlying5 _ 0 1 1 [a] rfl (fun i hi => by
    match i, hi with
    | 0, _ => simp) 9 Tryd.underlying9
theorem ret_str {a b : ByteArray} (h : a = b) : Ending.returned (.string a) = .returned (.string b) := by rw [h]
theorem dec_one (n : Int) (h0 : 0 ≤ n) (h1 : n < 10) : strOfNums [48 + n] = ⟨(Lib.decDigits n.toNat).toArray⟩ := by
  rw [Lib.decDigits_one (by omega)]
  have : (48 + n).toNat = 48 + n.toNat := by omega
  simp [strOfNums, this]
theorem conv1d (w : World) (a : Int) : (convert 22 9 (.slice (some ⟨w.heap.size, 0, none⟩) 1 1)).run Tryd.prog (w.alloc (.cells #[.int .u8 a] 5)).drew = .ok (.string (strOfNums [a])) (w.alloc (.cells #[.int .u8 a] 5)).drew :=
  conv1 w.drew a
theorem b_after {w w1 : World} (hb : Below w.drew.heap.size w.drew w1) (o : Obj) : Below w.heap.size w (w1.alloc o) :=
  (((Below.refl _ w).drew).trans hb).alloc hb.size o
theorem b_before {w w1 : World} {o : Obj} (hb : Below ((w.alloc o).drew).heap.size (w.alloc o).drew w1) : Below w.heap.size w w1 :=
  (((Below.refl _ w).alloc (Nat.le_refl _) _).drew).trans (hb.mono (by simp))
theorem conv_later {w w1 : World} {a : Int} (hb : Below ((w.alloc (.cells #[.int .u8 a] 5)).drew).heap.size (w.alloc (.cells #[.int .u8 a] 5)).drew w1) :
    (convert 22 9 (.slice (some ⟨w.heap.size, 0, none⟩) 1 1)).run Tryd.prog w1 = .ok (.string (strOfNums [a])) w1 :=
  run_convert_bytes_arg _ 22 5 Tryd.underlying22 Tryd.underlying5 _ 0 1 1 [a] rfl (fun i hi => by
    match i, hi with
    | 0, _ =>
      rw [hb.cell (by simp)]
      simp) 9 Tryd.underlying9
theorem wq (n : Int) (h0 : 0 ≤ n) (h1 : n ≤ 4294967295) : IntKind.i64.wrap (n.tdiv 10) = n / 10 := by
  rw [Int.tdiv_eq_ediv_of_nonneg h0]
  exact wrap_small _ (by omega) (by omega)
theorem dec_len' : ∀ (k u : Nat), u < 10 ^ (k + 1) → (Lib.decDigits u).length ≤ k + 1
  | 0, u, h => by rw [Lib.decDigits_one (by omega)]; simp
  | k + 1, u, h => by
    by_cases h' : u < 10
    · rw [Lib.decDigits_one h']; simp
    · rw [Lib.decDigits, dif_neg h', List.length_append]
      have := dec_len' k (u / 10) (by rw [Nat.pow_succ] at h; omega)
      simp; omega
theorem dec_len (u : Nat) (h : u ≤ 4294967295) : (Lib.decDigits u).length ≤ 10 := dec_len' 9 u (by omega)
theorem wd (n : Int) (h0 : 0 ≤ n) : IntKind.u8.wrap (IntKind.i64.wrap (48 + n.tmod 10)) = 48 + n % 10 := by
  rw [Int.tmod_eq_emod_of_nonneg h0, wrap_small _ (by omega) (by omega)]
  unfold IntKind.wrap
  simp [IntKind.bits, IntKind.signed]
  omega
theorem dec_more (n : Int) (h0 : 0 ≤ n) (h : ¬ n < 10) : (⟨(Lib.decDigits (n / 10).toNat).toArray⟩ : ByteArray) ++ strOfNums [IntKind.u8.wrap (IntKind.i64.wrap (48 + n.tmod 10))] = ⟨(Lib.decDigits n.toNat).toArray⟩ := by
  rw [wd n h0, Lib.decDigits.eq_1 n.toNat, dif_neg (by omega)]
  have e1 : (n / 10).toNat = n.toNat / 10 := by omega
  have e2 : (48 + n % 10).toNat = 48 + n.toNat % 10 := by omega
  rw [e1]
  simp only [strOfNums, List.map_cons, List.map_nil, e2, ByteArray.mk_append_mk]
set_option maxHeartbeats 1000000 in
theorem spec_num : ∀ (m : Nat) (n : Int) (w : World), 0 ≤ n → n ≤ 4294967295 → n.toNat ≤ m →
    Calls Tryd.prog 34 #[.int .i64 n] w fun e w' => e = .returned (.string ⟨(Lib.decDigits n.toNat).toArray⟩) ∧ Below w.heap.size w w' := by
  intro m
  induction m with
  | zero =>
    intro n w h0 h1 hm
    have h10 : n < 10 := by omega
    have H : Hid (strOfNums [48 + n] = ⟨(Lib.decDigits n.toNat).toArray⟩) := dec_one n h0 h10
    have hc := conv1 w
    go_enter Tryd.func34, Tryd.ntmps34
    go_wp2
    go_ret
    exact ⟨ret_str H.out, (Below.refl _ _).alloc (Nat.le_refl _) _⟩
  | succ m ih =>
    intro n w h0 h1 hm
    by_cases h10 : n < 10
    · have H : Hid (strOfNums [48 + n] = ⟨(Lib.decDigits n.toNat).toArray⟩) := dec_one n h0 h10
      have hc := conv1 w
      clear ih
      go_enter Tryd.func34, Tryd.ntmps34
      go_wp2
      go_ret
      exact ⟨ret_str H.out, (Below.refl _ _).alloc (Nat.le_refl _) _⟩
    · obtain ⟨A, hA⟩ : ∃ A : ByteArray, A = ⟨(Lib.decDigits (n / 10).toNat).toArray⟩ := ⟨_, rfl⟩
      have hAz : A.size ≤ 20 := by
        rw [hA]; show (Lib.decDigits (n / 10).toNat).toArray.size ≤ 20
        simp only [List.size_toArray]
        exact Nat.le_trans (dec_len _ (by omega)) (by omega)
      have HI : Hid (∀ (q : Int), q = n / 10 → ∀ w : World, Calls Tryd.prog 34 #[.int .i64 q] w fun e w' => e = .returned (.string A) ∧ Below w.heap.size w w') := fun q hq w => by
        rw [hq, hA]; exact ih (n / 10) w (by omega) (by omega) (by omega)
      have HF : Hid (A ++ strOfNums [IntKind.u8.wrap (IntKind.i64.wrap (48 + n.tmod 10))] = ⟨(Lib.decDigits n.toNat).toArray⟩) := by
        show A ++ strOfNums [IntKind.u8.wrap (IntKind.i64.wrap (48 + n.tmod 10))] = ⟨(Lib.decDigits n.toNat).toArray⟩
        rw [hA]; exact dec_more n h0 h10
      have hadd : ∀ (w : World) (d : Int), (Op.stringOp .add A (strOfNums [d])).run Tryd.prog w = .ok (.string (A ++ strOfNums [d])) w := fun w d =>
        run_string_add_sum w _ _ (by rw [strOfNums_size]; simp; omega)
      have hc1 := conv1
      have hc2 := conv1d
      clear ih hA
      go_enter Tryd.func34, Tryd.ntmps34
      go_wp2_with fail
      go_region_with (go_at_call 34; refine (HI.out _ (wq n h0 h1) _).mono ?_; rintro e w1 ⟨rfl, hb1⟩; try have hc3 := conv_later hb1)
      all_goals go_wp2
      all_goals go_ret
      all_goals refine ⟨ret_str HF.out, ?_⟩
      all_goals first | exact b_after hb1 _ | exact b_before hb1

/-- What NumText answers. -/
def nt (n : Int) : ByteArray := if n < 0 ∨ 4294967295 < n then ⟨#[]⟩ else ⟨(Lib.decDigits n.toNat).toArray⟩
theorem nt_bad (n : Int) (h : n < 0 ∨ 4294967295 < n) : nt n = ⟨#[]⟩ := by unfold nt; rw [if_pos h]
theorem nt_good (n : Int) (h0 : 0 ≤ n) (h1 : n ≤ 4294967295) : nt n = ⟨(Lib.decDigits n.toNat).toArray⟩ := by unfold nt; rw [if_neg (by omega)]
theorem spec_nt (n : Int) (w : World) :
    Calls Tryd.prog 34 #[.int .i64 n] w fun e w' => e = .returned (.string (nt n)) ∧ Below w.heap.size w w' := by
  by_cases h : n < 0 ∨ 4294967295 < n
  · have H : Hid (nt n = ⟨#[]⟩) := nt_bad n h
    by_cases a : n < 0
    · clear h
      go_enter Tryd.func34, Tryd.ntmps34
      go_wp2
      go_ret
      exact ⟨ret_str H.out.symm, Below.refl _ _⟩
    · have b : 4294967295 < n := by omega
      clear h
      go_enter Tryd.func34, Tryd.ntmps34
      go_wp2
      go_ret
      exact ⟨ret_str H.out.symm, Below.refl _ _⟩
  · rw [nt_good n (by omega) (by omega)]
    exact spec_num n.toNat n w (by omega) (by omega) (Nat.le_refl _)
end Go.Proofs.YtmbbmibkjnlkkaaDoor
