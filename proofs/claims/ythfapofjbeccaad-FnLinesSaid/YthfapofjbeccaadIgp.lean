/- impl.Gap answers what 'gap' says. -/
import Derived.Test.YthfapofjbeccaadBeg
import Derived.Deep.QuietTactic
import Derived.BigQuiet
import Derived.WalkMore
import Derived.Laws.EntriesVeiled
namespace Go.Proofs.Ythfapofjbeccaad
open Go.ChangeShapes Go.WideShapes Go.ChangeAt Go.RowKit
theorem wrap_small (n : Nat) (h : n < 9223372036854775808) : IntKind.i64.wrap (n : Int) = (n : Int) := by
  have e : (n : Int) % 2 ^ 64 = n := Int.emod_eq_of_lt (by omega) (by omega)
  simp only [IntKind.wrap, IntKind.bits, IntKind.signed, e]
  rw [if_neg]
  simp
  omega
theorem amongC_same (t : ByteArray) (P : Nat → Bool) (B : Nat) (w : World) (x : Nat) (b : Bool) (hx : x < 256) (hB : w.cell? ⟨B, 0, none⟩ = some (.string t)) (hP : ∀ x, x < 256 → P x = t.data.toList.contains x.toUInt8) (hb : P x = b) :
    Calls Try.prog 31 #[.int .u8 (x : Int), .pointer (some ⟨B, 0, none⟩)] w fun e w' => e = .returned (.bool b) ∧ w' = w := by
  subst hb
  have hpos := indexByte_pos t.data.toList x.toUInt8
  rw [← hP x hx] at hpos
  clear hP
  have HC : Hid (decide (0 ≤ Lib.indexByte t.data.toList x.toUInt8) = P x) := hpos
  clear hpos
  go_enter Try.func31, Try.ntmps31
  go_wp2_with fail
  refine (indexByte_any _ _ _).mono ?_
  rintro e w1 ⟨rfl, rfl⟩
  go_wp2_with fail
  go_ret
  exact ⟨ret_bool HC.out, rfl⟩
theorem below_drewN (w : World) (n : Nat) : Below w.heap.size w (w.drewN n) := by
  induction n with
  | zero => exact Below.refl _ _
  | succ n ih => exact ih.drew
/-- The three boxes of Gap: the text, the signs, the question. -/
def Boxes (s : ByteArray) (B A F : Nat) (w : World) : Prop :=
  w.cell? ⟨B, 0, none⟩ = some (.string s) ∧ w.cell? ⟨A, 0, none⟩ = some (.string ⟨#[32, 9, 10]⟩) ∧ w.cell? ⟨F, 0, none⟩ = some (.func (.func 31) #[] #[.pointer (some ⟨A, 0, none⟩)]) ∧ B < w.heap.size ∧ A < w.heap.size ∧ F < w.heap.size
theorem Boxes.later {s : ByteArray} {B A F : Nat} {w w' : World} (h : Boxes s B A F w) (hb : Below w.heap.size w w') : Boxes s B A F w' :=
  ⟨(hb.cell (by exact h.2.2.2.1)).trans h.1, (hb.cell (by exact h.2.2.2.2.1)).trans h.2.1, (hb.cell (by exact h.2.2.2.2.2)).trans h.2.2.1, Nat.lt_of_lt_of_le h.2.2.2.1 hb.size, Nat.lt_of_lt_of_le h.2.2.2.2.1 hb.size, Nat.lt_of_lt_of_le h.2.2.2.2.2 hb.size⟩
theorem isGap_same (s : ByteArray) (k A : Nat) (h : k < s.size) (w : World) (b : Bool) (hA : w.cell? ⟨A, 0, none⟩ = some (.string ⟨#[32, 9, 10]⟩)) (hb : pG (bt s k) = b) :
    Calls Try.prog 31 #[.int .u8 ((s[k]'h).toNat : Int), .pointer (some ⟨A, 0, none⟩)] w fun e w' => e = .returned (.bool b) ∧ w' = w := by
  rw [bt_get s k h]
  exact amongC_same _ pG A w _ b (bt_lt s k) hA pG_signs hb
set_option maxHeartbeats 2000000 in
theorem remark_any (s : ByteArray) (k B A F : Nat) (w : World) (r : Bool) (hs : s.size ≤ mx) (hk : k < s.size) (hB : Boxes s B A F w) (hr : rem s k = r) :
    Calls Try.prog 23 #[.int .i64 (k : Int), .pointer (some ⟨B, 0, none⟩), .pointer (some ⟨F, 0, none⟩)] w fun e w' => e = .returned (.bool r) ∧ ∃ n, w' = w.drewN n := by
  unfold mx at hs
  obtain ⟨hB1, hA1, hF1, _, _, _⟩ := hB
  have hg := bt_get s k hk
  by_cases h35 : bt s k = 35
  · have hc : (s[k]'hk).toNat = 35 := by rw [hg]; exact h35
    by_cases h0 : k = 0
    · subst h0
      have HR : Hid (r = true) := by show r = true; rw [← hr]; unfold rem; rw [h35]; rfl
      clear hr h35 hg
      go_enter Try.func23, Try.ntmps23
      go_wp2_with fail
      go_quiet (fail)
      go_wp2
      go_ret
      exact ⟨ret_bool HR.out.symm, _, rfl⟩
    · have hj : k - 1 < s.size := by omega
      have HR : Hid (pG (bt s (k - 1)) = r) := by
        show pG (bt s (k - 1)) = r
        rw [← hr]; unfold rem; rw [h35]; simp [h0]
      have h0' : ((k : Int) == 0) = false := by rw [beq_eq_false_iff_ne]; omega
      have h1 : 1 ≤ k := by omega
      have hwr : IntKind.i64.wrap ((k : Int) - 1) = ((k - 1 : Nat) : Int) := by
        rw [show (k : Int) - 1 = ((k - 1 : Nat) : Int) by omega]
        exact wrap_small _ (by omega)
      clear hr h35 hg h0
      go_enter Try.func23, Try.ntmps23
      go_wp2_with fail
      go_quiet ((first | (go_at_call 31; exact Calls.quiet_of_same (isGap_same s (k - 1) A hj _ r hA1 HR.out))))
      go_wp2
      go_ret
      exact ⟨ret_bool rfl, _, rfl⟩
  · have hc : (((s[k]'hk).toNat : Int) == 35) = false := by rw [hg, beq_eq_false_iff_ne]; omega
    have HR : Hid (r = false) := by show r = false; rw [← hr]; unfold rem; simp [h35]
    clear hr h35 hg
    go_enter Try.func23, Try.ntmps23
    go_wp2_with fail
    go_quiet (fail)
    go_wp2
    go_ret
    exact ⟨ret_bool HR.out.symm, _, rfl⟩
set_option maxHeartbeats 4000000 in
theorem gap_any (s : ByteArray) (p : Int) (w : World) (hs : s.size ≤ mx) :
    Calls Try.prog 8 #[.string s, .int .i64 p] w fun e w' => e = .returned (.int .i64 (gap s (cl s.size p))) ∧ Below w.heap.size w w' := by
  have hcl := cl_le s.size p
  have hs' := hs
  unfold mx at hs'
  go_enter Try.func8, Try.ntmps8
  go_wp2_with fail
  go_step3
  go_wp2_with fail
  refine (bring_any _ _ _ hs).mono ?_
  rintro e w1 ⟨rfl, rfl⟩
  generalize hk : cl s.size p = k0 at *
  have HK : Hid (cl s.size p = k0) := hk
  clear hk
  go_wp2_with fail
  refine (among_any _ _).mono ?_
  rintro e w1 ⟨A, rfl, hA, hb1⟩
  go_wp2_with fail
  go_step3
  have hb0 : Below w.heap.size w w1 := ((Below.refl _ w).alloc (Nat.le_refl _) _).trans (hb1.mono (by simp))
  have hwz : w.heap.size < w1.heap.size := by have := hb1.size; simp at this; omega
  have hBx0 : Boxes s w.heap.size A w1.heap.size (w1.alloc (.cells #[.func (.func 31) #[] #[.pointer (some ⟨A, 0, none⟩)]] 38)) := by
    have hAlt : A < w1.heap.size := (Array.getElem?_eq_some_iff.1 hA).1
    have hn : Below w1.heap.size w1 (w1.alloc (.cells #[.func (.func 31) #[] #[.pointer (some ⟨A, 0, none⟩)]] 38)) := (Below.refl _ w1).alloc (Nat.le_refl _) _
    refine ⟨?_, ?_, ?_, ?_, ?_, ?_⟩
    · refine (hn.cell (by exact hwz)).trans ((hb1.cell (by simp)).trans (by simp))
    · refine (hn.cell (by exact hAlt)).trans (by simp [World.cell?, hA])
    · simp
    · simp; omega
    · simp; omega
    · simp
  have hbl0 : Below w.heap.size w (w1.alloc (.cells #[.func (.func 31) #[] #[.pointer (some ⟨A, 0, none⟩)]] 38)) := hb0.alloc hb0.size _
  generalize hw2 : w1.alloc (.cells #[.func (.func 31) #[] #[.pointer (some ⟨A, 0, none⟩)]] 38) = w2 at *
  generalize hF : w1.heap.size = F at *
  clear hw2 hF hA hb1 hb0 hwz
  go_wp2_with fail
  go_loopw [1] (fun t w' => ∃ k : Nat, k ≤ s.size ∧ t = .int .i64 k ∧ Hid (gap s k = gap s k0) ∧ Boxes s w.heap.size A F w' ∧ Below w.heap.size w w') (fun t _ => s.size - (intOf t).toNat)
  case atStart => exact ⟨k0, hcl, rfl, rfl, hBx0, hbl0⟩
  case round =>
    clear hBx0 hbl0
    obtain ⟨k, hk, rfl, HL, hBx, hbw⟩ := hrel
    have hBx' := hBx
    obtain ⟨hB1, hA1, hF1, _, _, _⟩ := hBx'
    have HBx : Hid (Boxes s w.heap.size A F wr) := hBx
    clear hBx
    by_cases hlt : k < s.size
    · cases hG : pG (bt s k) with
      | true =>
        have HG : Hid (pG (bt s k) = true) := hG
        have HE : Hid (gap s (k + 1) = gap s k0) := by show gap s (k + 1) = gap s k0; rw [← HL.out, gap_g hlt hG]
        clear hG
        go_wp2_with fail
        go_quiet ((first | (go_at_call 31; exact Calls.quiet_of_same (isGap_same s k A hlt _ true hA1 HG.out))))
        go_wp2_with fail
        go_roundw
        case rel => exact ⟨k + 1, by omega, by go_num, HE, HBx.out.later (below_drewN _ _), hbw.trans ((below_drewN _ _).mono hbw.size)⟩
        case measure => simp [intOf]; omega
      | false =>
        have HG : Hid (pG (bt s k) = false) := hG
        clear hG
        cases hr : rem s k with
        | true =>
          have HR : Hid (rem s k = true) := hr
          obtain ⟨E, hE⟩ : ∃ E, endL s k = E := ⟨_, rfl⟩
          have hre := rem_end hlt hr
          rw [hE] at hre
          obtain ⟨hE1, hE2⟩ := hre
          have HEn : Hid (endL s k = E) := hE
          have HE : Hid (gap s E = gap s k0) := by show gap s E = gap s k0; rw [← HL.out, gap_r hlt HG.out hr, hE]
          clear hr hE
          go_wp2_with fail
          go_quiet ((first | (go_at_call 31; exact Calls.quiet_of_same (isGap_same s k A hlt _ false hA1 HG.out))))
          go_wp2_with fail
          refine (remark_any s k _ A _ _ true hs hlt (HBx.out.later (below_drewN _ _)) HR.out).mono ?_
          rintro e w3 ⟨rfl, n3, rfl⟩
          go_wp2_with fail
          refine (endAt_any_nat s k E _ hs hk HEn.out).mono ?_
          rintro e w4 ⟨rfl, hb4⟩
          have hb5 : Below wr.heap.size wr w4 := (below_drewN wr _).trans (hb4.mono (below_drewN wr _).size)
          clear hb4
          go_wp2_with fail
          go_roundw
          case rel => exact ⟨E, hE2, rfl, HE, HBx.out.later hb5, hbw.trans (hb5.mono hbw.size)⟩
          case measure => simp [intOf]; omega
        | false =>
          have HR : Hid (rem s k = false) := hr
          have HE : Hid (gap s k0 = k) := by show gap s k0 = k; rw [← HL.out, gap_no HG.out hr]
          clear hr
          go_wp2_with fail
          go_quiet ((first | (go_at_call 31; exact Calls.quiet_of_same (isGap_same s k A hlt _ false hA1 HG.out))))
          go_wp2_with fail
          refine (remark_any s k _ A _ _ false hs hlt (HBx.out.later (below_drewN _ _)) HR.out).mono ?_
          rintro e w3 ⟨rfl, n3, rfl⟩
          go_wp2_with fail
          rw [Exit.noGoto_ret]
          go_ret
          exact ⟨ret_int (by rw [HK.out, HE.out]), hbw.trans ((below_drewN wr _).mono hbw.size)⟩
    · have HE : Hid (gap s k0 = k) := by show gap s k0 = k; rw [← HL.out, gap_end (by omega)]
      go_wp2_with fail
      rw [Exit.noGoto_ret]
      go_ret
      exact ⟨ret_int (by rw [HK.out, HE.out]), hbw⟩
end Go.Proofs.Ythfapofjbeccaad
