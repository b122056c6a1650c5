/- The draws of FnLines: l01New makes a cursor; MakeAnyText answers some text, MakeNum some number below the bound; what was there is as it was. -/
import Derived.Test.YthfapofjbeccaadDwe
namespace Go.Proofs.Ythfapofjbeccaad
open Go.ChangeShapes Go.WideShapes Go.ChangeAt Go.RowKit
set_option maxHeartbeats 2000000 in
theorem new_any (a : Option Addr) (len cap : Nat) (w : World) (hb : Bs w.heap.size a len w) :
    Calls Try.prog 14 #[.slice a len cap] w fun e w' => e = .returned (.pointer (some ⟨w.heap.size, 0, none⟩)) ∧ Cu w.heap.size w' ∧ Below w.heap.size w w' := by
  have hl := hb.1
  go_enter Try.func14, Try.ntmps14
  go_wp2_with fail
  go_loop [3, 4] (fun h t => ∃ (k : Nat) (z : Int), t = .int .i64 k ∧ h = .int .i64 z ∧ k ≤ len) (fun _ t => len - (intOf t).toNat)
  case atStart => exact ⟨0, _, rfl, rfl, Nat.zero_le _⟩
  case round =>
    obtain ⟨k, z, rfl, rfl, hk⟩ := hrel
    by_cases hlt : k < len
    · by_cases h4 : k < 4000
      · have h4' : (k : Int) < 4000 := by omega
        clear h4
        obtain ⟨b, off, rfl, hbP, hcell⟩ := hb.2 (by omega)
        obtain ⟨y, hy, hy0, hy1⟩ := hcell k hlt
        clear hcell
        go_wp2_with fail
        go_round
        case rel => exact ⟨k + 1, _, by go_num, rfl, by omega⟩
        case measure => simp [intOf]; omega
      · have h4' : decide ((k : Int) < 4000) = false := by rw [decide_eq_false_iff_not]; omega
        clear h4
        have HL : Hid (len ≤ 1048576) := hl
        clear hl
        go_wp2_with fail
        go_ret
        refine ⟨rfl, ⟨a, len, cap, 0, z, ?_, by omega, by omega, ?_⟩, (Below.refl _ w).alloc (Nat.le_refl _) _⟩
        · show (w.heap.push _)[w.heap.size]? = _
          simp
        · exact hb.later ((Below.refl _ w).alloc (Nat.le_refl _) _)
    · go_wp2_with fail
      go_ret
      refine ⟨rfl, ⟨a, len, cap, 0, z, ?_, by omega, by omega, ?_⟩, (Below.refl _ w).alloc (Nat.le_refl _) _⟩
      · show (w.heap.push _)[w.heap.size]? = _
        simp
      · exact hb.later ((Below.refl _ w).alloc (Nat.le_refl _) _)
theorem makeText_any (a : Option Addr) (len cap : Nat) (w : World) (hb : Bs w.heap.size a len w) :
    Calls Try.prog 4 #[.slice a len cap] w fun e w' => (∃ t : ByteArray, e = .returned (.string t) ∧ t.size ≤ 200000020000) ∧ Below w.heap.size w w' := by
  go_enter Try.func4, Try.ntmps4
  go_wp2_with fail
  refine (new_any a len cap w hb).mono ?_
  rintro e w1 ⟨rfl, hC, hB⟩
  go_wp2_with fail
  refine (any_any _ w1 hC).mono ?_
  rintro e w2 ⟨t2, rfl, h2, S2⟩
  go_wp2_with fail
  refine (below_any _ 3 w2 S2.1 (by decide) (by decide)).mono ?_
  rintro e w3 ⟨x3, rfl, a3, b3, S3⟩
  have T3 := S2.trans S3
  by_cases h0 : x3 = 0
  · subst h0
    go_wp2_with fail
    refine (text_any _ w3 T3.1).mono ?_
    rintro e w4 ⟨t4, rfl, h4, S4⟩
    have T4 := T3.trans S4
    go_wp2_with fail
    go_ret
    exact ⟨⟨t4, rfl, h4⟩, hB.trans T4.2.1⟩
  · have h0' : (x3 == 0) = false := by rw [beq_eq_false_iff_ne]; exact h0
    clear h0
    go_wp2_with fail
    go_ret
    exact ⟨⟨t2, rfl, h2⟩, hB.trans T3.2.1⟩
theorem Cu.set2 {P : Nat} {w : World} (h : Cu P w) : ∃ z : Int, w.cell? ⟨P, 2, none⟩ = some (.int .i64 z) ∧ w.frozen? ⟨P, 2, none⟩ = false ∧ ∀ v : Int, Cu P (w.setCell ⟨P, 2, none⟩ (.int .i64 v)) := by
  obtain ⟨a, len, cap, i, z, hc, h0, h1, hb⟩ := h
  obtain ⟨c0, c1, c2, f1, f2⟩ := cells3 hc
  refine ⟨z, c2, f2, fun v => ⟨a, len, cap, i, v, Go.Proofs.Ythfapofjbeccaad.set2 hc _, h0, h1, hb.later (((Fr.refl P w).set 2 _).1)⟩⟩
theorem makeNum_any (a : Option Addr) (len cap : Nat) (n : Int) (w : World) (hb : Bs w.heap.size a len w) (hn : 0 < n) (hn2 : n < 4611686018427387904) :
    Calls Try.prog 5 #[.slice a len cap, .int .i64 n] w fun e w' => (∃ v : Int, e = .returned (.int .i64 v) ∧ 0 ≤ v ∧ v < n) ∧ Below w.heap.size w w' := by
  go_enter Try.func5, Try.ntmps5
  go_wp2_with fail
  refine (new_any a len cap w hb).mono ?_
  rintro e w1 ⟨rfl, hC, hB⟩
  obtain ⟨z, hz, hf, hset⟩ := hC.set2
  go_wp2_with fail
  refine (below_any _ n _ (hset _) hn hn2).mono ?_
  rintro e w2 ⟨v, rfl, hv0, hv1, hS⟩
  have hB2 := (hB.setCell (p := ⟨w.heap.size, 2, none⟩) (Nat.le_refl _) _).trans hS.2.1
  go_wp2_with fail
  go_ret
  exact ⟨⟨v, rfl, hv0, hv1⟩, hB2⟩
end Go.Proofs.Ythfapofjbeccaad
