/- The draws, sharper: l01New makes a cursor; l01Of answers one of its texts, of which something was asked ahead. -/
import Derived.Test.YtmbbmibkjnlkkaaDoorDwa
namespace Go.Proofs.YtmbbmibkjnlkkaaDoor
open Go.ChangeShapes Go.WideShapes Go.ChangeAt Go.RowKit
set_option maxHeartbeats 2000000 in
theorem newC_any (a : Option Addr) (len cap : Nat) (w : World) (hb : Bs w.heap.size a len w) :
    Calls Tryd.prog 26 #[.slice a len cap] w fun e w' => e = .returned (.pointer (some ⟨w.heap.size, 0, none⟩)) ∧ Cu w.heap.size w' ∧ Below w.heap.size w w' := by
  have hl := hb.1
  go_enter Tryd.func26, Tryd.ntmps26
  go_wp2_with fail
  go_loop [3, 4] (fun h t => ∃ (k : Nat) (z : Int), t = .int .i64 k ∧ h = .int .i64 z ∧ k ≤ len) (fun _ t => len - (intOf t).toNat)
  case atStart => exact ⟨0, _, rfl, rfl, Nat.zero_le _⟩
  case round =>
    obtain ⟨k, z, rfl, rfl, hk⟩ := hrel
    by_cases hlt : k < len
    · by_cases h4 : k < 4000
      · have h4' : (k : Int) < 4000 := by omega
        clear h4
        obtain ⟨b, off, rfl, hbP, hcell⟩ := hb.2 (by omega)
        obtain ⟨y, hy, hy0, hy1⟩ := hcell k hlt
        clear hcell
        go_wp2_with fail
        go_round
        case rel => exact ⟨k + 1, _, by go_num, rfl, by omega⟩
        case measure => simp [intOf]; omega
      · have h4' : decide ((k : Int) < 4000) = false := by rw [decide_eq_false_iff_not]; omega
        clear h4
        have HL : Hid (len ≤ 1048576) := hl
        clear hl
        go_wp2_with fail
        go_ret
        refine ⟨rfl, ⟨a, len, cap, 0, z, ?_, by omega, by omega, ?_⟩, (Below.refl _ w).alloc (Nat.le_refl _) _⟩
        · show (w.heap.push _)[w.heap.size]? = _
          simp
        · exact hb.later ((Below.refl _ w).alloc (Nat.le_refl _) _)
    · go_wp2_with fail
      go_ret
      refine ⟨rfl, ⟨a, len, cap, 0, z, ?_, by omega, by omega, ?_⟩, (Below.refl _ w).alloc (Nat.le_refl _) _⟩
      · show (w.heap.push _)[w.heap.size]? = _
        simp
      · exact hb.later ((Below.refl _ w).alloc (Nat.le_refl _) _)
/-- A list of texts of which Pd was asked. -/
def txtP (Pd : ByteArray → Bool) : Value → Bool
  | .string t => Pd t
  | _ => false
theorem ofP_any (Pd : ByteArray → Bool) (P b n : Nat) (cs : Array Value) (T : TypeId) (w : World) (hC : Cu P w) (hb : w.heap[b]? = some (.cells cs T (0, 0))) (hbP : b ≠ P) (hn : cs.size = n) (h0 : 0 < n) (h1 : n ≤ 100) (ht : cs.all (txtP Pd) = true) :
    Calls Tryd.prog 58 #[.pointer (some ⟨P, 0, none⟩), .slice (some ⟨b, 0, none⟩) n n] w fun e w' => ∃ t, e = .returned (.string t) ∧ Pd t = true ∧ St P w w' := by
  subst hn
  have hlt : b < w.heap.size := (Array.getElem?_eq_some_iff.1 hb).1
  go_enter Tryd.func58, Tryd.ntmps58
  go_wp2_with fail
  refine (below_any P _ w hC (by omega) (by omega)).mono ?_
  rintro e w1 ⟨v, rfl, hv0, hv1, hS⟩
  obtain ⟨k, rfl⟩ : ∃ k : Nat, v = (k : Int) := ⟨v.toNat, by omega⟩
  have hb1 : w1.heap[b]? = some (.cells cs T (0, 0)) := (hS.2.block b hlt hbP).trans hb
  have hk : k < cs.size := by omega
  have htk : txtP Pd cs[k] = true := by
    rw [Array.all_eq_true] at ht
    exact ht k hk
  obtain ⟨t, ht1, ht2⟩ : ∃ t, cs[k] = .string t ∧ Hid (Pd t = true) := by
    cases hv : cs[k] with
    | string t => rw [hv] at htk; exact ⟨t, rfl, htk⟩
    | _ => rw [hv] at htk; simp [txtP] at htk
  have hcell : w1.cell? ⟨b, k, none⟩ = some (.string t) := by
    simp [World.cell?, hb1, hk, ht1]
  clear hb hb1 ht htk ht1
  go_wp2_with fail
  go_ret
  exact ⟨t, rfl, ht2.out, hS⟩
theorem ofP_lit (Pd : ByteArray → Bool) (P : Nat) (cs : Array Value) (T : TypeId) (w w' : World) (n : Nat) (hw : w' = w.alloc (.cells cs T)) (hC : Cu P w) (hn : cs.size = n) (h0 : 0 < n) (h1 : n ≤ 100) (ht : cs.all (txtP Pd) = true) :
    Calls Tryd.prog 58 #[.pointer (some ⟨P, 0, none⟩), .slice (some ⟨w.heap.size, 0, none⟩) n n] w' fun e w2 => ∃ t, e = .returned (.string t) ∧ Pd t = true ∧ St P w w2 := by
  subst hw
  have hb : (w.alloc (.cells cs T)).heap[w.heap.size]? = some (.cells cs T (0, 0)) := by
    show (w.heap.push _)[w.heap.size]? = _
    simp
  refine (ofP_any Pd P w.heap.size n cs T _ (hC.alloc _) hb (by have := hC.lt; omega) hn h0 h1 ht).mono ?_
  rintro e w2 ⟨t, rfl, h, hS⟩
  exact ⟨t, rfl, h, (hC.st.alloc _).trans hS⟩
end Go.Proofs.YtmbbmibkjnlkkaaDoor
