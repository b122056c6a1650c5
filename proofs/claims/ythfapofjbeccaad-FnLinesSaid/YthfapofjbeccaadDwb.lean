/- The contracts of the draws of texts: each answers some text of a bounded length, and changes the cursor alone. -/
import Derived.Test.YthfapofjbeccaadDwa
namespace Go.Proofs.Ythfapofjbeccaad
open Go.ChangeShapes Go.WideShapes Go.ChangeAt Go.RowKit
theorem szmk (xs : Array UInt8) : (ByteArray.mk xs).size = xs.size := rfl
/-- What buildSlice lays, ahead of a call of l01Of. -/
theorem of_lit (P : Nat) (cs : Array Value) (T : TypeId) (w w' : World) (n : Nat) (hw : w' = w.alloc (.cells cs T)) (hC : Cu P w) (hn : cs.size = n) (h0 : 0 < n) (h1 : n ≤ 100) (ht : cs.all txt = true) :
    Calls Try.prog 29 #[.pointer (some ⟨P, 0, none⟩), .slice (some ⟨w.heap.size, 0, none⟩) n n] w' fun e w2 => StrPost 100 P w e w2 := by
  subst hw
  have hb : (w.alloc (.cells cs T)).heap[w.heap.size]? = some (.cells cs T (0, 0)) := by
    show (w.heap.push _)[w.heap.size]? = _
    simp
  refine (of_any P w.heap.size n cs T _ (hC.alloc _) hb (by have := hC.lt; omega) hn h0 h1 ht).mono ?_
  rintro e w2 ⟨t, rfl, h, hS⟩
  exact ⟨t, rfl, h, (hC.st.alloc _).trans hS⟩
set_option maxHeartbeats 2000000 in
theorem word_any (P : Nat) (w : World) (hC : Cu P w) :
    Calls Try.prog 39 #[.pointer (some ⟨P, 0, none⟩)] w fun e w' => StrPost 100 P w e w' := by
  go_enter Try.func39, Try.ntmps39
  go_wp2_with fail
  refine Calls.mono (of_lit P _ _ w _ _ rfl hC (by kernel_rfl) (by decide) (by decide) (by kernel_rfl)) ?_
  rintro e w1 ⟨t, rfl, ht, hS⟩
  go_wp2_with fail
  go_ret
  exact ⟨t, rfl, ht, hS⟩
theorem pad_any (n : Int) (w : World) (h0 : 0 ≤ n) (h1 : n ≤ 100) :
    Calls Try.prog 37 #[.int .i64 n] w fun e w' => ∃ t : ByteArray, e = .returned (.string t) ∧ (t.size : Int) ≤ n ∧ w' = w := by
  go_enter Try.func37, Try.ntmps37
  go_wp2_with fail
  go_loop [0, 3] (fun t u => ∃ (k : Nat) (s : ByteArray), t = .int .i64 k ∧ u = .string s ∧ (k : Int) + s.size ≤ n) (fun t _ => (intOf t).toNat)
  case atStart => exact ⟨n.toNat, ⟨#[]⟩, by rw [Int.toNat_of_nonneg h0], rfl, by show (n.toNat : Int) + (0 : Nat) ≤ n; omega⟩
  case round =>
    obtain ⟨k, s, rfl, rfl, hk⟩ := hrel
    by_cases hz : 0 < k
    · go_wp2_with fail
      go_round
      case rel => exact ⟨k - 1, s ++ ⟨#[32]⟩, by congr 1; omega, rfl, by rw [ByteArray.size_append]; show ((k - 1 : Nat) : Int) + ((s.size + 1 : Nat) : Int) ≤ n; omega⟩
      case measure => simp [intOf]; omega
    · go_wp2_with fail
      go_ret
      exact ⟨s, rfl, by omega, rfl⟩
set_option maxHeartbeats 2000000 in
theorem mess_any (P : Nat) (most : Int) (w : World) (hC : Cu P w) (h0 : 0 ≤ most) (h1 : most ≤ 100) :
    Calls Try.prog 25 #[.pointer (some ⟨P, 0, none⟩), .int .i64 most] w fun e w' => StrPost 20000 P w e w' := by
  go_enter Try.func25, Try.ntmps25
  go_wp2_with fail
  refine (below_any P _ w hC (by omega) (by omega)).mono ?_
  rintro e w1 ⟨v, rfl, hv0, hv1, hS1⟩
  go_wp2_with fail
  go_loopw [5, 6] (fun u t w' => ∃ (k : Nat) (s : ByteArray), t = .int .i64 k ∧ u = .string s ∧ k * 100 + s.size ≤ 10100 ∧ St P w w') (fun _ t _ => (intOf t).toNat)
  case atStart => exact ⟨v.toNat, ⟨#[]⟩, by rw [Int.toNat_of_nonneg hv0], rfl, by show v.toNat * 100 + 0 ≤ 10100; omega, hS1⟩
  case round =>
    obtain ⟨k, s, rfl, rfl, hk, hS⟩ := hrel
    clear hS1
    by_cases hz : 0 < k
    · go_wp2_with fail
      refine Calls.mono (of_lit P _ _ wr _ _ rfl hS.1 (by kernel_rfl) (by decide) (by decide) (by kernel_rfl)) ?_
      rintro e w2 ⟨t, rfl, ht, hS2⟩
      go_wp2_with fail
      go_roundw
      case rel => exact ⟨k - 1, s ++ t, by congr 1; omega, rfl, by rw [ByteArray.size_append]; omega, hS.trans hS2⟩
      case measure => simp [intOf]; omega
    · go_wp2_with fail
      go_ret
      exact ⟨s, rfl, by omega, hS⟩
end Go.Proofs.Ythfapofjbeccaad
