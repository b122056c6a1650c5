/- The three endings of a text, and how one of them is picked. -/
import Derived.Test.YtfpkcfedkjjjbacIfj
import Derived.Laws.EntriesVeiled
namespace Go.Proofs.Ytfpkcfedkjjjbac
open Go.ChangeShapes Go.WideShapes Go.ChangeAt Go.RowKit
/-- How many breaks end a text. -/
def eN (ch : Int) (f : Bool) (n : Nat) : Nat := if ch = 1 then 0 else (if f = true then 1 else 0) + (if ch = 2 then n else 0)
def Ends (ch : Int) (g : Nat) : Prop :=
  (∀ args w, (callFunc g args).run Try.prog w = .ok (.enter g args) w) ∧
  ∀ (f : Bool) (n : Nat) (w : World), n ≤ 33554432 → Calls Try.prog g #[.bool f, .int .i64 (n : Int)] w fun e w' => e = .returned (.int .i64 (eN ch f n : Nat)) ∧ w' = w
theorem clipped_any (f : Bool) (n : Int) (w : World) : Calls Try.prog 50 #[.bool f, .int .i64 n] w fun e w' => e = .returned (.int .i64 ((if f = true then 1 else 0 : Nat) : Int)) ∧ w' = w := by
  cases f with
  | true =>
    go_enter Try.func50, Try.ntmps50
    go_wp2_with fail
    go_ret
    exact ⟨rfl, rfl⟩
  | false =>
    go_enter Try.func50, Try.ntmps50
    go_wp2_with fail
    go_ret
    exact ⟨rfl, rfl⟩
theorem ends_clip {ch : Int} (h1 : ch ≠ 1) (h2 : ch ≠ 2) : Ends ch 50 := by
  refine ⟨enters_of Try.func50 (by kernel_rfl) rfl, fun f n w _ => ?_⟩
  have h : eN ch f n = if f = true then 1 else 0 := by unfold eN; rw [if_neg h1, if_neg h2]; rfl
  rw [h]
  exact clipped_any f n w
theorem ends_strip : Ends 1 51 := by
  refine ⟨enters_of Try.func51 (by kernel_rfl) rfl, fun f n w _ => ?_⟩
  have h : eN 1 f n = 0 := rfl
  rw [h]
  go_enter Try.func51, Try.ntmps51
  go_wp2_with fail
  go_ret
  exact ⟨rfl, rfl⟩
theorem ends_keep : Ends 2 52 := by
  refine ⟨enters_of Try.func52 (by kernel_rfl) rfl, fun f n w hn => ?_⟩
  have h : ((eN 2 f n : Nat) : Int) = ((if f = true then 1 else 0 : Nat) : Int) + (n : Int) := by
    unfold eN; rw [if_neg (by decide), if_pos rfl]; omega
  rw [h]
  have c := clipped_any f n w
  have hz : (if f = true then 1 else 0 : Nat) ≤ 1 := by split <;> omega
  generalize (if f = true then 1 else 0 : Nat) = z at *
  clear h
  go_enter Try.func52, Try.ntmps52
  go_wp2_with fail
  refine c.mono ?_
  rintro e w1 ⟨rfl, rfl⟩
  clear c
  go_wp2_with fail
  go_ret
  exact ⟨rfl, rfl⟩
theorem endingOf_any (ch : Int) (w : World) :
    Calls Try.prog 29 #[.int .i64 ch] w fun e w' => ∃ g, e = .returned (.func (.func g) #[] #[]) ∧ Ends ch g ∧ Below w.heap.size w w' := by
  by_cases hn : ch < 0
  · have HE : Hid (Ends ch 50) := ends_clip (by omega) (by omega)
    go_enter Try.func29, Try.ntmps29
    go_wp2_with fail
    go_ret
    exact ⟨_, rfl, HE.out, (Below.refl _ w).alloc (Nat.le_refl _) _⟩
  · by_cases h3 : 3 ≤ ch
    · have HE : Hid (Ends ch 50) := ends_clip (by omega) (by omega)
      go_enter Try.func29, Try.ntmps29
      go_wp2_with fail
      go_ret
      exact ⟨_, rfl, HE.out, (Below.refl _ w).alloc (Nat.le_refl _) _⟩
    · have hway : ch = 0 ∨ ch = 1 ∨ ch = 2 := by omega
      clear hn h3
      rcases hway with rfl | rfl | rfl
      · have HE : Hid (Ends 0 50) := ends_clip (by decide) (by decide)
        go_enter Try.func29, Try.ntmps29
        go_wp2_with fail
        go_ret
        exact ⟨_, rfl, HE.out, (Below.refl _ w).alloc (Nat.le_refl _) _⟩
      · have HE : Hid (Ends 1 51) := ends_strip
        go_enter Try.func29, Try.ntmps29
        go_wp2_with fail
        go_ret
        exact ⟨_, rfl, HE.out, (Below.refl _ w).alloc (Nat.le_refl _) _⟩
      · have HE : Hid (Ends 2 52) := ends_keep
        go_enter Try.func29, Try.ntmps29
        go_wp2_with fail
        go_ret
        exact ⟨_, rfl, HE.out, (Below.refl _ w).alloc (Nat.le_refl _) _⟩
theorem keepLines_any (w : World) (v : Value) (ss : List ByteArray) (hV : SlS w v ss) (hl : totS ss + ss.length ≤ 33554432) :
    Calls Try.prog 27 #[v] w fun e w' => e = .returned (.string (joinB ss)) ∧ Below w.heap.size w w' := by
  have c := join_any w v ss hV hl
  obtain ⟨a, k, rfl⟩ := hV.sl
  clear hV hl
  go_enter Try.func27, Try.ntmps27
  go_wp2_with fail
  refine c.mono ?_
  rintro e w1 ⟨rfl, hb1⟩
  clear c
  go_wp2_with fail
  go_ret
  exact ⟨rfl, hb1⟩
end Go.Proofs.Ytfpkcfedkjjjbac
