/- The contracts of impl.nextLine, digitCol, depthOf, and of the depth's endsAt and taken. -/
import Derived.Test.YtfpkcfedkjjjbacLtp
import Derived.Test.YtfpkcfedkjjjbacMk
import Derived.Test.YtfpkcfedkjjjbacLon
import Derived.Test.YtfpkcfedkjjjbacInd
import Derived.Test.YtfpkcfedkjjjbacBwr
import Derived.Handy
import Derived.Laws.ResultCell
namespace Go.Proofs.Ytfpkcfedkjjjbac
open Go.ChangeShapes Go.WideShapes Go.ChangeAt Go.RowKit Go.Shelf
section
variable {w : World} {b : Nat} {x0 x1 : Value} {t : TypeId}
theorem k2_0 (h : w.heap[b]? = some (.cells #[x0, x1] t (0, 0))) : w.cell? ⟨b, 0, none⟩ = some x0 := by simp [World.cell?, h]
theorem k2_1 (h : w.heap[b]? = some (.cells #[x0, x1] t (0, 0))) : w.cell? ⟨b, 1, none⟩ = some x1 := by simp [World.cell?, h]
theorem k2_f (h : w.heap[b]? = some (.cells #[x0, x1] t (0, 0))) (i : Nat) : w.frozen? ⟨b, i, none⟩ = false := by simp [World.frozen?, h]
theorem k2_setAll (h : w.heap[b]? = some (.cells #[x0, x1] t (0, 0))) (a0 a1 : Value) :
    ((w.setCell ⟨b, 0, none⟩ a0).setCell ⟨b, 1, none⟩ a1).heap[b]? = some (.cells #[a0, a1] t (0, 0)) := by
  simp [World.setCell, Array.getElem?_modify, h]
end
/-- The world with a depth's variable made. -/
abbrev dpV (w : World) (x0 x1 : Value) : World := w.alloc (.cells #[x0, x1] 53)
theorem dpV_new {w w1 : World} {x0 x1 : Value} (hb : Below (dpV w x0 x1).heap.size (dpV w x0 x1) w1) : w1.heap[w.heap.size]? = some (.cells #[x0, x1] 53 (0, 0)) :=
  (hb.block _ (by simp)).trans (heap_alloc_new w _)
theorem dpV_below {w w1 : World} {x0 x1 : Value} (hb : Below (dpV w x0 x1).heap.size (dpV w x0 x1) w1) : Below w.heap.size w w1 :=
  ((Below.refl _ w).alloc (Nat.le_refl _) _).trans (hb.mono (by simp))
theorem mark_natI (s : ByteArray) (k v : Nat) (w : World) (hs : s.size ≤ mx) (hk : k ≤ s.size) (hv : markN s k = v) :
    Calls Try.prog 45 #[.string s, .int .i64 (k : Int)] w fun e w' => e = .returned (.int .i64 (v : Int)) ∧ Below w.heap.size w w' := by
  have := mark_any s (k : Int) w hs
  rw [cl_nat _ _ hk, hv] at this
  exact this
theorem indent_natI (s : ByteArray) (k v : Nat) (w : World) (hs : s.size ≤ mx) (hk : k ≤ s.size) (hv : ind s k = v) :
    Calls Try.prog 46 #[.string s, .int .i64 (k : Int)] w fun e w' => e = .returned (.int .i64 (v : Int)) ∧ Below w.heap.size w w' := by
  have := indent_any s (k : Int) w hs
  rw [cl_nat _ _ hk, hv] at this
  exact this
theorem lone_natI (s : ByteArray) (k : Nat) (v : Bool) (w : World) (hs : s.size ≤ mx) (hk : k ≤ s.size) (hv : lone s k = v) :
    Calls Try.prog 44 #[.string s, .int .i64 (k : Int)] w fun e w' => e = .returned (.bool v) ∧ Below w.heap.size w w' := by
  have := lone_any s (k : Int) w hs
  rw [cl_nat _ _ hk, hv] at this
  exact this
/-- The line behind. -/
theorem next_any (s : ByteArray) (k z : Nat) (w : World) (hs : s.size ≤ mx) (hk : k ≤ s.size) (hz : nx s k = z) :
    Calls Try.prog 20 #[.string s, .int .i64 (k : Int)] w fun e w' => e = .returned (.int .i64 (z : Int)) ∧ Below w.heap.size w w' := by
  have cE := endAt_any_nat s k (endL s k) w hs hk rfl
  have hle := fwd_le pN s k hk
  obtain ⟨y, hy⟩ : ∃ y, endL s k = y := ⟨_, rfl⟩
  have hys : y ≤ s.size := by rw [← hy]; exact hle
  have HO : Hid (cl s.size ((y : Int) + 1) = z) := by
    show _ = z
    rw [← hz]
    unfold nx cl
    rw [hy]
    split <;> omega
  have HS : Hid (s.size ≤ mx) := hs
  rw [hy] at cE
  unfold mx at hs
  clear hle hy hz
  go_enter Try.func20, Try.ntmps20
  go_wp2_with fail
  refine cE.mono ?_
  rintro e w1 ⟨rfl, hb1⟩
  clear cE
  go_wp2_with fail
  refine (bring_any _ _ _ HS.out).mono ?_
  rintro e w2 ⟨rfl, rfl⟩
  go_wp2_with fail
  go_ret
  exact ⟨ret_int (by rw [HO.out]), hb1⟩
/-- The column that a digit asks for. -/
def dgC (n : Int) (g : Nat) : Nat := if 60000 < n then 60000 else n.toNat + g
theorem digitCol_any (n : Int) (g : Nat) (w : World) (hg : g ≤ 9) :
    Calls Try.prog 43 #[.int .i64 n, .int .i64 (g : Int)] w fun e w' => e = .returned (.int .i64 (dgC n g : Int)) ∧ w' = w := by
  by_cases h : (60000 : Int) < n
  · have HO : Hid (dgC n g = 60000) := by show _ = _; unfold dgC; rw [if_pos h]
    go_enter Try.func43, Try.ntmps43
    go_wp2_with fail
    go_ret
    exact ⟨ret_int (by rw [HO.out]; rfl), rfl⟩
  · have HO : Hid (dgC n g = n.toNat + g) := by show _ = _; unfold dgC; rw [if_neg h]
    go_enter Try.func43, Try.ntmps43
    go_wp2
    all_goals
      go_ret
      refine ⟨ret_int ?_, rfl⟩
      rw [HO.out]
      first | omega | (split at * <;> omega)
end Go.Proofs.Ytfpkcfedkjjjbac
