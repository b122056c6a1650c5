/- The contract of slices.Delete at lists of ints that the library holds, laid at this program; and that of slices.Index. -/
import Derived.Shelf.Slices.Delete
import Derived.Lib.OwnBridge
import Derived.Test.YtopmboioojedbacRows
import Derived.WalkKit
import Derived.WalkSpells
import Derived.LoopN
namespace Go.Proofs.Ytopmboioojedbac
open Go.Shelf Go.RowKit Go.Sort
def dren : Go.Shelf.Ren := ⟨fun | 23 => 20 | n => n, fun | 22 => 48 | n => n, fun n => n⟩
theorem dlays : Go.Proofs.Lays2.n23 Try.prog dren := {
  mixed := by kernel_rfl
  f23 := Try.func20.trans (congrArg some (by kernel_rfl))
  t0 := Try.underlying0
  a0 := Try.isAgg0
  z0 := Try.sizeOf0
  v0 := Try.zeroValue0
  t3 := Try.underlying3
  a3 := Try.isAgg3
  z3 := Try.sizeOf3
  v3 := Try.zeroValue3
  t4 := Try.underlying4
  a4 := Try.isAgg4
  z4 := Try.sizeOf4
  v4 := Try.zeroValue4
  t22 := Try.underlying48
  a22 := Try.isAgg48
  z22 := Try.sizeOf48
  v22 := Try.zeroValue48
  i3 := by kernel_rfl }
theorem delete_ (blk cap i j : Nat) (zs : List Int) (w : World) (hH : Holds (Value.int .i64) w blk 0 zs.toArray) (hcap : zs.length ≤ cap) (hm : cap ≤ 9223372036854775807) (hij : i ≤ j) (hj : j ≤ zs.length) :
    Calls Try.prog 20 #[.slice (some ⟨blk, 0, none⟩) zs.length cap, .int .i64 i, .int .i64 j] w fun e w' => e = .returned (.slice (some ⟨blk, 0, none⟩) (zs.length - (j - i)) cap) ∧ ∃ q, w' = putRow (Value.int .i64) (Sort.ahead w q) blk 0 (zs.take i ++ zs.drop j ++ List.replicate (j - i) 0).toArray := Any.slices_Delete_int dlays blk 0 cap i j zs w hH hcap hm hij hj

set_option maxHeartbeats 1000000 in
/-- slices.Index where the number stands at place k and nowhere ahead. -/
theorem index_ (g n c k : Nat) (x : Int) (f : Nat → Int) (w : World) (hk : k < n) (hn : n ≤ 1000000) (hc : ∀ i, i < n → w.cell? ⟨g, i, none⟩ = some (.int .i64 (f i))) (hx : f k = x) (hne : ∀ i, i < k → f i ≠ x) :
    Calls Try.prog 19 #[.slice (some ⟨g, 0, none⟩) n c, .int .i64 x] w fun e w' => e = .returned (.int .i64 k) ∧ w' = w := by
  have HC : Hid (∀ i, i < n → w.cell? ⟨g, i, none⟩ = some (.int .i64 (f i))) := hc
  have HX : Hid (f k = x) := hx
  have HN : Hid (∀ i, i < k → f i ≠ x) := hne
  clear hc hx hne
  go_enter Try.func19, Try.ntmps19
  go_wp2_with fail
  go_loop [5, 8] (fun _ i => ∃ m : Nat, m ≤ k ∧ i = .int .i64 m) (fun _ i => n - (intOf i).toNat)
  case atStart => exact ⟨0, Nat.zero_le _, rfl⟩
  case round =>
    obtain ⟨m, hm, rfl⟩ := hrel
    have hlt : (m : Int) < (n : Int) := by omega
    have hcell : w.cell? ⟨g, m, none⟩ = some (.int .i64 (f m)) := HC.out m (by omega)
    by_cases e : m = k
    · subst e
      have h1 : (x == f m) = true := by rw [HX.out]; simp
      clear HX HN
      generalize f m = y at hcell h1
      go_wp2_with fail
      go_ret
      exact ⟨rfl, rfl⟩
    · have h1 : (x == f m) = false := by
        have := HN.out m (by omega)
        simp only [beq_eq_false_iff_ne, ne_eq]
        exact fun e2 => this e2.symm
      generalize f m = y at hcell h1
      go_wp2_with fail
      go_round
      case rel => exact ⟨m + 1, by omega, by go_num⟩
      case measure => simp [intOf]; omega
end Go.Proofs.Ytopmboioojedbac
