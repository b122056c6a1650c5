/- The size of a graph, from any number left. -/
import Derived.Test.YtgaibajkegfpoaaGsz
namespace Go.Proofs.Ytgaibajkegfpoaa
open Go.ChangeShapes Go.WideShapes Go.ChangeAt Go.RowKit
set_option maxHeartbeats 2000000 in
theorem szG_left (g : Gr) (nv rv : Value) (left : Int) (w : World) (hG : GrAt w nv rv g) (hw : g.Wide) (l0 : 0 ≤ left) (l1 : left ≤ 1048576) :
    Calls Try.prog 7 #[.agg #[nv, rv], .int .i64 left] w fun e w' => SzP left g.tot e ∧ Below w.heap.size w w' := by
  obtain ⟨na, nc, rfl⟩ := hG.1.sl
  obtain ⟨ra, rc, rfl⟩ := hG.2.sl
  obtain ⟨nodes, roots⟩ := g
  have HG : Hid (GrAt w (.slice na nodes.length nc) (.slice ra roots.length rc) ⟨nodes, roots⟩) := hG
  have HW : Hid (Gr.Wide ⟨nodes, roots⟩) := hw
  show Calls Try.prog 7 #[.agg #[.slice na nodes.length nc, .slice ra roots.length rc], .int .i64 left] w fun e w' => SzP left ((nodes.length + totN nodes + roots.length : Nat) : Int) e ∧ Below w.heap.size w w'
  have HAL : Hid (Below w.heap.size w (w.alloc (.cells #[.slice na nodes.length nc, .slice ra roots.length rc] 25))) := (Below.refl _ w).alloc (Nat.le_refl _) _
  have HC : Hid ((w.alloc (.cells #[.slice na nodes.length nc, .slice ra roots.length rc] 25)).heap[w.heap.size]? = some (.cells #[.slice na nodes.length nc, .slice ra roots.length rc] 25 (0, 0))) := heap_alloc_new w _
  have HS : Hid (w.heap.size < (w.alloc (.cells #[.slice na nodes.length nc, .slice ra roots.length rc] 25)).heap.size) := by show w.heap.size < (w.heap.push _).size; simp
  clear hG hw
  go_enter Try.func7, Try.ntmps7
  go_wp2_with fail
  refine (szNs_any _ nodes _ _ (HG.out.1.later HAL.out) (by omega) (by omega) HW.out.nodes HW.out.each).mono ?_
  rintro e w1 ⟨⟨z, rfl, hz⟩, hb1⟩
  have HB1 : Hid (Below w.heap.size w w1) := HAL.out.trans (hb1.mono HAL.out.size)
  have q := (hb1.block _ HS.out).trans HC.out
  have q1 : w1.cell? ⟨w.heap.size, 1, none⟩ = some (.slice ra roots.length rc) := by simp [World.cell?, q]
  clear hb1 q HC HS HAL
  rcases hz with rfl | ⟨hz, hz0⟩
  · clear q1
    go_wp2_with fail
    go_ret
    exact ⟨SzP.no, HB1.out⟩
  · have HZ : Hid (z = left - ((nodes.length + totN nodes : Nat) : Int)) := hz
    have hz1 : z ≤ 1048576 := by omega
    clear hz
    go_wp2_with fail
    refine (szI_any _ roots z w1 ⟨ra, rc, rfl⟩ hz0 hz1 HW.out.roots).mono ?_
    rintro e w2 ⟨⟨y, rfl, hy⟩, rfl⟩
    rcases hy with rfl | ⟨hy, hy0⟩
    · clear q1
      go_wp2_with fail
      go_ret
      exact ⟨SzP.no, HB1.out⟩
    · have HY : Hid (y = left - ((nodes.length + totN nodes + roots.length : Nat) : Int)) := by show _ = _; rw [hy, HZ.out]; omega
      clear hy q1 HZ
      go_wp2_with fail
      go_ret
      exact ⟨SzP.yes HY.out hy0, HB1.out⟩
end Go.Proofs.Ytgaibajkegfpoaa
