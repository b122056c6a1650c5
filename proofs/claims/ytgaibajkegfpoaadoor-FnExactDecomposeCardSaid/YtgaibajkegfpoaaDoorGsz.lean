/- A graph that came in: how large it is. -/
import Derived.Test.YtgaibajkegfpoaaDoorGpl
import Derived.Test.YtgaibajkegfpoaaDoorProg
import Derived.WalkLawsBesides
import Derived.WalkSpells
import Derived.WalkMore
import Derived.Handy
import Derived.LoopN
namespace Go.Proofs.YtgaibajkegfpoaaDoor
open Go.ChangeShapes Go.WideShapes Go.ChangeAt Go.RowKit
/-- What is left of a number, or -1. -/
def SzP (left t : Int) (e : Ending) : Prop := ∃ z : Int, e = .returned (.int .i64 z) ∧ (z = -1 ∨ (z = left - t ∧ 0 ≤ z))
theorem SzP.no {left t : Int} : SzP left t (.returned (.int .i64 (-1))) := ⟨-1, rfl, .inl rfl⟩
theorem SzP.yes {left t z : Int} (h : z = left - t) (h0 : 0 ≤ z) : SzP left t (.returned (.int .i64 z)) := ⟨z, rfl, .inr ⟨h, h0⟩⟩
theorem szI_any (v : Value) (l : List Int) (left : Int) (w : World) (hv : ∃ a c, v = .slice a l.length c) (l0 : 0 ≤ left) (l1 : left ≤ 1048576) (hl : l.length ≤ 9223372036854775807) :
    Calls Tryd.prog 14 #[v, .int .i64 left] w fun e w' => SzP left l.length e ∧ w' = w := by
  obtain ⟨a, c, rfl⟩ := hv
  by_cases h1 : left - (l.length : Int) < 0
  · go_enter Tryd.func14, Tryd.ntmps14
    go_wp2_with fail
    go_ret
    exact ⟨SzP.no, rfl⟩
  · go_enter Tryd.func14, Tryd.ntmps14
    go_wp2_with fail
    go_ret
    exact ⟨SzP.yes rfl (by omega), rfl⟩
set_option maxHeartbeats 2000000 in
theorem szN_any (n : Nd) (kv : Value) (left : Int) (w : World) (hv : ∃ a c, kv = .slice a n.kids.length c) (l0 : 0 ≤ left) (l1 : left ≤ 1048576) (hw : wideN n) :
    Calls Tryd.prog 30 #[.agg #[.int .i64 n.kind, .string n.tag, .string n.text, kv], .int .i64 left] w fun e w' => SzP left n.tot e ∧ Below w.heap.size w w' := by
  obtain ⟨kind, tag, text, kids⟩ := n
  obtain ⟨z1, z2, z3⟩ : tag.size ≤ 9223372036854775807 ∧ text.size ≤ 9223372036854775807 ∧ kids.length ≤ 9223372036854775807 := hw
  show Calls Tryd.prog 30 #[.agg #[.int .i64 kind, .string tag, .string text, kv], .int .i64 left] w fun e w' => SzP left ((tag.size + text.size + kids.length : Nat) : Int) e ∧ Below w.heap.size w w'
  obtain ⟨a, c, rfl⟩ := hv
  have HAL : Hid (Below w.heap.size w (w.alloc (.cells #[.int .i64 kind, .string tag, .string text, .slice a kids.length c] 66))) := (Below.refl _ w).alloc (Nat.le_refl _) _
  by_cases h1 : left - (tag.size : Int) < 0
  · go_enter Tryd.func30, Tryd.ntmps30
    go_wp2_with fail
    go_ret
    exact ⟨SzP.no, HAL.out⟩
  by_cases h2 : left - (tag.size : Int) - (text.size : Int) < 0
  · go_enter Tryd.func30, Tryd.ntmps30
    go_wp2_with fail
    go_ret
    exact ⟨SzP.no, HAL.out⟩
  have cI : Hid (∀ w, Calls Tryd.prog 14 #[.slice a kids.length c, .int .i64 (left - (tag.size : Int) - (text.size : Int))] w fun e w' => SzP (left - (tag.size : Int) - (text.size : Int)) kids.length e ∧ w' = w) := fun w => szI_any _ kids _ w ⟨a, c, rfl⟩ (by omega) (by omega) z3
  go_enter Tryd.func30, Tryd.ntmps30
  go_wp2_with fail
  refine (cI.out _).mono ?_
  rintro e w1 ⟨⟨z, rfl, hz⟩, rfl⟩
  clear cI
  rcases hz with rfl | ⟨hz, hz0⟩
  · go_wp2_with fail
    go_ret
    exact ⟨SzP.no, HAL.out⟩
  · have HZ : Hid (z = left - ((tag.size + text.size + kids.length : Nat) : Int)) := by show _ = _; omega
    clear hz
    go_wp2_with fail
    go_ret
    exact ⟨SzP.yes HZ.out hz0, HAL.out⟩
set_option maxHeartbeats 4000000 in
theorem szNs_any (v : Value) (ns : List Nd) (left : Int) (w : World) (hV : NlAt w v ns) (l0 : 0 ≤ left) (l1 : left ≤ 1048576) (hl : ns.length ≤ 9223372036854775807) (hw : ∀ n ∈ ns, wideN n) :
    Calls Tryd.prog 13 #[v, .int .i64 left] w fun e w' => SzP left ((ns.length + totN ns : Nat) : Int) e ∧ Below w.heap.size w w' := by
  obtain ⟨a, c, rfl⟩ := hV.sl
  by_cases h1 : left - (ns.length : Int) < 0
  · clear hV hw
    go_enter Tryd.func13, Tryd.ntmps13
    go_wp2_with fail
    go_ret
    exact ⟨SzP.no, Below.refl _ _⟩
  have HV : Hid (NlAt w (.slice a ns.length c) ns) := hV
  have HW : Hid (∀ n ∈ ns, wideN n) := hw
  clear hV hw
  have hlI : (ns.length : Int) ≤ 1048576 := by omega
  go_enter Tryd.func13, Tryd.ntmps13
  go_wp2_with fail
  go_loopw [1, 5] (fun zv iv wr => ∃ (k : Nat) (z : Int), zv = .int .i64 z ∧ iv = .int .i64 k ∧ k ≤ ns.length ∧ 0 ≤ z ∧ z ≤ 1048576 ∧ Hid (z = left - (ns.length : Int) - (totN (ns.take k) : Int)) ∧ Hid (Below w.heap.size w wr)) (fun _ iv _ => ns.length - (intOf iv).toNat)
  case atStart => exact ⟨0, _, rfl, rfl, Nat.zero_le _, by omega, by omega, by show _ = _; simp [totN], Below.refl _ _⟩
  case round =>
    obtain ⟨k, z, rfl, rfl, hk, z0, z1, HZ, HB⟩ := hrel
    by_cases hlt : k < ns.length
    · have hltI : (k : Int) < (ns.length : Int) := by omega
      obtain ⟨n, hx⟩ : ∃ n, ns[k]? = some n := ⟨_, List.getElem?_eq_getElem hlt⟩
      obtain ⟨b, off, kv, rfl, hbl, hN⟩ := HV.out.at hx
      obtain ⟨c0, c1, c2, c3, hI⟩ := hN.later hbl HB.out
      have hwn := HW.out n (List.mem_of_getElem? hx)
      have HT : Hid (totN (ns.take (k + 1)) = totN (ns.take k) + n.tot) := totN_take hx
      have cN := szN_any n kv z wr hI.sl z0 z1 hwn
      clear hx hN hI hwn hbl
      obtain ⟨kind, tag, text, kids⟩ := n
      go_wp2_with fail
      refine cN.mono ?_
      rintro e w1 ⟨⟨y, rfl, hy⟩, hb1⟩
      have HB1 : Hid (Below w.heap.size w w1) := HB.out.trans (hb1.mono HB.out.size)
      clear hb1 HB cN c0 c1 c2 c3
      rcases hy with rfl | ⟨hy, hy0⟩
      · go_wp2_with fail
        go_ret
        exact ⟨SzP.no, HB1.out⟩
      · have HY : Hid (y = left - (ns.length : Int) - (totN (ns.take (k + 1)) : Int)) := by
          show _ = _
          rw [hy, HT.out, HZ.out]
          omega
        have hy1 : y ≤ 1048576 := by omega
        clear hy HT HZ
        go_wp2_with fail
        go_roundw
        case rel => exact ⟨k + 1, y, rfl, by go_num, by omega, hy0, hy1, HY, HB1⟩
        case measure => simp [intOf]; omega
    · have hge : ¬ (k : Int) < (ns.length : Int) := by omega
      have ek : k = ns.length := by omega
      have HO : Hid (z = left - ((ns.length + totN ns : Nat) : Int)) := by
        show _ = _
        rw [HZ.out, ek, List.take_length]
        omega
      clear HZ
      go_wp2_with fail
      go_ret
      exact ⟨SzP.yes HO.out z0, HB.out⟩
set_option maxHeartbeats 2000000 in
theorem szG_any (g : Gr) (nv rv : Value) (w : World) (hG : GrAt w nv rv g) (hw : g.Wide) :
    Calls Tryd.prog 4 #[.agg #[nv, rv], .int .i64 1048576] w fun e w' => SzP 1048576 g.tot e ∧ Below w.heap.size w w' := by
  obtain ⟨na, nc, rfl⟩ := hG.1.sl
  obtain ⟨ra, rc, rfl⟩ := hG.2.sl
  obtain ⟨nodes, roots⟩ := g
  have HG : Hid (GrAt w (.slice na nodes.length nc) (.slice ra roots.length rc) ⟨nodes, roots⟩) := hG
  have HW : Hid (Gr.Wide ⟨nodes, roots⟩) := hw
  show Calls Tryd.prog 4 #[.agg #[.slice na nodes.length nc, .slice ra roots.length rc], .int .i64 1048576] w fun e w' => SzP 1048576 ((nodes.length + totN nodes + roots.length : Nat) : Int) e ∧ Below w.heap.size w w'
  have HAL : Hid (Below w.heap.size w (w.alloc (.cells #[.slice na nodes.length nc, .slice ra roots.length rc] 25))) := (Below.refl _ w).alloc (Nat.le_refl _) _
  have HC : Hid ((w.alloc (.cells #[.slice na nodes.length nc, .slice ra roots.length rc] 25)).heap[w.heap.size]? = some (.cells #[.slice na nodes.length nc, .slice ra roots.length rc] 25 (0, 0))) := heap_alloc_new w _
  have HS : Hid (w.heap.size < (w.alloc (.cells #[.slice na nodes.length nc, .slice ra roots.length rc] 25)).heap.size) := by show w.heap.size < (w.heap.push _).size; simp
  clear hG hw
  go_enter Tryd.func4, Tryd.ntmps4
  go_wp2_with fail
  refine (szNs_any _ nodes _ _ (HG.out.1.later HAL.out) (by omega) (by omega) HW.out.nodes HW.out.each).mono ?_
  rintro e w1 ⟨⟨z, rfl, hz⟩, hb1⟩
  have HB1 : Hid (Below w.heap.size w w1) := HAL.out.trans (hb1.mono HAL.out.size)
  have q := (hb1.block _ HS.out).trans HC.out
  have q1 : w1.cell? ⟨w.heap.size, 1, none⟩ = some (.slice ra roots.length rc) := by simp [World.cell?, q]
  clear hb1 q HC HS HAL
  rcases hz with rfl | ⟨hz, hz0⟩
  · clear q1
    go_wp2_with fail
    go_ret
    exact ⟨SzP.no, HB1.out⟩
  · have HZ : Hid (z = 1048576 - ((nodes.length + totN nodes : Nat) : Int)) := hz
    have hz1 : z ≤ 1048576 := by omega
    clear hz
    go_wp2_with fail
    refine (szI_any _ roots z w1 ⟨ra, rc, rfl⟩ hz0 hz1 HW.out.roots).mono ?_
    rintro e w2 ⟨⟨y, rfl, hy⟩, rfl⟩
    rcases hy with rfl | ⟨hy, hy0⟩
    · clear q1
      go_wp2_with fail
      go_ret
      exact ⟨SzP.no, HB1.out⟩
    · have HY : Hid (y = 1048576 - ((nodes.length + totN nodes + roots.length : Nat) : Int)) := by show _ = _; rw [hy, HZ.out]; omega
      clear hy q1 HZ
      go_wp2_with fail
      go_ret
      exact ⟨SzP.yes HY.out hy0, HB1.out⟩
end Go.Proofs.YtgaibajkegfpoaaDoor
