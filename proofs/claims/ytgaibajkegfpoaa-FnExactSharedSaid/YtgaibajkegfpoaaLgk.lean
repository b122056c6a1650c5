/- The law on GraphOk, walked, over impl's contract. -/
import Derived.Test.YtgaibajkegfpoaaGov
import Derived.Test.YtgaibajkegfpoaaGsz
import Derived.Test.YtgaibajkegfpoaaGop
namespace Go.Proofs.Ytgaibajkegfpoaa
open Go.ChangeShapes Go.WideShapes Go.ChangeAt Go.RowKit Go.Deep
/-- What is asked of impl.GraphOk. -/
def ImplGk : Prop := ∀ (g : Gr) (nv rv : Value) (w : World), GrAt w nv rv g → g.tot ≤ 1048576 → g.Wf →
    Calls Try.prog 10 #[.agg #[nv, rv]] w fun e w' => e = .returned (.bool (graphOkP g)) ∧ Below w.heap.size w w'
set_option maxHeartbeats 4000000 in
theorem law_graphOk (HI : ImplGk) (g : Gr) (nv rv : Value) (w : World) (hG : GrAt w nv rv g) (hw : g.Wide) (hf : g.Wf) :
    Calls Try.prog 3 #[.agg #[nv, rv]] w fun e w' => e = .returned (.bool true) ∧ Below w.heap.size w w' := by
  obtain ⟨na, nc, rfl⟩ := hG.1.sl
  obtain ⟨ra, rc, rfl⟩ := hG.2.sl
  obtain ⟨V, hV⟩ : ∃ V, w.alloc (.cells #[.slice na g.nodes.length nc, .slice ra g.roots.length rc] 25) = V := ⟨_, rfl⟩
  have HB0 : Hid (Below w.heap.size w V) := by show Below _ _ _; rw [← hV]; exact (Below.refl _ w).alloc (Nat.le_refl _) _
  have HS : Hid (V.heap.size = w.heap.size + 1) := by show _ = _; rw [← hV]; show (w.heap.push _).size = _; simp
  have HE : Hid (V.heap[w.heap.size]? = some (.cells #[.slice na g.nodes.length nc, .slice ra g.roots.length rc] 25 (0, 0))) := by show _ = _; rw [← hV]; exact heap_alloc_new w _
  have HQ : Hid (∀ wr, Below V.heap.size V wr → wr.cell? ⟨w.heap.size, 0, none⟩ = some (.slice na g.nodes.length nc) ∧ wr.cell? ⟨w.heap.size, 1, none⟩ = some (.slice ra g.roots.length rc)) := fun wr hb => by
    have := (hb.block w.heap.size (by rw [HS.out]; exact Nat.lt_succ_self _)).trans HE.out
    simp [World.cell?, this]
  have HG : Hid (GrAt V (.slice na g.nodes.length nc) (.slice ra g.roots.length rc) g) := hG.later HB0.out
  have cZ := szG_any g _ _ V HG.out hw
  have HF : Hid g.Wf := hf
  have HII : Hid ImplGk := HI
  obtain ⟨q0, q1⟩ := HQ.out V (Below.refl _ _)
  have HV : Hid (w.alloc (.cells #[.slice na g.nodes.length nc, .slice ra g.roots.length rc] 25) = V) := hV
  clear hV hG hw hf HI
  go_enter Try.func3, Try.ntmps3
  go_wp2_with fail
  rw [HV.out]
  refine cZ.mono ?_
  rintro e w1 ⟨⟨z, rfl, hz⟩, hb1⟩
  clear cZ q0 q1
  rcases hz with rfl | ⟨hz, hz0⟩
  · go_wp2_with fail
    go_ret
    exact ⟨rfl, HB0.out.trans (hb1.mono HB0.out.size)⟩
  have HT : Hid (g.tot ≤ 1048576) := by show _ ≤ _; omega
  have hz1 : ¬ z < 0 := by omega
  have HB1 : Hid (Below V.heap.size V w1) := hb1
  obtain ⟨q0, q1⟩ := HQ.out w1 hb1
  clear hz hb1
  go_wp2_with fail
  refine (toG_own g _ _ w1 (HG.out.later HB1.out) HT.out).mono ?_
  rintro e w2 ⟨⟨n2, r2, vs2, rfl, ⟨_, _, _, rfl⟩, ⟨_, _, _, rfl⟩, hO2⟩, hb2⟩
  have HB2 : Hid (Below V.heap.size V w2) := HB1.out.trans (hb2.mono HB1.out.size)
  have cS := spec_graphOk g _ _ w2 hO2.at HT.out
  clear hb2 hO2 q0 q1 HB1
  go_wp2_with fail
  refine cS.mono ?_
  rintro e w3 ⟨rfl, hb3⟩
  have HB3 : Hid (Below V.heap.size V w3) := HB2.out.trans (hb3.mono HB2.out.size)
  obtain ⟨q0, q1⟩ := HQ.out w3 HB3.out
  obtain ⟨bb, hbb⟩ : ∃ bb, graphOkP g = bb := ⟨_, rfl⟩
  have HBB : Hid (graphOkP g = bb) := hbb
  rw [hbb]
  clear hb3 cS HB2 hbb
  go_wp2_with fail
  refine (toG_own g _ _ w3 (HG.out.later HB3.out) HT.out).mono ?_
  rintro e w4 ⟨⟨n4, r4, vs4, rfl, ⟨a4, l4, k4, rfl⟩, ⟨b4, m4, j4, rfl⟩, hO4⟩, hb4⟩
  have HB4 : Hid (Below V.heap.size V w4) := HB3.out.trans (hb4.mono HB3.out.size)
  obtain ⟨X, hX⟩ : ∃ X, w4.alloc (.cells #[.slice a4 l4 k4, .slice b4 m4 j4] 30) = X := ⟨_, rfl⟩
  have HX : Hid (w4.alloc (.cells #[.slice a4 l4 k4, .slice b4 m4 j4] 30) = X) := hX
  have HXE : Hid (X.heap[w4.heap.size]? = some (.cells #[.slice a4 l4 k4, .slice b4 m4 j4] 30 (0, 0))) := by show _ = _; rw [← hX]; exact heap_alloc_new w4 _
  have HXS : Hid (X.heap.size = w4.heap.size + 1) := by show _ = _; rw [← hX]; show (w4.heap.push _).size = _; simp
  have HXB : Hid (Below w4.heap.size w4 X) := by show Below _ _ _; rw [← hX]; exact (Below.refl _ w4).alloc (Nat.le_refl _) _
  have HB5 : Hid (Below V.heap.size V X) := HB4.out.trans (HXB.out.mono HB4.out.size)
  have HO : Hid (GrAt X (.slice a4 l4 k4) (.slice b4 m4 j4) g) := hO4.at.later HXB.out
  have HXQ : Hid (∀ wr, Below X.heap.size X wr → wr.cell? ⟨w4.heap.size, 0, none⟩ = some (.slice a4 l4 k4) ∧ wr.cell? ⟨w4.heap.size, 1, none⟩ = some (.slice b4 m4 j4)) := fun wr hb => by
    have := (hb.block w4.heap.size (by rw [HXS.out]; exact Nat.lt_succ_self _)).trans HXE.out
    simp [World.cell?, this]
  have cI := HII.out g _ _ X HO.out HT.out HF.out
  rw [HBB.out] at cI
  clear hb4 hO4 hX q0 q1 HB3
  go_wp2_with fail
  rw [HX.out]
  refine cI.mono ?_
  rintro e w5 ⟨rfl, hb5⟩
  have HB6 : Hid (Below V.heap.size V w5) := HB5.out.trans (hb5.mono HB5.out.size)
  have HB7 : Hid (Below X.heap.size X w5) := hb5
  obtain ⟨q0, q1⟩ := HQ.out w5 HB6.out
  obtain ⟨p0, p1⟩ := HXQ.out w5 hb5
  have hot : (bb != bb) = false := by simp
  clear cI hb5
  cases bb
  all_goals
    go_wp2_with fail
    go_region_with ((first
      | (go_at_call 9
         refine (toG_own g _ _ _ (HG.out.later HB6.out.drew) HT.out).mono ?_
         rintro e w6 ⟨⟨n6, r6, vs6, rfl, ⟨_, _, _, rfl⟩, ⟨_, _, _, rfl⟩, hO6⟩, hb6⟩
         have HB8 : Hid (Below X.heap.size X w6) := HB7.out.trans ((((Below.refl _ w5).drew).trans hb6).mono HB7.out.size)
         have HO6 : Hid (GrAt w6 _ _ g) := hO6.at
         obtain ⟨s0, s1⟩ := HXQ.out w6 HB8.out
         clear hO6 hb6)
      | (go_at_call 11
         refine (eqG_same g _ _ _ _ _ (HO.out.later HB8.out) HO6.out HT.out).mono ?_
         rintro e w7 ⟨rfl, hb7⟩
         have HB9 : Hid (Below X.heap.size X w7) := HB8.out.trans (hb7.mono HB8.out.size)
         clear hb7)))
    all_goals
      go_wp2_with fail
      go_ret
      exact ⟨rfl, HB0.out.trans ((HB5.out.trans (HB9.out.mono HB5.out.size)).mono HB0.out.size)⟩
end Go.Proofs.Ytgaibajkegfpoaa
