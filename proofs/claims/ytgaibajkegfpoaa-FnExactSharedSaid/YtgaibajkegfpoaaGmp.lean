/- Marks on a graph: the laws' markGraph. -/
import Derived.Test.YtgaibajkegfpoaaGmo
namespace Go.Proofs.Ytgaibajkegfpoaa
open Go.ChangeShapes Go.WideShapes Go.ChangeAt Go.RowKit Go.Deep
def markGr (k : Nat) (g : Gr) : Gr := ⟨markNs k g.nodes, mkN (k + cntNs g.nodes) g.roots.length⟩
def cntGr (g : Gr) : Nat := cntNs g.nodes + g.roots.length
/-- What stays as it was while a graph is written. -/
structure FrG (w0 : World) (lo : Nat) (nv rv : Value) (vs : List Value) (w : World) : Prop where
  below : Below lo w0 w
  blk : ∀ b, b < w0.heap.size → nv.ownBlock ≠ some b → (∀ (i : Nat) (v : Value), vs[i]? = some v → v.ownBlock ≠ some b) → rv.ownBlock ≠ some b → w.heap[b]? = w0.heap[b]?
theorem own_isSl {w : World} {lo t sz n : Nat} {v : Value} {xs : List Value} (h : w.ownsRow lo t sz v n xs) : isSlG v := by
  rcases h.2 with ⟨e, _⟩ | ⟨g, cap, cur, e, _⟩
  · exact ⟨_, _, _, e⟩
  · exact ⟨_, _, _, e⟩
set_option maxHeartbeats 4000000 in
theorem markG_any (w : World) (lo : Nat) (nv rv : Value) (g : Gr) (vs : List Value) (k : Nat) (hO : GOwn lo w nv rv g vs) (hlo : lo ≤ w.heap.size) (ht : g.tot ≤ 1048576) (k0 : 0 < k) (k1 : k ≤ 1000) :
    Calls Try.prog 18 #[.agg #[nv, rv], .int .i64 (k : Int)] w fun e w' => e = .returned (.int .i64 ((k + cntGr g : Nat) : Int)) ∧ GOwn lo w' nv rv (markGr k g) vs ∧ FrG w lo nv rv vs w' := by
  have htt : g.nodes.length + totN g.nodes + g.roots.length ≤ 1048576 := ht
  obtain ⟨na, nn, nc, rfl⟩ := own_isSl hO.nodes
  obtain ⟨ra, rn, rc, rfl⟩ := own_isSl hO.roots
  have HO : Hid (GOwn lo w (.slice na nn nc) (.slice ra rn rc) g vs) := hO
  have HLO : Hid (lo ≤ w.heap.size) := hlo
  obtain ⟨V, hV⟩ : ∃ V, w.alloc (.cells #[.slice na nn nc, .slice ra rn rc] 30) = V := ⟨_, rfl⟩
  have HV : Hid (w.alloc (.cells #[.slice na nn nc, .slice ra rn rc] 30) = V) := hV
  have HB0 : Hid (Below w.heap.size w V) := by show Below _ _ _; rw [← hV]; exact (Below.refl _ w).alloc (Nat.le_refl _) _
  have HS : Hid (V.heap.size = w.heap.size + 1) := by show _ = _; rw [← hV]; show (w.heap.push _).size = _; simp
  have HE : Hid (V.heap[w.heap.size]? = some (.cells #[.slice na nn nc, .slice ra rn rc] 30 (0, 0))) := by show _ = _; rw [← hV]; exact heap_alloc_new w _
  have HOV : Hid (GOwn lo V (.slice na nn nc) (.slice ra rn rc) g vs) := hO.later HB0.out
  have q0 := n2_0 HE.out
  have hct := cntNs_tot g.nodes
  have HCN : Hid (cntNs g.nodes ≤ 4000000) := by show _ ≤ _; omega
  have HTT : Hid (g.nodes.length + totN g.nodes + g.roots.length ≤ 1048576) := htt
  have cN := markNs_any V lo _ g.nodes vs k HOV.out.nodes HOV.out.kids (Nat.le_trans hlo (by rw [HS.out]; exact Nat.le_succ _)) (by omega) k0 k1
  have hk1 : (k : Int) ≤ 1000 := by omega
  have HK1 : Hid (k ≤ 1000) := k1
  rw [← hV] at q0
  clear hO hV ht htt hct hlo
  go_enter Try.func18, Try.ntmps18
  go_wp2_with fail
  rw [HV.out]
  refine cN.mono ?_
  rintro e w1 ⟨rfl, hR, hK, hF⟩
  have HR : Hid (w1.ownsRow lo 50 4 (.slice na nn nc) g.nodes.length (cellsN (markNs k g.nodes) vs)) := hR
  have HK : Hid (KidsOwn lo w1 vs (markNs k g.nodes)) := hK
  have HF : Hid (FrN V lo (.slice na nn nc) vs w1) := hF
  have hbox : w1.heap[w.heap.size]? = some (.cells #[.slice na nn nc, .slice ra rn rc] 30 (0, 0)) := (hF.blk w.heap.size (by rw [HS.out]; exact Nat.lt_succ_self _) (fun e => absurd (HO.out.nodes.lt _ e).2 (Nat.lt_irrefl _)) (fun i v hv e => absurd (HO.out.kids.lt hv e).2 (Nat.lt_irrefl _))).trans HE.out
  have q1 := n2_1 hbox
  have HRR : Hid (w1.ownsRow lo 3 1 (.slice ra rn rc) g.roots.length (ilV g.roots)) := g_row_block HOV.out.roots (fun x hx => hF.blk x (HOV.out.roots.lt x hx).2 (fun e => by
      obtain ⟨c1, f1, e1⟩ := own_type HOV.out.nodes e
      obtain ⟨c2, f2, e2⟩ := own_type HOV.out.roots hx
      rw [e1] at e2
      injection e2 with e2
      injection e2 with _ e3 _
      exact absurd e3 (by decide)) (fun i v hv e => HOV.out.apart i v x hv e hx))
  obtain ⟨m, hm⟩ : ∃ m, k + cntNs g.nodes = m := ⟨_, rfl⟩
  have HM : Hid (k + cntNs g.nodes = m) := hm
  have hmb : m ≤ 5000000 := by have h1 := HCN.out; have h2 := HK1.out; omega
  rw [hm]
  have cM := markX_any w1 lo _ g.roots.length _ m HRR.out (by have := HTT.out; omega) (by omega)
  clear cN hR hK hF hbox q0 hm
  go_wp2_with fail
  refine cM.mono ?_
  rintro e w2 ⟨rfl, hrow, hgr⟩
  have hne : ∀ x, (Value.slice ra rn rc).ownBlock = some x → (Value.slice na nn nc).ownBlock ≠ some x := fun x hx e => by
    obtain ⟨c1, f1, e1⟩ := own_type HR.out e
    obtain ⟨c2, f2, e2⟩ := own_type HRR.out hx
    rw [e1] at e2
    injection e2 with e2
    injection e2 with _ e3 _
    exact absurd e3 (by decide)
  have HG : Hid (GOwn lo w2 (.slice na nn nc) (.slice ra rn rc) (markGr k g) vs) := by
    refine ⟨?_, ?_, ?_, HO.out.apart⟩
    · show w2.ownsRow lo 50 4 _ (markNs k g.nodes).length (cellsN (markNs k g.nodes) vs)
      rw [markNs_len]
      exact g_row_block HR.out (fun x hx => hgr.block x (HR.out.lt x hx).2 (fun e => hne x e.symm hx))
    · exact HK.out.block (fun i v x hv hx => hgr.block x (HK.out.lt hv hx).2 (fun e => HO.out.apart i v x hv hx e.symm))
    · show w2.ownsRow lo 3 1 _ (mkN (k + cntNs g.nodes) g.roots.length).length (ilV (mkN (k + cntNs g.nodes) g.roots.length))
      rw [mkN_len, HM.out]
      exact hrow
  have HFG : Hid (FrG w lo (.slice na nn nc) (.slice ra rn rc) vs w2) := by
    have hb01 : Below lo w w1 := (HB0.out.mono HLO.out).trans HF.out.below
    refine ⟨hb01.trans ⟨hgr.os, hgr.tape, hgr.output, hgr.size, fun i hi => hgr.block i (Nat.lt_of_lt_of_le hi (Nat.le_trans HLO.out hb01.size)) (fun e => ?_)⟩, fun b h1 h2 h3 h4 => ?_⟩
    · have := (HRR.out.lt i e.symm).1
      omega
    · exact (hgr.block b (Nat.lt_of_lt_of_le h1 hb01.size) (fun e => h4 e.symm)).trans ((HF.out.blk b (Nat.lt_of_lt_of_le h1 HB0.out.size) h2 h3).trans (HB0.out.block b h1))
  have HCG : Hid (m + g.roots.length = k + cntGr g) := by show _ = _; unfold cntGr; rw [← HM.out]; omega
  clear hne hrow hgr cM q1
  go_wp2_with fail
  go_ret
  exact ⟨congrArg (fun z => Ending.returned (.int .i64 z)) (show (m : Int) + (g.roots.length : Int) = ((k + cntGr g : Nat) : Int) by have := HCG.out; omega), HG.out, HFG.out⟩
end Go.Proofs.Ytgaibajkegfpoaa
