/- The law on Decompose, walked. -/
import Derived.Test.YtgaibajkegfpoaaDoorGtz
import Derived.Test.YtgaibajkegfpoaaDoorZqo
import Derived.Test.YtgaibajkegfpoaaDoorTme
import Derived.Test.YtgaibajkegfpoaaDoorZqn
import Derived.Test.YtgaibajkegfpoaaDoorGsz
import Derived.Test.YtgaibajkegfpoaaDoorGop
namespace Go.Proofs.YtgaibajkegfpoaaDoor
open Go.ChangeShapes Go.WideShapes Go.ChangeAt Go.RowKit Go.Deep
theorem slE_rowG {w : World} {lo : Nat} {v : Value} {es : List Ev} (h : w.ownsRow lo 44 8 v es.length (rowsE es)) : SlE w v es := by
  by_cases hz : es = []
  · subst hz
    left
    rcases h.2 with ⟨e, _⟩ | ⟨g, cap, cur, e, _⟩
    · exact ⟨rfl, _, _, e⟩
    · exact ⟨rfl, _, _, e⟩
  · right
    have hpos : 0 < es.length := List.length_pos_iff.2 hz
    rcases h.2 with ⟨_, e⟩ | ⟨g, cap, cur, rfl, hb, hg, hn, hm, hs, ht⟩
    · omega
    · refine ⟨hz, g, 0, cap, rfl, (Array.getElem?_eq_some_iff.1 hg).1, hn, fun i e hi j u hu => ?_⟩
      have hx := rowsE_at es i e hi j u hu
      have h1 := h.cells (g := g) rfl (i * 8 + j) _ hx
      have hadd : (⟨g, 0, none⟩ : Addr).add (i * 8 + j) = ⟨g, 0 + i * 8 + j, none⟩ := by unfold Addr.add; split <;> simp_all
      rw [hadd] at h1
      exact h1
theorem SlE.farG {w w' : World} {v v' : Value} {lo : Nat} {es : List Ev} (h : w.ownsRow lo 44 8 v es.length (rowsE es)) {B : Nat} (hB : ∀ b, v.ownBlock = some b → b < B) (hg : w.grownBy w' v'.ownBlock) (hf : ∀ b, v'.ownBlock = some b → B ≤ b) : w'.ownsRow lo 44 8 v es.length (rowsE es) := by
  refine ⟨h.1, ?_⟩
  rcases h.2 with hn | ⟨g, cap, cur, rfl, hlo, hgg, rest⟩
  · exact .inl hn
  · refine .inr ⟨g, cap, cur, rfl, hlo, ?_, rest⟩
    rw [hg.block g (Array.getElem?_eq_some_iff.1 hgg).1 (fun e => by have h1 := hB g rfl; have h2 := hf g e.symm; omega)]
    exact hgg
set_option maxHeartbeats 8000000 in
theorem law_decompose (HI : ImplDec) (g : Gr) (nv rv : Value) (w : World) (hG : GrAt w nv rv g) (hw : g.Wide) (hf : g.Wf) (hTV : TabV w) :
    Calls Tryd.prog 3 #[.agg #[nv, rv]] w fun e w' => e = .returned (.bool true) ∧ Below w.heap.size w w' := by
  obtain ⟨na, nc, rfl⟩ := hG.1.sl
  obtain ⟨ra, rc, rfl⟩ := hG.2.sl
  obtain ⟨V, hV⟩ : ∃ V, w.alloc (.cells #[.slice na g.nodes.length nc, .slice ra g.roots.length rc] 25) = V := ⟨_, rfl⟩
  have HB0 : Hid (Below w.heap.size w V) := by show Below _ _ _; rw [← hV]; exact (Below.refl _ w).alloc (Nat.le_refl _) _
  have HS : Hid (V.heap.size = w.heap.size + 1) := by show _ = _; rw [← hV]; show (w.heap.push _).size = _; simp
  have HE : Hid (V.heap[w.heap.size]? = some (.cells #[.slice na g.nodes.length nc, .slice ra g.roots.length rc] 25 (0, 0))) := by show _ = _; rw [← hV]; exact heap_alloc_new w _
  have HQ : Hid (∀ wr, Below V.heap.size V wr → wr.cell? ⟨w.heap.size, 0, none⟩ = some (.slice na g.nodes.length nc) ∧ wr.cell? ⟨w.heap.size, 1, none⟩ = some (.slice ra g.roots.length rc)) := fun wr hb => by
    have := (hb.block w.heap.size (by rw [HS.out]; exact Nat.lt_succ_self _)).trans HE.out
    simp [World.cell?, this]
  have HG : Hid (GrAt V (.slice na g.nodes.length nc) (.slice ra g.roots.length rc) g) := hG.later HB0.out
  have cZ := szG_any g _ _ V HG.out hw
  have HF : Hid g.Wf := hf
  have HII : Hid ImplDec := HI
  have HTV : Hid (∀ x, Below V.heap.size V x → TabV x) := fun x hb => hTV.lasts (HB0.out.trans (hb.mono HB0.out.size))
  obtain ⟨q0, q1⟩ := HQ.out V (Below.refl _ _)
  have HV : Hid (w.alloc (.cells #[.slice na g.nodes.length nc, .slice ra g.roots.length rc] 25) = V) := hV
  clear hV hG hw hf HI hTV
  go_enter Tryd.func3, Tryd.ntmps3
  go_wp2_with fail
  rw [HV.out]
  refine cZ.mono ?_
  rintro e w1 ⟨⟨z, rfl, hz⟩, hb1⟩
  clear cZ q0 q1
  rcases hz with rfl | ⟨hz, hz0⟩
  · go_wp2_with fail
    go_ret
    exact ⟨rfl, HB0.out.trans (hb1.mono HB0.out.size)⟩
  have HT : Hid (g.tot ≤ 1048576) := by show _ ≤ _; omega
  have htt : g.nodes.length + totN g.nodes + g.roots.length ≤ 1048576 := HT.out
  obtain ⟨L, hL⟩ : ∃ L, decP g = L := ⟨_, rfl⟩
  have HL : Hid (decP g = L) := hL
  have hLL : L.length ≤ 5000000 := by have := decP_len HT.out; rw [hL] at this; exact this
  have HLL : Hid (L.length ≤ 5000000) := hLL
  clear hL hLL htt
  have hz1 : ¬ z < 0 := by omega
  have HB1 : Hid (Below V.heap.size V w1) := hb1
  obtain ⟨q0, q1⟩ := HQ.out w1 hb1
  clear hz hb1
  go_wp2_with fail
  refine (toG_own g _ _ w1 (HG.out.later HB1.out) HT.out).mono ?_
  rintro e w2 ⟨⟨n2, r2, vs2, rfl, ⟨_, _, _, rfl⟩, ⟨_, _, _, rfl⟩, hO2⟩, hb2⟩
  have HB2 : Hid (Below V.heap.size V w2) := HB1.out.trans (hb2.mono HB1.out.size)
  have cS := spec_decompose g _ _ w2 hO2.at HT.out
  rw [HL.out] at cS
  clear hb2 hO2 q0 q1 HB1
  go_wp2_with fail
  refine cS.mono ?_
  rintro e w3 ⟨⟨v3, rfl, ⟨a3, l3, c3, rfl⟩, hr3⟩, hb3⟩
  have HB3 : Hid (Below V.heap.size V w3) := HB2.out.trans (hb3.mono HB2.out.size)
  obtain ⟨q0, q1⟩ := HQ.out w3 HB3.out
  have HLT3 : Hid (∀ x, (Value.slice a3 l3 c3).ownBlock = some x → x < w3.heap.size) := fun x hx => (hr3.lt x hx).2
  have HR3 : Hid (w3.ownsRow w2.heap.size 44 8 (.slice a3 l3 c3) L.length (rowsE L)) := hr3
  clear hb3 cS HB2 hr3
  go_wp2_with fail
  refine (toG_own g _ _ w3 (HG.out.later HB3.out) HT.out).mono ?_
  rintro e w4 ⟨⟨n4, r4, vs4, rfl, ⟨a4, l4, k4, rfl⟩, ⟨b4, m4, j4, rfl⟩, hO4⟩, hb4⟩
  have HB4 : Hid (Below V.heap.size V w4) := HB3.out.trans (hb4.mono HB3.out.size)
  have HR4 : Hid (w4.ownsRow w2.heap.size 44 8 (.slice a3 l3 c3) L.length (rowsE L)) := g_row_below HR3.out hb4
  have HO4 : Hid (GOwn w3.heap.size w4 (.slice a4 l4 k4) (.slice b4 m4 j4) g vs4) := hO4
  have HS34 : Hid (w3.heap.size ≤ w4.heap.size) := hb4.size
  obtain ⟨X, hX⟩ : ∃ X, w4.alloc (.cells #[.slice a4 l4 k4, .slice b4 m4 j4] 31) = X := ⟨_, rfl⟩
  have HX : Hid (w4.alloc (.cells #[.slice a4 l4 k4, .slice b4 m4 j4] 31) = X) := hX
  have HXE : Hid (X.heap[w4.heap.size]? = some (.cells #[.slice a4 l4 k4, .slice b4 m4 j4] 31 (0, 0))) := by show _ = _; rw [← hX]; exact heap_alloc_new w4 _
  have HXS : Hid (X.heap.size = w4.heap.size + 1) := by show _ = _; rw [← hX]; show (w4.heap.push _).size = _; simp
  have HXB : Hid (Below w4.heap.size w4 X) := by show Below _ _ _; rw [← hX]; exact (Below.refl _ w4).alloc (Nat.le_refl _) _
  have HB5 : Hid (Below V.heap.size V X) := HB4.out.trans (HXB.out.mono HB4.out.size)
  have HO : Hid (GOwn w3.heap.size X (.slice a4 l4 k4) (.slice b4 m4 j4) g vs4) := hO4.later HXB.out
  have HRX : Hid (X.ownsRow w2.heap.size 44 8 (.slice a3 l3 c3) L.length (rowsE L)) := g_row_below HR4.out HXB.out
  have HXQ : Hid (∀ wr, Below X.heap.size X wr → wr.cell? ⟨w4.heap.size, 0, none⟩ = some (.slice a4 l4 k4) ∧ wr.cell? ⟨w4.heap.size, 1, none⟩ = some (.slice b4 m4 j4)) := fun wr hb => by
    have := (hb.block w4.heap.size (by rw [HXS.out]; exact Nat.lt_succ_self _)).trans HXE.out
    simp [World.cell?, this]
  have cI := HII.out g _ _ X HO.out.at HT.out HF.out (HTV.out X HB5.out)
  rw [HL.out] at cI
  clear hb4 hO4 hX q0 q1 HR3 HR4
  go_wp2_with fail
  rw [HX.out]
  refine cI.mono ?_
  rintro e w5 ⟨⟨v5, rfl, ⟨a5, l5, c5, rfl⟩, hr5⟩, hb5⟩
  have HGE5 : Hid (∀ x, (Value.slice a5 l5 c5).ownBlock = some x → X.heap.size ≤ x) := fun x hx => (hr5.lt x hx).1
  have HR5 : Hid (w5.ownsRow X.heap.size 44 8 (.slice a5 l5 c5) L.length (rowsE L)) := hr5
  have HRW5 : Hid (w5.ownsRow w2.heap.size 44 8 (.slice a3 l3 c3) L.length (rowsE L)) := g_row_below HRX.out hb5
  have HB7 : Hid (Below X.heap.size X w5) := hb5
  clear cI hb5 hr5
  go_wp2_with fail
  refine (eqEs_ w5 _ _ L (slE_rowG HR5.out) (slE_rowG HRW5.out) (Nat.le_trans HLL.out (by decide))).mono ?_
  rintro e w6 ⟨rfl, hb6⟩
  have HB8 : Hid (Below X.heap.size X w6) := HB7.out.trans (hb6.mono HB7.out.size)
  have HR6 : Hid (w6.ownsRow X.heap.size 44 8 (.slice a5 l5 c5) L.length (rowsE L)) := g_row_below HR5.out hb6
  have HRW6 : Hid (w6.ownsRow w2.heap.size 44 8 (.slice a3 l3 c3) L.length (rowsE L)) := g_row_below HRW5.out hb6
  have HB9 : Hid (Below V.heap.size V w6) := HB5.out.trans (HB8.out.mono HB5.out.size)
  obtain ⟨q0, q1⟩ := HQ.out w6 HB9.out
  obtain ⟨p0, p1⟩ := HXQ.out w6 HB8.out
  clear hb6 HR5 HRW5 HB7
  go_wp2_with fail
  go_region_with ((first
    | (go_at_call 6
       refine (toG_own g _ _ _ (HG.out.later HB9.out.drew) HT.out).mono ?_
       rintro e w7 ⟨⟨n7, r7, vs7, rfl, ⟨_, _, _, rfl⟩, ⟨_, _, _, rfl⟩, hO7⟩, hb7⟩
       have HD7 : Hid (Below w6.heap.size w6 w7) := ((Below.refl _ w6).drew).trans hb7
       have HO7 : Hid (GrAt w7 _ _ g) := hO7.at
       obtain ⟨s0, s1⟩ := HXQ.out w7 (HB8.out.trans (HD7.out.mono HB8.out.size))
       clear hO7 hb7)
    | (go_at_call 9
       refine (eqG_same g _ _ _ _ _ (HO.out.at.later (HB8.out.trans (HD7.out.mono HB8.out.size))) HO7.out HT.out).mono ?_
       rintro e w8 ⟨rfl, hb8⟩
       have HD8 : Hid (Below w6.heap.size w6 w8) := HD7.out.trans (hb8.mono HD7.out.size)
       clear hb8)))
  all_goals
    (have HB10 : Hid (Below X.heap.size X w8) := HB8.out.trans (HD8.out.mono HB8.out.size)
     have HR8 : Hid (w8.ownsRow X.heap.size 44 8 (.slice a5 l5 c5) L.length (rowsE L)) := g_row_below HR6.out HD8.out
     have HRW8 : Hid (w8.ownsRow w2.heap.size 44 8 (.slice a3 l3 c3) L.length (rowsE L)) := g_row_below HRW6.out HD8.out
     have HO8 : Hid (GOwn w3.heap.size w8 (.slice a4 l4 k4) (.slice b4 m4 j4) g vs4) := HO.out.later HB10.out
     have HXW : Hid (w3.heap.size ≤ X.heap.size) := by show _ ≤ _; have h1 := HS34.out; have h2 := HXS.out; omega
     have HVW : Hid (V.heap.size ≤ w3.heap.size) := HB3.out.size
     obtain ⟨y0, y1⟩ := HXQ.out w8 HB10.out
     have cM := markG_any w8 w3.heap.size _ _ g vs4 1 HO8.out (Nat.le_trans HXW.out HB10.out.size) HT.out (by decide) (by decide)
     clear HO7 HD7 HD8 HR6 HRW6 HB8 HB9 HB4 HRX HXB HB3 p0 p1 q0 q1 s0 s1
     go_wp2_with fail
     refine cM.mono ?_
     rintro e w9 ⟨rfl, _, hfr⟩
     have HR9 : Hid (w9.ownsRow X.heap.size 44 8 (.slice a5 l5 c5) L.length (rowsE L)) := g_row_block HR8.out (fun x hx => hfr.blk x (HR8.out.lt x hx).2
       (fun e => by have h1 := (HO4.out.nodes.lt x e).2; have h2 := HGE5.out x hx; have h3 := HXS.out; omega)
       (fun i v hv e => by have h1 := (HO4.out.kids.lt hv e).2; have h2 := HGE5.out x hx; have h3 := HXS.out; omega)
       (fun e => by have h1 := (HO4.out.roots.lt x e).2; have h2 := HGE5.out x hx; have h3 := HXS.out; omega))
     have HRW9 : Hid (w9.ownsRow w2.heap.size 44 8 (.slice a3 l3 c3) L.length (rowsE L)) := g_row_block HRW8.out (fun x hx => hfr.below.block x (HLT3.out x hx))
     have HB11 : Hid (Below V.heap.size V w9) := (HB5.out.trans (HB10.out.mono HB5.out.size)).trans (hfr.below.mono HVW.out)
     obtain ⟨kk, hkk⟩ : ∃ kk, 1 + cntGr g = kk := ⟨_, rfl⟩
     have hk5 : kk ≤ 5000000 := by
       have h1 := cntNs_tot g.nodes
       have h2 : g.nodes.length + totN g.nodes + g.roots.length ≤ 1048576 := HT.out
       unfold cntGr at hkk
       omega
     rw [hkk]
     have hk6 : (kk : Int) ≤ 5000000 := by omega
     have hk7 : ¬ (kk : Int) < 0 := by omega
     clear hfr cM hkk hk5 HR8 HRW8 HB10 y0 y1 HO8
     go_wp2_with fail
     refine (eqEs_ w9 _ _ L (slE_rowG HR9.out) (slE_rowG HRW9.out) (Nat.le_trans HLL.out (by decide))).mono ?_
     rintro e w10 ⟨rfl, hb10⟩
     have HR10 : Hid (w10.ownsRow X.heap.size 44 8 (.slice a5 l5 c5) L.length (rowsE L)) := g_row_below HR9.out hb10
     have HRW10 : Hid (w10.ownsRow w2.heap.size 44 8 (.slice a3 l3 c3) L.length (rowsE L)) := g_row_below HRW9.out hb10
     have HB12 : Hid (Below V.heap.size V w10) := HB11.out.trans (hb10.mono HB11.out.size)
     have cX : Calls Tryd.prog 11 #[.slice a5 l5 c5, .int .i64 1] w10 fun e w' => e = .returned (.int .i64 ((1 + 8 * L.length : Nat) : Int)) ∧ w'.ownsRow X.heap.size 44 8 (.slice a5 l5 c5) L.length (rowsE (mkEs 1 L.length)) ∧ w10.grownBy w' (Value.slice a5 l5 c5).ownBlock := markEs_any w10 X.heap.size _ L 1 HR10.out HLL.out (by decide) (by decide)
     obtain ⟨mm, hmm⟩ : ∃ mm, 1 + 8 * L.length = mm := ⟨_, rfl⟩
     have HMM : Hid (1 + 8 * L.length = mm) := hmm
     have hm1 : (mm : Int) ≤ 50000000 := by have := HLL.out; omega
     have hm2 : ¬ (mm : Int) < 0 := by omega
     have hm3 : ((mm : Int) != (mm : Int)) = false := by simp
     rw [hmm] at cX
     clear hb10 HR9 HRW9 HB11 hmm
     go_wp2_with fail
     refine cX.mono ?_
     rintro e w11 ⟨rfl, hr11, hg11⟩
     have HR11 : Hid (w11.ownsRow X.heap.size 44 8 (.slice a5 l5 c5) (mkEs 1 L.length).length (rowsE (mkEs 1 L.length))) := by show World.ownsRow _ _ _ _ _ _ _; rw [mkEs_len]; exact hr11
     have HRW11 : Hid (w11.ownsRow w2.heap.size 44 8 (.slice a3 l3 c3) L.length (rowsE L)) := g_row_block HRW10.out (fun x hx => hg11.block x (HRW10.out.lt x hx).2 (fun e => by have h1 := HLT3.out x hx; have h2 := HGE5.out x e.symm; have h3 := HXW.out; omega))
     have HB13 : Hid (Below V.heap.size V w11) := HB12.out.trans ⟨hg11.os, hg11.tape, hg11.output, hg11.size, fun i hi => hg11.block i (Nat.lt_of_lt_of_le hi HB12.out.size) (fun e => by have h2 := HGE5.out i e.symm; have h3 := HXW.out; have h4 := HVW.out; omega)⟩
     have cH : Hid (∀ w', Below w11.heap.size w11 w' → Calls Tryd.prog 12 #[.slice a5 l5 c5, .int .i64 1] w' fun e w'' => e = .returned (.int .i64 (mm : Int)) ∧ Below w'.heap.size w' w'') := fun w' hb => by
       have := heldEs_any w' _ L.length 1 (slE_rowG (g_row_below HR11.out hb)) HLL.out (by decide) (by decide)
       rw [HMM.out] at this
       exact this
     clear hr11 hg11 HR10 HRW10 HB12 cX
     go_wp2_with fail
     refine (cH.out w11 (Below.refl _ _)).mono ?_
     rintro e w12 ⟨rfl, hb12⟩
     have HD12 : Hid (Below w11.heap.size w11 w12) := hb12
     have HB14 : Hid (Below V.heap.size V w12) := HB13.out.trans (hb12.mono HB13.out.size)
     obtain ⟨q0, q1⟩ := HQ.out w12 HB14.out
     clear hb12
     go_wp2_with fail
     refine (toG_own g _ _ w12 (HG.out.later HB14.out) HT.out).mono ?_
     rintro e w13 ⟨⟨n13, r13, vs13, rfl, ⟨_, _, _, rfl⟩, ⟨_, _, _, rfl⟩, hO13⟩, hb13⟩
     have HD13 : Hid (Below w11.heap.size w11 w13) := HD12.out.trans (hb13.mono HD12.out.size)
     have cI2 := HII.out g _ _ w13 hO13.at HT.out HF.out (HTV.out w13 (HB13.out.trans (HD13.out.mono HB13.out.size)))
     rw [HL.out] at cI2
     clear hb13 hO13 q0 q1 HD12 HB14
     go_wp2_with fail
     refine cI2.mono ?_
     rintro e w14 ⟨⟨v14, rfl, ⟨_, _, _, rfl⟩, hr14⟩, hb14⟩
     have HD14 : Hid (Below w11.heap.size w11 w14) := HD13.out.trans (hb14.mono HD13.out.size)
     have cE := eqEs_ w14 _ _ L (slE_rowG hr14) (slE_rowG (g_row_below HRW11.out HD14.out)) (Nat.le_trans HLL.out (by decide))
     clear hb14 hr14 HD13 cI2
     go_wp2_with fail
     refine cE.mono ?_
     rintro e w15 ⟨rfl, hb15⟩
     have HD15 : Hid (Below w11.heap.size w11 w15) := HD14.out.trans (hb15.mono HD14.out.size)
     clear hb15 cE HD14
     go_wp2_with fail
     refine (cH.out w15 HD15.out).mono ?_
     rintro e w16 ⟨rfl, hb16⟩
     have HBE : Hid (Below w.heap.size w w16) := HB0.out.trans ((HB13.out.trans ((HD15.out.trans (hb16.mono HD15.out.size)).mono HB13.out.size)).mono HB0.out.size)
     clear hb16
     go_wp2_with fail
     go_ret
     exact ⟨rfl, HBE.out⟩)
end Go.Proofs.YtgaibajkegfpoaaDoor
