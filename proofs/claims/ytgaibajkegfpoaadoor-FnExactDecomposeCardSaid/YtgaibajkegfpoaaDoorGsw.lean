/- spec.Shared answers as the plain function. -/
import Derived.Test.YtgaibajkegfpoaaDoorZqc
namespace Go.Proofs.YtgaibajkegfpoaaDoor
open Go.ChangeShapes Go.WideShapes Go.ChangeAt Go.RowKit Go.Deep
set_option maxHeartbeats 8000000 in
set_option maxRecDepth 100000 in
theorem spec_shared (g : Gr) (nv rv : Value) (w : World) (hG : GrAt w nv rv g) (ht : g.tot ≤ 1048576) :
    Calls Tryd.prog 16 #[.agg #[nv, rv]] w fun e w' => (∃ v, e = .returned v ∧ isSlG v ∧ w'.ownsRow w.heap.size 3 1 v (sharedG g).length (ilV (sharedG g))) ∧ Below w.heap.size w w' := by
  have htt : g.nodes.length + totN g.nodes + g.roots.length ≤ 1048576 := ht
  have HTT : Hid (g.nodes.length + totN g.nodes + g.roots.length ≤ 1048576) := htt
  obtain ⟨na, nc, rfl⟩ := hG.1.sl
  obtain ⟨ra, rc, rfl⟩ := hG.2.sl
  have hnl : (g.nodes.length : Int) ≤ 1048576 := by omega
  have hrl : (g.roots.length : Int) ≤ 1048576 := by omega
  obtain ⟨V0, hV0⟩ : ∃ V0, w.alloc (.cells #[.slice na g.nodes.length nc, .slice ra g.roots.length rc] 31) = V0 := ⟨_, rfl⟩
  obtain ⟨V, hV⟩ : ∃ V, V0.alloc (.cells #[] 3) = V := ⟨_, rfl⟩
  have hs0 : V0.heap.size = w.heap.size + 1 := by rw [← hV0]; show (w.heap.push _).size = _; simp
  have HS : Hid (V.heap.size = w.heap.size + 2) := by show _ = _; rw [← hV]; show (V0.heap.push _).size = _; simp [hs0]
  have HB00 : Below w.heap.size w V0 := by rw [← hV0]; exact (Below.refl _ w).alloc (Nat.le_refl _) _
  have HB0 : Hid (Below w.heap.size w V) := by show Below _ _ _; rw [← hV]; exact HB00.alloc HB00.size _
  have HE : Hid (V.heap[w.heap.size]? = some (.cells #[.slice na g.nodes.length nc, .slice ra g.roots.length rc] 31 (0, 0))) := by
    show _ = _
    rw [← hV]
    refine (((Below.refl _ V0).alloc (Nat.le_refl _) (.cells #[] 3)).block w.heap.size (by rw [hs0]; exact Nat.lt_succ_self _)).trans ?_
    rw [← hV0]
    exact heap_alloc_new w _
  have HO0 : Hid (V.ownsRow w.heap.size 3 1 (.slice (some ⟨w.heap.size + 1, 0, none⟩) 0 0) 0 []) := by
    have h := World.ownsRow_made V0 (e := 3) (size := 1) #[] 0 (Nat.le_refl _) (Nat.zero_le _) rfl
    rw [hV, hs0] at h
    exact g_row_lower h (Nat.le_succ _)
  have HQ : Hid (∀ wr, Below V.heap.size V wr → wr.cell? ⟨w.heap.size, 0, none⟩ = some (.slice na g.nodes.length nc) ∧ wr.cell? ⟨w.heap.size, 1, none⟩ = some (.slice ra g.roots.length rc)) := fun wr hb => by
    have := (hb.block w.heap.size (by rw [HS.out]; omega)).trans HE.out
    simp [World.cell?, this]
  have HN : Hid (NlAt V (.slice na g.nodes.length nc) g.nodes) := hG.1.later HB0.out
  have HR : Hid (IlAt V (.slice ra g.roots.length rc) g.roots) := hG.2.later HB0.out
  have cG := spec_graphOk g _ _ V ⟨HN.out, HR.out⟩ ht
  have HV : Hid ((w.alloc (.cells #[.slice na g.nodes.length nc, .slice ra g.roots.length rc] 31)).alloc (.cells #[] 3) = V) := by show _ = _; rw [hV0, hV]
  obtain ⟨bb, hbb⟩ : ∃ bb, graphOkP g = bb := ⟨_, rfl⟩
  have HBB : Hid (graphOkP g = bb) := hbb
  rw [hbb] at cG
  clear hG ht htt hV hV0 hs0 HB00 hbb
  go_enter Tryd.func16, Tryd.ntmps16
  go_wp2_with fail
  rw [HV.out]
  refine cG.mono ?_
  rintro e w1 ⟨rfl, hb1⟩
  have HB1 : Hid (Below V.heap.size V w1) := hb1
  obtain ⟨q0, q1⟩ := HQ.out w1 hb1
  have HO1 : Hid (w1.ownsRow w.heap.size 3 1 (.slice (some ⟨w.heap.size + 1, 0, none⟩) 0 0) 0 []) := g_row_below HO0.out hb1
  clear cG hb1
  cases bb with
  | false =>
    have HSG : Hid (sharedG g = []) := by show _ = _; unfold sharedG; rw [HBB.out]; rfl
    clear q0 q1
    go_wp2_with fail
    go_ret
    refine ⟨⟨_, rfl, ⟨_, _, _, rfl⟩, ?_⟩, HB0.out.trans (HB1.out.mono HB0.out.size)⟩
    rw [HSG.out]
    exact HO1.out
  | true =>
    obtain ⟨hN, hK, hR⟩ := ok_parts HBB.out
    have HM : Hid (g.nodes.length ≤ 3000) := hN
    have HKI : Hid (∀ i, ∀ k ∈ kidsOf g i, 0 ≤ k ∧ k < (g.nodes.length : Int)) := hK
    have HRI : Hid (∀ k ∈ g.roots, 0 ≤ k ∧ k < (g.nodes.length : Int)) := hR
    obtain ⟨ti, hti, hz0, hz1, hz2⟩ := info_parts infoIt
    have hmk : ∀ w : World, (Instr.makeSlice 23 (.int .i64 (g.nodes.length : Int)) (.int .i64 (g.nodes.length : Int))).run Tryd.prog w = .ok (.slice (some ⟨w.heap.size, 0, none⟩) g.nodes.length g.nodes.length) (w.alloc (.cells (madeCells #[.int .i64 0] g.nodes.length) 3)) := by
      intro w
      have := run_make (P := Tryd.prog) w 23 3 ti _ Tryd.underlying23 hti hz0 .i64 .i64 g.nodes.length g.nodes.length (by omega) (Int.le_refl _) (by rw [hz2]; omega) (by omega)
      rw [hz1, Nat.mul_one] at this
      simpa [Value.cells] using this
    obtain ⟨P, rfl⟩ : ∃ P, P = w1 := ⟨_, rfl⟩
    have HC0 : Hid (CAt P P.heap.size g.nodes.length (List.replicate g.nodes.length 0) (P.alloc (.cells (madeCells #[.int .i64 0] g.nodes.length) 3))) := cat_start P _ hN
    have HCN0 : Hid (Cn g.nodes.length 0 (List.replicate g.nodes.length 0)) := Cn.zero _
    obtain ⟨q2, q3⟩ := HQ.out _ (HB1.out.trans (HC0.out.below.mono HB1.out.size))
    clear hN hK hR hti hz0 hz1 hz2
    go_wp2_with fail
    clear hmk q2 q3 q0 q1
    go_loopw [24] (fun iv wr => ∃ k : Nat, iv = .int .i64 k ∧ k ≤ g.roots.length ∧ Hid (CAt P P.heap.size g.nodes.length (cntI (List.replicate g.nodes.length 0) (g.roots.take k)) wr)) (fun iv _ => g.roots.length - (intOf iv).toNat)
    case atStart => exact ⟨0, rfl, Nat.zero_le _, HC0⟩
    case round =>
      obtain ⟨k, rfl, hk, HC⟩ := hrel
      clear HC0
      have HBX : Hid (Below V.heap.size V wr) := HB1.out.trans (HC.out.below.mono HB1.out.size)
      obtain ⟨q0, q1⟩ := HQ.out wr HBX.out
      by_cases hlt : k < g.roots.length
      · have hltI : (k : Int) < (g.roots.length : Int) := by omega
        obtain ⟨x, hx⟩ : ∃ x, g.roots[k]? = some x := ⟨_, List.getElem?_eq_getElem hlt⟩
        obtain ⟨b, o, rfl, hbl, d⟩ := HR.out.at hx
        rw [← HBX.out.cell hbl] at d
        have hx0 := HRI.out x (List.mem_of_getElem? hx)
        obtain ⟨m, rfl⟩ := Int.eq_ofNat_of_zero_le hx0.1
        have hm : m < g.nodes.length := by omega
        have hmI : (m : Int) < (g.nodes.length : Int) := by omega
        have hcn : Cn g.nodes.length k (cntI (List.replicate g.nodes.length 0) (g.roots.take k)) := by
          have := Cn.ints (g.roots.take k) 0 _ HCN0.out
          rw [List.length_take, Nat.min_eq_left hk, Nat.zero_add] at this
          exact this
        have hct := cntI_take (l := List.replicate g.nodes.length 0) hx
        obtain ⟨L, hL⟩ : ∃ L, cntI (List.replicate g.nodes.length 0) (g.roots.take k) = L := ⟨_, rfl⟩
        rw [hL] at HC hcn hct
        obtain ⟨c0, c1⟩ := HC.out.cells hcn.len hm
        obtain ⟨v, hv⟩ : ∃ v, L.getD m 0 = v := ⟨_, rfl⟩
        have hv0 := hcn.getD m
        rw [hv] at c0 hv0
        have hv1 : 0 ≤ v := hv0.1
        have hv2 : v ≤ 1048576 := by have := hv0.2; omega
        have HNX : Hid (CAt P P.heap.size g.nodes.length (cntI (List.replicate g.nodes.length 0) (g.roots.take (k + 1))) (wr.setCell ⟨P.heap.size, m, none⟩ (.int .i64 (v + 1)))) := by
          show CAt _ _ _ _ _
          rw [hct]
          show CAt _ _ _ (L.set m (L.getD m 0 + 1)) _
          rw [hv]
          exact HC.out.set m (v + 1)
        clear hx hbl hx0 hm hcn hct hL hv hv0 HC HBX
        go_wp2_with fail
        go_roundw
        case rel => exact ⟨k + 1, by go_num, hlt, HNX⟩
        case measure => simp [intOf]; omega
      · have hge : ¬ (k : Int) < (g.roots.length : Int) := by omega
        have ek : k = g.roots.length := by omega
        obtain ⟨L1, hL1⟩ : ∃ L1, cntI (List.replicate g.nodes.length 0) g.roots = L1 := ⟨_, rfl⟩
        have HL1 : Hid (cntI (List.replicate g.nodes.length 0) g.roots = L1) := hL1
        have HCN1 : Hid (Cn g.nodes.length g.roots.length L1) := by
          have := Cn.ints g.roots 0 _ HCN0.out
          rw [hL1, Nat.zero_add] at this
          exact this
        have HC1 : Hid (CAt P P.heap.size g.nodes.length L1 wr) := by
          have := HC.out
          rw [ek, List.take_length, hL1] at this
          exact this
        clear HC HCN0 ek hL1
        go_wp2_with fail
        clear q0 q1 HBX
        go_loopw [38] (fun iv wr => ∃ k : Nat, iv = .int .i64 k ∧ k ≤ g.nodes.length ∧ Hid (CAt P P.heap.size g.nodes.length (cntN L1 (g.nodes.take k)) wr)) (fun iv _ => g.nodes.length - (intOf iv).toNat)
        case atStart => exact ⟨0, rfl, Nat.zero_le _, HC1⟩
        case round =>
          obtain ⟨k, rfl, hk, HC⟩ := hrel
          clear HC1
          have HBX : Hid (Below V.heap.size V wr) := HB1.out.trans (HC.out.below.mono HB1.out.size)
          obtain ⟨q0, q1⟩ := HQ.out wr HBX.out
          by_cases hlt : k < g.nodes.length
          · have hltI : (k : Int) < (g.nodes.length : Int) := by omega
            obtain ⟨n, hx⟩ : ∃ n, g.nodes[k]? = some n := ⟨_, List.getElem?_eq_getElem hlt⟩
            have hkn := kids_at hx
            have hkk := HKI.out k
            rw [hkn] at hkk
            have htk := totN_take hx
            have htm : totN (g.nodes.take (k + 1)) ≤ totN g.nodes := by
              have e : totN (g.nodes.take (k + 1)) + totN (g.nodes.drop (k + 1)) = totN g.nodes := by rw [← totN_app, List.take_append_drop]
              omega
            have hct := cntN_take (l := L1) hx
            have hcn : Cn g.nodes.length (g.roots.length + totN (g.nodes.take k)) (cntN L1 (g.nodes.take k)) := Cn.nodes _ _ _ HCN1.out
            have HKK : Hid (∀ x ∈ n.kids, 0 ≤ x ∧ x < (g.nodes.length : Int)) := hkk
            have HCT : Hid (cntN L1 (g.nodes.take (k + 1)) = cntI (cntN L1 (g.nodes.take k)) n.kids) := hct
            obtain ⟨L2, hL2⟩ : ∃ L2, cntN L1 (g.nodes.take k) = L2 := ⟨_, rfl⟩
            rw [hL2] at HC HCT hcn
            have HM2 : Hid (g.roots.length + totN (g.nodes.take k) + n.kids.length ≤ 1048576) := by
              have h1 := HTT.out
              have h2 : n.kids.length ≤ n.tot := by unfold Nd.tot; omega
              show _ ≤ _
              omega
            have HCN2 : Hid (Cn g.nodes.length (g.roots.length + totN (g.nodes.take k)) L2) := hcn
            obtain ⟨kind, tag, text, kids⟩ := n
            obtain ⟨b, off, kv, rfl, hbl, hN⟩ := HN.out.at hx
            obtain ⟨xa, xc, rfl⟩ := hN.kids.sl
            obtain ⟨c0, c1, c2, c3, hI⟩ := hN.later hbl HBX.out
            replace c0 : wr.cell? ⟨b, off + k * 4, none⟩ = some (.int .i64 kind) := c0
            replace c1 : wr.cell? ⟨b, off + k * 4 + 1, none⟩ = some (.string tag) := c1
            replace c2 : wr.cell? ⟨b, off + k * 4 + 2, none⟩ = some (.string text) := c2
            replace c3 : wr.cell? ⟨b, off + k * 4 + 3, none⟩ = some (.slice xa kids.length xc) := c3
            have HKK : Hid (∀ x ∈ kids, 0 ≤ x ∧ x < (g.nodes.length : Int)) := HKK
            have HCT : Hid (cntN L1 (g.nodes.take (k + 1)) = cntI L2 kids) := HCT
            have HM2 : Hid (g.roots.length + totN (g.nodes.take k) + kids.length ≤ 1048576) := HM2
            have hkl : (kids.length : Int) ≤ 1048576 := by have := HM2.out; omega
            obtain ⟨Z, hZ⟩ : ∃ Z, wr.alloc (.cells #[.int .i64 kind, .string tag, .string text, .slice xa kids.length xc] 67) = Z := ⟨_, rfl⟩
            have HZ : Hid (wr.alloc (.cells #[.int .i64 kind, .string tag, .string text, .slice xa kids.length xc] 67) = Z) := hZ
            have HCZ : Hid (CAt P P.heap.size g.nodes.length L2 Z) := by show CAt _ _ _ _ _; rw [← hZ]; exact HC.out.alloc _
            have HIV : Hid (IlAt V (.slice xa kids.length xc) kids) := hN.kids
            clear hx hkn hkk htk htm hct hcn hL2 hbl hN hI hZ HC HBX
            go_wp2_with fail
            clear c0 c1 c2 c3 q0 q1
            go_loopw [45] (fun iv wr => ∃ j : Nat, iv = .int .i64 j ∧ j ≤ kids.length ∧ Hid (CAt P P.heap.size g.nodes.length (cntI L2 (kids.take j)) wr)) (fun iv _ => kids.length - (intOf iv).toNat)
            case atStart => exact ⟨0, rfl, Nat.zero_le _, by show CAt _ _ _ _ _; rw [HZ.out]; exact HCZ.out⟩
            case round =>
              obtain ⟨j, rfl, hj, HC⟩ := hrel
              clear HCZ HZ Z
              have HBX : Hid (Below V.heap.size V wr) := HB1.out.trans (HC.out.below.mono HB1.out.size)
              by_cases hjl : j < kids.length
              · have hjI : (j : Int) < (kids.length : Int) := by omega
                obtain ⟨x, hx⟩ : ∃ x, kids[j]? = some x := ⟨_, List.getElem?_eq_getElem hjl⟩
                obtain ⟨b2, o2, rfl, hbl, d⟩ := HIV.out.at hx
                rw [← HBX.out.cell hbl] at d
                have hx0 := HKK.out x (List.mem_of_getElem? hx)
                obtain ⟨m, rfl⟩ := Int.eq_ofNat_of_zero_le hx0.1
                have hm : m < g.nodes.length := by omega
                have hmI : (m : Int) < (g.nodes.length : Int) := by omega
                have hcn := Cn.ints (kids.take j) _ _ HCN2.out
                rw [List.length_take, Nat.min_eq_left hj] at hcn
                have hct := cntI_take (l := L2) hx
                obtain ⟨L, hL⟩ : ∃ L, cntI L2 (kids.take j) = L := ⟨_, rfl⟩
                rw [hL] at HC hcn hct
                obtain ⟨c0, c1⟩ := HC.out.cells hcn.len hm
                obtain ⟨v, hv⟩ : ∃ v, L.getD m 0 = v := ⟨_, rfl⟩
                have hv0 := hcn.getD m
                rw [hv] at c0 hv0
                have hv1 : 0 ≤ v := hv0.1
                have hv2 : v ≤ 1048576 := by have := hv0.2; have := HM2.out; omega
                have HNX : Hid (CAt P P.heap.size g.nodes.length (cntI L2 (kids.take (j + 1))) (wr.setCell ⟨P.heap.size, m, none⟩ (.int .i64 (v + 1)))) := by
                  show CAt _ _ _ _ _
                  rw [hct]
                  show CAt _ _ _ (L.set m (L.getD m 0 + 1)) _
                  rw [hv]
                  exact HC.out.set m (v + 1)
                clear hx hbl hx0 hm hcn hct hL hv hv0 HC HBX
                go_wp2_with fail
                go_roundw
                case rel => exact ⟨j + 1, by go_num, hjl, HNX⟩
                case measure => simp [intOf]; omega
              · have hge : ¬ (j : Int) < (kids.length : Int) := by omega
                have HNX : Hid (CAt P P.heap.size g.nodes.length (cntN L1 (g.nodes.take (k + 1))) wr) := by
                  show CAt _ _ _ _ _
                  rw [HCT.out]
                  have := HC.out
                  rw [show j = kids.length by omega, List.take_length] at this
                  exact this
                clear HC HBX HCT
                go_wp2_with fail
                go_roundw
                case rel => exact ⟨k + 1, by go_num, hlt, HNX⟩
                case measure => simp [intOf]; omega
          · have hge : ¬ (k : Int) < (g.nodes.length : Int) := by omega
            have ek : k = g.nodes.length := by omega
            obtain ⟨L, hL⟩ : ∃ L, cntN L1 g.nodes = L := ⟨_, rfl⟩
            have HSG : Hid (sharedG g = sharedTo L g.nodes.length) := by
              show _ = _
              unfold sharedG
              rw [if_pos HBB.out, HL1.out, hL]
            have HCN : Hid (Cn g.nodes.length (g.roots.length + totN g.nodes) L) := by
              have := Cn.nodes g.nodes _ _ HCN1.out
              rw [hL] at this
              exact this
            have HC3 : Hid (CAt P P.heap.size g.nodes.length L wr) := by
              have := HC.out
              rw [ek, List.take_length, hL] at this
              exact this
            have HRL : Hid (wr.ownsRow w.heap.size 3 1 (.slice (some ⟨P.heap.size, 0, none⟩) g.nodes.length g.nodes.length) g.nodes.length (ilV L)) := g_row_lower HC3.out.row (Nat.le_trans HB0.out.size HB1.out.size)
            have HO3 : Hid (wr.ownsRow w.heap.size 3 1 (.slice (some ⟨w.heap.size + 1, 0, none⟩) 0 0) (sharedTo L 0).length (ilV (sharedTo L 0))) := g_row_below HO1.out HC3.out.below
            have HBW : Hid (Below w.heap.size w wr) := HB0.out.trans (HBX.out.mono HB0.out.size)
            have HNE : Hid (w.heap.size + 1 ≠ P.heap.size) := by have h1 := HB1.out.size; have h2 := HS.out; show _ ≠ _; omega
            clear HC HBX ek hL HC3 HO1 HL1
            go_wp2_with fail
            clear q0 q1
            go_loopw [3, 59] (fun ov iv wr => ∃ (k : Nat) (oa : Option Addr) (on oc : Nat), ov = .slice oa on oc ∧ iv = .int .i64 k ∧ k ≤ g.nodes.length ∧ Hid (wr.ownsRow w.heap.size 3 1 (.slice oa on oc) (sharedTo L k).length (ilV (sharedTo L k))) ∧ Hid (wr.ownsRow w.heap.size 3 1 (.slice (some ⟨P.heap.size, 0, none⟩) g.nodes.length g.nodes.length) g.nodes.length (ilV L)) ∧ Hid ((Value.slice oa on oc).ownBlock ≠ some P.heap.size) ∧ Hid (Below w.heap.size w wr)) (fun _ iv _ => g.nodes.length - (intOf iv).toNat)
            case atStart => exact ⟨0, _, _, _, rfl, rfl, Nat.zero_le _, HO3, HRL, fun h => HNE.out (by simpa [Value.ownBlock] using h), HBW⟩
            case round =>
              obtain ⟨k, oa, on, oc, rfl, rfl, hk, HO, HL, HNB, HB⟩ := hrel
              clear HO3 HRL HNE HBW
              by_cases hlt : k < g.nodes.length
              · have hltI : (k : Int) < (g.nodes.length : Int) := by omega
                have hcn := HCN.out
                have hkl : k < L.length := by rw [hcn.len]; exact hlt
                have c0 : wr.cell? ⟨P.heap.size, k, none⟩ = some (.int .i64 (L.getD k 0)) := by
                  rw [HL.out.cellAt k (by omega)]
                  unfold ilV
                  rw [List.getElem?_map, List.getElem?_eq_getElem hkl]
                  simp [List.getD, List.getElem?_eq_getElem hkl]
                obtain ⟨v, hv⟩ : ∃ v, L.getD k 0 = v := ⟨_, rfl⟩
                have hvm := hcn.getD k
                rw [hv] at c0 hvm
                have hv0 : 0 ≤ v := hvm.1
                have hv2 : v ≤ 1048576 := by have h1 := hvm.2; have h2 := HTT.out; omega
                clear hcn hkl hvm
                by_cases h1 : v > 1
                · have HS2 : Hid (sharedTo L (k + 1) = sharedTo L k ++ [(k : Int)]) := by show _ = _; rw [sharedTo, if_pos (by rw [hv]; exact h1)]
                  obtain ⟨v5, w5, hrun5, hsl5, hown5, hbel5, hot5, hid5⟩ := push_own2 (P := Tryd.prog) Tryd.underlying23 infoIt rfl (by decide) wr w.heap.size _ _ _ HO.out #[.int .i64 (k : Int)] rfl (by intro u hu; simp at hu; subst hu; rfl) (by have h1 := HM.out; have h2 := sharedTo_len L k; omega) (by omega) HB.out.size 23
                  obtain ⟨a5, n5, c5, rfl⟩ := hsl5
                  have HO5 : Hid (w5.ownsRow w.heap.size 3 1 (.slice a5 n5 c5) (sharedTo L (k + 1)).length (ilV (sharedTo L (k + 1)))) := by
                    show World.ownsRow _ _ _ _ _ _ _
                    rw [HS2.out, List.length_append]
                    have e : ilV (sharedTo L k ++ [(k : Int)]) = ilV (sharedTo L k) ++ [.int .i64 (k : Int)] := by unfold ilV; simp
                    rw [e]
                    exact hown5
                  have hSlt := (HL.out.lt P.heap.size rfl).2
                  have HL5 : Hid (w5.ownsRow w.heap.size 3 1 (.slice (some ⟨P.heap.size, 0, none⟩) g.nodes.length g.nodes.length) g.nodes.length (ilV L)) := g_row_block HL.out (fun x hx => by
                    have hx : x = P.heap.size := by simpa [Value.ownBlock] using hx.symm
                    subst hx
                    exact hot5 _ hSlt HNB.out)
                  have HN5 : Hid ((Value.slice a5 n5 c5).ownBlock ≠ some P.heap.size) := fun h => by
                    rcases hid5 with h2 | h2
                    · exact HNB.out (h2.symm.trans h)
                    · rw [h] at h2
                      have h3 : P.heap.size = wr.heap.size + 1 := by simpa using h2
                      omega
                  have HB5 : Hid (Below w.heap.size w w5) := HB.out.trans hbel5
                  clear hown5 hbel5 hot5 hid5 HO HB HL HNB hv hSlt
                  go_wp2_with (at_builtin; refine append_run rfl _ _ 23 rfl _ _ rfl rfl _ w5 hrun5 ?_)
                  go_roundw
                  case rel => exact ⟨k + 1, _, _, _, rfl, by go_num, hlt, HO5, HL5, HN5, HB5⟩
                  case measure => simp [intOf]; omega
                · have HS2 : Hid (sharedTo L (k + 1) = sharedTo L k) := by show _ = _; rw [sharedTo, if_neg (by rw [hv]; exact h1)]
                  clear hv
                  go_wp2_with fail
                  go_roundw
                  case rel => exact ⟨k + 1, _, _, _, rfl, by go_num, hlt, by show World.ownsRow _ _ _ _ _ _ _; rw [HS2.out]; exact HO.out, HL, HNB, HB⟩
                  case measure => simp [intOf]; omega
              · have hge : ¬ (k : Int) < (g.nodes.length : Int) := by omega
                have HOF : Hid (wr.ownsRow w.heap.size 3 1 (.slice oa on oc) (sharedG g).length (ilV (sharedG g))) := by
                  show World.ownsRow _ _ _ _ _ _ _
                  rw [HSG.out]
                  have := HO.out
                  rw [show k = g.nodes.length by omega] at this
                  exact this
                clear HO HL HNB
                go_wp2_with fail
                go_ret
                exact ⟨⟨_, rfl, ⟨_, _, _, rfl⟩, HOF.out⟩, HB.out⟩
end Go.Proofs.YtgaibajkegfpoaaDoor
