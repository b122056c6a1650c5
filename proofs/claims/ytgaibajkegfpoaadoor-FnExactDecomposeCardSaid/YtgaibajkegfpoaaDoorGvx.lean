/- The program's Shared. -/
import Derived.Test.YtgaibajkegfpoaaDoorZqc
import Derived.Test.YtgaibajkegfpoaaDoorGvg
import Derived.Test.YtgaibajkegfpoaaDoorLsh
namespace Go.Proofs.YtgaibajkegfpoaaDoor
open Go.ChangeShapes Go.WideShapes Go.ChangeAt Go.RowKit Go.Deep
def intVG (n : Int) : Value := .int .i64 n
/-- The times that each knot stands among the kids, by its block. -/
def cntF (Ps : List Nat) (L : List Int) : Nat → Option Int := fun b => if b ∈ Ps ∧ 0 < L.getD (ix b Ps) 0 then some (L.getD (ix b Ps) 0) else none
theorem ix_blk {Ps : List Nat} (hnd : Ps.Nodup) {m : Nat} (hm : m < Ps.length) : ix (blk Ps (m : Int)) Ps = m := by
  have hmem := blk_mem hm
  have h1 := ix_at hmem
  have h2 := ix_lt hmem
  have h3 := blk_at h2
  rw [h1] at h3
  exact (blk_inj hnd hm h2 (Option.some.inj h3)).symm
theorem cntF_put {Ps : List Nat} {L : List Int} (hnd : Ps.Nodup) (hl : L.length = Ps.length) {m : Nat} (hm : m < Ps.length) (h0 : 0 ≤ L.getD m 0) : putP (cntF Ps L) (blk Ps (m : Int)) (L.getD m 0 + 1) = cntF Ps (incAt L m) := by
  funext b
  unfold putP cntF
  by_cases e : b = blk Ps (m : Int)
  · subst e
    rw [if_pos rfl, ix_blk hnd hm, incAt_getD _ _ _ (by omega), if_pos rfl, if_pos ⟨blk_mem hm, by omega⟩]
  · rw [if_neg e]
    by_cases hb : b ∈ Ps
    · have hne : m ≠ ix b Ps := fun h => by
        have h1 := ix_at hb
        rw [← h, blk_at hm] at h1
        exact e (Option.some.inj h1).symm
      rw [incAt_getD _ _ _ (by omega), if_neg hne]
      simp
    · rw [if_neg (fun h => hb h.1), if_neg (fun h => hb h.1)]
theorem cntF_zero (Ps : List Nat) (N : Nat) : (fun _ => none) = cntF Ps (List.replicate N 0) := by
  funext b
  unfold cntF
  have : (List.replicate N (0 : Int)).getD (ix b Ps) 0 = 0 := by
    by_cases h : ix b Ps < N
    · simp [List.getD, h]
    · simp [List.getD, List.getElem?_eq_none (show (List.replicate N (0 : Int)).length ≤ ix b Ps by simp; omega)]
  rw [this]
  simp
theorem cntF_val {Ps : List Nat} {L : List Int} (hnd : Ps.Nodup) {m : Nat} (hm : m < Ps.length) : cntF Ps L (blk Ps (m : Int)) = if 0 < L.getD m 0 then some (L.getD m 0) else none := by
  unfold cntF
  rw [ix_blk hnd hm]
  by_cases h : 0 < L.getD m 0
  · rw [if_pos ⟨blk_mem hm, h⟩, if_pos h]
  · rw [if_neg (fun hh => h hh.2), if_neg h]
/-- The counts in memory. -/
structure CmAt (V : World) (Ps : List Nat) (M : Nat) (L : List Int) (w : World) : Prop where
  map : PmAt intVG w M (cntF Ps L)
  below : Below V.heap.size V w
  lo : V.heap.size ≤ M
theorem cm_look {V w : World} {g : Gr} {Ps : List Nat} {kn rt : Value} {M m N : Nat} {L : List Int} (h : CmAt V Ps M L w) (hW : WebAt V g Ps kn rt) (hm : m < g.nodes.length) (hc : Cn g.nodes.length N L) :
    (Instr.lookup 53 (.map (some M)) (.pointer (some ⟨blk Ps (m : Int), 0, none⟩)) false).run Tryd.prog w = .ok (.int .i64 (L.getD m 0)) w := by
  obtain ⟨ti, hti, hsz⟩ := infoKi
  have hmp : m < Ps.length := by rw [hW.len]; exact hm
  have hWw := hW.later h.below
  have h1 := h.map.look (P := Tryd.prog) (fun b v hb => hWw.live (by unfold cntF at hb; split at hb; rename_i hh; exact hh.1; cases hb)) Tryd.underlying53 Tryd.underlying78 hti hsz (zeroNumG w) (hWw.live (blk_mem hmp)) false
  rw [cntF_val hW.nd hmp] at h1
  by_cases h2 : 0 < L.getD m 0
  · rw [if_pos h2] at h1
    exact h1
  · rw [if_neg h2] at h1
    rw [show L.getD m 0 = 0 by have := (hc.getD m).1; omega]
    exact h1
theorem cm_put {V w : World} {g : Gr} {Ps : List Nat} {kn rt : Value} {M m N : Nat} {L : List Int} (h : CmAt V Ps M L w) (hW : WebAt V g Ps kn rt) (hm : m < g.nodes.length) (hc : Cn g.nodes.length N L) :
    ∃ u, (Instr.mapUpdate 53 (.map (some M)) (.pointer (some ⟨blk Ps (m : Int), 0, none⟩)) (.int .i64 (L.getD m 0 + 1))).run Tryd.prog w = .ok () u ∧ CmAt V Ps M (incAt L m) u := by
  obtain ⟨ti, hti, hsz⟩ := infoKi
  have hmp : m < Ps.length := by rw [hW.len]; exact hm
  have hWw := hW.later h.below
  obtain ⟨u, h1, h2, h3, h4⟩ := h.map.put (P := Tryd.prog) (fun b v hb => hWw.live (by unfold cntF at hb; split at hb; rename_i hh; exact hh.1; cases hb)) Tryd.underlying53 Tryd.underlying78 hti hsz (hWw.live (blk_mem hmp)) (L.getD m 0 + 1)
  rw [cntF_put hW.nd (by rw [hc.len, hW.len]) hmp (hc.getD m).1] at h2
  have hlo := h.lo
  exact ⟨u, h1, h2, h.below.trans ⟨h3.os, h3.tape, h3.output, h3.size, fun j hj => h3.block j (by have := h.below.size; omega) (by intro e; injection e with e; omega)⟩, h.lo⟩
set_option maxHeartbeats 8000000 in
set_option maxRecDepth 100000 in
theorem webShared_any (g : Gr) (Ps : List Nat) (kn rt : Value) (w : World) (hW : WebAt w g Ps kn rt) (hN : g.nodes.length ≤ 3000) (hk : ∀ i, ∀ k ∈ kidsOf g i, 0 ≤ k ∧ k < (g.nodes.length : Int)) (ht : totN g.nodes ≤ 1048576) :
    Calls Tryd.prog 22 #[.agg #[kn, rt]] w fun e w' => (∃ v, e = .returned v ∧ isSlG v ∧ w'.ownsRow w.heap.size 3 1 v (sharedTo (cntN (List.replicate g.nodes.length 0) g.nodes) g.nodes.length).length (ilV (sharedTo (cntN (List.replicate g.nodes.length 0) g.nodes) g.nodes.length))) ∧ Below w.heap.size w w' := by
  obtain ⟨ka, kc, rfl⟩ := hW.knots.sl
  have hkl : Ps.length = g.nodes.length := hW.len
  have HKP : Hid (PlAt w (.slice ka Ps.length kc) Ps) := hW.knots
  have HC0 : Hid (Cn g.nodes.length 0 (List.replicate g.nodes.length 0)) := Cn.zero _
  have HCK : Hid (∀ k, Cn g.nodes.length 1048576 (cntN (List.replicate g.nodes.length 0) (g.nodes.take k))) := fun k => by
    have h1 := Cn.nodes (g.nodes.take k) _ _ HC0.out
    refine h1.mono ?_
    have e : totN (g.nodes.take k) + totN (g.nodes.drop k) = totN g.nodes := by rw [← totN_app, List.take_append_drop]
    omega
  have HCJ : Hid (∀ (k j : Nat) (n : Nd), g.nodes[k]? = some n → Cn g.nodes.length 1048576 (cntI (cntN (List.replicate g.nodes.length 0) (g.nodes.take k)) (n.kids.take j))) := fun k j n hx => by
    have h1 := Cn.ints (n.kids.take j) _ _ (Cn.nodes (g.nodes.take k) _ _ HC0.out)
    refine h1.mono ?_
    have e : totN (g.nodes.take (k + 1)) + totN (g.nodes.drop (k + 1)) = totN g.nodes := by rw [← totN_app, List.take_append_drop]
    have e2 := totN_take hx
    have e3 : n.kids.length ≤ n.tot := by unfold Nd.tot; omega
    rw [List.length_take]
    omega
  have HKL : Hid (∀ n ∈ g.nodes, n.kids.length ≤ 1048576) := fun n hn => by have := totN_mem hn; unfold Nd.tot at this; omega
  have hnI : (g.nodes.length : Int) ≤ 1048576 := by omega
  have HNL : Hid (g.nodes.length ≤ 3000) := hN
  have HK := hidG hk
  obtain ⟨V, hV⟩ : ∃ V, w.alloc (.cells #[.slice ka Ps.length kc, rt] 50) = V := ⟨_, rfl⟩
  have hB0 : Below w.heap.size w V := by rw [← hV]; exact al_belowG w _
  have HB0 := hidG hB0
  have HS : Hid (V.heap.size = w.heap.size + 1) := by show _ = _; rw [← hV]; show (w.heap.push _).size = _; simp
  have HE : Hid (V.heap[w.heap.size]? = some (.cells #[.slice ka Ps.length kc, rt] 50 (0, 0))) := by show _ = _; rw [← hV]; exact heap_alloc_new w _
  have HWV : Hid (WebAt V g Ps (.slice ka Ps.length kc) rt) := hW.later hB0
  have HKV : Hid (PlAt V (.slice ka Ps.length kc) Ps) := hW.knots.later hB0
  have HQ : Hid (∀ wr, Below V.heap.size V wr → wr.cell? ⟨w.heap.size, 0, none⟩ = some (.slice ka Ps.length kc)) := fun wr hb => by
    have := (hb.block w.heap.size (by rw [HS.out]; exact Nat.lt_succ_self _)).trans HE.out
    simp [World.cell?, this]
  have HC1 : Hid (CmAt V Ps (w.heap.size + 1) (List.replicate g.nodes.length 0) (V.alloc (.map #[] 0))) := by
    refine ⟨?_, al_belowG V _, Nat.le_of_eq HS.out⟩
    have h1 := PmAt.made V intVG
    rw [cntF_zero Ps g.nodes.length, HS.out] at h1
    exact h1
  have HV := hidG hV
  have HKLE : Hid (Ps.length = g.nodes.length) := hkl
  have hmm := @run_makeMap Tryd.prog
  have q0 := HQ.out (V.alloc (.map #[] 0)) HC1.out.below
  have hpI : (Ps.length : Int) ≤ 1048576 := by omega
  obtain ⟨Z, hZ⟩ : ∃ Z, V.alloc (.map #[] 0) = Z := ⟨_, rfl⟩
  rw [hZ] at HC1 q0
  have HZ := hidG hZ
  have HMV : Hid (V.heap.size < Z.heap.size) := by show _ < _; rw [← hZ]; simp
  clear hW hV hB0 hN hk ht hkl hZ
  go_enter Tryd.func22, Tryd.ntmps22
  go_wp2_with fail
  rw [HV.out, HZ.out]
  go_loopw [15] (fun iv wr => ∃ k : Nat, iv = .int .i64 k ∧ k ≤ g.nodes.length ∧ Hid (CmAt V Ps (w.heap.size + 1) (cntN (List.replicate g.nodes.length 0) (g.nodes.take k)) wr)) (fun iv _ => g.nodes.length - (intOf iv).toNat)
  case atStart => exact ⟨0, rfl, Nat.zero_le _, HC1⟩
  case round =>
    obtain ⟨k, rfl, hk, HC⟩ := hrel
    clear HC1 q0
    have q0 := HQ.out wr HC.out.below
    by_cases hlt : k < g.nodes.length
    · have hltI : (k : Int) < (Ps.length : Int) := by have := HKLE.out; omega
      obtain ⟨n, hx⟩ : ∃ n, g.nodes[k]? = some n := ⟨_, List.getElem?_eq_getElem hlt⟩
      obtain ⟨kv, hkb, hkv⟩ := HWV.out.knot k n hx
      obtain ⟨xa, xc, rfl⟩ := hkv.sl
      rw [List.length_map] at hkb
      obtain ⟨b, o, hka, hbl, d⟩ := HKV.out.at (blk_at (Ps := Ps) (m := k) (by have := HKLE.out; omega))
      rw [← HC.out.below.cell hbl] at d
      obtain ⟨bk, hbk⟩ : ∃ bk, blk Ps (k : Int) = bk := ⟨_, rfl⟩
      rw [hbk] at d hkb
      have hkbr := (HC.out.below.block _ (Array.getElem?_eq_some_iff.1 hkb).1).trans hkb
      have c3 : wr.cell? ⟨bk, 3, none⟩ = some (.slice xa n.kids.length xc) := by simp [World.cell?, hkbr, knV]
      have hkk := HK.out k
      rw [kids_at hx] at hkk
      have HKK := hidG hkk
      have hkI : (n.kids.length : Int) ≤ 1048576 := by have := HKL.out n (List.mem_of_getElem? hx); omega
      have HPK : Hid (PlAt V (.slice xa (n.kids.map (blk Ps)).length xc) (n.kids.map (blk Ps))) := hkv
      have HX := hidG hx
      have HCT : Hid (cntN (List.replicate g.nodes.length 0) (g.nodes.take (k + 1)) = cntI (cntN (List.replicate g.nodes.length 0) (g.nodes.take k)) n.kids) := cntN_take hx
      unfold ptr at d
      subst hka
      clear hx hkb hkv hbl hbk hkbr hkk
      go_wp2_with fail
      clear d c3
      go_loopw [24] (fun iv wr => ∃ j : Nat, iv = .int .i64 j ∧ j ≤ n.kids.length ∧ Hid (CmAt V Ps (w.heap.size + 1) (cntI (cntN (List.replicate g.nodes.length 0) (g.nodes.take k)) (n.kids.take j)) wr)) (fun iv _ => n.kids.length - (intOf iv).toNat)
      case atStart => exact ⟨0, rfl, Nat.zero_le _, HC⟩
      case round =>
        clear HC q0
        obtain ⟨j, rfl, hj, HC⟩ := hrel
        by_cases hjl : j < n.kids.length
        · have hjI : (j : Int) < (n.kids.length : Int) := by omega
          obtain ⟨x, hx⟩ : ∃ x, n.kids[j]? = some x := ⟨_, List.getElem?_eq_getElem hjl⟩
          have hpx : (n.kids.map (blk Ps))[j]? = some (blk Ps x) := by rw [List.getElem?_map, hx]; rfl
          obtain ⟨b2, o2, hxa, hbl, d⟩ := HPK.out.at hpx
          rw [← HC.out.below.cell hbl] at d
          subst hxa
          have hx0 := HKK.out x (List.mem_of_getElem? hx)
          obtain ⟨m, rfl⟩ := Int.eq_ofNat_of_zero_le hx0.1
          have hm : m < g.nodes.length := by omega
          have hcn := HCJ.out k j n HX.out
          have hct := cntI_take (l := cntN (List.replicate g.nodes.length 0) (g.nodes.take k)) hx
          obtain ⟨L, hL⟩ : ∃ L, cntI (cntN (List.replicate g.nodes.length 0) (g.nodes.take k)) (n.kids.take j) = L := ⟨_, rfl⟩
          rw [hL] at HC hcn hct
          have hlook := cm_look HC.out HWV.out hm hcn
          obtain ⟨u, hup, hCu⟩ := cm_put HC.out HWV.out hm hcn
          obtain ⟨v, hv⟩ : ∃ v, L.getD m 0 = v := ⟨_, rfl⟩
          have hv0 := hcn.getD m
          rw [hv] at hlook hup hv0
          have hv1 : 0 ≤ v := hv0.1
          have hv2 : v ≤ 1048576 := hv0.2
          have HNX : Hid (CmAt V Ps (w.heap.size + 1) (cntI (cntN (List.replicate g.nodes.length 0) (g.nodes.take k)) (n.kids.take (j + 1))) u) := by show CmAt _ _ _ _ _; rw [hct]; exact hCu
          obtain ⟨bm, hbm⟩ : ∃ bm, blk Ps (m : Int) = bm := ⟨_, rfl⟩
          rw [hbm] at d hlook hup
          unfold ptr at d
          clear hx hpx hbl hx0 hm hcn hct hL hv hv0 hCu hbm HC
          go_wp2_with fail
          go_roundw
          case rel => exact ⟨j + 1, by go_num, hjl, HNX⟩
          case measure => simp [intOf]; omega
        · have hge : ¬ (j : Int) < (n.kids.length : Int) := by omega
          have HNX : Hid (CmAt V Ps (w.heap.size + 1) (cntN (List.replicate g.nodes.length 0) (g.nodes.take (k + 1))) wr) := by
            show CmAt _ _ _ _ _
            rw [HCT.out]
            have := HC.out
            rw [show j = n.kids.length by omega, List.take_length] at this
            exact this
          clear HC
          go_wp2_with fail
          go_roundw
          case rel => exact ⟨k + 1, by go_num, hlt, HNX⟩
          case measure => simp [intOf]; omega
    · have hge : ¬ (k : Int) < (Ps.length : Int) := by have := HKLE.out; omega
      obtain ⟨L, hL⟩ : ∃ L, cntN (List.replicate g.nodes.length 0) g.nodes = L := ⟨_, rfl⟩
      have HSL : Hid (sharedTo (cntN (List.replicate g.nodes.length 0) g.nodes) g.nodes.length = sharedTo L g.nodes.length) := by show _ = _; rw [hL]
      have HCN : Hid (Cn g.nodes.length 1048576 L) := by have := HCK.out g.nodes.length; rw [List.take_length, hL] at this; exact this
      have HC3 : Hid (CmAt V Ps (w.heap.size + 1) L wr) := by
        have := HC.out
        rw [show k = g.nodes.length by omega, List.take_length, hL] at this
        exact this
      obtain ⟨lo, hlo⟩ : ∃ lo, wr.heap.size = lo := ⟨_, rfl⟩
      have HLO : Hid (V.heap.size < lo) := by show _ < _; rw [← hlo]; have h1 := HC3.out.map.lt; have h2 := HS.out; omega
      have HO3 : Hid (wr.ownsRow lo 3 1 (.slice none 0 0) (sharedTo L 0).length (ilV (sharedTo L 0))) := ⟨rfl, .inl ⟨rfl, rfl⟩⟩
      have HL3 : Hid (lo ≤ wr.heap.size) := by show _ ≤ _; omega
      clear HC hL hlt hk hlo
      go_wp2_with fail
      clear q0
      go_loopw [8, 37] (fun ov iv wr => ∃ (k : Nat) (oa : Option Addr) (on oc : Nat), ov = .slice oa on oc ∧ iv = .int .i64 k ∧ k ≤ g.nodes.length ∧ Hid (wr.ownsRow lo 3 1 (.slice oa on oc) (sharedTo L k).length (ilV (sharedTo L k))) ∧ Hid (CmAt V Ps (w.heap.size + 1) L wr) ∧ Hid (lo ≤ wr.heap.size)) (fun _ iv _ => g.nodes.length - (intOf iv).toNat)
      case atStart => exact ⟨0, _, _, _, rfl, rfl, Nat.zero_le _, HO3, HC3, HL3⟩
      case round =>
        clear HO3 HC3 HL3
        obtain ⟨k, oa, on, oc, rfl, rfl, hk, HO, HC, HL⟩ := hrel
        have q0 := HQ.out wr HC.out.below
        by_cases hlt : k < g.nodes.length
        · have hltI : (k : Int) < (Ps.length : Int) := by have := HKLE.out; omega
          obtain ⟨b, o, hka, hbl, d⟩ := HKV.out.at (blk_at (Ps := Ps) (m := k) (by have := HKLE.out; omega))
          rw [← HC.out.below.cell hbl] at d
          have hlook := cm_look HC.out HWV.out hlt HCN.out
          obtain ⟨v, hv⟩ : ∃ v, L.getD k 0 = v := ⟨_, rfl⟩
          have hv0 := HCN.out.getD k
          rw [hv] at hlook hv0
          have hv1 : 0 ≤ v := hv0.1
          have hv2 : v ≤ 1048576 := hv0.2
          obtain ⟨bm, hbm⟩ : ∃ bm, blk Ps (k : Int) = bm := ⟨_, rfl⟩
          rw [hbm] at d hlook
          unfold ptr at d
          subst hka
          clear hbl hv0 hbm
          by_cases h1 : v > 1
          · have HS2 : Hid (sharedTo L (k + 1) = sharedTo L k ++ [(k : Int)]) := by show _ = _; rw [sharedTo, if_pos (by rw [hv]; exact h1)]
            obtain ⟨v5, w5, hrun5, hsl5, hown5, hbel5, hot5, hid5⟩ := push_own2 (P := Tryd.prog) Tryd.underlying23 infoIt rfl (by decide) wr lo _ _ _ HO.out #[.int .i64 (k : Int)] rfl (by intro u hu; simp at hu; subst hu; rfl) (by have h2 := sharedTo_len L k; have := HNL.out; omega) (by omega) HL.out 23
            obtain ⟨a5, n5, c5, rfl⟩ := hsl5
            have HO5 : Hid (w5.ownsRow lo 3 1 (.slice a5 n5 c5) (sharedTo L (k + 1)).length (ilV (sharedTo L (k + 1)))) := by
              show World.ownsRow _ _ _ _ _ _ _
              rw [HS2.out, List.length_append]
              have e : ilV (sharedTo L k ++ [(k : Int)]) = ilV (sharedTo L k) ++ [.int .i64 (k : Int)] := by unfold ilV; simp
              rw [e]
              exact hown5
            have HC5 : Hid (CmAt V Ps (w.heap.size + 1) L w5) := ⟨HC.out.map.same (hbel5.block _ (by have h1 := HLO.out; have h2 := HS.out; omega)), HC.out.below.trans (hbel5.mono (Nat.le_of_lt HLO.out)), HC.out.lo⟩
            have HL5 : Hid (lo ≤ w5.heap.size) := Nat.le_trans HL.out hbel5.size
            clear hown5 hbel5 hot5 hid5 HO HC HL hv
            go_wp2_with (at_builtin; refine append_run rfl _ _ 23 rfl _ _ rfl rfl _ w5 hrun5 ?_)
            go_roundw
            case rel => exact ⟨k + 1, _, _, _, rfl, by go_num, hlt, HO5, HC5, HL5⟩
            case measure => simp [intOf]; omega
          · have HS2 : Hid (sharedTo L (k + 1) = sharedTo L k) := by show _ = _; rw [sharedTo, if_neg (by rw [hv]; exact h1)]
            clear hv
            go_wp2_with fail
            go_roundw
            case rel => exact ⟨k + 1, _, _, _, rfl, by go_num, hlt, by show World.ownsRow _ _ _ _ _ _ _; rw [HS2.out]; exact HO.out, HC, HL⟩
            case measure => simp [intOf]; omega
        · have hge : ¬ (k : Int) < (Ps.length : Int) := by have := HKLE.out; omega
          have HOF : Hid (wr.ownsRow w.heap.size 3 1 (.slice oa on oc) (sharedTo (cntN (List.replicate g.nodes.length 0) g.nodes) g.nodes.length).length (ilV (sharedTo (cntN (List.replicate g.nodes.length 0) g.nodes) g.nodes.length))) := by
            show World.ownsRow _ _ _ _ _ _ _
            rw [HSL.out]
            have h1 := HO.out
            rw [show k = g.nodes.length by omega] at h1
            exact g_row_lower h1 (by have h2 := HLO.out; have h3 := HS.out; omega)
          have HBF : Hid (Below w.heap.size w wr) := HB0.out.trans (HC.out.below.mono HB0.out.size)
          clear HO HC HL
          go_wp2_with fail
          go_ret
          exact ⟨⟨_, rfl, ⟨_, _, _, rfl⟩, HOF.out⟩, HBF.out⟩
end Go.Proofs.YtgaibajkegfpoaaDoor
