/- The program's survey: a knot is gone through. -/
import Derived.Test.YtgaibajkegfpoaaGvk
namespace Go.Proofs.Ytgaibajkegfpoaa
open Go.ChangeShapes Go.WideShapes Go.ChangeAt Go.RowKit Go.Deep
theorem svF_ok {g : Gr} {first f : Nat} {t : Sv} (h : t.ok = true) (k : Int) : svF g first f t k = svK g first f k.toNat t := by unfold svF; rw [if_pos h]
/-- What is promised of survey.knot, with so much fuel. -/
def KnC (P0 : World) (B first : Nat) (Ps : List Nat) (g : Gr) (f : Nat) : Prop := ∀ (i : Nat) (s : Sv) (w : World), SvAt P0 B Ps first s w → SvI g s → unmet g.nodes.length s.met < f → i < g.nodes.length →
  Calls Try.prog 64 #[.pointer (some ⟨B, 0, none⟩), .pointer (some ⟨blk Ps (i : Int), 0, none⟩)] w fun e w' => e = .returned (.bool (svK g first f i s).ok) ∧ SvAt P0 B Ps first (svK g first f i s) w'
theorem row_bool {w : World} {lo : Nat} {oa : Option Addr} {n oc : Nat} {l : List Bool} (h : w.ownsRow lo 4 1 (.slice oa n oc) l.length (blV l)) {i : Nat} (hi : i < l.length) : ∃ g, oa = some ⟨g, 0, none⟩ ∧ n = l.length ∧ w.cell? ⟨g, i, none⟩ = some (.bool (l.getD i false)) ∧ w.frozen? ⟨g, i, none⟩ = false := by
  rcases h.2 with ⟨_, e⟩ | ⟨g, cap, cur, e1, _⟩
  · omega
  · injection e1 with e1 e2 e3
    subst e1
    subst e2
    subst e3
    refine ⟨g, rfl, rfl, ?_, h.frozenAt i⟩
    rw [h.cellAt i (by omega)]
    unfold blV
    rw [List.getElem?_map, List.getElem?_eq_getElem hi]
    simp [List.getD, List.getElem?_eq_getElem hi]
set_option maxHeartbeats 8000000 in
set_option maxRecDepth 100000 in
theorem kn_step {P0 : World} {B first : Nat} {Ps : List Nat} {g : Gr} {kn rt : Value} (hW : WebAt P0 g Ps kn rt) (hk : ∀ i, ∀ k ∈ kidsOf g i, 0 ≤ k ∧ k < (g.nodes.length : Int)) (hlen : g.nodes.length ≤ 3000) (hkl : ∀ n ∈ g.nodes, n.kids.length ≤ 1048576) {f : Nat} (IH : KnC P0 B first Ps g f) : KnC P0 B first Ps g (f + 1) := by
  intro i s w hS hI hz hi
  have hip : i < Ps.length := by rw [hW.len]; exact hi
  have hrp : ∀ j ∈ s.met, j < Ps.length := fun j hj => by rw [hW.len]; exact hI.rng j hj
  have hWw : WebAt w g Ps kn rt := hW.later hS.below
  have hLm : ∀ x ∈ bks Ps s.met, Live w x := fun x hx => by
    unfold bks at hx
    obtain ⟨j, hj, rfl⟩ := List.mem_map.1 hx
    exact hWw.live (blk_mem (hrp j hj))
  have hLb : Live w (blk Ps (i : Int)) := hWw.live (blk_mem hip)
  have hml : s.met.length ≤ 3000 := by have := hI.room; omega
  obtain ⟨oa, oc, hT, hO⟩ := hS.tr
  by_cases hm : i ∈ s.met
  · have cM := meet_old B 67 _ _ _ (blk Ps (i : Int)) w hT hLm ((bks_mem hW.nd hrp hip).2 hm)
    rw [bks_ix hW.nd hip hrp] at cM
    have hil := ix_lt hm
    have hIO : ix i s.met < s.over.length := by rw [hI.len]; exact hil
    obtain ⟨oa2, oc2, q2, q3, _, _, hO2⟩ := hS.cells
    obtain ⟨g0, rfl, _, d0, _⟩ := row_bool hO2 hIO
    have HO := hidG (svK_old (g := g) (first := first) (f := f) hm)
    have HF : Hid (SvAt P0 B Ps first (svK g first (f + 1) i s) w) := hS.ok (by rw [HO.out]) (by rw [HO.out])
    obtain ⟨v, hv⟩ : ∃ v, s.over.getD (ix i s.met) false = v := ⟨_, rfl⟩
    rw [hv] at d0
    obtain ⟨n, hn⟩ : ∃ n, ix i s.met = n := ⟨_, rfl⟩
    rw [hn] at cM d0 hil hIO hv
    have HOK : Hid ((svK g first (f + 1) i s).ok = (decide (first ≤ n) && v)) := by show _ = _; rw [HO.out, hn]; show (decide (first ≤ n) && s.over.getD n false) = _; rw [hv]
    have hnI : (n : Int) < (s.over.length : Int) := by omega
    have hn3 : (n : Int) ≤ 1048576 := by omega
    by_cases hf : first ≤ n
    · have hfI : (first : Int) ≤ (n : Int) := by omega
      have HR : Hid ((svK g first (f + 1) i s).ok = v) := by show _ = _; rw [HOK.out, decide_eq_true hf]; rfl
      clear hS hI hz hi hip hrp hWw hLm hLb hT hO hm hil hIO hO2 hv hn hf IH HOK HO
      go_enter Try.func64, Try.ntmps64
      go_wp2_with fail
      refine cM.mono ?_
      rintro e w1 ⟨rfl, rfl⟩
      clear cM
      cases v
      all_goals
        go_wp2_with fail
        go_ret
        exact ⟨congrArg (fun b => Ending.returned (.bool b)) HR.out.symm, HF.out⟩
    · have hfI : ¬ (first : Int) ≤ (n : Int) := by omega
      have HR : Hid ((svK g first (f + 1) i s).ok = false) := by show _ = _; rw [HOK.out, decide_eq_false hf]; rfl
      clear hS hI hz hi hip hrp hWw hLm hLb hT hO hm hil hIO hO2 hv hn hf IH HOK HO
      go_enter Try.func64, Try.ntmps64
      go_wp2_with fail
      refine cM.mono ?_
      rintro e w1 ⟨rfl, rfl⟩
      clear cM
      go_wp2_with fail
      go_ret
      exact ⟨congrArg (fun b => Ending.returned (.bool b)) HR.out.symm, HF.out⟩
  · have hnb : blk Ps (i : Int) ∉ bks Ps s.met := fun h => hm ((bks_mem hW.nd hrp hip).1 h)
    have cM := meet_new B 67 _ _ _ (blk Ps (i : Int)) w hT hLm hLb hnb (by decide) hS.lo (by rw [bks_len]; omega)
    rw [bks_len] at cM
    obtain ⟨n, hx⟩ : ∃ n, g.nodes[i]? = some n := ⟨_, List.getElem?_eq_getElem hi⟩
    have hkn := kids_at hx
    have hkk := hk i
    rw [hkn] at hkk
    have hkl' : n.kids.length ≤ 1048576 := hkl n (List.mem_of_getElem? hx)
    obtain ⟨kv, hkb, hkv⟩ := hW.knot i n hx
    obtain ⟨ka, kc, rfl⟩ := hkv.sl
    rw [List.length_map] at hkb hkv
    obtain ⟨bi, hbi⟩ : ∃ bi, blk Ps (i : Int) = bi := ⟨_, rfl⟩
    have hbiP : bi < P0.heap.size := by rw [← hbi]; exact (Array.getElem?_eq_some_iff.1 hkb).1
    rw [hbi] at cM hkb ⊢
    have HIE := hI.enter hi hm
    have hnw0 := svK_new (g := g) (first := first) (f := f) hm
    rw [hkn] at hnw0
    obtain ⟨s1, hs1⟩ : ∃ s1 : Sv, (⟨s.met ++ [i], s.over ++ [false], true⟩ : Sv) = s1 := ⟨_, rfl⟩
    rw [hs1] at HIE hnw0
    have HS1 := hidG hs1
    have hum : unmet g.nodes.length s1.met < f := by rw [← hs1]; have := unmet_new (l := s.met) hi hm; show unmet _ (s.met ++ [i]) < f; omega
    have HF : Hid (∀ j, SvI g ((n.kids.take j).foldl (svF g first f) s1) ∧ s1.met <+: ((n.kids.take j).foldl (svF g first f) s1).met) := fun j => svF_fold hk first f (n.kids.take j) s1 (fun x hx => hkk x (List.mem_of_mem_take hx)) HIE
    have HU : Hid (∀ j, unmet g.nodes.length ((n.kids.take j).foldl (svF g first f) s1).met < f) := fun j => Nat.lt_of_le_of_lt (unmet_pre (HF.out j).2) hum
    have HKR : Hid (∀ x ∈ n.kids, 0 ≤ x ∧ x < (g.nodes.length : Int)) := hkk
    have HNW := hidG hnw0
    have HIH := hidG IH
    have HW := hidG hW
    have HPL : Hid (PlAt P0 (.slice ka n.kids.length kc) (n.kids.map (blk Ps))) := hkv
    have HKB : Hid (P0.heap[bi]? = some (.cells (knV n (.slice ka n.kids.length kc)) 101 (0, 0))) := hkb
    have HLO := hidG hS.lo
    have HBP : Hid (Below P0.heap.size P0 w) := hS.below
    have HT := hidG hT
    have HOR := hidG hO
    have HOL : Hid (s.over.length = s.met.length) := hI.len
    have HMI : Hid (s.met.length ≤ 3000) := hml
    have HBI : Hid (blk Ps (i : Int) = bi) := hbi
    have HLN : Hid (∀ t, SvI g t → t.met.length ≤ 3000) := fun t ht => by have := ht.room; omega
    have hkI : (n.kids.length : Int) ≤ 1048576 := by omega
    clear hS hI hz hi hip hrp hWw hLm hLb hT hO hm hnb hx hkn hkk hkb hkv hbi hum hW hk hkl IH hs1 hml hkl' HIE hnw0
    go_enter Try.func64, Try.ntmps64
    go_wp2_with fail
    refine cM.mono ?_
    rintro e w1 ⟨rfl, hT1, hb1, hk1⟩
    have hbp1 : Below P0.heap.size P0 w1 := HBP.out.trans hb1
    obtain ⟨_, _, _, _, g1, _⟩ := hT1.ex
    obtain ⟨_, _, _, _, g0, _⟩ := HT.out.ex
    have hO1 : w1.ownsRow P0.heap.size 4 1 (.slice oa s.over.length oc) s.over.length (blV s.over) := hk1.row HOR.out (by decide) (row_apart HOR.out g0 (by decide))
    have q3 := sv_3 g1
    obtain ⟨v5, w5, hrun5, hsl5, hown5, hbel5, hot5, hid5⟩ := push_own2 (P := Try.prog) Try.underlying65 infoBo rfl (by decide) w1 P0.heap.size _ _ _ hO1 #[.bool false] rfl (by intro u hu; simp at hu; subst hu; rfl) (by have h1 := HOL.out; have h2 := HMI.out; omega) (by omega) hbp1.size 65
    obtain ⟨a5, n5, c5, rfl⟩ := hsl5
    have hn5 : n5 = s.over.length + 1 := by
      rcases hown5.2 with ⟨e1, e2⟩ | ⟨gb, cap, cur, e1, _⟩
      · injection e1 with _ e1 _; omega
      · injection e1
    subst hn5
    have hB1 := hT1.lt
    have k5 : w5.heap[B]? = w1.heap[B]? := hot5 B hB1 (row_apart hO1 g1 (by decide))
    have q5 := sv_3 (k5.trans g1)
    have f5 := sv_f (k5.trans g1) 3
    have hT1' : TrAt B 67 [.int .i64 (first : Int), .slice oa s.over.length oc] P0.heap.size (bks Ps (⟨s.met ++ [i], s.over, true⟩ : Sv).met) w1 := by
      show TrAt _ _ _ _ (bks Ps (s.met ++ [i])) _
      rw [bks_snoc, HBI.out]
      exact hT1
    have HS5 : Hid (SvAt P0 B Ps first s1 (w5.setCell ⟨B, 3, none⟩ (.slice a5 (s.over.length + 1) c5))) := by
      show SvAt _ _ _ _ _ _
      rw [← HS1.out]
      exact SvAt.mark (s := ⟨s.met ++ [i], s.over, true⟩) hT1' HLO.out hbp1 hO1 hown5 hbel5 hot5
    have hbp5 : Below P0.heap.size P0 w5 := hbp1.trans hbel5
    have kb5 := (hbp5.block bi hbiP).trans HKB.out
    have kk5 : w5.cell? ⟨bi, 3, none⟩ = some (.slice ka n.kids.length kc) := by simp [World.cell?, kb5, knV]
    have hneB : bi ≠ B := by have := HLO.out; omega
    have HOK1 : Hid (s1.ok = true) := by show _ = _; rw [← HS1.out]
    clear cM hT1 hb1 hk1 hbp1 g1 g0 hO1 hown5 hbel5 hot5 hid5 hB1 k5 hT1' hbp5 kb5
    go_wp2_with (at_builtin; refine append_run rfl _ _ 65 rfl _ _ rfl rfl _ w5 hrun5 ?_)
    go_loopw [48] (fun iv wr => ∃ j : Nat, iv = .int .i64 j ∧ j ≤ n.kids.length ∧ Hid (SvAt P0 B Ps first ((n.kids.take j).foldl (svF g first f) s1) wr) ∧ Hid (((n.kids.take j).foldl (svF g first f) s1).ok = true)) (fun iv _ => n.kids.length - (intOf iv).toNat)
    case atStart => exact ⟨0, rfl, Nat.zero_le _, HS5, HOK1⟩
    case round =>
      obtain ⟨j, rfl, hj, HR, HK⟩ := hrel
      clear HS5
      by_cases hlt : j < n.kids.length
      · have hltI : (j : Int) < (n.kids.length : Int) := by omega
        obtain ⟨x, hx⟩ : ∃ x, n.kids[j]? = some x := ⟨_, List.getElem?_eq_getElem hlt⟩
        have hpx : (n.kids.map (blk Ps))[j]? = some (blk Ps x) := by rw [List.getElem?_map, hx]; rfl
        have hPL := HPL.out
        rw [← List.length_map (f := blk Ps)] at hPL
        obtain ⟨b, o, rfl, hbl, d⟩ := hPL.at hpx
        rw [← HR.out.below.cell hbl] at d
        have hx0 := HKR.out x (List.mem_of_getElem? hx)
        obtain ⟨m, rfl⟩ := Int.eq_ofNat_of_zero_le hx0.1
        have hm : m < g.nodes.length := by omega
        have cK := HIH.out m _ wr HR.out (HF.out j).1 (HU.out j) hm
        have hst := svF_take (g := g) (first := first) (f := f) hx s1
        rw [show svF g first f ((n.kids.take j).foldl (svF g first f) s1) (m : Int) = svK g first f m ((n.kids.take j).foldl (svF g first f) s1) from svF_ok HK.out (m : Int)] at hst
        obtain ⟨t, ht⟩ : ∃ t, svK g first f m ((n.kids.take j).foldl (svF g first f) s1) = t := ⟨_, rfl⟩
        rw [ht] at cK hst
        obtain ⟨r, hr⟩ : ∃ r, t.ok = r := ⟨_, rfl⟩
        rw [hr] at cK
        have HST := hidG hst
        have HTR := hidG hr
        unfold ptr at d
        clear hx hpx hPL hbl hx0 hm ht hst hr HR
        cases r with
        | false =>
          go_wp2_with fail
          refine cK.mono ?_
          rintro e w2 ⟨rfl, hS2⟩
          have hfin := svF_fail HST.out HTR.out
          have HFN : Hid (svK g first (f + 1) i s = t) := by show _ = _; rw [HNW.out, hfin, if_neg (by rw [HTR.out]; decide)]
          have HS2 := hidG hS2
          clear cK hS2 hfin
          go_wp2_with fail
          go_ret
          exact ⟨congrArg (fun b => Ending.returned (.bool b)) (show false = (svK g first (f + 1) i s).ok by rw [HFN.out, HTR.out]), by rw [HFN.out]; exact HS2.out⟩
        | true =>
          go_wp2_with fail
          refine cK.mono ?_
          rintro e w2 ⟨rfl, hS2⟩
          have HS2 : Hid (SvAt P0 B Ps first ((n.kids.take (j + 1)).foldl (svF g first f) s1) w2) := by show SvAt _ _ _ _ _ _; rw [HST.out]; exact hS2
          have HK2 : Hid (((n.kids.take (j + 1)).foldl (svF g first f) s1).ok = true) := by show _ = _; rw [HST.out]; exact HTR.out
          clear cK hS2
          go_wp2_with fail
          go_roundw
          case rel => exact ⟨j + 1, by go_num, hlt, HS2, HK2⟩
          case measure => simp [intOf]; omega
      · have hge : ¬ (j : Int) < (n.kids.length : Int) := by omega
        obtain rfl : j = n.kids.length := by omega
        have hIt := (HF.out n.kids.length).1
        have hpre := (HF.out n.kids.length).2
        obtain ⟨t, ht⟩ : ∃ t, n.kids.foldl (svF g first f) s1 = t := ⟨_, rfl⟩
        have hR := HR.out
        have hK := HK.out
        rw [List.take_length, ht] at hIt hpre hR hK
        have hml : s.met.length < t.over.length := by
          have h1 := hpre.length_le
          rw [← HS1.out] at h1
          have h2 := hIt.len
          simp only [List.length_append, List.length_singleton] at h1
          omega
        have htl := HLN.out t hIt
        have hnw := HNW.out
        rw [ht, if_pos hK] at hnw
        obtain ⟨oa2, oc2, _, q3, _, _, hO2⟩ := hR.cells
        obtain ⟨g0, rfl, _, d0, d1⟩ := row_bool hO2 hml
        have HFN := hidG hnw
        have HSF : Hid (SvAt P0 B Ps first (svK g first (f + 1) i s) (wr.setCell ⟨g0, s.met.length, none⟩ (.bool true))) := by
          show SvAt _ _ _ _ _ _
          rw [hnw]
          exact hR.over_ q3 rfl s.met.length
        have HKO : Hid ((svK g first (f + 1) i s).ok = true) := by show _ = _; rw [hnw]; exact hK
        have hmlI : (s.met.length : Int) < (t.over.length : Int) := by omega
        have htI : (t.over.length : Int) ≤ 1048576 := by have := hIt.len; omega
        clear hIt hpre ht hR hK hml htl hnw hO2 HR HK HFN
        go_wp2_with fail
        go_ret
        exact ⟨congrArg (fun b => Ending.returned (.bool b)) (show true = (svK g first (f + 1) i s).ok from HKO.out.symm), HSF.out⟩
theorem kn_all {P0 : World} {B first : Nat} {Ps : List Nat} {g : Gr} {kn rt : Value} (hW : WebAt P0 g Ps kn rt) (hk : ∀ i, ∀ k ∈ kidsOf g i, 0 ≤ k ∧ k < (g.nodes.length : Int)) (hlen : g.nodes.length ≤ 3000) (hkl : ∀ n ∈ g.nodes, n.kids.length ≤ 1048576) : ∀ f, KnC P0 B first Ps g f
  | 0 => fun _ _ _ _ _ hz _ => absurd hz (Nat.not_lt_zero _)
  | f + 1 => kn_step hW hk hlen hkl (kn_all hW hk hlen hkl f)
end Go.Proofs.Ytgaibajkegfpoaa
