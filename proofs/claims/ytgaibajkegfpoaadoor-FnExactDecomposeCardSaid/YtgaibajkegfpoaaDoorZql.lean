/- Several texts in one: Gvl Gvn. -/
import Derived.Test.YtgaibajkegfpoaaDoorZqi
/- The program's survey: a knot is gone through. -/
namespace Go.Proofs.YtgaibajkegfpoaaDoor
open Go.ChangeShapes Go.WideShapes Go.ChangeAt Go.RowKit Go.Deep
theorem svF_ok {g : Gr} {first f : Nat} {t : Sv} (h : t.ok = true) (k : Int) : svF g first f t k = svK g first f k.toNat t := by unfold svF; rw [if_pos h]
/-- What is promised of survey.knot, with so much fuel. -/
def KnC (P0 : World) (B first : Nat) (Ps : List Nat) (g : Gr) (f : Nat) : Prop := ∀ (i : Nat) (s : Sv) (w : World), SvAt P0 B Ps first s w → SvI g s → unmet g.nodes.length s.met < f → i < g.nodes.length →
  Calls Tryd.prog 44 #[.pointer (some ⟨B, 0, none⟩), .pointer (some ⟨blk Ps (i : Int), 0, none⟩)] w fun e w' => e = .returned (.bool (svK g first f i s).ok) ∧ SvAt P0 B Ps first (svK g first f i s) w'
theorem row_bool {w : World} {lo : Nat} {oa : Option Addr} {n oc : Nat} {l : List Bool} (h : w.ownsRow lo 4 1 (.slice oa n oc) l.length (blV l)) {i : Nat} (hi : i < l.length) : ∃ g, oa = some ⟨g, 0, none⟩ ∧ n = l.length ∧ w.cell? ⟨g, i, none⟩ = some (.bool (l.getD i false)) ∧ w.frozen? ⟨g, i, none⟩ = false := by
  rcases h.2 with ⟨_, e⟩ | ⟨g, cap, cur, e1, _⟩
  · omega
  · injection e1 with e1 e2 e3
    subst e1
    subst e2
    subst e3
    refine ⟨g, rfl, rfl, ?_, h.frozenAt i⟩
    rw [h.cellAt i (by omega)]
    unfold blV
    rw [List.getElem?_map, List.getElem?_eq_getElem hi]
    simp [List.getD, List.getElem?_eq_getElem hi]
set_option maxHeartbeats 8000000 in
set_option maxRecDepth 100000 in
theorem kn_step {P0 : World} {B first : Nat} {Ps : List Nat} {g : Gr} {kn rt : Value} (hW : WebAt P0 g Ps kn rt) (hk : ∀ i, ∀ k ∈ kidsOf g i, 0 ≤ k ∧ k < (g.nodes.length : Int)) (hlen : g.nodes.length ≤ 3000) (hkl : ∀ n ∈ g.nodes, n.kids.length ≤ 1048576) {f : Nat} (IH : KnC P0 B first Ps g f) : KnC P0 B first Ps g (f + 1) := by
  intro i s w hS hI hz hi
  have hip : i < Ps.length := by rw [hW.len]; exact hi
  have hrp : ∀ j ∈ s.met, j < Ps.length := fun j hj => by rw [hW.len]; exact hI.rng j hj
  have hWw : WebAt w g Ps kn rt := hW.later hS.below
  have hLm : ∀ x ∈ bks Ps s.met, Live w x := fun x hx => by
    unfold bks at hx
    obtain ⟨j, hj, rfl⟩ := List.mem_map.1 hx
    exact hWw.live (blk_mem (hrp j hj))
  have hLb : Live w (blk Ps (i : Int)) := hWw.live (blk_mem hip)
  have hml : s.met.length ≤ 3000 := by have := hI.room; omega
  obtain ⟨oa, oc, hT, hO⟩ := hS.tr
  by_cases hm : i ∈ s.met
  · have cM := meet_old B 75 _ _ _ (blk Ps (i : Int)) w hT hLm ((bks_mem hW.nd hrp hip).2 hm)
    rw [bks_ix hW.nd hip hrp] at cM
    have hil := ix_lt hm
    have hIO : ix i s.met < s.over.length := by rw [hI.len]; exact hil
    obtain ⟨oa2, oc2, q2, q3, _, _, hO2⟩ := hS.cells
    obtain ⟨g0, rfl, _, d0, _⟩ := row_bool hO2 hIO
    have HO := hidG (svK_old (g := g) (first := first) (f := f) hm)
    have HF : Hid (SvAt P0 B Ps first (svK g first (f + 1) i s) w) := hS.ok (by rw [HO.out]) (by rw [HO.out])
    obtain ⟨v, hv⟩ : ∃ v, s.over.getD (ix i s.met) false = v := ⟨_, rfl⟩
    rw [hv] at d0
    obtain ⟨n, hn⟩ : ∃ n, ix i s.met = n := ⟨_, rfl⟩
    rw [hn] at cM d0 hil hIO hv
    have HOK : Hid ((svK g first (f + 1) i s).ok = (decide (first ≤ n) && v)) := by show _ = _; rw [HO.out, hn]; show (decide (first ≤ n) && s.over.getD n false) = _; rw [hv]
    have hnI : (n : Int) < (s.over.length : Int) := by omega
    have hn3 : (n : Int) ≤ 1048576 := by omega
    by_cases hf : first ≤ n
    · have hfI : (first : Int) ≤ (n : Int) := by omega
      have HR : Hid ((svK g first (f + 1) i s).ok = v) := by show _ = _; rw [HOK.out, decide_eq_true hf]; rfl
      clear hS hI hz hi hip hrp hWw hLm hLb hT hO hm hil hIO hO2 hv hn hf IH HOK HO
      go_enter Tryd.func44, Tryd.ntmps44
      go_wp2_with fail
      refine cM.mono ?_
      rintro e w1 ⟨rfl, rfl⟩
      clear cM
      cases v
      all_goals
        go_wp2_with fail
        go_ret
        exact ⟨congrArg (fun b => Ending.returned (.bool b)) HR.out.symm, HF.out⟩
    · have hfI : ¬ (first : Int) ≤ (n : Int) := by omega
      have HR : Hid ((svK g first (f + 1) i s).ok = false) := by show _ = _; rw [HOK.out, decide_eq_false hf]; rfl
      clear hS hI hz hi hip hrp hWw hLm hLb hT hO hm hil hIO hO2 hv hn hf IH HOK HO
      go_enter Tryd.func44, Tryd.ntmps44
      go_wp2_with fail
      refine cM.mono ?_
      rintro e w1 ⟨rfl, rfl⟩
      clear cM
      go_wp2_with fail
      go_ret
      exact ⟨congrArg (fun b => Ending.returned (.bool b)) HR.out.symm, HF.out⟩
  · have hnb : blk Ps (i : Int) ∉ bks Ps s.met := fun h => hm ((bks_mem hW.nd hrp hip).1 h)
    have cM := meet_new B 75 _ _ _ (blk Ps (i : Int)) w hT hLm hLb hnb (by decide) hS.lo (by rw [bks_len]; omega)
    rw [bks_len] at cM
    obtain ⟨n, hx⟩ : ∃ n, g.nodes[i]? = some n := ⟨_, List.getElem?_eq_getElem hi⟩
    have hkn := kids_at hx
    have hkk := hk i
    rw [hkn] at hkk
    have hkl' : n.kids.length ≤ 1048576 := hkl n (List.mem_of_getElem? hx)
    obtain ⟨kv, hkb, hkv⟩ := hW.knot i n hx
    obtain ⟨ka, kc, rfl⟩ := hkv.sl
    rw [List.length_map] at hkb hkv
    obtain ⟨bi, hbi⟩ : ∃ bi, blk Ps (i : Int) = bi := ⟨_, rfl⟩
    have hbiP : bi < P0.heap.size := by rw [← hbi]; exact (Array.getElem?_eq_some_iff.1 hkb).1
    rw [hbi] at cM hkb ⊢
    have HIE := hI.enter hi hm
    have hnw0 := svK_new (g := g) (first := first) (f := f) hm
    rw [hkn] at hnw0
    obtain ⟨s1, hs1⟩ : ∃ s1 : Sv, (⟨s.met ++ [i], s.over ++ [false], true⟩ : Sv) = s1 := ⟨_, rfl⟩
    rw [hs1] at HIE hnw0
    have HS1 := hidG hs1
    have hum : unmet g.nodes.length s1.met < f := by rw [← hs1]; have := unmet_new (l := s.met) hi hm; show unmet _ (s.met ++ [i]) < f; omega
    have HF : Hid (∀ j, SvI g ((n.kids.take j).foldl (svF g first f) s1) ∧ s1.met <+: ((n.kids.take j).foldl (svF g first f) s1).met) := fun j => svF_fold hk first f (n.kids.take j) s1 (fun x hx => hkk x (List.mem_of_mem_take hx)) HIE
    have HU : Hid (∀ j, unmet g.nodes.length ((n.kids.take j).foldl (svF g first f) s1).met < f) := fun j => Nat.lt_of_le_of_lt (unmet_pre (HF.out j).2) hum
    have HKR : Hid (∀ x ∈ n.kids, 0 ≤ x ∧ x < (g.nodes.length : Int)) := hkk
    have HNW := hidG hnw0
    have HIH := hidG IH
    have HW := hidG hW
    have HPL : Hid (PlAt P0 (.slice ka n.kids.length kc) (n.kids.map (blk Ps))) := hkv
    have HKB : Hid (P0.heap[bi]? = some (.cells (knV n (.slice ka n.kids.length kc)) 80 (0, 0))) := hkb
    have HLO := hidG hS.lo
    have HBP : Hid (Below P0.heap.size P0 w) := hS.below
    have HT := hidG hT
    have HOR := hidG hO
    have HOL : Hid (s.over.length = s.met.length) := hI.len
    have HMI : Hid (s.met.length ≤ 3000) := hml
    have HBI : Hid (blk Ps (i : Int) = bi) := hbi
    have HLN : Hid (∀ t, SvI g t → t.met.length ≤ 3000) := fun t ht => by have := ht.room; omega
    have hkI : (n.kids.length : Int) ≤ 1048576 := by omega
    clear hS hI hz hi hip hrp hWw hLm hLb hT hO hm hnb hx hkn hkk hkb hkv hbi hum hW hk hkl IH hs1 hml hkl' HIE hnw0
    go_enter Tryd.func44, Tryd.ntmps44
    go_wp2_with fail
    refine cM.mono ?_
    rintro e w1 ⟨rfl, hT1, hb1, hk1⟩
    have hbp1 : Below P0.heap.size P0 w1 := HBP.out.trans hb1
    obtain ⟨_, _, _, _, g1, _⟩ := hT1.ex
    obtain ⟨_, _, _, _, g0, _⟩ := HT.out.ex
    have hO1 : w1.ownsRow P0.heap.size 4 1 (.slice oa s.over.length oc) s.over.length (blV s.over) := hk1.row HOR.out (by decide) (row_apart HOR.out g0 (by decide))
    have q3 := sv_3 g1
    obtain ⟨v5, w5, hrun5, hsl5, hown5, hbel5, hot5, hid5⟩ := push_own2 (P := Tryd.prog) Tryd.underlying41 infoBo rfl (by decide) w1 P0.heap.size _ _ _ hO1 #[.bool false] rfl (by intro u hu; simp at hu; subst hu; rfl) (by have h1 := HOL.out; have h2 := HMI.out; omega) (by omega) hbp1.size 41
    obtain ⟨a5, n5, c5, rfl⟩ := hsl5
    have hn5 : n5 = s.over.length + 1 := by
      rcases hown5.2 with ⟨e1, e2⟩ | ⟨gb, cap, cur, e1, _⟩
      · injection e1 with _ e1 _; omega
      · injection e1
    subst hn5
    have hB1 := hT1.lt
    have k5 : w5.heap[B]? = w1.heap[B]? := hot5 B hB1 (row_apart hO1 g1 (by decide))
    have q5 := sv_3 (k5.trans g1)
    have f5 := sv_f (k5.trans g1) 3
    have hT1' : TrAt B 75 [.int .i64 (first : Int), .slice oa s.over.length oc] P0.heap.size (bks Ps (⟨s.met ++ [i], s.over, true⟩ : Sv).met) w1 := by
      show TrAt _ _ _ _ (bks Ps (s.met ++ [i])) _
      rw [bks_snoc, HBI.out]
      exact hT1
    have HS5 : Hid (SvAt P0 B Ps first s1 (w5.setCell ⟨B, 3, none⟩ (.slice a5 (s.over.length + 1) c5))) := by
      show SvAt _ _ _ _ _ _
      rw [← HS1.out]
      exact SvAt.mark (s := ⟨s.met ++ [i], s.over, true⟩) hT1' HLO.out hbp1 hO1 hown5 hbel5 hot5
    have hbp5 : Below P0.heap.size P0 w5 := hbp1.trans hbel5
    have kb5 := (hbp5.block bi hbiP).trans HKB.out
    have kk5 : w5.cell? ⟨bi, 3, none⟩ = some (.slice ka n.kids.length kc) := by simp [World.cell?, kb5, knV]
    have hneB : bi ≠ B := by have := HLO.out; omega
    have HOK1 : Hid (s1.ok = true) := by show _ = _; rw [← HS1.out]
    clear cM hT1 hb1 hk1 hbp1 g1 g0 hO1 hown5 hbel5 hot5 hid5 hB1 k5 hT1' hbp5 kb5
    go_wp2_with (at_builtin; refine append_run rfl _ _ 41 rfl _ _ rfl rfl _ w5 hrun5 ?_)
    go_loopw [48] (fun iv wr => ∃ j : Nat, iv = .int .i64 j ∧ j ≤ n.kids.length ∧ Hid (SvAt P0 B Ps first ((n.kids.take j).foldl (svF g first f) s1) wr) ∧ Hid (((n.kids.take j).foldl (svF g first f) s1).ok = true)) (fun iv _ => n.kids.length - (intOf iv).toNat)
    case atStart => exact ⟨0, rfl, Nat.zero_le _, HS5, HOK1⟩
    case round =>
      obtain ⟨j, rfl, hj, HR, HK⟩ := hrel
      clear HS5
      by_cases hlt : j < n.kids.length
      · have hltI : (j : Int) < (n.kids.length : Int) := by omega
        obtain ⟨x, hx⟩ : ∃ x, n.kids[j]? = some x := ⟨_, List.getElem?_eq_getElem hlt⟩
        have hpx : (n.kids.map (blk Ps))[j]? = some (blk Ps x) := by rw [List.getElem?_map, hx]; rfl
        have hPL := HPL.out
        rw [← List.length_map (f := blk Ps)] at hPL
        obtain ⟨b, o, rfl, hbl, d⟩ := hPL.at hpx
        rw [← HR.out.below.cell hbl] at d
        have hx0 := HKR.out x (List.mem_of_getElem? hx)
        obtain ⟨m, rfl⟩ := Int.eq_ofNat_of_zero_le hx0.1
        have hm : m < g.nodes.length := by omega
        have cK := HIH.out m _ wr HR.out (HF.out j).1 (HU.out j) hm
        have hst := svF_take (g := g) (first := first) (f := f) hx s1
        rw [show svF g first f ((n.kids.take j).foldl (svF g first f) s1) (m : Int) = svK g first f m ((n.kids.take j).foldl (svF g first f) s1) from svF_ok HK.out (m : Int)] at hst
        obtain ⟨t, ht⟩ : ∃ t, svK g first f m ((n.kids.take j).foldl (svF g first f) s1) = t := ⟨_, rfl⟩
        rw [ht] at cK hst
        obtain ⟨r, hr⟩ : ∃ r, t.ok = r := ⟨_, rfl⟩
        rw [hr] at cK
        have HST := hidG hst
        have HTR := hidG hr
        unfold ptr at d
        clear hx hpx hPL hbl hx0 hm ht hst hr HR
        cases r with
        | false =>
          go_wp2_with fail
          refine cK.mono ?_
          rintro e w2 ⟨rfl, hS2⟩
          have hfin := svF_fail HST.out HTR.out
          have HFN : Hid (svK g first (f + 1) i s = t) := by show _ = _; rw [HNW.out, hfin, if_neg (by rw [HTR.out]; decide)]
          have HS2 := hidG hS2
          clear cK hS2 hfin
          go_wp2_with fail
          go_ret
          exact ⟨congrArg (fun b => Ending.returned (.bool b)) (show false = (svK g first (f + 1) i s).ok by rw [HFN.out, HTR.out]), by rw [HFN.out]; exact HS2.out⟩
        | true =>
          go_wp2_with fail
          refine cK.mono ?_
          rintro e w2 ⟨rfl, hS2⟩
          have HS2 : Hid (SvAt P0 B Ps first ((n.kids.take (j + 1)).foldl (svF g first f) s1) w2) := by show SvAt _ _ _ _ _ _; rw [HST.out]; exact hS2
          have HK2 : Hid (((n.kids.take (j + 1)).foldl (svF g first f) s1).ok = true) := by show _ = _; rw [HST.out]; exact HTR.out
          clear cK hS2
          go_wp2_with fail
          go_roundw
          case rel => exact ⟨j + 1, by go_num, hlt, HS2, HK2⟩
          case measure => simp [intOf]; omega
      · have hge : ¬ (j : Int) < (n.kids.length : Int) := by omega
        obtain rfl : j = n.kids.length := by omega
        have hIt := (HF.out n.kids.length).1
        have hpre := (HF.out n.kids.length).2
        obtain ⟨t, ht⟩ : ∃ t, n.kids.foldl (svF g first f) s1 = t := ⟨_, rfl⟩
        have hR := HR.out
        have hK := HK.out
        rw [List.take_length, ht] at hIt hpre hR hK
        have hml : s.met.length < t.over.length := by
          have h1 := hpre.length_le
          rw [← HS1.out] at h1
          have h2 := hIt.len
          simp only [List.length_append, List.length_singleton] at h1
          omega
        have htl := HLN.out t hIt
        have hnw := HNW.out
        rw [ht, if_pos hK] at hnw
        obtain ⟨oa2, oc2, _, q3, _, _, hO2⟩ := hR.cells
        obtain ⟨g0, rfl, _, d0, d1⟩ := row_bool hO2 hml
        have HFN := hidG hnw
        have HSF : Hid (SvAt P0 B Ps first (svK g first (f + 1) i s) (wr.setCell ⟨g0, s.met.length, none⟩ (.bool true))) := by
          show SvAt _ _ _ _ _ _
          rw [hnw]
          exact hR.over_ q3 rfl s.met.length
        have HKO : Hid ((svK g first (f + 1) i s).ok = true) := by show _ = _; rw [hnw]; exact hK
        have hmlI : (s.met.length : Int) < (t.over.length : Int) := by omega
        have htI : (t.over.length : Int) ≤ 1048576 := by have := hIt.len; omega
        clear hIt hpre ht hR hK hml htl hnw hO2 HR HK HFN
        go_wp2_with fail
        go_ret
        exact ⟨congrArg (fun b => Ending.returned (.bool b)) (show true = (svK g first (f + 1) i s).ok from HKO.out.symm), HSF.out⟩
theorem kn_all {P0 : World} {B first : Nat} {Ps : List Nat} {g : Gr} {kn rt : Value} (hW : WebAt P0 g Ps kn rt) (hk : ∀ i, ∀ k ∈ kidsOf g i, 0 ≤ k ∧ k < (g.nodes.length : Int)) (hlen : g.nodes.length ≤ 3000) (hkl : ∀ n ∈ g.nodes, n.kids.length ≤ 1048576) : ∀ f, KnC P0 B first Ps g f
  | 0 => fun _ _ _ _ _ hz _ => absurd hz (Nat.not_lt_zero _)
  | f + 1 => kn_step hW hk hlen hkl (kn_all hW hk hlen hkl f)
end Go.Proofs.YtgaibajkegfpoaaDoor
/- The program's survey: all roots; two lists of knots are the same. -/
namespace Go.Proofs.YtgaibajkegfpoaaDoor
open Go.ChangeShapes Go.WideShapes Go.ChangeAt Go.RowKit Go.Deep
theorem SvAt.met_ {P0 w : World} {B first : Nat} {Ps : List Nat} {s : Sv} (h : SvAt P0 B Ps first s w) : ∃ (ma : Option Addr) (mc : Nat), w.cell? ⟨B, 1, none⟩ = some (.slice ma s.met.length mc) ∧ PlAt w (.slice ma s.met.length mc) (bks Ps s.met) := by
  obtain ⟨oa, oc, h1, h2⟩ := h.tr
  obtain ⟨nv, ma, mn, mc, h3, h4, _⟩ := h1.ex
  have hmn : mn = s.met.length := by
    have hl := bks_len Ps s.met
    rcases h4.2 with ⟨e1, e2⟩ | ⟨gb, cap, cur, e1, _⟩
    · injection e1 with _ e1 _; omega
    · injection e1 with _ e1 _; omega
  subst hmn
  exact ⟨ma, mc, tr_1 h3, pl_of_own h4⟩
set_option maxHeartbeats 8000000 in
set_option maxRecDepth 100000 in
theorem roots_any {P0 : World} {B : Nat} {Ps : List Nat} {g : Gr} {kn rt : Value} (hW : WebAt P0 g Ps kn rt) (hk : ∀ i, ∀ k ∈ kidsOf g i, 0 ≤ k ∧ k < (g.nodes.length : Int)) (hr : ∀ k ∈ g.roots, 0 ≤ k ∧ k < (g.nodes.length : Int)) (hlen : g.nodes.length ≤ 3000) (hrl : g.roots.length ≤ 1048576) (hkl : ∀ n ∈ g.nodes, n.kids.length ≤ 1048576) (w : World) (first : Nat) (s : Sv) (hS : SvAt P0 B Ps first s w) (hI : SvI g s) (hok : s.ok = true) :
    Calls Tryd.prog 36 #[.pointer (some ⟨B, 0, none⟩), rt] w fun e w' => e = .returned (.bool (g.roots.foldl (svR g (g.nodes.length + 1)) s).ok) ∧ ∃ f2, SvAt P0 B Ps f2 (g.roots.foldl (svR g (g.nodes.length + 1)) s) w' := by
  obtain ⟨ra, rc, rfl⟩ := hW.roots.sl
  have HPL : Hid (PlAt P0 (.slice ra (g.roots.map (blk Ps)).length rc) (g.roots.map (blk Ps))) := hW.roots
  rw [List.length_map] at hW ⊢
  have HIS : Hid (∀ j, SvI g ((g.roots.take j).foldl (svR g (g.nodes.length + 1)) s)) := fun j => svR_inv hk _ _ s (fun x hx => hr x (List.mem_of_mem_take hx)) hI
  have HML : Hid (∀ t, SvI g t → t.met.length ≤ 3000 ∧ unmet g.nodes.length t.met < g.nodes.length + 1) := fun t ht => by have := ht.room; omega
  have HKC : Hid (∀ first, KnC P0 B first Ps g (g.nodes.length + 1)) := fun first => kn_all hW hk hlen hkl _
  have HKR := hidG hr
  have HS := hidG hS
  have HOK := hidG hok
  have hrI : (g.roots.length : Int) ≤ 1048576 := by omega
  clear hW hk hr hlen hkl hS hI hok hrl
  go_enter Tryd.func36, Tryd.ntmps36
  go_wp2_with fail
  go_loopw [9] (fun iv wr => ∃ j : Nat, iv = .int .i64 j ∧ j ≤ g.roots.length ∧ Hid (∃ f2, SvAt P0 B Ps f2 ((g.roots.take j).foldl (svR g (g.nodes.length + 1)) s) wr) ∧ Hid (((g.roots.take j).foldl (svR g (g.nodes.length + 1)) s).ok = true)) (fun iv _ => g.roots.length - (intOf iv).toNat)
  case atStart => exact ⟨0, rfl, Nat.zero_le _, ⟨first, HS.out⟩, HOK⟩
  case round =>
    obtain ⟨j, rfl, hj, HR, HK⟩ := hrel
    clear HS HOK
    obtain ⟨f2, hR⟩ := HR.out
    by_cases hlt : j < g.roots.length
    · have hltI : (j : Int) < (g.roots.length : Int) := by omega
      obtain ⟨x, hx⟩ : ∃ x, g.roots[j]? = some x := ⟨_, List.getElem?_eq_getElem hlt⟩
      have hpx : (g.roots.map (blk Ps))[j]? = some (blk Ps x) := by rw [List.getElem?_map, hx]; rfl
      obtain ⟨b, o, hab, hbl, d⟩ := HPL.out.at hpx
      subst hab
      rw [← hR.below.cell hbl] at d
      have hx0 := HKR.out x (List.mem_of_getElem? hx)
      obtain ⟨m, rfl⟩ := Int.eq_ofNat_of_zero_le hx0.1
      have hm : m < g.nodes.length := by omega
      have hst := svR_take (g := g) (f := g.nodes.length + 1) hx s
      have hIj := HIS.out j
      have hok := HK.out
      obtain ⟨t, ht⟩ : ∃ t, (g.roots.take j).foldl (svR g (g.nodes.length + 1)) s = t := ⟨_, rfl⟩
      rw [ht] at hR hst hIj hok
      obtain ⟨hml, hum⟩ := HML.out t hIj
      rw [show svR g (g.nodes.length + 1) t (m : Int) = svK g t.met.length (g.nodes.length + 1) m t by unfold svR; rw [if_pos hok]; rfl] at hst
      obtain ⟨ma, mc, q1, _⟩ := hR.met_
      obtain ⟨_, _, q2, _, qf, _⟩ := hR.cells
      have hR2 := hR.first_ t.met.length
      have cK := HKC.out t.met.length m t _ hR2 hIj hum hm
      obtain ⟨u, hu⟩ : ∃ u, svK g t.met.length (g.nodes.length + 1) m t = u := ⟨_, rfl⟩
      rw [hu] at cK hst
      obtain ⟨r, hr⟩ : ∃ r, u.ok = r := ⟨_, rfl⟩
      rw [hr] at cK
      have HST := hidG hst
      have HTR := hidG hr
      have HF : Hid (∀ w2, SvAt P0 B Ps t.met.length u w2 → ∃ f2, SvAt P0 B Ps f2 ((g.roots.take (j + 1)).foldl (svR g (g.nodes.length + 1)) s) w2) := fun w2 h => ⟨_, by rw [hst]; exact h⟩
      unfold ptr at d
      have hmI : (t.met.length : Int) ≤ 1048576 := by omega
      clear hx hpx hbl hx0 hm ht hst hr HR HK hIj hok hR hR2 hum hu hml
      cases r with
      | false =>
        go_wp2_with fail
        refine cK.mono ?_
        rintro e w2 ⟨rfl, hS2⟩
        have hfin := svR_fail HST.out HTR.out
        have HFN := hidG hfin
        have HS2 : Hid (∃ f2, SvAt P0 B Ps f2 (g.roots.foldl (svR g (g.nodes.length + 1)) s) w2) := ⟨_, by rw [hfin]; exact hS2⟩
        clear cK hS2 hfin
        go_wp2_with fail
        go_ret
        exact ⟨congrArg (fun b => Ending.returned (.bool b)) (show false = (g.roots.foldl (svR g (g.nodes.length + 1)) s).ok by rw [HFN.out, HTR.out]), HS2.out⟩
      | true =>
        go_wp2_with fail
        refine cK.mono ?_
        rintro e w2 ⟨rfl, hS2⟩
        have HS2 : Hid (∃ f2, SvAt P0 B Ps f2 ((g.roots.take (j + 1)).foldl (svR g (g.nodes.length + 1)) s) w2) := HF.out w2 hS2
        have HK2 : Hid (((g.roots.take (j + 1)).foldl (svR g (g.nodes.length + 1)) s).ok = true) := by show _ = _; rw [HST.out]; exact HTR.out
        clear cK hS2
        go_wp2_with fail
        go_roundw
        case rel => exact ⟨j + 1, by go_num, hlt, HS2, HK2⟩
        case measure => simp [intOf]; omega
    · have hge : ¬ (j : Int) < (g.roots.length : Int) := by omega
      obtain rfl : j = g.roots.length := by omega
      have HKF : Hid ((g.roots.foldl (svR g (g.nodes.length + 1)) s).ok = true) := by
        have := HK.out
        rw [List.take_length] at this
        exact this
      have HSF : Hid (∃ f2, SvAt P0 B Ps f2 (g.roots.foldl (svR g (g.nodes.length + 1)) s) wr) := by
        have := HR.out
        rw [List.take_length] at this
        exact this
      clear HR HK hR
      go_wp2_with fail
      go_ret
      exact ⟨congrArg (fun b => Ending.returned (.bool b)) (show true = (g.roots.foldl (svR g (g.nodes.length + 1)) s).ok from HKF.out.symm), HSF.out⟩
set_option maxHeartbeats 8000000 in
set_option maxRecDepth 100000 in
theorem eqK_any (w : World) (v1 v2 : Value) (l1 l2 : List Nat) (h1 : PlAt w v1 l1) (h2 : PlAt w v2 l2) (hL1 : ∀ x ∈ l1, Live w x) (hL2 : ∀ x ∈ l2, Live w x) (hl1 : l1.length ≤ 1048576) (hl2 : l2.length ≤ 1048576) (r : Bool) (hr : decide (l1 = l2) = r) :
    Calls Tryd.prog 37 #[v1, v2] w fun e w' => e = .returned (.bool r) ∧ Below w.heap.size w w' := by
  obtain ⟨a1, c1, rfl⟩ := h1.sl
  obtain ⟨a2, c2, rfl⟩ := h2.sl
  have hI1 : (l1.length : Int) ≤ 1048576 := by omega
  have hI2 : (l2.length : Int) ≤ 1048576 := by omega
  by_cases hll : l1.length = l2.length
  case neg =>
    have hne : ((l1.length : Int) != (l2.length : Int)) = true := by rw [bne_iff_ne]; omega
    obtain rfl : false = r := by rw [← hr]; exact (decide_eq_false (fun e => hll (by rw [e]))).symm
    have HB := hidG (Below.refl w.heap.size w)
    clear h1 h2 hL1 hL2 hll hr hl1 hl2
    go_enter Tryd.func37, Tryd.ntmps37
    go_wp2_with fail
    go_ret
    exact ⟨rfl, HB.out⟩
  have heq : ((l1.length : Int) != (l2.length : Int)) = false := by rw [hll]; simp
  obtain ⟨ti, hti, hsz⟩ := infoKi
  have H1 := hidG h1
  have H2 := hidG h2
  have HL1 := hidG hL1
  have HL2 := hidG hL2
  have HLL := hidG hll
  have HR := hidG hr
  have HTI : Hid (Tryd.prog.info? 80 = some ti ∧ ti.size ≠ 0) := ⟨hti, hsz⟩
  rw [← hll] at heq
  clear h1 h2 hL1 hL2 hll hr hl1 hl2 hti hsz
  have hle : l2.length = l1.length := HLL.out.symm
  rw [hle] at H2 ⊢
  go_enter Tryd.func37, Tryd.ntmps37
  go_wp2_with fail
  go_loopw [13] (fun iv wr => ∃ k : Nat, iv = .int .i64 k ∧ k ≤ l1.length ∧ Hid (∀ i, i < k → l1[i]? = l2[i]?) ∧ Hid (Below w.heap.size w wr)) (fun iv _ => l1.length - (intOf iv).toNat)
  case atStart => exact ⟨0, rfl, Nat.zero_le _, fun i h => absurd h (Nat.not_lt_zero _), Below.refl _ _⟩
  case round =>
    obtain ⟨k, rfl, hk, HE, HB⟩ := hrel
    by_cases hlt : k < l1.length
    · have hltI : (k : Int) < (l1.length : Int) := by omega
      obtain ⟨x, hx⟩ : ∃ x, l1[k]? = some x := ⟨_, List.getElem?_eq_getElem hlt⟩
      obtain ⟨y, hy⟩ : ∃ y, l2[k]? = some y := ⟨_, List.getElem?_eq_getElem (by rw [hle]; exact hlt)⟩
      obtain ⟨b1, o1, rfl, hb1, d1⟩ := H1.out.at hx
      have H2' := H2.out
      rw [← hle] at H2'
      obtain ⟨b2, o2, rfl, hb2, d2⟩ := H2'.at hy
      rw [← HB.out.cell hb1] at d1
      rw [← HB.out.cell hb2] at d2
      have lx : Live wr.drew x := by
        obtain ⟨cs, t, h⟩ := HL1.out x (List.mem_of_getElem? hx)
        exact ⟨cs, t, (HB.out.block _ (Array.getElem?_eq_some_iff.1 h).1).trans h⟩
      have ly : Live wr.drew y := by
        obtain ⟨cs, t, h⟩ := HL2.out y (List.mem_of_getElem? hy)
        exact ⟨cs, t, (HB.out.block _ (Array.getElem?_eq_some_iff.1 h).1).trans h⟩
      have hq := ptr_neq (P := Tryd.prog) (w := wr.drew) Tryd.underlying78 HTI.out.1 HTI.out.2 lx ly
      unfold ptr at d1 d2 hq
      by_cases hxy : x = y
      · rw [decide_eq_true hxy] at hq
        have HE2 : Hid (∀ i, i < k + 1 → l1[i]? = l2[i]?) := fun i hi => by
          by_cases e : i = k
          · subst e
            rw [hx, hy, hxy]
          · exact HE.out i (by omega)
        have HB2 : Hid (Below w.heap.size w wr.drew) := HB.out.drew
        clear hx hy hb1 hb2 lx ly hxy H2' HE
        go_wp2_with fail
        go_region
        go_wp2_with fail
        go_roundw
        case rel => exact ⟨k + 1, by go_num, hlt, HE2, HB2⟩
        case measure => simp [intOf]; omega
      · rw [decide_eq_false hxy] at hq
        have HO : Hid (false = r) := by
          show _ = _
          rw [← HR.out]
          refine (decide_eq_false fun e => hxy ?_).symm
          rw [e, hy] at hx
          exact (Option.some.inj hx).symm
        have HB2 : Hid (Below w.heap.size w wr.drew) := HB.out.drew
        clear hx hy hb1 hb2 lx ly hxy H2' HE
        go_wp2_with fail
        go_region
        go_wp2_with fail
        go_ret
        exact ⟨congrArg (fun b => Ending.returned (.bool b)) HO.out, HB2.out⟩
    · have hge : ¬ (k : Int) < (l1.length : Int) := by omega
      have HO : Hid (true = r) := by
        show _ = _
        rw [← HR.out]
        refine (decide_eq_true (List.ext_getElem? fun i => ?_)).symm
        by_cases hi : i < l1.length
        · exact HE.out i (by omega)
        · rw [List.getElem?_eq_none (by omega), List.getElem?_eq_none (by omega)]
      clear HE
      go_wp2_with fail
      go_ret
      exact ⟨congrArg (fun b => Ending.returned (.bool b)) HO.out, HB.out⟩
end Go.Proofs.YtgaibajkegfpoaaDoor
