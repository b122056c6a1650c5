/- spec.l15Tell tells as the plain function does. -/
import Derived.Test.YtgaibajkegfpoaaDoorGtr
import Derived.Lib.SmallJoins
namespace Go.Proofs.YtgaibajkegfpoaaDoor
open Go.ChangeShapes Go.WideShapes Go.ChangeAt Go.RowKit Go.Deep
/-- What is promised of l15Tell, with so much fuel. -/
def LtC (P0 : World) (Sb Tb : Nat) (nv rv : Value) (g : Gr) (F : List Nat) (f : Nat) : Prop := ∀ (i : Nat) (t : Td) (ov : Value) (w : World), TwAt P0 Sb Tb g.nodes.length ((List.range g.nodes.length).map (fun i : Nat => decide ((i : Int) ∈ sharedG g))) t ov w → unmet g.nodes.length t.met < f → i < g.nodes.length → t.out.length ≤ 2 * t.tr.length + 2097200 → (tdK g (sA (sharedG g)) (sA (sharedG g)) f i t).tr <+: F →
  Calls Tryd.prog 17 #[.agg #[nv, rv], .int .i64 (i : Int), .slice (some ⟨Sb, 0, none⟩) g.nodes.length g.nodes.length, .slice (some ⟨Tb, 0, none⟩) g.nodes.length g.nodes.length, ov] w fun e w' => ∃ ov', e = .returned ov' ∧ isSlG ov' ∧ TwAt P0 Sb Tb g.nodes.length ((List.range g.nodes.length).map (fun i : Nat => decide ((i : Int) ∈ sharedG g))) (tdK g (sA (sharedG g)) (sA (sharedG g)) f i t) ov' w' ∧ KeepL w w'
theorem nt_small (n : Int) : (nt n).size ≤ 10 := by
  unfold nt
  split
  · show 0 ≤ 10; omega
  · rename_i h
    have := dec_len n.toNat (by omega)
    simpa [ByteArray.size] using this
theorem sh_get {g : Gr} {i : Nat} (h : i < g.nodes.length) : ((List.range g.nodes.length).map (fun i : Nat => decide ((i : Int) ∈ sharedG g))).getD i false = decide ((i : Int) ∈ sharedG g) := by simp [List.getD, h]
/-- The tail of the walk: the name is known. -/
theorem tlB_x : True := trivial
set_option maxHeartbeats 8000000 in
set_option maxRecDepth 100000 in
theorem lt_step {P0 : World} {Sb Tb : Nat} {nv rv : Value} {g : Gr} {F : List Nat} (hG : GrAt P0 nv rv g) (hok : graphOkP g = true) (hF : F.length ≤ 1048576) (HKL0 : ∀ n ∈ g.nodes, n.kids.length ≤ 1048576) {f : Nat} (IH : LtC P0 Sb Tb nv rv g F f) : LtC P0 Sb Tb nv rv g F (f + 1) := by
  intro i t ov w hS hz hi hb hP
  obtain ⟨h1, hk, _⟩ := ok_parts hok
  obtain ⟨na, nc, rfl⟩ := hG.1.sl
  obtain ⟨ra, rc, rfl⟩ := hG.2.sl
  obtain ⟨oa, on, oc, rfl⟩ : ∃ a n c, ov = .slice a n c := by
    rcases hS.out.2 with ⟨e, _⟩ | ⟨g2, cap, cur, e, _⟩
    · exact ⟨_, _, _, e⟩
    · exact ⟨_, _, _, e⟩
  have HG := hidG hG
  have HS0 := hidG hS
  have HI := hidG hi
  have hiI : (i : Int) < (g.nodes.length : Int) := by omega
  have hnI : (g.nodes.length : Int) ≤ 3000 := by omega
  obtain ⟨V, hV⟩ : ∃ V, w.alloc (.cells #[.slice na g.nodes.length nc, .slice ra g.roots.length rc] 31) = V := ⟨_, rfl⟩
  have hB0 : Below w.heap.size w V := by rw [← hV]; exact al_belowG w _
  have HE : Hid (V.heap[w.heap.size]? = some (.cells #[.slice na g.nodes.length nc, .slice ra g.roots.length rc] 31 (0, 0))) := by show _ = _; rw [← hV]; exact heap_alloc_new w _
  have HVS : Hid (V.heap.size = w.heap.size + 1) := by show _ = _; rw [← hV]; show (w.heap.push _).size = _; simp
  have HV := hidG hV
  have HSV := hidG (hS.stays hB0)
  have HQ : Hid (∀ x, Below V.heap.size V x → x.cell? ⟨w.heap.size, 0, none⟩ = some (.slice na g.nodes.length nc) ∧ x.cell? ⟨w.heap.size, 1, none⟩ = some (.slice ra g.roots.length rc)) := fun x hb => by
    have := (hb.block w.heap.size (by rw [HVS.out]; exact Nat.lt_succ_self _)).trans HE.out
    simp [World.cell?, this]
  have s0 := hS.shAt hi
  have hSb : Sb < w.heap.size := (hS.sh.lt Sb rfl).2
  rw [sh_get hi] at s0
  have HBD : Hid (t.out.length ≤ 5000000) := by
    have h2 := (tdK_g (g := g) (a := sA (sharedG g)) (b := sA (sharedG g)) (f + 1) i t).tr.trans hP
    have := h2.length_le
    show _ ≤ _
    omega
  have HKL : Hid (∀ n ∈ g.nodes, n.kids.length ≤ 1048576) := HKL0
  have HP := hidG hP
  obtain ⟨nm, hnm⟩ : ∃ nm, nmS (sharedG g) i = nm := ⟨_, rfl⟩
  have HNM := hidG hnm
  have cN := spec_nt (i : Int) V
  have hzn := nt_small (i : Int)
  have HOK := hidG hok
  have HKW : Hid (KeepL w V) := KeepL.of hB0
  have HKI := hidG hk
  have HIH := hidG IH
  have HZ0 := hidG hz
  have HBT := hidG hb
  have HFL := hidG hF
  clear hS hG hV hB0 hnm hP hz hb hk IH hok hF HKL0
  go_enter Tryd.func17, Tryd.ntmps17
  go_upto_if 18 with fail
  rw [HV.out]
  clear hSb s0
  go_cut [11] (fun nv wx => nv = .string nm ∧ Hid (TwAt P0 Sb Tb g.nodes.length ((List.range g.nodes.length).map (fun i : Nat => decide ((i : Int) ∈ sharedG g))) t (.slice oa on oc) wx ∧ Below V.heap.size V wx))
  case first =>
    cases hs : decide ((i : Int) ∈ sharedG g) with
    | false =>
      have hnm : nm = ⟨#[]⟩ := by rw [← HNM.out]; unfold nmS; rw [if_neg (of_decide_eq_false hs)]
      subst hnm
      clear hs cN
      go_wp2_with fail
      go_meet
      exact ⟨rfl, HSV.out, Below.refl _ _⟩
    | true =>
      have hnm : ⟨#[110]⟩ ++ nt (i : Int) = nm := by rw [← HNM.out]; unfold nmS; rw [if_pos (of_decide_eq_true hs)]; rfl
      clear hs
      go_wp2_with fail
      refine cN.mono ?_
      rintro e x1 ⟨rfl, hbx⟩
      have HX : Hid (TwAt P0 Sb Tb g.nodes.length ((List.range g.nodes.length).map (fun i : Nat => decide ((i : Int) ∈ sharedG g))) t (.slice oa on oc) x1 ∧ Below V.heap.size V x1) := ⟨HSV.out.stays hbx, hbx⟩
      have HNN := hidG hnm
      clear cN hbx hnm
      generalize hgn : nt (i : Int) = m at *
      have hzI : (m.size : Int) ≤ 10 := by omega
      go_wp2_with fail
      go_meet
      exact ⟨congrArg Value.string HNN.out, HX.out⟩
  case rest =>
    obtain ⟨rfl, HX⟩ := hcut
    have HSX := hidG HX.out.1
    have HBV := hidG HX.out.2
    have HKX : Hid (KeepL w wc) := KeepL.trans (by have := HKW.out; exact this) (KeepL.of HX.out.2)
    by_cases hm : i ∈ t.met
    · -- it was told
      have d0 := (HSX.out.toldAt hi).1
      rw [decide_eq_true hm] at d0
      obtain ⟨a5, n5, c5, w5, hrun5, hown5, hbel5, hot5⟩ := push_ev wc P0.heap.size _ t.out (evAl nm) HSX.out.out (by have := HBD.out; omega) HSX.out.below.size
      have HF : Hid (TwAt P0 Sb Tb g.nodes.length ((List.range g.nodes.length).map (fun i : Nat => decide ((i : Int) ∈ sharedG g))) (tdK g (sA (sharedG g)) (sA (sharedG g)) (f + 1) i t) (.slice a5 n5 c5) w5 ∧ KeepL w w5) := by
        refine ⟨?_, HKX.out.trans (KeepL.push HSX.out.out hot5)⟩
        rw [tdK_old hm]
        show TwAt _ _ _ _ _ ⟨t.met, t.out ++ [evAl (nmS (sharedG g) i)], t.tr ++ [i]⟩ _ _
        rw [HNM.out]
        exact HSX.out.push (t' := ⟨t.met, t.out ++ [evAl nm], t.tr ++ [i]⟩) rfl hown5 hbel5 hot5
      unfold evAl Ev.row ev0 at hrun5
      simp only [] at hrun5
      clear hown5 hbel5 hot5 hm HSX HX HBV
      go_wp2_with (at_builtin; refine append_run rfl _ _ 27 rfl _ _ rfl rfl _ w5 hrun5 ?_)
      go_ret
      exact ⟨_, rfl, ⟨_, _, _, rfl⟩, HF.out⟩
    · have d0 := (HSX.out.toldAt hi).1
      have df := (HSX.out.toldAt hi).2
      rw [decide_eq_false hm] at d0
      obtain ⟨n, hx⟩ : ∃ n, g.nodes[i]? = some n := ⟨_, List.getElem?_eq_getElem hi⟩
      have hNW := tdK_new (g := g) (a := sA (sharedG g)) (b := sA (sharedG g)) (f := f) hm
      have hnd := ndAt_is hx
      rw [kids_at hx, hnd, show sA (sharedG g) t.met i = nm from HNM.out] at hNW
      have hnF := ok_nodeF HOK.out hx
      have hkk := HKI.out i
      rw [kids_at hx] at hkk
      have hkl : n.kids.length ≤ 1048576 := HKL.out n (List.mem_of_getElem? hx)
      -- the mark
      obtain ⟨Y, hY⟩ : ∃ Y, wc.setCell ⟨Tb, i, none⟩ (.bool true) = Y := ⟨_, rfl⟩
      have hYS : Y.heap.size = wc.heap.size := by rw [← hY]; simp
      have hSY : TwAt P0 Sb Tb g.nodes.length ((List.range g.nodes.length).map (fun i : Nat => decide ((i : Int) ∈ sharedG g))) ⟨t.met ++ [i], t.out, t.tr⟩ (.slice oa on oc) Y := by rw [← hY]; exact HSX.out.mark hi rfl rfl
      obtain ⟨ct, hct⟩ := row_is HSX.out.told
      have hKY : KeepL w Y := by rw [← hY]; exact HKX.out.trans (KeepL.mark hct _ _)
      have eX : wc.heap[w.heap.size]? = some (.cells #[.slice na g.nodes.length nc, .slice ra g.roots.length rc] 31 (0, 0)) := (HBV.out.block w.heap.size (by rw [HVS.out]; exact Nat.lt_succ_self _)).trans HE.out
      have eY : Y.heap[w.heap.size]? = some (.cells #[.slice na g.nodes.length nc, .slice ra g.roots.length rc] 31 (0, 0)) := by rw [← hY]; exact (KeepL.mark hct i (.bool true)).cells eX (by decide) (by decide)
      have y0 := n2_0 eY
      obtain ⟨nb, no, kv, hna, hnb, hN0⟩ := HG.out.1.at hx
      obtain ⟨xa, xc, rfl⟩ := hN0.kids.sl
      obtain ⟨c0, c1, c2, c3, -⟩ := hN0.later hnb hSY.below
      have hnbY : nb < Y.heap.size := Nat.lt_of_lt_of_le hnb hSY.below.size
      have HIK : Hid (IlAt P0 (.slice xa n.kids.length xc) n.kids) := hN0.kids
      obtain ⟨Z, hZ⟩ : ∃ Z, Y.alloc (.cells #[.int .i64 n.kind, .string n.tag, .string n.text, .slice xa n.kids.length xc] 67) = Z := ⟨_, rfl⟩
      have hBZ : Below Y.heap.size Y Z := by rw [← hZ]; exact al_belowG Y _
      have hSZ := hSY.stays hBZ
      have eZn : Z.heap[Y.heap.size]? = some (.cells #[.int .i64 n.kind, .string n.tag, .string n.text, .slice xa n.kids.length xc] 67 (0, 0)) := by rw [← hZ]; exact heap_alloc_new Y _
      have hZS : Z.heap.size = Y.heap.size + 1 := by rw [← hZ]; simp
      have eZg : Z.heap[w.heap.size]? = some (.cells #[.slice na g.nodes.length nc, .slice ra g.roots.length rc] 31 (0, 0)) := (hBZ.block _ (Array.getElem?_eq_some_iff.1 eY).1).trans eY
      obtain ⟨a5, n5, c5, w5, hrun5, hown5, hbel5, hot5⟩ := push_ev Z P0.heap.size _ t.out (evBeg n nm) hSZ.out (by have := HBD.out; omega) hSZ.below.size
      obtain ⟨t1, ht1⟩ : ∃ t1 : Td, (⟨t.met ++ [i], t.out ++ [evBeg n nm], t.tr ++ [i]⟩ : Td) = t1 := ⟨_, rfl⟩
      have HT1 : Hid (TwAt P0 Sb Tb g.nodes.length ((List.range g.nodes.length).map (fun i : Nat => decide ((i : Int) ∈ sharedG g))) t1 (.slice a5 n5 c5) w5) := by
        show TwAt _ _ _ _ _ _ _ _
        rw [← ht1]
        exact hSZ.push (t' := ⟨t.met ++ [i], t.out ++ [evBeg n nm], t.tr ++ [i]⟩) rfl hown5 hbel5 hot5
      rw [ht1] at hNW
      have HNW := hidG hNW
      have HPP : Hid ((n.kids.foldl (fun t k => tdK g (sA (sharedG g)) (sA (sharedG g)) f k.toNat t) t1).tr <+: F) := by
        have h := HP.out
        rw [hNW] at h
        show _ <+: _
        split at h
        · exact h
        · exact h
      have HT1E := hidG ht1
      have HK5 : Hid (KeepL w w5) := hKY.trans ((KeepL.of hBZ).trans (KeepL.push hSZ.out hot5))
      have hKZ := KeepL.push hSZ.out hot5
      have HG5 : Hid (w5.heap[w.heap.size]? = some (.cells #[.slice na g.nodes.length nc, .slice ra g.roots.length rc] 31 (0, 0))) := hKZ.cells eZg (by decide) (by decide)
      have n5e := hKZ.cells eZn (by decide) (by decide)
      rw [hYS] at n5e hZS
      have kk5 : w5.cell? ⟨wc.heap.size, 3, none⟩ = some (.slice xa n.kids.length xc) := by simp [World.cell?, n5e]
      rw [hZS] at hrun5
      have hkI : (n.kids.length : Int) ≤ 1048576 := by omega
      have HKK := hidG hkk
      rw [hna] at y0
      have hwcY : w.heap.size < Y.heap.size := (Array.getElem?_eq_some_iff.1 eY).1
      have HIN : Hid (i ∈ t1.met ∧ unmet g.nodes.length t1.met < f ∧ t1.out.length ≤ 2 * t1.tr.length + 2097200) := by
        rw [← ht1]
        refine ⟨by simp, ?_, ?_⟩
        · have h2 := unmet_new hi hm
          have h3 := HZ0.out
          show unmet _ (t.met ++ [i]) < f
          omega
        · have := HBT.out
          show (t.out ++ [evBeg n nm]).length ≤ 2 * (t.tr ++ [i]).length + 2097200
          simp only [List.length_append, List.length_singleton]
          omega
      subst hZ
      subst hY
      by_cases h5 : n.kind = 5
      · have h5t : (n.kind == 5) = true := by rw [beq_iff_eq]; exact h5
        have HFN : Hid (tdK g (sA (sharedG g)) (sA (sharedG g)) (f + 1) i t = t1) := by show _ = _; rw [HNW.out, if_pos h5, hnF.2 h5]; rfl
        have HRES : Hid (TwAt P0 Sb Tb g.nodes.length ((List.range g.nodes.length).map (fun i : Nat => decide ((i : Int) ∈ sharedG g))) (tdK g (sA (sharedG g)) (sA (sharedG g)) (f + 1) i t) (.slice a5 n5 c5) w5 ∧ KeepL w w5) := ⟨by rw [HFN.out]; exact HT1.out, HK5.out⟩
        have hrw : (evBeg n nm).row = #[.int .i64 n.kind, .int .i64 3, .bool false, .string n.text, .string nm, .string n.tag, .int .i64 0, .int .i64 0] := by unfold evBeg Ev.row ev0; rw [if_pos h5]
        rw [hrw] at hrun5
        clear hm hx hNW hnd hnF hkk hkl hYS hSY ct hct hKY eX eY hnb hN0 hBZ hSZ eZn hZS eZg hown5 hbel5 hot5 ht1 hKZ n5e HX HSX HBV h5 kk5 hrw
        go_wp2_with (at_builtin; refine append_run rfl _ _ 27 rfl _ _ rfl rfl _ w5 hrun5 ?_)
        go_ret
        exact ⟨_, rfl, ⟨_, _, _, rfl⟩, HRES.out⟩
      · have h5t : (n.kind == 5) = false := by rw [beq_eq_false_iff_ne]; exact h5
        have hrw : (evBeg n nm).row = #[.int .i64 n.kind, .int .i64 6, .bool false, .string ⟨#[]⟩, .string nm, .string n.tag, .int .i64 0, .int .i64 0] := by unfold evBeg Ev.row ev0; rw [if_neg h5, hnF.1 h5]
        rw [hrw] at hrun5
        have HNF : Hid (tdK g (sA (sharedG g)) (sA (sharedG g)) (f + 1) i t = { n.kids.foldl (fun t k => tdK g (sA (sharedG g)) (sA (sharedG g)) f k.toNat t) t1 with out := (n.kids.foldl (fun t k => tdK g (sA (sharedG g)) (sA (sharedG g)) f k.toNat t) t1).out ++ [evKind 7] }) := by show _ = _; rw [HNW.out, if_neg h5]
        clear hm hx hNW hnd hnF hkk hkl hYS hSY ct hct hKY eX eY hnb hN0 hBZ hSZ eZn hZS eZg hown5 hbel5 hot5 ht1 hKZ n5e HX HSX HBV h5 hrw
        go_wp2_with (at_builtin; refine append_run rfl _ _ 27 rfl _ _ rfl rfl _ w5 hrun5 ?_)
        clear hrun5 y0 c0 c1 c2 c3 hnbY hwcY d0 df
        go_loopw [4, 65] (fun ov iv wr => ∃ (j : Nat) (pa : Option Addr) (pn pc : Nat), ov = .slice pa pn pc ∧ iv = .int .i64 j ∧ j ≤ n.kids.length ∧ Hid (TwAt P0 Sb Tb g.nodes.length ((List.range g.nodes.length).map (fun i : Nat => decide ((i : Int) ∈ sharedG g))) ((n.kids.take j).foldl (fun t k => tdK g (sA (sharedG g)) (sA (sharedG g)) f k.toNat t) t1) (.slice pa pn pc) wr ∧ KeepL w wr ∧ wr.heap[w.heap.size]? = some (.cells #[.slice (some ⟨nb, no, none⟩) g.nodes.length nc, .slice ra g.roots.length rc] 31 (0, 0)))) (fun _ iv _ => n.kids.length - (intOf iv).toNat)
        case atStart => exact ⟨0, _, _, _, rfl, rfl, Nat.zero_le _, HT1.out, HK5.out, by have h := HG5.out; rw [hna] at h; exact h⟩
        case round =>
          obtain ⟨j, pa, pn, pc, rfl, rfl, hj, HR⟩ := hrel
          obtain ⟨hRT, hRK, hRG⟩ := HR.out
          have z0 := n2_0 hRG
          have z1 := n2_1 hRG
          obtain ⟨u, hu⟩ : ∃ u, (n.kids.take j).foldl (fun t k => tdK g (sA (sharedG g)) (sA (sharedG g)) f k.toNat t) t1 = u := ⟨_, rfl⟩
          rw [hu] at hRT
          have hpre : TdG g t1 u := by rw [← hu]; exact tdF_g f (n.kids.take j) t1
          have hoo : u.out.length ≤ 2 * u.tr.length + 2097200 := by
            have h1 := hpre.out
            have h2 := HIN.out.2.2
            omega
          by_cases hlt : j < n.kids.length
          · have hltI : (j : Int) < (n.kids.length : Int) := by omega
            obtain ⟨x, hx⟩ : ∃ x, n.kids[j]? = some x := ⟨_, List.getElem?_eq_getElem hlt⟩
            obtain ⟨b, o, hxa, hbl, d⟩ := HIK.out.at hx
            rw [← hRT.below.cell hbl] at d
            have hx0 := HKK.out x (List.mem_of_getElem? hx)
            obtain ⟨m, rfl⟩ := Int.eq_ofNat_of_zero_le hx0.1
            have hmN : m < g.nodes.length := by omega
            have hst : (n.kids.take (j + 1)).foldl (fun t k => tdK g (sA (sharedG g)) (sA (sharedG g)) f k.toNat t) t1 = tdK g (sA (sharedG g)) (sA (sharedG g)) f m u := by
              rw [List.take_add_one, hx, List.foldl_append, hu]
              rfl
            have hPj : (tdK g (sA (sharedG g)) (sA (sharedG g)) f m u).tr <+: F := by
              rw [← hst]
              have h := HPP.out
              rw [← List.take_append_drop (j + 1) n.kids, List.foldl_append] at h
              exact (tdF_g f (n.kids.drop (j + 1)) _).tr.trans h
            have cK := HIH.out m _ _ wr hRT (Nat.lt_of_le_of_lt (unmet_pre hpre.met) HIN.out.2.1) hmN hoo hPj
            rw [← hst, hna] at cK
            have HRK := hidG hRK
            have HRG := hidG hRG
            subst hxa
            clear hx hbl hx0 hmN hst hPj hpre hoo hRT hRK hRG HR hu
            go_wp2_with fail
            refine cK.mono ?_
            rintro e w6 ⟨ov6, rfl, ⟨_, _, _, rfl⟩, hT6, hK6⟩
            have HR6 : Hid (TwAt P0 Sb Tb g.nodes.length ((List.range g.nodes.length).map (fun i : Nat => decide ((i : Int) ∈ sharedG g))) ((n.kids.take (j + 1)).foldl (fun t k => tdK g (sA (sharedG g)) (sA (sharedG g)) f k.toNat t) t1) _ w6 ∧ KeepL w w6 ∧ w6.heap[w.heap.size]? = some (.cells #[.slice (some ⟨nb, no, none⟩) g.nodes.length nc, .slice ra g.roots.length rc] 31 (0, 0))) := ⟨hT6, HRK.out.trans hK6, hK6.cells HRG.out (by decide) (by decide)⟩
            clear cK hT6 hK6 z0 z1 d
            go_wp2_with fail
            go_roundw
            case rel => exact ⟨j + 1, _, _, _, rfl, by go_num, hlt, HR6⟩
            case measure => simp [intOf]; omega
          · have hge : ¬ (j : Int) < (n.kids.length : Int) := by omega
            have hjl : j = n.kids.length := by omega
            rw [hjl, List.take_length] at hu
            obtain ⟨t2, ht2⟩ : ∃ t2, u = t2 := ⟨_, rfl⟩
            have hPl := HPP.out.length_le
            have hnf := HNF.out
            rw [hu] at hPl hnf
            rw [ht2] at hRT hpre hoo hPl hnf
            obtain ⟨a7, n7, c7, w7, hrun7, hown7, hbel7, hot7⟩ := push_ev wr P0.heap.size _ t2.out (evKind 7) hRT.out (by have := HFL.out; omega) hRT.below.size
            have HF7 : Hid (TwAt P0 Sb Tb g.nodes.length ((List.range g.nodes.length).map (fun i : Nat => decide ((i : Int) ∈ sharedG g))) (tdK g (sA (sharedG g)) (sA (sharedG g)) (f + 1) i t) (.slice a7 n7 c7) w7 ∧ KeepL w w7) := by
              refine ⟨?_, hRK.trans (KeepL.push hRT.out hot7)⟩
              rw [hnf]
              exact hRT.push (t' := { t2 with out := t2.out ++ [evKind 7] }) rfl hown7 hbel7 hot7
            unfold evKind Ev.row ev0 at hrun7
            simp only [] at hrun7
            clear hpre hoo ht2 hPl hnf hRT hRK hRG hown7 hbel7 hot7 HR z0 z1 hu
            go_wp2_with (at_builtin; refine append_run rfl _ _ 27 rfl _ _ rfl rfl _ w7 hrun7 ?_)
            go_ret
            exact ⟨_, rfl, ⟨_, _, _, rfl⟩, HF7.out⟩
theorem lt_all {P0 : World} {Sb Tb : Nat} {nv rv : Value} {g : Gr} {F : List Nat} (hG : GrAt P0 nv rv g) (hok : graphOkP g = true) (hF : F.length ≤ 1048576) (HKL0 : ∀ n ∈ g.nodes, n.kids.length ≤ 1048576) : ∀ f, LtC P0 Sb Tb nv rv g F f
  | 0 => fun _ _ _ _ _ hz _ _ _ => absurd hz (Nat.not_lt_zero _)
  | f + 1 => lt_step hG hok hF HKL0 (lt_all hG hok hF HKL0 f)
end Go.Proofs.YtgaibajkegfpoaaDoor
