/- spec.Decompose answers as the plain function. -/
import Derived.Test.YtgaibajkegfpoaaDoorGts
import Derived.Test.YtgaibajkegfpoaaDoorGsw
namespace Go.Proofs.YtgaibajkegfpoaaDoor
open Go.ChangeShapes Go.WideShapes Go.ChangeAt Go.RowKit Go.Deep
def mkS (N : Nat) (S : List Int) : List Bool := (List.range N).map (fun i : Nat => decide ((i : Int) ∈ S))
theorem mkS_len (N : Nat) (S : List Int) : (mkS N S).length = N := by unfold mkS; simp
theorem mkS_nil (N : Nat) : mkS N [] = List.replicate N false := by
  apply List.ext_getElem
  · simp [mkS]
  · intro i h1 h2
    simp [mkS]
theorem mkS_set {N : Nat} {S : List Int} {m : Nat} (h : m < N) : (mkS N S).set m true = mkS N (S ++ [(m : Int)]) := by
  apply List.ext_getElem?
  intro j
  by_cases hj : j < N
  · rw [List.getElem?_set, mkS_len]
    unfold mkS
    rw [List.getElem?_map, List.getElem?_range hj]
    by_cases e : m = j
    · subst e
      rw [if_pos rfl, if_pos h, List.getElem?_map, List.getElem?_range hj]
      simp
    · rw [if_neg e, List.getElem?_map, List.getElem?_range hj]
      simp only [Option.map_some, List.mem_append, List.mem_singleton]
      congr 1
      simp only [show ¬ (j : Int) = (m : Int) from fun h => e (by omega), or_false]
  · rw [List.getElem?_eq_none (by rw [List.length_set, mkS_len]; omega), List.getElem?_eq_none (by rw [mkS_len]; omega)]
theorem sharedTo_rng (L : List Int) : ∀ (N : Nat), ∀ x ∈ sharedTo L N, 0 ≤ x ∧ x < (N : Int)
  | 0, x, h => by cases h
  | N + 1, x, h => by
    rw [sharedTo] at h
    split at h
    · rcases List.mem_append.1 h with h | h
      · have := sharedTo_rng L N x h
        omega
      · rw [List.mem_singleton.1 h]
        omega
    · have := sharedTo_rng L N x h
      omega
theorem made_bools (N : Nat) : (madeCells #[.bool false] N).toList = blV (List.replicate N false) := by
  apply List.ext_getElem
  · simp [size_madeCells, blV]
  · intro i h1 h2
    simp [madeCells, blV, Nat.mod_one]
theorem row_bools (w : World) (N : Nat) (hN : N ≤ 3000) : (w.alloc (.cells (madeCells #[.bool false] N) 4)).ownsRow w.heap.size 4 1 (.slice (some ⟨w.heap.size, 0, none⟩) N N) N (blV (List.replicate N false)) := by
  refine ⟨by simp [blV], .inr ⟨w.heap.size, N, madeCells #[.bool false] N, rfl, Nat.le_refl _, heap_alloc_new w _, Nat.le_refl _, by unfold maxLen; omega, by simp [size_madeCells], ?_⟩⟩
  rw [made_bools]
  exact List.take_of_length_le (by simp [blV])
set_option maxHeartbeats 8000000 in
set_option maxRecDepth 100000 in
theorem spec_decompose (g : Gr) (nv rv : Value) (w : World) (hG : GrAt w nv rv g) (ht : g.tot ≤ 1048576) :
    Calls Tryd.prog 5 #[.agg #[nv, rv]] w fun e w' => (∃ v, e = .returned v ∧ isSlG v ∧ w'.ownsRow w.heap.size 44 8 v (decP g).length (rowsE (decP g))) ∧ Below w.heap.size w w' := by
  have htt : g.nodes.length + totN g.nodes + g.roots.length ≤ 1048576 := ht
  obtain ⟨na, nc, rfl⟩ := hG.1.sl
  obtain ⟨ra, rc, rfl⟩ := hG.2.sl
  obtain ⟨V, hV⟩ : ∃ V, w.alloc (.cells #[.slice na g.nodes.length nc, .slice ra g.roots.length rc] 31) = V := ⟨_, rfl⟩
  have HB0 : Hid (Below w.heap.size w V) := by show Below _ _ _; rw [← hV]; exact al_belowG w _
  have HE : Hid (V.heap[w.heap.size]? = some (.cells #[.slice na g.nodes.length nc, .slice ra g.roots.length rc] 31 (0, 0))) := by show _ = _; rw [← hV]; exact heap_alloc_new w _
  have HS : Hid (V.heap.size = w.heap.size + 1) := by show _ = _; rw [← hV]; show (w.heap.push _).size = _; simp
  have HG : Hid (GrAt V (.slice na g.nodes.length nc) (.slice ra g.roots.length rc) g) := hG.later HB0.out
  have HGW := hidG hG
  have HQ : Hid (∀ wr, Below V.heap.size V wr → wr.cell? ⟨w.heap.size, 0, none⟩ = some (.slice na g.nodes.length nc) ∧ wr.cell? ⟨w.heap.size, 1, none⟩ = some (.slice ra g.roots.length rc)) := fun wr hb => by
    have := (hb.block w.heap.size (by rw [HS.out]; exact Nat.lt_succ_self _)).trans HE.out
    simp [World.cell?, this]
  obtain ⟨gk, hgk⟩ : ∃ gk, graphOkP g = gk := ⟨_, rfl⟩
  have cG := spec_graphOk g _ _ V HG.out ht
  rw [hgk] at cG
  obtain ⟨q0, q1⟩ := HQ.out V (Below.refl _ _)
  have HV := hidG hV
  cases gk with
  | false =>
    have hd : decP g = [] := by unfold decP; rw [if_neg (by rw [hgk]; decide)]
    rw [hd]
    clear hG ht htt hV hgk hd
    go_enter Tryd.func5, Tryd.ntmps5
    go_wp2_with fail
    rw [HV.out]
    refine cG.mono ?_
    rintro e w1 ⟨rfl, hb1⟩
    have HB1 := hidG (HB0.out.trans (hb1.mono HB0.out.size))
    clear hb1 cG
    go_wp2_with fail
    go_ret
    exact ⟨⟨_, rfl, ⟨_, _, _, rfl⟩, ⟨rfl, .inl ⟨rfl, rfl⟩⟩⟩, HB1.out⟩
  | true =>
    have HOK := hidG hgk
    obtain ⟨hN, hKI, hRI⟩ := ok_parts hgk
    have HN := hidG hN
    have HKI := hidG hKI
    have HRI := hidG hRI
    have hnI : (g.nodes.length : Int) ≤ 1048576 := by omega
    have hrI : (g.roots.length : Int) ≤ 1048576 := by omega
    have HRL : Hid (g.roots.length ≤ 1048576) := by show _ ≤ _; omega
    have HKL : Hid (∀ n ∈ g.nodes, n.kids.length ≤ 1048576) := fun n hn => by have := totN_mem hn; unfold Nd.tot at this; omega
    have HT := hidG ht
    have HFL : Hid ((tdF g).tr.length ≤ 1048576) := td_len hgk ht
    have HDE : Hid (decP g = (tdF g).out ++ [evKind 9]) := by show _ = _; unfold decP; rw [if_pos hgk]; rfl
    have HSR : Hid (∀ x ∈ sharedG g, 0 ≤ x ∧ x < (g.nodes.length : Int)) := by
      show ∀ x ∈ sharedG g, _
      unfold sharedG
      rw [if_pos hgk]
      exact sharedTo_rng _ _
    have HSL : Hid ((sharedG g).length ≤ 3000) := by
      show _ ≤ _
      unfold sharedG
      rw [if_pos hgk]
      have := sharedTo_len (cntN (cntI (List.replicate g.nodes.length 0) g.roots) g.nodes) g.nodes.length
      omega
    obtain ⟨ti, hti, hz0, hz1, hz2⟩ := info_parts infoBo
    have hmk : ∀ w : World, (Instr.makeSlice 41 (.int .i64 (g.nodes.length : Int)) (.int .i64 (g.nodes.length : Int))).run Tryd.prog w = .ok (.slice (some ⟨w.heap.size, 0, none⟩) g.nodes.length g.nodes.length) (w.alloc (.cells (madeCells #[.bool false] g.nodes.length) 4)) := by
      intro w
      have := run_make (P := Tryd.prog) w 41 4 ti _ Tryd.underlying41 hti hz0 .i64 .i64 g.nodes.length g.nodes.length (by omega) (Int.le_refl _) (by rw [hz2]; omega) (by omega)
      rw [hz1, Nat.mul_one] at this
      simpa [Value.cells] using this
    clear hG ht htt hV hgk hN hKI hRI hti hz0 hz1 hz2
    go_enter Tryd.func5, Tryd.ntmps5
    go_wp2_with fail
    rw [HV.out]
    refine cG.mono ?_
    rintro e w1 ⟨rfl, hb1⟩
    have HB1 := hidG hb1
    clear q0 q1
    obtain ⟨q0, q1⟩ := HQ.out w1 hb1
    obtain ⟨A1, hA1⟩ : ∃ A1, w1.alloc (.cells (madeCells #[.bool false] g.nodes.length) 4) = A1 := ⟨_, rfl⟩
    have hBA : Below w1.heap.size w1 A1 := by rw [← hA1]; exact al_belowG w1 _
    have hRA : A1.ownsRow w1.heap.size 4 1 (.slice (some ⟨w1.heap.size, 0, none⟩) g.nodes.length g.nodes.length) g.nodes.length (blV (mkS g.nodes.length [])) := by rw [← hA1, mkS_nil]; exact row_bools w1 _ HN.out
    have HBA : Hid (Below V.heap.size V A1) := hb1.trans (hBA.mono hb1.size)
    have HRA := hidG hRA
    have HA1 := hidG hA1
    have hlt1 : w.heap.size < w1.heap.size := by have h1 := hb1.size; have h2 := HS.out; omega
    have HVW1 : Hid (V.heap.size ≤ w1.heap.size) := hb1.size
    clear hb1 cG hBA hRA hA1
    go_wp2_with fail
    rw [HA1.out]
    refine (spec_shared g _ _ A1 (HG.out.later HBA.out) HT.out).mono ?_
    rintro e w2 ⟨⟨sv, rfl, ⟨sa, sm, sc, rfl⟩, hsr⟩, hb2⟩
    clear q0 q1 hlt1
    have hsm : sm = (sharedG g).length := by
      rcases hsr.2 with ⟨e1, e2⟩ | ⟨gb, cap, cur, e1, _⟩
      · injection e1 with _ e1 _; omega
      · injection e1 with _ e1 _
    subst hsm
    have HB2 := hidG (HBA.out.trans (hb2.mono HBA.out.size))
    have HR2 : Hid (w2.ownsRow w1.heap.size 4 1 (.slice (some ⟨w1.heap.size, 0, none⟩) g.nodes.length g.nodes.length) g.nodes.length (blV (mkS g.nodes.length ((sharedG g).take 0)))) := g_row_below HRA.out hb2
    have HSI : Hid (IlAt w2 (.slice sa (sharedG g).length sc) (sharedG g)) := il_of_own hsr
    have hslI : ((sharedG g).length : Int) ≤ 3000 := by have := HSL.out; omega
    -- the list of who is shared lies apart from the marks
    have HSO : Hid (w2.ownsRow A1.heap.size 3 1 (.slice sa (sharedG g).length sc) (sharedG g).length (ilV (sharedG g))) := hsr
    clear hsr hb2
    go_wp2_with fail
    go_loopw [20] (fun iv wr => ∃ k : Nat, iv = .int .i64 k ∧ k ≤ (sharedG g).length ∧ Hid (wr.ownsRow w1.heap.size 4 1 (.slice (some ⟨w1.heap.size, 0, none⟩) g.nodes.length g.nodes.length) g.nodes.length (blV (mkS g.nodes.length ((sharedG g).take k))) ∧ wr.ownsRow A1.heap.size 3 1 (.slice sa (sharedG g).length sc) (sharedG g).length (ilV (sharedG g)) ∧ Below V.heap.size V wr)) (fun iv _ => (sharedG g).length - (intOf iv).toNat)
    case atStart => exact ⟨0, rfl, Nat.zero_le _, HR2.out, HSO.out, HB2.out⟩
    case round =>
      clear HR2 HSO HB2 HSI
      obtain ⟨k, rfl, hk, HR⟩ := hrel
      obtain ⟨hr1, hr2, hr3⟩ := HR.out
      by_cases hlt : k < (sharedG g).length
      · have hltI : (k : Int) < ((sharedG g).length : Int) := by omega
        obtain ⟨x, hx⟩ : ∃ x, (sharedG g)[k]? = some x := ⟨_, List.getElem?_eq_getElem hlt⟩
        obtain ⟨b, o, hsa, hbl, d⟩ := (il_of_own hr2).at hx
        have hx0 := HSR.out x (List.mem_of_getElem? hx)
        obtain ⟨m, rfl⟩ := Int.eq_ofNat_of_zero_le hx0.1
        have hm : m < g.nodes.length := by omega
        have hmI : (m : Int) < (g.nodes.length : Int) := by omega
        have f1 := hr1.frozenAt m
        have c1 := hr1.cellAt m (by omega)
        obtain ⟨z, hz⟩ : ∃ z, (blV (mkS g.nodes.length ((sharedG g).take k)))[m]? = some z := ⟨_, List.getElem?_eq_getElem (by rw [blV_len, mkS_len]; exact hm)⟩
        rw [hz] at c1
        obtain ⟨cs, hcs⟩ := row_is hr1
        have HNX : Hid ((wr.setCell ⟨w1.heap.size, m, none⟩ (.bool true)).ownsRow w1.heap.size 4 1 (.slice (some ⟨w1.heap.size, 0, none⟩) g.nodes.length g.nodes.length) g.nodes.length (blV (mkS g.nodes.length ((sharedG g).take (k + 1)))) ∧ (wr.setCell ⟨w1.heap.size, m, none⟩ (.bool true)).ownsRow A1.heap.size 3 1 (.slice sa (sharedG g).length sc) (sharedG g).length (ilV (sharedG g)) ∧ Below V.heap.size V (wr.setCell ⟨w1.heap.size, m, none⟩ (.bool true))) := by
          refine ⟨?_, row_set hr2 (row_apart hr2 hcs (by decide)) _ _, hr3.setCell (p := ⟨w1.heap.size, m, none⟩) (by show V.heap.size ≤ w1.heap.size; exact HVW1.out) _⟩
          have e : (sharedG g).take (k + 1) = (sharedG g).take k ++ [(m : Int)] := by rw [List.take_add_one, hx]; rfl
          rw [e, ← mkS_set hm, blV_set]
          exact (hr1.stored m (.bool true)).1
        subst hsa
        clear hx hbl hx0 hm hz hcs hr1 hr2 hr3 HR
        go_wp2_with fail
        go_roundw
        case rel => exact ⟨k + 1, by go_num, hlt, HNX⟩
        case measure => simp [intOf]; omega
      · have hge : ¬ (k : Int) < ((sharedG g).length : Int) := by omega
        rw [show k = (sharedG g).length by omega, List.take_length] at hr1
        obtain ⟨q0, q1⟩ := HQ.out wr hr3
        obtain ⟨B1, hB1⟩ : ∃ B1, wr.alloc (.cells (madeCells #[.bool false] g.nodes.length) 4) = B1 := ⟨_, rfl⟩
        have hBB : Below wr.heap.size wr B1 := by rw [← hB1]; exact al_belowG wr _
        have hRB : B1.ownsRow wr.heap.size 4 1 (.slice (some ⟨wr.heap.size, 0, none⟩) g.nodes.length g.nodes.length) g.nodes.length (blV (tlB g.nodes.length [])) := by
          have e : tlB g.nodes.length [] = List.replicate g.nodes.length false := by
            apply List.ext_getElem
            · simp [tlB]
            · intro i h1 h2
              simp [tlB]
          rw [← hB1, e]
          exact row_bools wr _ HN.out
        have hBS : B1.heap.size = wr.heap.size + 1 := by rw [← hB1]; simp
        obtain ⟨C1, hC1⟩ : ∃ C1, B1.alloc (.cells (evKind 1).row 44) = C1 := ⟨_, rfl⟩
        have hBC : Below B1.heap.size B1 C1 := by rw [← hC1]; exact al_belowG B1 _
        have hRC : C1.ownsRow w.heap.size 44 8 (.slice (some ⟨wr.heap.size + 1, 0, none⟩) 1 1) 1 (rowsE [evKind 1]) := by
          refine ⟨rfl, .inr ⟨wr.heap.size + 1, 1, (evKind 1).row, rfl, ?_, ?_, Nat.le_refl _, by unfold maxLen; omega, rfl, rfl⟩⟩
          · have h1 := hr3.size
            have h2 := HS.out
            omega
          · rw [← hC1, ← hBS]
            exact heap_alloc_new B1 _
        have hVw : w.heap.size ≤ V.heap.size := HB0.out.size
        have HTW : Hid (TwAt w w1.heap.size wr.heap.size g.nodes.length (mkS g.nodes.length (sharedG g)) ((g.roots.take 0).foldl (tdR g (sA (sharedG g)) (sA (sharedG g)) (g.nodes.length + 1)) ⟨[], [evKind 1], []⟩) (.slice (some ⟨wr.heap.size + 1, 0, none⟩) 1 1) C1 ∧ C1.heap[w.heap.size]? = some (.cells #[.slice na g.nodes.length nc, .slice ra g.roots.length rc] 31 (0, 0))) := by
          have hb3 : Below w.heap.size w C1 := (HB0.out.trans (hr3.mono hVw)).trans ((hBB.trans (hBC.mono hBB.size)).mono (Nat.le_trans hVw hr3.size))
          refine ⟨⟨g_row_lower (g_row_below (g_row_below hr1 hBB) hBC) (Nat.le_trans hVw HVW1.out), g_row_lower (g_row_below hRB hBC) (Nat.le_trans hVw hr3.size), hRC, ?_, hb3⟩, ?_⟩
          · have := (hr1.lt w1.heap.size rfl).2
            omega
          · have e1 := (hr3.block w.heap.size (by have := HS.out; omega)).trans HE.out
            have e2 := (hBB.block w.heap.size (Array.getElem?_eq_some_iff.1 e1).1).trans e1
            exact (hBC.block w.heap.size (Array.getElem?_eq_some_iff.1 e2).1).trans e2
        have hwr : w.heap.size < wr.heap.size := by have h1 := hr3.size; have h2 := HS.out; omega
        subst hB1
        unfold evKind Ev.row ev0 at hC1
        simp only [] at hC1
        have HC1 := hidG hC1
        clear hr1 hr2 hr3 HR hBB hRB hBS hBC hRC hC1 hVw
        go_wp2_with fail
        rw [HC1.out]
        clear q0 q1 hwr
        obtain ⟨P, rfl⟩ : ∃ P, P = wr := ⟨_, rfl⟩
        go_loopw [7, 37] (fun ov iv wx => ∃ (j : Nat) (pa : Option Addr) (pn pc : Nat), ov = .slice pa pn pc ∧ iv = .int .i64 j ∧ j ≤ g.roots.length ∧ Hid (TwAt w w1.heap.size P.heap.size g.nodes.length (mkS g.nodes.length (sharedG g)) ((g.roots.take j).foldl (tdR g (sA (sharedG g)) (sA (sharedG g)) (g.nodes.length + 1)) ⟨[], [evKind 1], []⟩) (.slice pa pn pc) wx ∧ wx.heap[w.heap.size]? = some (.cells #[.slice na g.nodes.length nc, .slice ra g.roots.length rc] 31 (0, 0)))) (fun _ iv _ => g.roots.length - (intOf iv).toNat)
        case atStart => exact ⟨0, _, _, _, rfl, rfl, Nat.zero_le _, HTW⟩
        case round =>
          clear HTW HC1
          obtain ⟨j, pa, pn, pc, rfl, rfl, hj, HR⟩ := hrel
          obtain ⟨hT, hE⟩ := HR.out
          obtain ⟨u, hu⟩ : ∃ u, (g.roots.take j).foldl (tdR g (sA (sharedG g)) (sA (sharedG g)) (g.nodes.length + 1)) ⟨[], [evKind 1], []⟩ = u := ⟨_, rfl⟩
          rw [hu] at hT
          have hug : u.out.length ≤ 1 + 2 * j + 2 * u.tr.length := by
            have h := (tdRs_g (g := g) (a := sA (sharedG g)) (b := sA (sharedG g)) (g.nodes.length + 1) (g.roots.take j) ⟨[], [evKind 1], []⟩).2
            rw [hu, List.length_take, Nat.min_eq_left hj] at h
            have h2 : u.out.length + 2 * 0 ≤ 1 + 2 * j + 2 * u.tr.length := h
            omega
          have hFt : (g.roots.drop j).foldl (tdR g (sA (sharedG g)) (sA (sharedG g)) (g.nodes.length + 1)) u = tdF g := by
            rw [← hu, ← List.foldl_append, List.take_append_drop]
            rfl
          have hup : u.tr <+: (tdF g).tr := by rw [← hFt]; exact (tdRs_g (g.nodes.length + 1) (g.roots.drop j) u).1
          have hul : u.tr.length ≤ 1048576 := Nat.le_trans hup.length_le HFL.out
          have hrl := HRL.out
          have hwl : w.heap.size < wr.heap.size := (Array.getElem?_eq_some_iff.1 hE).1
          by_cases hlt : j < g.roots.length
          · have hltI : (j : Int) < (g.roots.length : Int) := by omega
            obtain ⟨x, hx⟩ : ∃ x, g.roots[j]? = some x := ⟨_, List.getElem?_eq_getElem hlt⟩
            obtain ⟨b, o, rfl, hbl, d⟩ := HGW.out.2.at hx
            rw [← hT.below.cell hbl] at d
            have hx0 := HRI.out x (List.mem_of_getElem? hx)
            obtain ⟨m, rfl⟩ := Int.eq_ofNat_of_zero_le hx0.1
            have hmN : m < g.nodes.length := by omega
            obtain ⟨a5, n5, c5, w5, hrun5, hown5, hbel5, hot5⟩ := push_ev wr w.heap.size _ u.out evDoc hT.out (by omega) hT.below.size
            have hT5 := hT.push (t' := { u with out := u.out ++ [evDoc] }) rfl hown5 hbel5 hot5
            have hE5 := (KeepL.push hT.out hot5).cells hE (by decide) (by decide)
            have z0 := n2_0 hE5
            have z1 := n2_1 hE5
            have hst : (g.roots.take (j + 1)).foldl (tdR g (sA (sharedG g)) (sA (sharedG g)) (g.nodes.length + 1)) ⟨[], [evKind 1], []⟩ = tdR g (sA (sharedG g)) (sA (sharedG g)) (g.nodes.length + 1) u (m : Int) := by
              rw [List.take_add_one, hx, List.foldl_append, hu]
              rfl
            obtain ⟨v, hv⟩ : ∃ v, tdK g (sA (sharedG g)) (sA (sharedG g)) (g.nodes.length + 1) m { u with out := u.out ++ [evDoc] } = v := ⟨_, rfl⟩
            have hst2 : (g.roots.take (j + 1)).foldl (tdR g (sA (sharedG g)) (sA (sharedG g)) (g.nodes.length + 1)) ⟨[], [evKind 1], []⟩ = { v with out := v.out ++ [evKind 8] } := by
              rw [hst, ← hv]
              rfl
            have hpv : v.tr <+: (tdF g).tr := by
              have h := (tdRs_g (g := g) (a := sA (sharedG g)) (b := sA (sharedG g)) (g.nodes.length + 1) (g.roots.drop (j + 1)) ((g.roots.take (j + 1)).foldl (tdR g (sA (sharedG g)) (sA (sharedG g)) (g.nodes.length + 1)) ⟨[], [evKind 1], []⟩)).1
              rw [← List.foldl_append, List.take_append_drop, hst2] at h
              exact h
            have hum : unmet g.nodes.length u.met < g.nodes.length + 1 := by
              have : unmet g.nodes.length u.met ≤ (List.range g.nodes.length).length := List.countP_le_length
              rw [List.length_range] at this
              omega
            have cL := lt_all HGW.out HOK.out HFL.out HKL.out (g.nodes.length + 1) m { u with out := u.out ++ [evDoc] } (.slice a5 n5 c5) w5 hT5 hum hmN (by
              show (u.out ++ [evDoc]).length ≤ 2 * u.tr.length + 2097200
              rw [List.length_append, List.length_singleton]
              omega) (by rw [hv]; exact hpv)
            rw [hv] at cL
            have hvo : v.out.length ≤ 10000000 := by
              have h := (tdK_g (g := g) (a := sA (sharedG g)) (b := sA (sharedG g)) (g.nodes.length + 1) m { u with out := u.out ++ [evDoc] }).out
              rw [hv] at h
              have h2 : v.out.length + 2 * u.tr.length ≤ (u.out ++ [evDoc]).length + 2 * v.tr.length := h
              rw [List.length_append, List.length_singleton] at h2
              have h3 := Nat.le_trans hpv.length_le HFL.out
              omega
            have HVO := hidG hvo
            have HST := hidG hst2
            have HE5 := hidG hE5
            unfold evDoc Ev.row ev0 at hrun5
            simp only [] at hrun5
            clear hx hbl hx0 hmN hown5 hbel5 hot5 hT5 hE5 hst hst2 hv hpv hum hvo hT hE hu hug hFt hup hul hrl HR
            go_wp2_with (at_builtin; refine append_run rfl _ _ 27 rfl _ _ rfl rfl _ w5 hrun5 ?_)
            refine cL.mono ?_
            rintro e w6 ⟨ov6, rfl, ⟨oa6, on6, oc6, rfl⟩, hT6, hK6⟩
            have hE6 := hK6.cells HE5.out (by decide) (by decide)
            obtain ⟨a7, n7, c7, w7, hrun7, hown7, hbel7, hot7⟩ := push_ev w6 w.heap.size _ v.out (evKind 8) hT6.out (by have := HVO.out; omega) hT6.below.size
            have HN7 : Hid (TwAt w w1.heap.size P.heap.size g.nodes.length (mkS g.nodes.length (sharedG g)) ((g.roots.take (j + 1)).foldl (tdR g (sA (sharedG g)) (sA (sharedG g)) (g.nodes.length + 1)) ⟨[], [evKind 1], []⟩) (.slice a7 n7 c7) w7 ∧ w7.heap[w.heap.size]? = some (.cells #[.slice na g.nodes.length nc, .slice (some ⟨b, o, none⟩) g.roots.length rc] 31 (0, 0))) := by
              refine ⟨?_, (KeepL.push hT6.out hot7).cells hE6 (by decide) (by decide)⟩
              rw [HST.out]
              exact hT6.push (t' := { v with out := v.out ++ [evKind 8] }) rfl hown7 hbel7 hot7
            unfold evKind Ev.row ev0 at hrun7
            simp only [] at hrun7
            clear cL hT6 hK6 hE6 hown7 hbel7 hot7 hrun5 z0 z1 d
            go_wp2_with (at_builtin; refine append_run rfl _ _ 27 rfl _ _ rfl rfl _ w7 hrun7 ?_)
            go_roundw
            case rel => exact ⟨j + 1, _, _, _, rfl, by go_num, hlt, HN7⟩
            case measure => simp [intOf]; omega
          · have hge : ¬ (j : Int) < (g.roots.length : Int) := by omega
            obtain ⟨a7, n7, c7, w7, hrun7, hown7, hbel7, hot7⟩ := push_ev wr w.heap.size _ u.out (evKind 9) hT.out (by omega) hT.below.size
            have huF : u = tdF g := by
              rw [← hu, show j = g.roots.length by omega, List.take_length]
              rfl
            have HF7 : Hid (w7.ownsRow w.heap.size 44 8 (.slice a7 n7 c7) (decP g).length (rowsE (decP g)) ∧ Below w.heap.size w w7) := by
              rw [HDE.out, ← huF]
              exact ⟨hown7, hT.below.trans hbel7⟩
            unfold evKind Ev.row ev0 at hrun7
            simp only [] at hrun7
            clear hown7 hbel7 hot7 hT hE hu hug hFt hup hul hrl huF HR
            go_wp2_with (at_builtin; refine append_run rfl _ _ 27 rfl _ _ rfl rfl _ w7 hrun7 ?_)
            go_ret
            exact ⟨⟨_, rfl, ⟨_, _, _, rfl⟩, HF7.out.1⟩, HF7.out.2⟩
end Go.Proofs.YtgaibajkegfpoaaDoor
