/- The program's GraphOk. -/
import Derived.Test.YtgaibajkegfpoaaDoorZql
import Derived.Test.YtgaibajkegfpoaaDoorZqm
import Derived.Test.YtgaibajkegfpoaaDoorLgk
namespace Go.Proofs.YtgaibajkegfpoaaDoor
open Go.ChangeShapes Go.WideShapes Go.ChangeAt Go.RowKit Go.Deep
theorem bks_range {Ps : List Nat} {N : Nat} (h : Ps.length = N) : bks Ps (List.range N) = Ps := by
  apply List.ext_getElem?
  intro i
  unfold bks
  rw [List.getElem?_map]
  by_cases hi : i < N
  · rw [List.getElem?_range hi, blk_at (by omega)]
    rfl
  · rw [List.getElem?_eq_none (by simp; omega), List.getElem?_eq_none (by omega)]
    rfl
theorem bks_eq {Ps met : List Nat} {N : Nat} (h : Ps.length = N) (hnd : Ps.Nodup) (hr : ∀ i ∈ met, i < N) : (bks Ps met = Ps) ↔ met = List.range N := by
  constructor
  · intro e
    have hl : met.length = N := by rw [← bks_len Ps met, e, h]
    apply List.ext_getElem?
    intro i
    by_cases hi : i < N
    · have hm : met[i]? = some met[i] := List.getElem?_eq_getElem (by omega)
      have h1 : (bks Ps met)[i]? = some (blk Ps (met[i] : Int)) := by unfold bks; rw [List.getElem?_map, hm]; rfl
      rw [e, blk_at (by omega)] at h1
      have h2 := blk_inj hnd (by omega) (by rw [h]; exact hr _ (List.mem_of_getElem? hm)) (Option.some.inj h1)
      rw [hm, List.getElem?_range hi, ← h2]
    · rw [List.getElem?_eq_none (by omega), List.getElem?_eq_none (by simp; omega)]
  · rintro rfl
    exact bks_range h
theorem sv_start (P0 : World) (Ps : List Nat) : SvAt P0 P0.heap.size Ps 0 ⟨[], [], true⟩ (P0.alloc (.cells #[.map none, .slice none 0 0, .int .i64 0, .slice none 0 0] 75)) :=
  ⟨⟨none, 0, ⟨⟨.map none, none, 0, 0, heap_alloc_new P0 _, ⟨rfl, .inl ⟨rfl, rfl⟩⟩, .inl ⟨rfl, rfl⟩⟩⟩, ⟨rfl, .inl ⟨rfl, rfl⟩⟩⟩, Nat.le_refl _, al_belowG P0 _⟩
set_option maxHeartbeats 8000000 in
set_option maxRecDepth 100000 in
theorem implGk : ImplGk := by
  intro g nv rv w hG ht _
  have htt : g.nodes.length + totN g.nodes + g.roots.length ≤ 1048576 := ht
  obtain ⟨na, nc, rfl⟩ := hG.1.sl
  obtain ⟨ra, rc, rfl⟩ := hG.2.sl
  obtain ⟨V, hV⟩ : ∃ V, w.alloc (.cells #[.slice na g.nodes.length nc, .slice ra g.roots.length rc] 31) = V := ⟨_, rfl⟩
  have HB0 : Hid (Below w.heap.size w V) := by show Below _ _ _; rw [← hV]; exact al_belowG w _
  have HE : Hid (V.heap[w.heap.size]? = some (.cells #[.slice na g.nodes.length nc, .slice ra g.roots.length rc] 31 (0, 0))) := by show _ = _; rw [← hV]; exact heap_alloc_new w _
  have HS : Hid (V.heap.size = w.heap.size + 1) := by show _ = _; rw [← hV]; show (w.heap.push _).size = _; simp
  have HG : Hid (GrAt V (.slice na g.nodes.length nc) (.slice ra g.roots.length rc) g) := hG.later HB0.out
  have HQ : Hid (∀ wr, Below V.heap.size V wr → wr.cell? ⟨w.heap.size, 0, none⟩ = some (.slice na g.nodes.length nc) ∧ wr.cell? ⟨w.heap.size, 1, none⟩ = some (.slice ra g.roots.length rc)) := fun wr hb => by
    have := (hb.block w.heap.size (by rw [HS.out]; exact Nat.lt_succ_self _)).trans HE.out
    simp [World.cell?, this]
  obtain ⟨pr, hpr⟩ : ∃ pr, partsP g = pr := ⟨_, rfl⟩
  have cP := partsOk_any g _ _ V HG.out ht pr hpr
  obtain ⟨q0, q1⟩ := HQ.out V (Below.refl _ _)
  have HV := hidG hV
  cases pr with
  | false =>
    have HO : Hid (false = graphOkP g) := (graphOk_parts hpr).symm
    clear hG ht htt hV hpr
    go_enter Tryd.func20, Tryd.ntmps20
    go_wp2_with fail
    rw [HV.out]
    go_wp2_with fail
    refine cP.mono ?_
    rintro e w1 ⟨rfl, hb1⟩
    have HB1 := hidG (HB0.out.trans (hb1.mono HB0.out.size))
    clear hb1 cP
    go_wp2_with fail
    go_ret
    exact ⟨congrArg (fun b => Ending.returned (.bool b)) (show false = graphOkP g from HO.out), HB1.out⟩
  | true =>
    obtain ⟨hN, hKI, hRI⟩ := parts_kids hpr
    have HSU : Hid (graphOkP g = ((svAll g).ok && decide ((svAll g).met = List.range g.nodes.length))) := graphOk_survey hpr
    have HWO : Hid (∀ x, Below V.heap.size V x → Calls Tryd.prog 21 #[.agg #[.slice na g.nodes.length nc, .slice ra g.roots.length rc]] x fun e w' => (∃ Ps kn rt, e = .returned (.agg #[kn, rt]) ∧ isSlG kn ∧ isSlG rt ∧ WebAt w' g Ps kn rt) ∧ Below x.heap.size x w') := fun x hb => webOf_any g _ _ x (HG.out.later hb) ht hpr
    have HIA : Hid (SvI g (svAll g)) := svR_inv hKI _ _ _ hRI (start_svI g)
    have HRA : Hid (∀ (P0 : World) (B : Nat) (Ps : List Nat) (kn rt : Value) (w : World), WebAt P0 g Ps kn rt → SvAt P0 B Ps 0 ⟨[], [], true⟩ w → Calls Tryd.prog 36 #[.pointer (some ⟨B, 0, none⟩), rt] w fun e w' => e = .returned (.bool (svAll g).ok) ∧ ∃ f2, SvAt P0 B Ps f2 (svAll g) w') := fun P0 B Ps kn rt w hW hS => roots_any hW hKI hRI hN (by omega) (fun n hn => by have := totN_mem hn; unfold Nd.tot at this; omega) w 0 _ hS (start_svI g) rfl
    have HN : Hid (g.nodes.length ≤ 3000) := hN
    clear hG ht htt hV hpr hN hKI hRI
    go_enter Tryd.func20, Tryd.ntmps20
    go_wp2_with fail
    rw [HV.out]
    go_wp2_with fail
    refine cP.mono ?_
    rintro e w1 ⟨rfl, hb1⟩
    have HB1 := hidG hb1
    clear q0 q1
    obtain ⟨q0, q1⟩ := HQ.out w1 hb1
    clear hb1 cP
    go_wp2_with fail
    refine (HWO.out w1 HB1.out).mono ?_
    rintro e w2 ⟨⟨Ps, kn, rt, rfl, ⟨ka, kn, kc, rfl⟩, ⟨rta, rtn, rtc, rfl⟩, hW⟩, hb2⟩
    have HW2 := hidG hW
    have HB2 := hidG (HB1.out.trans (hb2.mono HB1.out.size))
    clear hW hb2 q0 q1 HWO
    obtain ⟨P0, hP0⟩ : ∃ P0, w2.alloc (.cells #[.slice ka kn kc, .slice rta rtn rtc] 50) = P0 := ⟨_, rfl⟩
    have hB3 : Below w2.heap.size w2 P0 := by rw [← hP0]; exact al_belowG w2 _
    have HE3 : Hid (P0.heap[w2.heap.size]? = some (.cells #[.slice ka kn kc, .slice rta rtn rtc] 50 (0, 0))) := by show _ = _; rw [← hP0]; exact heap_alloc_new w2 _
    have HW3 : Hid (WebAt P0 g Ps (.slice ka kn kc) (.slice rta rtn rtc)) := HW2.out.later hB3
    have HB3 := hidG (HB2.out.trans (hB3.mono HB2.out.size))
    have HP0 := hidG hP0
    obtain ⟨W4, hW4⟩ : ∃ W4, P0.alloc (.cells #[.map none, .slice none 0 0, .int .i64 0, .slice none 0 0] 75) = W4 := ⟨_, rfl⟩
    have HS4 : Hid (SvAt P0 P0.heap.size Ps 0 ⟨[], [], true⟩ W4) := by show SvAt _ _ _ _ _ _; rw [← hW4]; exact sv_start P0 Ps
    have hB4 : Below P0.heap.size P0 W4 := by rw [← hW4]; exact al_belowG P0 _
    have hs3 : P0.heap.size = w2.heap.size + 1 := by rw [← hP0]; simp
    have HS3 := hidG hs3
    have x1 : W4.cell? ⟨w2.heap.size, 1, none⟩ = some (.slice rta rtn rtc) := by
      have := (hB4.block _ (by omega)).trans HE3.out
      simp [World.cell?, this]
    have HW4 := hidG hW4
    have cA := HRA.out P0 P0.heap.size Ps _ _ W4 HW3.out HS4.out
    obtain ⟨ok, hok⟩ : ∃ ok, (svAll g).ok = ok := ⟨_, rfl⟩
    rw [hok] at cA
    have HOK := hidG hok
    clear hB3 hP0 hW4 hB4 hs3 hok
    go_wp2_with fail
    rw [HP0.out, HW4.out]
    rw [HS3.out] at cA
    refine cA.mono ?_
    rintro e w5 ⟨rfl, f2, hS5⟩
    have HS5 : Hid (SvAt P0 (w2.heap.size + 1) Ps f2 (svAll g) w5) := by show SvAt _ _ _ _ _ _; rw [← HS3.out]; rw [← HS3.out] at hS5; exact hS5
    have HB5 := hidG (HB0.out.trans ((HB3.out.trans (hS5.below.mono HB3.out.size)).mono HB0.out.size))
    clear hS5 cA x1
    cases ok with
    | false =>
      have HO : Hid (false = graphOkP g) := by show _ = _; rw [HSU.out, HOK.out]; rfl
      clear HOK
      go_wp2_with fail
      go_ret
      exact ⟨congrArg (fun b => Ending.returned (.bool b)) (show false = graphOkP g from HO.out), HB5.out⟩
    | true =>
      have hHP : Below P0.heap.size P0 w5 := HS5.out.below
      have hW5 := HW3.out.later hHP
      obtain ⟨ma, mc, y1, hpm⟩ := HS5.out.met_
      have hml : (svAll g).met.length ≤ 3000 := by have h1 := HIA.out.room; have h2 := HN.out; omega
      have hrp : ∀ j ∈ (svAll g).met, j < Ps.length := fun j hj => by rw [hW5.len]; exact HIA.out.rng j hj
      have hLm : ∀ x ∈ bks Ps (svAll g).met, Live w5 x := fun x hx => by
        unfold bks at hx
        obtain ⟨j, hj, rfl⟩ := List.mem_map.1 hx
        exact hW5.live (blk_mem (hrp j hj))
      obtain ⟨bb, hbb⟩ : ∃ bb, decide (bks Ps (svAll g).met = Ps) = bb := ⟨_, rfl⟩
      have hpm' : PlAt w5 (.slice ma (svAll g).met.length mc) (bks Ps (svAll g).met) := hpm
      have cE := eqK_any w5 _ _ (bks Ps (svAll g).met) Ps hpm' hW5.knots hLm (fun x hx => hW5.live hx) (by rw [bks_len]; omega) (by rw [hW5.len]; have := HN.out; omega) bb hbb
      have HO : Hid (bb = graphOkP g) := by
        show _ = _
        rw [HSU.out, HOK.out, ← hbb]
        show _ = decide _
        exact decide_eq_decide.2 (bks_eq hW5.len hW5.nd HIA.out.rng)
      have hE5 := (hHP.block _ (by have := HS3.out; omega)).trans HE3.out
      have z0 := n2_0 hE5
      clear hHP hW5 hpm hml hrp hLm hbb hpm' hE5
      go_wp2_with fail
      refine cE.mono ?_
      rintro e w6 ⟨rfl, hb6⟩
      have HB6 := hidG (HB5.out.trans (hb6.mono HB5.out.size))
      clear hb6 cE
      cases bb
      all_goals
        go_wp2_with fail
        go_ret
        exact ⟨congrArg (fun b => Ending.returned (.bool b)) (show _ = graphOkP g from HO.out), HB6.out⟩
end Go.Proofs.YtgaibajkegfpoaaDoor
