/- The program's Decompose. -/
import Derived.Test.YtgaibajkegfpoaaDoorZqk
import Derived.Test.YtgaibajkegfpoaaDoorGtt
import Derived.Test.YtgaibajkegfpoaaDoorGvg
import Derived.Test.YtgaibajkegfpoaaDoorGvx
namespace Go.Proofs.YtgaibajkegfpoaaDoor
open Go.ChangeShapes Go.WideShapes Go.ChangeAt Go.RowKit Go.Deep
/-- What is asked of impl.Decompose. -/
def ImplDec : Prop := ∀ (g : Gr) (nv rv : Value) (w : World), GrAt w nv rv g → g.tot ≤ 1048576 → g.Wf → TabV w →
    Calls Tryd.prog 7 #[.agg #[nv, rv]] w fun e w' => (∃ v, e = .returned v ∧ isSlG v ∧ w'.ownsRow w.heap.size 44 8 v (decP g).length (rowsE (decP g))) ∧ Below w.heap.size w w'
theorem te_start (P0 : World) (Ps : List Nat) (S : List Int) (sa : Option Addr) (sc : Nat) (hS : IlAt P0 (.slice sa S.length sc) S) : TeAt P0 P0.heap.size Ps S ⟨[], [], []⟩ (P0.alloc (.cells #[.map none, .slice none 0 0, .slice sa S.length sc, .slice none 0 0] 57)) :=
  ⟨⟨sa, sc, none, 0, 0, ⟨⟨.map none, none, 0, 0, heap_alloc_new P0 _, ⟨rfl, .inl ⟨rfl, rfl⟩⟩, .inl ⟨rfl, rfl⟩⟩⟩, hS, ⟨rfl, .inl ⟨rfl, rfl⟩⟩⟩, Nat.le_refl _, al_belowG P0 _⟩
theorem te_told {P0 w : World} {B : Nat} {Ps : List Nat} {S : List Int} {t : Td} (h : TeAt P0 B Ps S t w) : ∃ (oa : Option Addr) (on oc : Nat), w.cell? ⟨B, 3, none⟩ = some (.slice oa on oc) ∧ w.ownsRow P0.heap.size 44 8 (.slice oa on oc) t.out.length (rowsE t.out) := by
  obtain ⟨sa, sc, oa, on, oc, h1, _, h3⟩ := h.tr
  obtain ⟨nv, ma, mn, mc, k1, _⟩ := h1.ex
  exact ⟨oa, on, oc, sv_3 k1, h3⟩
set_option maxHeartbeats 8000000 in
set_option maxRecDepth 100000 in
theorem implDec : ImplDec := by
  intro g nv rv w hG ht hf hTV
  have htt : g.nodes.length + totN g.nodes + g.roots.length ≤ 1048576 := ht
  obtain ⟨na, nc, rfl⟩ := hG.1.sl
  obtain ⟨ra, rc, rfl⟩ := hG.2.sl
  obtain ⟨V, hV⟩ : ∃ V, w.alloc (.cells #[.slice na g.nodes.length nc, .slice ra g.roots.length rc] 31) = V := ⟨_, rfl⟩
  have HB0 : Hid (Below w.heap.size w V) := by show Below _ _ _; rw [← hV]; exact al_belowG w _
  have HE : Hid (V.heap[w.heap.size]? = some (.cells #[.slice na g.nodes.length nc, .slice ra g.roots.length rc] 31 (0, 0))) := by show _ = _; rw [← hV]; exact heap_alloc_new w _
  have HS : Hid (V.heap.size = w.heap.size + 1) := by show _ = _; rw [← hV]; show (w.heap.push _).size = _; simp
  have HG : Hid (GrAt V (.slice na g.nodes.length nc) (.slice ra g.roots.length rc) g) := hG.later HB0.out
  have HQ : Hid (∀ wr, Below V.heap.size V wr → wr.cell? ⟨w.heap.size, 0, none⟩ = some (.slice na g.nodes.length nc) ∧ wr.cell? ⟨w.heap.size, 1, none⟩ = some (.slice ra g.roots.length rc)) := fun wr hb => by
    have := (hb.block w.heap.size (by rw [HS.out]; exact Nat.lt_succ_self _)).trans HE.out
    simp [World.cell?, this]
  have HTV : Hid (∀ x, Below w.heap.size w x → TabV x) := fun x hb => hTV.lasts hb
  obtain ⟨gk, hgk⟩ : ∃ gk, graphOkP g = gk := ⟨_, rfl⟩
  have cG := implGk g _ _ V HG.out ht hf
  rw [hgk] at cG
  obtain ⟨q0, q1⟩ := HQ.out V (Below.refl _ _)
  have HV := hidG hV
  cases gk with
  | false =>
    have hsg : decP g = [] := by unfold decP; rw [if_neg (by rw [hgk]; decide)]
    rw [hsg]
    clear hG ht htt hV hgk hf hsg hTV
    go_enter Tryd.func7, Tryd.ntmps7
    go_wp2_with fail
    rw [HV.out]
    refine cG.mono ?_
    rintro e w1 ⟨rfl, hb1⟩
    have HB1 := hidG (HB0.out.trans (hb1.mono HB0.out.size))
    clear hb1 cG
    go_wp2_with fail
    go_ret
    exact ⟨⟨_, rfl, ⟨_, _, _, rfl⟩, ⟨rfl, .inl ⟨rfl, rfl⟩⟩⟩, HB1.out⟩
  | true =>
    have hpr : partsP g = true := by
      cases e : partsP g with
      | true => rfl
      | false => rw [graphOk_parts e] at hgk; cases hgk
    obtain ⟨hN, hKI, hRI⟩ := parts_kids hpr
    have hsg := shared_kids hgk
    have HWO : Hid (∀ x, Below V.heap.size V x → Calls Tryd.prog 21 #[.agg #[.slice na g.nodes.length nc, .slice ra g.roots.length rc]] x fun e w' => (∃ Ps kn rt, e = .returned (.agg #[kn, rt]) ∧ isSlG kn ∧ isSlG rt ∧ WebAt w' g Ps kn rt) ∧ Below x.heap.size x w') := fun x hb => webOf_any g _ _ x (HG.out.later hb) ht hpr
    obtain ⟨S, hS⟩ : ∃ S, sharedG g = S := ⟨_, rfl⟩
    have hss : S.Pairwise (· ≤ ·) := by rw [← hS, hsg]; exact sharedTo_sorted _ _
    have hsl : S.length ≤ 1048576 := by
      rw [← hS, hsg]
      have := sharedTo_len (cntN (List.replicate g.nodes.length 0) g.nodes) g.nodes.length
      omega
    have hrd := (right_td hgk).2.2 S (by rw [← hS]; exact right_names hgk) hS.symm
    have hfl : (g.roots.foldl (tdR g iA (iB S) (g.nodes.length + 1)) td0).tr.length ≤ 1048576 := by
      have h := td_len hgk ht
      rw [← hrd] at h
      exact h
    have hdc : decP g = (tdAll g iA (iB S)).out := by
      unfold decP
      rw [if_pos hgk, ← td_same hgk, hS]
    rw [hdc]
    have HWS : Hid (∀ (x : World) (Ps : List Nat) (kn rt : Value), WebAt x g Ps kn rt → Calls Tryd.prog 22 #[.agg #[kn, rt]] x fun e w' => (∃ v, e = .returned v ∧ isSlG v ∧ w'.ownsRow x.heap.size 3 1 v S.length (ilV S)) ∧ Below x.heap.size x w') := fun x Ps kn rt hW => by
      have := webShared_any g Ps kn rt x hW hN hKI (by omega)
      rw [← hsg, hS] at this
      exact this
    have HST : Hid (∀ (P0 : World) (B : Nat) (Ps : List Nat) (kn rt : Value) (x : World), WebAt P0 g Ps kn rt → TabV P0 → TeAt P0 B Ps S ⟨[], [], []⟩ x → Calls Tryd.prog 23 #[.pointer (some ⟨B, 0, none⟩), rt] x fun e w' => e = .returned (.tuple #[]) ∧ TeAt P0 B Ps S (tdAll g iA (iB S)) w') := fun P0 B Ps kn rt x hW hTb hT => stream_any hW hTb hss hsl hKI hRI hN (by omega) (fun n hn => by have := totN_mem hn; unfold Nd.tot at this; omega) hfl x hT
    clear hG ht htt hV hgk hf hsg hpr hN hKI hRI hS hss hsl hrd hfl hdc hTV
    go_enter Tryd.func7, Tryd.ntmps7
    go_wp2_with fail
    rw [HV.out]
    refine cG.mono ?_
    rintro e w1 ⟨rfl, hb1⟩
    have HB1 := hidG hb1
    clear q0 q1
    obtain ⟨q0, q1⟩ := HQ.out w1 hb1
    clear hb1 cG
    go_wp2_with fail
    refine (HWO.out w1 HB1.out).mono ?_
    rintro e w2 ⟨⟨Ps, kn, rt, rfl, ⟨ka, kn, kc, rfl⟩, ⟨rta, rtn, rtc, rfl⟩, hW⟩, hb2⟩
    have HW2 := hidG hW
    have HB2 := hidG (HB1.out.trans (hb2.mono HB1.out.size))
    clear hW hb2 q0 q1 HWO
    obtain ⟨W2, hW2⟩ : ∃ W2, w2.alloc (.cells #[.slice ka kn kc, .slice rta rtn rtc] 50) = W2 := ⟨_, rfl⟩
    have hB3 : Below w2.heap.size w2 W2 := by rw [← hW2]; exact al_belowG w2 _
    have HE3 : Hid (W2.heap[w2.heap.size]? = some (.cells #[.slice ka kn kc, .slice rta rtn rtc] 50 (0, 0))) := by show _ = _; rw [← hW2]; exact heap_alloc_new w2 _
    have HW3 : Hid (WebAt W2 g Ps (.slice ka kn kc) (.slice rta rtn rtc)) := HW2.out.later hB3
    have HB3 := hidG (HB2.out.trans (hB3.mono HB2.out.size))
    have HW2E := hidG hW2
    have hs3 : w2.heap.size < W2.heap.size := by rw [← hW2]; simp
    have HS3 := hidG hs3
    have x0 : W2.cell? ⟨w2.heap.size, 0, none⟩ = some (.slice ka kn kc) := by simp [World.cell?, HE3.out]
    have x1 : W2.cell? ⟨w2.heap.size, 1, none⟩ = some (.slice rta rtn rtc) := by simp [World.cell?, HE3.out]
    have cS := HWS.out W2 _ _ _ HW3.out
    clear hB3 hW2 hs3 HWS
    go_wp2_with fail
    rw [HW2E.out]
    go_wp2_with fail
    refine cS.mono ?_
    rintro e P0 ⟨⟨v, rfl, ⟨sa, sn, sc, rfl⟩, hr⟩, hb3⟩
    obtain rfl : sn = S.length := by
      rcases hr.2 with ⟨e1, e2⟩ | ⟨_, _, _, e1, _⟩
      · cases e1
        first
          | exact e2.symm
          | (have := congrArg List.length e2; simp [ilV] at this; simp [this])
      · cases e1; rfl
    have hil := il_of_own hr
    have HWP : Hid (WebAt P0 g Ps (.slice ka kn kc) (.slice rta rtn rtc)) := HW3.out.later hb3
    have HBP := hidG (HB3.out.trans (hb3.mono HB3.out.size))
    obtain ⟨W4, hW4⟩ : ∃ W4, P0.alloc (.cells #[.map none, .slice none 0 0, .slice sa S.length sc, .slice none 0 0] 57) = W4 := ⟨_, rfl⟩
    have HS4 : Hid (TeAt P0 P0.heap.size Ps S ⟨[], [], []⟩ W4) := by show TeAt _ _ _ _ _ _; rw [← hW4]; exact te_start P0 Ps S sa sc hil
    have hB4 : Below P0.heap.size P0 W4 := by rw [← hW4]; exact al_belowG P0 _
    have y1 : W4.cell? ⟨w2.heap.size, 1, none⟩ = some (.slice rta rtn rtc) := by
      have h1 := (hb3.block _ HS3.out).trans HE3.out
      have h2 := (hB4.block _ (Nat.lt_of_lt_of_le HS3.out hb3.size)).trans h1
      simp [World.cell?, h2]
    have HW4 := hidG hW4
    rw [← hW4] at y1
    have HTP : Hid (TabV P0) := HTV.out P0 (HB0.out.trans (HBP.out.mono HB0.out.size))
    have cA := HST.out P0 P0.heap.size Ps _ _ W4 HWP.out HTP.out HS4.out
    clear hr hil hb3 hB4 hW4 x0 x1 cS HST
    go_wp2_with fail
    rw [HW4.out]
    refine cA.mono ?_
    rintro e w5 ⟨rfl, hT5⟩
    obtain ⟨oa, on, oc, z3, hr5⟩ := te_told hT5
    have HR5 : Hid (w5.ownsRow w.heap.size 44 8 (.slice oa on oc) (tdAll g iA (iB S)).out.length (rowsE (tdAll g iA (iB S)).out)) := g_row_lower hr5 (Nat.le_trans HB0.out.size HBP.out.size)
    have HB5 := hidG (HB0.out.trans ((HBP.out.trans (hT5.below.mono HBP.out.size)).mono HB0.out.size))
    clear hT5 hr5 cA y1
    go_wp2_with fail
    go_ret
    exact ⟨⟨_, rfl, ⟨_, _, _, rfl⟩, HR5.out⟩, HB5.out⟩
end Go.Proofs.YtgaibajkegfpoaaDoor
