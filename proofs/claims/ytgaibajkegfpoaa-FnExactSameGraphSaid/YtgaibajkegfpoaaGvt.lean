/- The program's SameGraph, over its parts. -/
import Derived.Test.YtgaibajkegfpoaaGvs
namespace Go.Proofs.Ytgaibajkegfpoaa
open Go.ChangeShapes Go.WideShapes Go.ChangeAt Go.RowKit Go.Deep
set_option maxHeartbeats 8000000 in
set_option maxRecDepth 100000 in
theorem eqNf_any (w : World) (v1 v2 : Value) (l1 l2 : List Nd) (h1 : NlAt w v1 l1) (h2 : NlAt w v2 l2) (hl1 : l1.length ≤ 1048576) (hl2 : l2.length ≤ 1048576) (hk1 : ∀ n ∈ l1, n.kids.length ≤ 1048576) (hk2 : ∀ n ∈ l2, n.kids.length ≤ 1048576) (r : Bool) (hr : nodesB l1 l2 = r) :
    Calls Try.prog 57 #[v1, v2, .func (.func 58) #[] #[]] w fun e w' => e = .returned (.bool r) ∧ Below w.heap.size w w' := by
  obtain ⟨a1, c1, rfl⟩ := h1.sl
  obtain ⟨a2, c2, rfl⟩ := h2.sl
  have hI1 : (l1.length : Int) ≤ 1048576 := by omega
  have hI2 : (l2.length : Int) ≤ 1048576 := by omega
  unfold nodesB at hr
  by_cases hll : l1.length = l2.length
  case neg =>
    have hne : ((l1.length : Int) != (l2.length : Int)) = true := by rw [bne_iff_ne]; omega
    obtain rfl : false = r := by rw [← hr, decide_eq_false hll]; rfl
    have HB := hidG (Below.refl w.heap.size w)
    clear h1 h2 hll hr hl1 hl2 hk1 hk2
    go_enter Try.func57, Try.ntmps57
    go_wp2_with fail
    go_ret
    exact ⟨rfl, HB.out⟩
  rw [decide_eq_true hll, Bool.true_and] at hr
  have heq : ((l1.length : Int) != (l2.length : Int)) = false := by rw [hll]; simp
  have H1 := hidG h1
  have H2 := hidG h2
  have HLL := hidG hll
  have HR := hidG hr
  have HK1 := hidG hk1
  have HK2 := hidG hk2
  rw [← hll] at heq
  clear h1 h2 hll hr hl1 hl2 hk1 hk2
  have hle : l2.length = l1.length := HLL.out.symm
  rw [hle] at H2 ⊢
  go_enter Try.func57, Try.ntmps57
  go_wp2_with fail
  go_loopw [17] (fun iv wr => ∃ k : Nat, iv = .int .i64 k ∧ k ≤ l1.length ∧ Hid (∀ (i : Nat) (x y : Nd), i < k → l1[i]? = some x → l2[i]? = some y → ndSame x y = true) ∧ Hid (Below w.heap.size w wr)) (fun iv _ => l1.length - (intOf iv).toNat)
  case atStart => exact ⟨0, rfl, Nat.zero_le _, fun i x y h => absurd h (Nat.not_lt_zero _), Below.refl _ _⟩
  case round =>
    obtain ⟨k, rfl, hk, HE, HB⟩ := hrel
    by_cases hlt : k < l1.length
    · have hltI : (k : Int) < (l1.length : Int) := by omega
      obtain ⟨x, hx⟩ : ∃ x, l1[k]? = some x := ⟨_, List.getElem?_eq_getElem hlt⟩
      obtain ⟨y, hy⟩ : ∃ y, l2[k]? = some y := ⟨_, List.getElem?_eq_getElem (by rw [hle]; exact hlt)⟩
      obtain ⟨b1, o1, xv, rfl, hb1, hN1⟩ := H1.out.at hx
      have H2' := H2.out
      rw [← hle] at H2'
      obtain ⟨b2, o2, yv, rfl, hb2, hN2⟩ := H2'.at hy
      obtain ⟨c0, c1, c2, c3, hIx⟩ := hN1.later hb1 HB.out
      obtain ⟨d0, d1, d2, d3, hIy⟩ := hN2.later hb2 HB.out
      have hb1w : b1 < wr.heap.size := Nat.lt_of_lt_of_le hb1 HB.out.size
      have hb2w : b2 < wr.heap.size := Nat.lt_of_lt_of_le hb2 HB.out.size
      obtain ⟨Z, hZ⟩ : ∃ Z, (wr.alloc (.cells #[.int .i64 x.kind, .string x.tag, .string x.text, xv] 50)).alloc (.cells #[.int .i64 y.kind, .string y.tag, .string y.text, yv] 50) = Z := ⟨_, rfl⟩
      have hBZ : Below wr.heap.size wr Z := by rw [← hZ]; exact ((Below.refl _ wr).alloc (Nat.le_refl _) _).alloc (by simp) _
      obtain ⟨sb, hsb⟩ : ∃ sb, ndSame x y = sb := ⟨_, rfl⟩
      have cS := sameNode_any x y xv yv Z (hIx.later hBZ) (hIy.later hBZ) (HK1.out _ (List.mem_of_getElem? hx)) (HK2.out _ (List.mem_of_getElem? hy)) sb hsb
      obtain ⟨xa, xc, rfl⟩ := hIx.sl
      obtain ⟨ya, yc, rfl⟩ := hIy.sl
      have HBZ := hidG (HB.out.trans (hBZ.mono HB.out.size))
      have HZ := hidG hZ
      have HX := hidG hx
      have HY := hidG hy
      have HSB := hidG hsb
      clear hx hy hb1 hb2 hN1 hN2 H2' hIx hIy hZ hBZ hsb HB
      cases sb with
      | false =>
        have HO : Hid (false = r) := by show _ = _; rw [← HR.out, nds_no HX.out HY.out HSB.out]
        clear HE
        go_wp2_with fail
        rw [HZ.out]
        refine cS.mono ?_
        rintro e w2 ⟨rfl, hb⟩
        have HBF := hidG (HBZ.out.trans (hb.mono HBZ.out.size))
        clear hb cS
        go_wp2_with fail
        go_ret
        exact ⟨congrArg (fun b => Ending.returned (.bool b)) (show false = r from HO.out), HBF.out⟩
      | true =>
        have HE2 : Hid (∀ (i : Nat) (x y : Nd), i < k + 1 → l1[i]? = some x → l2[i]? = some y → ndSame x y = true) := fun i x' y' hi hx' hy' => by
          by_cases e : i = k
          · subst e
            rw [HX.out] at hx'
            rw [HY.out] at hy'
            obtain rfl := Option.some.inj hx'
            obtain rfl := Option.some.inj hy'
            exact HSB.out
          · exact HE.out i x' y' (by omega) hx' hy'
        clear HE
        go_wp2_with fail
        rw [HZ.out]
        refine cS.mono ?_
        rintro e w2 ⟨rfl, hb⟩
        have HBF := hidG (HBZ.out.trans (hb.mono HBZ.out.size))
        clear hb cS
        go_wp2_with fail
        go_roundw
        case rel => exact ⟨k + 1, by go_num, hlt, HE2, HBF⟩
        case measure => simp [intOf]; omega
    · have hge : ¬ (k : Int) < (l1.length : Int) := by omega
      have HO : Hid (true = r) := by
        show _ = _
        rw [← HR.out]
        refine (nds_yes HLL.out fun i x y hx hy => HE.out i x y ?_ hx hy).symm
        have := (List.getElem?_eq_some_iff.1 hx).1
        omega
      clear HE
      go_wp2_with fail
      go_ret
      exact ⟨congrArg (fun b => Ending.returned (.bool b)) (show true = r from HO.out), HB.out⟩
set_option maxHeartbeats 8000000 in
set_option maxRecDepth 100000 in
theorem implSm : ImplSm := by
  intro a b na' ra' nb' rb' w hA hB ta tb fa _
  have htA : a.nodes.length + totN a.nodes + a.roots.length ≤ 1048576 := ta
  have htB : b.nodes.length + totN b.nodes + b.roots.length ≤ 1048576 := tb
  obtain ⟨na, nc, rfl⟩ := hA.1.sl
  obtain ⟨ra, rc, rfl⟩ := hA.2.sl
  obtain ⟨nb, nd, rfl⟩ := hB.1.sl
  obtain ⟨rb, rd, rfl⟩ := hB.2.sl
  obtain ⟨V, hV⟩ : ∃ V, (w.alloc (.cells #[.slice na a.nodes.length nc, .slice ra a.roots.length rc] 30)).alloc (.cells #[.slice nb b.nodes.length nd, .slice rb b.roots.length rd] 30) = V := ⟨_, rfl⟩
  have HB0 : Hid (Below w.heap.size w V) := by show Below _ _ _; rw [← hV]; exact ((Below.refl _ w).alloc (Nat.le_refl _) _).alloc (by simp) _
  have HS : Hid (V.heap.size = w.heap.size + 2) := by show _ = _; rw [← hV]; show ((w.heap.push _).push _).size = _; simp
  have HE0 : Hid (V.heap[w.heap.size]? = some (.cells #[.slice na a.nodes.length nc, .slice ra a.roots.length rc] 30 (0, 0))) := by
    show _ = _
    rw [← hV]
    show ((w.heap.push _).push _)[w.heap.size]? = _
    rw [Array.getElem?_push, if_neg (by simp), Array.getElem?_push, if_pos rfl]
  have HE1 : Hid (V.heap[w.heap.size + 1]? = some (.cells #[.slice nb b.nodes.length nd, .slice rb b.roots.length rd] 30 (0, 0))) := by
    show _ = _
    rw [← hV]
    show ((w.heap.push _).push _)[w.heap.size + 1]? = _
    rw [Array.getElem?_push, if_pos (by simp)]
  have HQ : Hid (∀ wr, Below V.heap.size V wr → wr.cell? ⟨w.heap.size, 0, none⟩ = some (.slice na a.nodes.length nc) ∧ wr.cell? ⟨w.heap.size, 1, none⟩ = some (.slice ra a.roots.length rc) ∧ wr.cell? ⟨w.heap.size + 1, 0, none⟩ = some (.slice nb b.nodes.length nd) ∧ wr.cell? ⟨w.heap.size + 1, 1, none⟩ = some (.slice rb b.roots.length rd)) := fun wr hb => by
    have h0 := (hb.block w.heap.size (by rw [HS.out]; omega)).trans HE0.out
    have h1 := (hb.block (w.heap.size + 1) (by rw [HS.out]; omega)).trans HE1.out
    exact ⟨n2_0 h0, n2_1 h0, n2_0 h1, n2_1 h1⟩
  have HA : Hid (GrAt V (.slice na a.nodes.length nc) (.slice ra a.roots.length rc) a) := hA.later HB0.out
  have HB : Hid (GrAt V (.slice nb b.nodes.length nd) (.slice rb b.roots.length rd) b) := hB.later HB0.out
  obtain ⟨gk, hgk⟩ : ∃ gk, graphOkP a = gk := ⟨_, rfl⟩
  have cG := implGk a _ _ V HA.out ta fa
  rw [hgk] at cG
  have hsame := same_is a b
  rw [hgk] at hsame
  obtain ⟨q0, q1, q2, q3⟩ := HQ.out V (Below.refl _ _)
  have HV := hidG hV
  have HTT : Hid (a.nodes.length ≤ 1048576 ∧ b.nodes.length ≤ 1048576 ∧ a.roots.length ≤ 1048576 ∧ b.roots.length ≤ 1048576 ∧ (∀ n ∈ a.nodes, n.kids.length ≤ 1048576) ∧ ∀ n ∈ b.nodes, n.kids.length ≤ 1048576) := ⟨by omega, by omega, by omega, by omega, fun n hn => by have := totN_mem hn; unfold Nd.tot at this; omega, fun n hn => by have := totN_mem hn; unfold Nd.tot at this; omega⟩
  clear hV hA hB ta tb fa htA htB hgk
  cases gk with
  | false =>
    have HO : Hid (false = sameP a b) := by show _ = _; rw [hsame]; rfl
    clear hsame
    go_enter Try.func26, Try.ntmps26
    go_wp2_with fail
    rw [HV.out]
    refine cG.mono ?_
    rintro e w1 ⟨rfl, hb1⟩
    have HB1 := hidG (HB0.out.trans (hb1.mono HB0.out.size))
    clear hb1 cG
    go_wp2_with fail
    go_ret
    exact ⟨congrArg (fun b => Ending.returned (.bool b)) (show false = sameP a b from HO.out), HB1.out⟩
  | true =>
    obtain ⟨er, her⟩ : ∃ er, decide (a.roots = b.roots) = er := ⟨_, rfl⟩
    obtain ⟨en, hen⟩ : ∃ en, nodesB a.nodes b.nodes = en := ⟨_, rfl⟩
    rw [her, hen] at hsame
    have HER := hidG her
    have HEN := hidG hen
    have HSM := hidG hsame
    clear hsame her hen
    go_enter Try.func26, Try.ntmps26
    go_wp2_with fail
    rw [HV.out]
    refine cG.mono ?_
    rintro e w1 ⟨rfl, hb1⟩
    have HB1 := hidG hb1
    clear q0 q1 q2 q3
    obtain ⟨q0, q1, q2, q3⟩ := HQ.out w1 hb1
    have cR := eqIs_any w1 _ _ a.roots b.roots (HA.out.2.later hb1) (HB.out.2.later hb1) HTT.out.2.2.1 HTT.out.2.2.2.1 er HER.out
    clear hb1 cG
    go_wp2_with fail
    refine cR.mono ?_
    rintro e w2 ⟨rfl, hb2⟩
    have HB2 := hidG (HB1.out.trans (hb2.mono HB1.out.size))
    clear hb2 cR q0 q1 q2 q3
    cases er with
    | false =>
      have HO : Hid (false = sameP a b) := by show _ = _; rw [HSM.out]; rfl
      have HBF := hidG (HB0.out.trans (HB2.out.mono HB0.out.size))
      go_wp2_with fail
      go_ret
      exact ⟨congrArg (fun b => Ending.returned (.bool b)) (show false = sameP a b from HO.out), HBF.out⟩
    | true =>
      have HO : Hid (en = sameP a b) := by show _ = _; rw [HSM.out]; rfl
      obtain ⟨q0, q1, q2, q3⟩ := HQ.out w2 HB2.out
      have cN := eqNf_any w2 _ _ a.nodes b.nodes (HA.out.1.later HB2.out) (HB.out.1.later HB2.out) HTT.out.1 HTT.out.2.1 HTT.out.2.2.2.2.1 HTT.out.2.2.2.2.2 en HEN.out
      go_wp2_with fail
      refine cN.mono ?_
      rintro e w3 ⟨rfl, hb3⟩
      have HBF := hidG (HB0.out.trans ((HB2.out.trans (hb3.mono HB2.out.size)).mono HB0.out.size))
      clear hb3 cN q0 q1 q2 q3
      cases en
      all_goals
        go_wp2_with fail
        go_ret
        exact ⟨congrArg (fun b => Ending.returned (.bool b)) (show _ = sameP a b from HO.out), HBF.out⟩
end Go.Proofs.Ytgaibajkegfpoaa
