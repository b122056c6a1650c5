/- Whether two graphs are alike: plain, and spec.SameGraph. -/
import Derived.Test.YtgaibajkegfpoaaGin
namespace Go.Proofs.Ytgaibajkegfpoaa
open Go.ChangeShapes Go.WideShapes Go.ChangeAt Go.RowKit Go.Deep
theorem toList_neG {a b : ByteArray} (h : a ≠ b) : (a.toList == b.toList) = false := by
  rw [beq_eq_false_iff_ne]
  intro e
  apply h
  apply ByteArray.ext
  apply Array.ext'
  rw [← ByteArray.toList_eq, ← ByteArray.toList_eq, e]
def ndSame (x y : Nd) : Bool := decide (x.kind = y.kind) && (decide (x.tag = y.tag) && (decide (x.text = y.text) && decide (x.kids = y.kids)))
def ndsSame : List Nd → List Nd → Bool
  | [], _ => true
  | _ :: _, [] => false
  | x :: a, y :: b => ndSame x y && ndsSame a b
def sameP (a b : Gr) : Bool := graphOkP a && (graphOkP b && (decide (a.nodes.length = b.nodes.length) && (decide (a.roots = b.roots) && ndsSame a.nodes b.nodes)))
theorem nds_no : ∀ {a b : List Nd} {k : Nat} {x y : Nd}, a[k]? = some x → b[k]? = some y → ndSame x y = false → ndsSame a b = false
  | [], _, _, _, _, h, _, _ => by simp at h
  | _ :: _, [], _, _, _, _, h, _ => by simp at h
  | p :: a, q :: b, 0, x, y, hx, hy, h => by
    obtain rfl : p = x := by simpa using hx
    obtain rfl : q = y := by simpa using hy
    rw [ndsSame, h]
    rfl
  | p :: a, q :: b, k + 1, x, y, hx, hy, h => by
    rw [ndsSame, nds_no (a := a) (b := b) (k := k) (by simpa using hx) (by simpa using hy) h, Bool.and_false]
theorem nds_yes : ∀ {a b : List Nd}, a.length = b.length → (∀ (k : Nat) (x y : Nd), a[k]? = some x → b[k]? = some y → ndSame x y = true) → ndsSame a b = true
  | [], _, _, _ => rfl
  | _ :: _, [], h, _ => by simp at h
  | p :: a, q :: b, hl, h => by
    rw [ndsSame, h 0 p q rfl rfl, nds_yes (by simpa using hl) (fun k x y hx hy => h (k + 1) x y (by simpa using hx) (by simpa using hy))]
    rfl
set_option maxHeartbeats 8000000 in
set_option maxRecDepth 100000 in
theorem spec_sameGraph (a b : Gr) (na' ra' nb' rb' : Value) (w : World) (hA : GrAt w na' ra' a) (hB : GrAt w nb' rb' b) (ta : a.tot ≤ 1048576) (tb : b.tot ≤ 1048576) :
    Calls Try.prog 25 #[.agg #[na', ra'], .agg #[nb', rb']] w fun e w' => e = .returned (.bool (sameP a b)) ∧ Below w.heap.size w w' := by
  have htA : a.nodes.length + totN a.nodes + a.roots.length ≤ 1048576 := ta
  have htB : b.nodes.length + totN b.nodes + b.roots.length ≤ 1048576 := tb
  have HKA : Hid (∀ n ∈ a.nodes, n.kids.length ≤ 1048576) := fun n hn => by have := totN_mem hn; unfold Nd.tot at this; omega
  have HKB : Hid (∀ n ∈ b.nodes, n.kids.length ≤ 1048576) := fun n hn => by have := totN_mem hn; unfold Nd.tot at this; omega
  obtain ⟨na, nc, rfl⟩ := hA.1.sl
  obtain ⟨ra, rc, rfl⟩ := hA.2.sl
  obtain ⟨nb, nd, rfl⟩ := hB.1.sl
  obtain ⟨rb, rd, rfl⟩ := hB.2.sl
  have hnl : (a.nodes.length : Int) ≤ 1048576 := by omega
  have hml : (b.nodes.length : Int) ≤ 1048576 := by omega
  have HRA : Hid (a.roots.length ≤ 1048576 ∧ b.roots.length ≤ 1048576) := ⟨by omega, by omega⟩
  obtain ⟨V, hV⟩ : ∃ V, (w.alloc (.cells #[.slice na a.nodes.length nc, .slice ra a.roots.length rc] 30)).alloc (.cells #[.slice nb b.nodes.length nd, .slice rb b.roots.length rd] 30) = V := ⟨_, rfl⟩
  have HB0 : Hid (Below w.heap.size w V) := by show Below _ _ _; rw [← hV]; exact ((Below.refl _ w).alloc (Nat.le_refl _) _).alloc (by simp) _
  have HS : Hid (V.heap.size = w.heap.size + 2) := by show _ = _; rw [← hV]; show ((w.heap.push _).push _).size = _; simp
  have HE0 : Hid (V.heap[w.heap.size]? = some (.cells #[.slice na a.nodes.length nc, .slice ra a.roots.length rc] 30 (0, 0))) := by
    show _ = _
    rw [← hV]
    show ((w.heap.push _).push _)[w.heap.size]? = _
    rw [Array.getElem?_push, if_neg (by simp), Array.getElem?_push, if_pos rfl]
  have HE1 : Hid (V.heap[w.heap.size + 1]? = some (.cells #[.slice nb b.nodes.length nd, .slice rb b.roots.length rd] 30 (0, 0))) := by
    show _ = _
    rw [← hV]
    show ((w.heap.push _).push _)[w.heap.size + 1]? = _
    rw [Array.getElem?_push, if_pos (by simp)]
  have HQ : Hid (∀ wr, Below V.heap.size V wr → (wr.cell? ⟨w.heap.size, 0, none⟩ = some (.slice na a.nodes.length nc) ∧ wr.cell? ⟨w.heap.size, 1, none⟩ = some (.slice ra a.roots.length rc)) ∧ wr.cell? ⟨w.heap.size + 1, 0, none⟩ = some (.slice nb b.nodes.length nd) ∧ wr.cell? ⟨w.heap.size + 1, 1, none⟩ = some (.slice rb b.roots.length rd)) := fun wr hb => by
    have h0 := (hb.block w.heap.size (by rw [HS.out]; omega)).trans HE0.out
    have h1 := (hb.block (w.heap.size + 1) (by rw [HS.out]; omega)).trans HE1.out
    exact ⟨⟨n2_0 h0, n2_1 h0⟩, n2_0 h1, n2_1 h1⟩
  have HGA : Hid (GrAt V (.slice na a.nodes.length nc) (.slice ra a.roots.length rc) a) := hA.later HB0.out
  have HGB : Hid (GrAt V (.slice nb b.nodes.length nd) (.slice rb b.roots.length rd) b) := hB.later HB0.out
  have HTB : Hid (b.tot ≤ 1048576) := tb
  have cA := spec_graphOk a _ _ V HGA.out ta
  have HV : Hid ((w.alloc (.cells #[.slice na a.nodes.length nc, .slice ra a.roots.length rc] 30)).alloc (.cells #[.slice nb b.nodes.length nd, .slice rb b.roots.length rd] 30) = V) := hV
  obtain ⟨⟨q0, q1⟩, q2, q3⟩ := HQ.out V (Below.refl _ _)
  obtain ⟨oa, hoa⟩ : ∃ oa, graphOkP a = oa := ⟨_, rfl⟩
  have HOA : Hid (graphOkP a = oa) := hoa
  rw [hoa] at cA
  rw [← hV] at q0 q1
  clear hA hB ta tb htA htB hV hoa q2 q3
  go_enter Try.func25, Try.ntmps25
  go_wp2_with fail
  rw [HV.out]
  refine cA.mono ?_
  rintro e w1 ⟨rfl, hb1⟩
  have HB1 : Hid (Below V.heap.size V w1) := hb1
  clear q0 q1 cA hb1
  cases oa with
  | false =>
    have HO : Hid (sameP a b = false) := by show _ = _; unfold sameP; rw [HOA.out]; rfl
    go_wp2_with fail
    go_ret
    exact ⟨congrArg (fun b => Ending.returned (.bool b)) HO.out.symm, HB0.out.trans (HB1.out.mono HB0.out.size)⟩
  | true =>
    obtain ⟨⟨q0, q1⟩, q2, q3⟩ := HQ.out w1 HB1.out
    have cB := spec_graphOk b _ _ w1 (HGB.out.later HB1.out) HTB.out
    obtain ⟨ob, hob⟩ : ∃ ob, graphOkP b = ob := ⟨_, rfl⟩
    have HOB : Hid (graphOkP b = ob) := hob
    rw [hob] at cB
    clear hob
    go_wp2_with fail
    refine cB.mono ?_
    rintro e w2 ⟨rfl, hb2⟩
    have HB2 : Hid (Below V.heap.size V w2) := HB1.out.trans (hb2.mono HB1.out.size)
    clear q0 q1 q2 q3 cB hb2 HB1
    cases ob with
    | false =>
      have HO : Hid (sameP a b = false) := by show _ = _; unfold sameP; rw [HOA.out, HOB.out]; rfl
      go_wp2_with fail
      go_ret
      exact ⟨congrArg (fun b => Ending.returned (.bool b)) HO.out.symm, HB0.out.trans (HB2.out.mono HB0.out.size)⟩
    | true =>
      obtain ⟨⟨q0, q1⟩, q2, q3⟩ := HQ.out w2 HB2.out
      by_cases hl : a.nodes.length = b.nodes.length
      case neg =>
        have tl : ((a.nodes.length : Int) != (b.nodes.length : Int)) = true := by rw [bne_iff_ne]; omega
        have HO : Hid (sameP a b = false) := by show _ = _; unfold sameP; rw [HOA.out, HOB.out, decide_eq_false hl]; rfl
        clear hl
        go_wp2_with fail
        go_ret
        exact ⟨congrArg (fun b => Ending.returned (.bool b)) HO.out.symm, HB0.out.trans (HB2.out.mono HB0.out.size)⟩
      have HL : Hid (a.nodes.length = b.nodes.length) := hl
      have tl : ((a.nodes.length : Int) != (b.nodes.length : Int)) = false := by rw [hl]; simp
      have cR := l15Ints_any _ _ a.roots b.roots w2 (HGA.out.2.later HB2.out) (HGB.out.2.later HB2.out) HRA.out.1 HRA.out.2
      obtain ⟨or, hor⟩ : ∃ or, decide (a.roots = b.roots) = or := ⟨_, rfl⟩
      have HOR : Hid (decide (a.roots = b.roots) = or) := hor
      rw [hor] at cR
      clear hl hor
      go_wp2_with fail
      refine cR.mono ?_
      rintro e w3 ⟨rfl, hb3⟩
      have HB3 : Hid (Below V.heap.size V w3) := HB2.out.trans (hb3.mono HB2.out.size)
      clear q0 q1 q2 q3 cR hb3 HB2
      cases or with
      | false =>
        have HO : Hid (sameP a b = false) := by show _ = _; unfold sameP; rw [HOA.out, HOB.out, HOR.out, decide_eq_true HL.out]; rfl
        go_wp2_with fail
        go_ret
        exact ⟨congrArg (fun b => Ending.returned (.bool b)) HO.out.symm, HB0.out.trans (HB3.out.mono HB0.out.size)⟩
      | true =>
        have HSP : Hid (sameP a b = ndsSame a.nodes b.nodes) := by show _ = _; unfold sameP; rw [HOA.out, HOB.out, HOR.out, decide_eq_true HL.out]; rfl
        obtain ⟨⟨q0, q1⟩, q2, q3⟩ := HQ.out w3 HB3.out
        go_wp2_with fail
        clear q0 q1 q2 q3
        go_loopw [36] (fun iv wr => ∃ k : Nat, iv = .int .i64 k ∧ k ≤ a.nodes.length ∧ Hid (∀ (j : Nat) (x y : Nd), j < k → a.nodes[j]? = some x → b.nodes[j]? = some y → ndSame x y = true) ∧ Hid (Below V.heap.size V wr)) (fun iv _ => a.nodes.length - (intOf iv).toNat)
        case atStart => exact ⟨0, rfl, Nat.zero_le _, fun j x y h _ _ => by omega, HB3⟩
        case round =>
          obtain ⟨k, rfl, hk, HA, HB⟩ := hrel
          clear HB3
          obtain ⟨⟨q0, q1⟩, q2, q3⟩ := HQ.out wr HB.out
          by_cases hlt : k < a.nodes.length
          · have hltI : (k : Int) < (a.nodes.length : Int) := by omega
            have hltJ : (k : Int) < (b.nodes.length : Int) := by have := HL.out; omega
            obtain ⟨x, hx⟩ : ∃ n, a.nodes[k]? = some n := ⟨_, List.getElem?_eq_getElem hlt⟩
            obtain ⟨y, hy⟩ : ∃ n, b.nodes[k]? = some n := ⟨_, List.getElem?_eq_getElem (by rw [← HL.out]; exact hlt)⟩
            have HX : Hid (a.nodes[k]? = some x ∧ b.nodes[k]? = some y) := ⟨hx, hy⟩
            have HKX : Hid (x.kids.length ≤ 1048576 ∧ y.kids.length ≤ 1048576) := ⟨HKA.out x (List.mem_of_getElem? hx), HKB.out y (List.mem_of_getElem? hy)⟩
            obtain ⟨kx, tx, sx, lx⟩ := x
            obtain ⟨ky, ty, sy, ly⟩ := y
            obtain ⟨p, off, kv, rfl, hpl, hN⟩ := HGA.out.1.at hx
            obtain ⟨p2, off2, kv2, rfl, hpl2, hN2⟩ := HGB.out.1.at hy
            obtain ⟨xa, xc, rfl⟩ := hN.kids.sl
            obtain ⟨ya, yc, rfl⟩ := hN2.kids.sl
            obtain ⟨c0, c1, c2, c3, hI⟩ := hN.later hpl HB.out
            replace c0 : wr.cell? ⟨p, off + k * 4, none⟩ = some (.int .i64 kx) := c0
            replace c1 : wr.cell? ⟨p, off + k * 4 + 1, none⟩ = some (.string tx) := c1
            replace c2 : wr.cell? ⟨p, off + k * 4 + 2, none⟩ = some (.string sx) := c2
            replace c3 : wr.cell? ⟨p, off + k * 4 + 3, none⟩ = some (.slice xa lx.length xc) := c3
            obtain ⟨Z, hZ⟩ : ∃ Z, wr.alloc (.cells #[.int .i64 kx, .string tx, .string sx, .slice xa lx.length xc] 50) = Z := ⟨_, rfl⟩
            have hbZ : Below V.heap.size V Z := by rw [← hZ]; exact HB.out.alloc HB.out.size _
            obtain ⟨⟨r0, r1⟩, r2, r3⟩ := HQ.out Z hbZ
            obtain ⟨e0, e1, e2, e3, hI2⟩ := hN2.later hpl2 hbZ
            replace e0 : Z.cell? ⟨p2, off2 + k * 4, none⟩ = some (.int .i64 ky) := e0
            replace e1 : Z.cell? ⟨p2, off2 + k * 4 + 1, none⟩ = some (.string ty) := e1
            replace e2 : Z.cell? ⟨p2, off2 + k * 4 + 2, none⟩ = some (.string sy) := e2
            replace e3 : Z.cell? ⟨p2, off2 + k * 4 + 3, none⟩ = some (.slice ya ly.length yc) := e3
            have HIX : Hid (IlAt V (.slice xa lx.length xc) lx) := hN.kids
            have HIY : Hid (IlAt V (.slice ya ly.length yc) ly) := hN2.kids
            obtain ⟨Y, hY⟩ : ∃ Y, Z.alloc (.cells #[.int .i64 ky, .string ty, .string sy, .slice ya ly.length yc] 50) = Y := ⟨_, rfl⟩
            have HBY : Hid (Below V.heap.size V Y) := by show Below _ _ _; rw [← hY]; exact hbZ.alloc hbZ.size _
            have cK := l15Ints_any _ _ lx ly Y (HIX.out.later HBY.out) (HIY.out.later HBY.out) HKX.out.1 HKX.out.2
            obtain ⟨ol, hol⟩ : ∃ ol, decide (lx = ly) = ol := ⟨_, rfl⟩
            have HOL : Hid (decide (lx = ly) = ol) := hol
            rw [hol] at cK
            have HYE : Hid ((wr.alloc (.cells #[.int .i64 kx, .string tx, .string sx, .slice xa lx.length xc] 50)).alloc (.cells #[.int .i64 ky, .string ty, .string sy, .slice ya ly.length yc] 50) = Y) := by show _ = _; rw [hZ, hY]
            have HND : Hid (ndSame ⟨kx, tx, sx, lx⟩ ⟨ky, ty, sy, ly⟩ = (decide (kx = ky) && (decide (tx = ty) && (decide (sx = sy) && ol)))) := by show _ = _; unfold ndSame; rw [← hol]
            rw [← hZ] at r0 r2 e0 e1 e2 e3
            clear hx hy hN hN2 hpl hpl2 hI hI2 hZ hY hbZ r1 r3 hol
            by_cases h1 : kx = ky
            case neg =>
              have t1 : (kx != ky) = true := by rw [bne_iff_ne]; exact h1
              have HO : Hid (sameP a b = false) := by show _ = _; rw [HSP.out]; exact nds_no HX.out.1 HX.out.2 (by rw [HND.out, decide_eq_false h1]; rfl)
              clear h1
              go_wp2_with fail
              go_ret
              exact ⟨congrArg (fun b => Ending.returned (.bool b)) HO.out.symm, by rw [HYE.out]; exact HB0.out.trans (HBY.out.mono HB0.out.size)⟩
            subst h1
            have t1 : (kx != kx) = false := by simp
            by_cases h2 : tx = ty
            case neg =>
              have t2 : (tx.toList == ty.toList) = false := toList_neG h2
              have t2b : (tx.toList != ty.toList) = true := by rw [bne, t2]; rfl
              have HO : Hid (sameP a b = false) := by show _ = _; rw [HSP.out]; exact nds_no HX.out.1 HX.out.2 (by rw [HND.out, decide_eq_false h2]; simp)
              clear h2
              go_wp2_with fail
              go_ret
              exact ⟨congrArg (fun b => Ending.returned (.bool b)) HO.out.symm, by rw [HYE.out]; exact HB0.out.trans (HBY.out.mono HB0.out.size)⟩
            subst h2
            have t2 : (tx.toList != tx.toList) = false := by simp
            by_cases h3 : sx = sy
            case neg =>
              have t3 : (sx.toList == sy.toList) = false := toList_neG h3
              have t3b : (sx.toList != sy.toList) = true := by rw [bne, t3]; rfl
              have HO : Hid (sameP a b = false) := by show _ = _; rw [HSP.out]; exact nds_no HX.out.1 HX.out.2 (by rw [HND.out, decide_eq_false h3]; simp)
              clear h3
              go_wp2_with fail
              go_ret
              exact ⟨congrArg (fun b => Ending.returned (.bool b)) HO.out.symm, by rw [HYE.out]; exact HB0.out.trans (HBY.out.mono HB0.out.size)⟩
            subst h3
            have t3 : (sx.toList != sx.toList) = false := by simp
            go_wp2_with fail
            rw [HYE.out]
            refine cK.mono ?_
            rintro e w4 ⟨rfl, hb4⟩
            have HB4 : Hid (Below V.heap.size V w4) := HBY.out.trans (hb4.mono HBY.out.size)
            clear hb4 cK c0 c1 c2 c3 e0 e1 e2 e3 r0 r2 q0 q1 q2 q3
            cases ol with
            | false =>
              have HO : Hid (sameP a b = false) := by show _ = _; rw [HSP.out]; exact nds_no HX.out.1 HX.out.2 (by rw [HND.out]; simp)
              go_wp2_with fail
              go_ret
              exact ⟨congrArg (fun b => Ending.returned (.bool b)) HO.out.symm, HB0.out.trans (HB4.out.mono HB0.out.size)⟩
            | true =>
              have HA2 : Hid (∀ (j : Nat) (x y : Nd), j < k + 1 → a.nodes[j]? = some x → b.nodes[j]? = some y → ndSame x y = true) := fun j x y hj hx hy => by
                by_cases e : j = k
                · subst e
                  rw [HX.out.1] at hx
                  rw [HX.out.2] at hy
                  obtain rfl : _ = x := by simpa using hx
                  obtain rfl : _ = y := by simpa using hy
                  rw [HND.out]
                  simp
                · exact HA.out j x y (by omega) hx hy
              clear HA HX
              go_wp2_with fail
              go_roundw
              case rel => exact ⟨k + 1, by go_num, hlt, HA2, HB4⟩
              case measure => simp [intOf]; omega
          · have hge : ¬ (k : Int) < (a.nodes.length : Int) := by omega
            have HO : Hid (sameP a b = true) := by
              show _ = _
              rw [HSP.out]
              exact nds_yes HL.out (fun j x y hx hy => HA.out j x y (by have := (List.getElem?_eq_some_iff.1 hx).1; omega) hx hy)
            clear HA
            go_wp2_with fail
            go_ret
            exact ⟨congrArg (fun b => Ending.returned (.bool b)) HO.out.symm, HB0.out.trans (HB.out.mono HB0.out.size)⟩
end Go.Proofs.Ytgaibajkegfpoaa
