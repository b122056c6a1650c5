/- spec.GraphOk answers as the plain function. -/
import Derived.Test.YtgaibajkegfpoaaDoorZqb
namespace Go.Proofs.YtgaibajkegfpoaaDoor
open Go.ChangeShapes Go.WideShapes Go.ChangeAt Go.RowKit Go.Deep
set_option maxHeartbeats 8000000 in
set_option maxRecDepth 100000 in
theorem spec_graphOk (g : Gr) (nv rv : Value) (w : World) (hG : GrAt w nv rv g) (ht : g.tot ≤ 1048576) :
    Calls Tryd.prog 15 #[.agg #[nv, rv]] w fun e w' => e = .returned (.bool (graphOkP g)) ∧ Below w.heap.size w w' := by
  have htt : g.nodes.length + totN g.nodes + g.roots.length ≤ 1048576 := ht
  have HK : Hid (∀ n ∈ g.nodes, n.kids.length ≤ 1048576 ∧ n.tag.size ≤ 1048576) := fun n hn => by
    have := totN_mem hn
    unfold Nd.tot at this
    omega
  obtain ⟨na, nc, rfl⟩ := hG.1.sl
  obtain ⟨ra, rc, rfl⟩ := hG.2.sl
  have hnl : (g.nodes.length : Int) ≤ 1048576 := by omega
  have hrl : (g.roots.length : Int) ≤ 1048576 := by omega
  obtain ⟨V, hV⟩ : ∃ V, w.alloc (.cells #[.slice na g.nodes.length nc, .slice ra g.roots.length rc] 31) = V := ⟨_, rfl⟩
  have HB0 : Hid (Below w.heap.size w V) := by show Below _ _ _; rw [← hV]; exact (Below.refl _ w).alloc (Nat.le_refl _) _
  have H0 : V.heap[w.heap.size]? = some (.cells #[.slice na g.nodes.length nc, .slice ra g.roots.length rc] 31 (0, 0)) := by rw [← hV]; exact heap_alloc_new w _
  have HS : Hid (V.heap.size = w.heap.size + 1) := by show _ = _; rw [← hV]; show (w.heap.push _).size = _; simp
  have HE : Hid (V.heap[w.heap.size]? = some (.cells #[.slice na g.nodes.length nc, .slice ra g.roots.length rc] 31 (0, 0))) := H0
  have HN : Hid (NlAt V (.slice na g.nodes.length nc) g.nodes) := hG.1.later HB0.out
  have HR : Hid (IlAt V (.slice ra g.roots.length rc) g.roots) := hG.2.later HB0.out
  have HQ : Hid (∀ wr, Below V.heap.size V wr → wr.cell? ⟨w.heap.size, 0, none⟩ = some (.slice na g.nodes.length nc) ∧ wr.cell? ⟨w.heap.size, 1, none⟩ = some (.slice ra g.roots.length rc)) := fun wr hb => by
    have := (hb.block w.heap.size (by rw [HS.out]; exact Nat.lt_succ_self _)).trans HE.out
    simp [World.cell?, this]
  have HV : Hid (w.alloc (.cells #[.slice na g.nodes.length nc, .slice ra g.roots.length rc] 31) = V) := hV
  clear hV
  by_cases hm : 3000 < g.nodes.length
  · have hmI : (3000 : Int) < (g.nodes.length : Int) := by omega
    have HO : Hid (graphOkP g = false) := ok_many hm
    clear hG ht htt hm H0
    go_enter Tryd.func15, Tryd.ntmps15
    go_wp2_with fail
    go_ret
    exact ⟨congrArg (fun b => Ending.returned (.bool b)) HO.out.symm, by rw [HV.out]; exact HB0.out⟩
  have hmI : ¬ (3000 : Int) < (g.nodes.length : Int) := by omega
  have HM : Hid (g.nodes.length ≤ 3000) := by show _ ≤ _; omega
  clear hG ht htt hm H0
  go_enter Tryd.func15, Tryd.ntmps15
  go_wp2_with fail
  go_loopw [16] (fun iv wr => ∃ k : Nat, iv = .int .i64 k ∧ k ≤ g.nodes.length ∧ Hid (∀ (j : Nat) (n : Nd), j < k → g.nodes[j]? = some n → nodeOkG n g.nodes.length = true) ∧ Hid (Below V.heap.size V wr)) (fun iv _ => g.nodes.length - (intOf iv).toNat)
  case atStart => exact ⟨0, rfl, Nat.zero_le _, fun j n h _ => by omega, by rw [HV.out]; exact Below.refl _ _⟩
  case round =>
    obtain ⟨k, rfl, hk, HA, HB⟩ := hrel
    obtain ⟨q0, q1⟩ := HQ.out _ HB.out
    by_cases hlt : k < g.nodes.length
    · have hltI : (k : Int) < (g.nodes.length : Int) := by omega
      obtain ⟨n, hx⟩ : ∃ n, g.nodes[k]? = some n := ⟨_, List.getElem?_eq_getElem hlt⟩
      obtain ⟨kind, tag, text, kids⟩ := n
      obtain ⟨b, off, kv, rfl, hbl, hN⟩ := HN.out.at hx
      obtain ⟨xa, xc, rfl⟩ := hN.kids.sl
      obtain ⟨c0, c1, c2, c3, hI⟩ := hN.later hbl HB.out
      replace c0 : wr.cell? ⟨b, off + k * 4, none⟩ = some (.int .i64 kind) := c0
      replace c1 : wr.cell? ⟨b, off + k * 4 + 1, none⟩ = some (.string tag) := c1
      replace c2 : wr.cell? ⟨b, off + k * 4 + 2, none⟩ = some (.string text) := c2
      replace c3 : wr.cell? ⟨b, off + k * 4 + 3, none⟩ = some (.slice xa kids.length xc) := c3
      have HX : Hid (g.nodes[k]? = some ⟨kind, tag, text, kids⟩) := hx
      have HI : Hid (IlAt wr (.slice xa kids.length xc) kids) := hI
      have HKN : Hid (kids.length ≤ 1048576 ∧ tag.size ≤ 1048576) := HK.out _ (List.mem_of_getElem? hx)
      have hsz : w.heap.size < wr.heap.size := Nat.lt_of_lt_of_le (by rw [HS.out]; exact Nat.lt_succ_self _) HB.out.size
      have HW : Hid (Below wr.heap.size wr (wr.alloc (.cells #[.int .i64 kind, .string tag, .string text, .slice xa kids.length xc] 67))) := (Below.refl _ wr).alloc (Nat.le_refl _) _
      have HC : Hid (Calls Tryd.prog 31 #[.agg #[.int .i64 kind, .string tag, .string text, .slice xa kids.length xc], .int .i64 (g.nodes.length : Int)] (wr.alloc (.cells #[.int .i64 kind, .string tag, .string text, .slice xa kids.length xc] 67)) fun e w' => e = .returned (.bool (nodeOkG ⟨kind, tag, text, kids⟩ g.nodes.length)) ∧ Below (wr.alloc (.cells #[.int .i64 kind, .string tag, .string text, .slice xa kids.length xc] 67)).heap.size (wr.alloc (.cells #[.int .i64 kind, .string tag, .string text, .slice xa kids.length xc] 67)) w') := l15Node_any ⟨kind, tag, text, kids⟩ _ _ _ (HI.out.later HW.out) HKN.out.1 HKN.out.2
      clear hx hN hI hbl
      go_wp2_with fail
      refine HC.out.mono ?_
      rintro e w1 ⟨rfl, hb1⟩
      have HB1 : Hid (Below V.heap.size V w1) := HB.out.trans ((HW.out.trans (hb1.mono HW.out.size)).mono HB.out.size)
      clear hb1 HC HW HB q0 q1 c0 c1 c2 c3 HI hsz
      obtain ⟨bb, hbb⟩ : ∃ bb, nodeOkG ⟨kind, tag, text, kids⟩ g.nodes.length = bb := ⟨_, rfl⟩
      rw [hbb]
      cases bb with
      | false =>
        have HO : Hid (graphOkP g = false) := ok_node HX.out hbb
        clear hbb
        go_wp2_with fail
        go_ret
        exact ⟨congrArg (fun b => Ending.returned (.bool b)) HO.out.symm, HB0.out.trans (HB1.out.mono HB0.out.size)⟩
      | true =>
        have HA2 : Hid (∀ (j : Nat) (n : Nd), j < k + 1 → g.nodes[j]? = some n → nodeOkG n g.nodes.length = true) := fun j n hj hn => by
          by_cases e : j = k
          · subst e
            rw [HX.out] at hn
            obtain rfl : _ = n := by simpa using hn
            exact hbb
          · exact HA.out j n (by omega) hn
        clear hbb HA
        go_wp2_with fail
        go_roundw
        case rel => exact ⟨k + 1, by go_num, hlt, HA2, HB1⟩
        case measure => simp [intOf]; omega
    · have hge : ¬ (k : Int) < (g.nodes.length : Int) := by omega
      have HALL : Hid (g.nodes.all (fun n => nodeOkG n g.nodes.length) = true) := by
        show _ = _
        rw [List.all_eq_true]
        intro n hn
        obtain ⟨j, hj⟩ := List.mem_iff_getElem?.1 hn
        exact HA.out j n (by have := (List.getElem?_eq_some_iff.1 hj).1; omega) hj
      clear HA
      go_wp2_with fail
      obtain ⟨ti, hti, hz0, hz1, hz2⟩ := info_parts infoIt
      have hmk : ∀ w : World, (Instr.makeSlice 23 (.int .i64 (g.nodes.length : Int)) (.int .i64 (g.nodes.length : Int))).run Tryd.prog w = .ok (.slice (some ⟨w.heap.size, 0, none⟩) g.nodes.length g.nodes.length) (w.alloc (.cells (madeCells #[.int .i64 0] g.nodes.length) 3)) := by
        intro w
        have := run_make (P := Tryd.prog) w 23 3 ti _ Tryd.underlying23 hti hz0 .i64 .i64 g.nodes.length g.nodes.length (by omega) (Int.le_refl _) (by rw [hz2]; omega) (by omega)
        rw [hz1, Nat.mul_one] at this
        simpa [Value.cells] using this
      clear hti hz0 hz1 hz2
      have HM1 : Hid (Below V.heap.size V (wr.alloc (.cells (madeCells #[.int .i64 0] g.nodes.length) 3))) := HB.out.alloc HB.out.size _
      obtain ⟨q2, q3⟩ := HQ.out _ HM1.out
      go_region
      clear hmk q0 q1 q2 q3
      have HKI : Hid (∀ i, ∀ k ∈ kidsOf g i, 0 ≤ k ∧ k < (g.nodes.length : Int)) := kids_in HALL.out
      have HGO : Hid (∀ B S c rv f, GoC wr B S c (.slice na g.nodes.length nc) rv g f) := fun B S c rv f => go_all (HN.out.later HB.out) HKI.out (by omega) (fun n hn => (HK.out n hn).1) f
      have HS0 : Hid (WAt wr (wr.heap.size + 1) wr.heap.size g.nodes.length (.slice na g.nodes.length nc) (.slice ra g.roots.length rc) ⟨List.replicate g.nodes.length 0, 0, false⟩ _) := wat_start wr _ _ g.nodes.length HM.out
      have HI0 : Hid (WInv g ⟨List.replicate g.nodes.length 0, 0, false⟩) := start_inv HM.out
      obtain ⟨st0, hst0⟩ : ∃ st0 : Ws, (⟨List.replicate g.nodes.length 0, 0, false⟩ : Ws) = st0 := ⟨_, rfl⟩
      rw [hst0] at HS0 HI0
      have HST : Hid ((⟨List.replicate g.nodes.length 0, 0, false⟩ : Ws) = st0) := hst0
      clear hst0 HM1 hge
      obtain ⟨P, rfl⟩ : ∃ P, P = wr := ⟨_, rfl⟩
      generalize hX : World.drew _ = X at HS0 ⊢
      clear hX
      have HBX : Hid (Below V.heap.size V X) := HB.out.trans (HS0.out.below.mono HB.out.size)
      obtain ⟨q0, q1⟩ := HQ.out _ HBX.out
      go_wp2_with fail
      go_loopw [37] (fun iv wr => ∃ k : Nat, iv = .int .i64 k ∧ k ≤ g.roots.length ∧ Hid (∀ (j : Nat) (x : Int), j < k → g.roots[j]? = some x → 0 ≤ x ∧ x < (g.nodes.length : Int)) ∧ Hid (WAt P (P.heap.size + 1) P.heap.size g.nodes.length (.slice na g.nodes.length nc) (.slice ra g.roots.length rc) ((g.roots.take k).foldl (fun t r => endRoot g (g.nodes.length + 1) t r.toNat) st0) wr)) (fun iv _ => g.roots.length - (intOf iv).toNat)
      case atStart => exact ⟨0, rfl, Nat.zero_le _, fun j x h _ => by omega, HS0⟩
      case round =>
        obtain ⟨k, rfl, hk, HA, HW⟩ := hrel
        clear HS0 q0 q1 HBX
        have HBX : Hid (Below V.heap.size V wr) := HB.out.trans (HW.out.below.mono HB.out.size)
        obtain ⟨q0, q1⟩ := HQ.out _ HBX.out
        by_cases hlt : k < g.roots.length
        · have hltI : (k : Int) < (g.roots.length : Int) := by omega
          obtain ⟨x, hx⟩ : ∃ x, g.roots[k]? = some x := ⟨_, List.getElem?_eq_getElem hlt⟩
          obtain ⟨b, o, rfl, hbl, d⟩ := HR.out.at hx
          rw [← HBX.out.cell hbl] at d
          have HX : Hid (g.roots[k]? = some x) := hx
          clear hx hbl
          by_cases x0 : x < 0
          · have HO : Hid (graphOkP g = false) := ok_root HX.out (by omega)
            go_wp2_with fail
            go_ret
            exact ⟨congrArg (fun b => Ending.returned (.bool b)) HO.out.symm, HB0.out.trans (HBX.out.mono HB0.out.size)⟩
          by_cases x1 : (g.nodes.length : Int) ≤ x
          · have HO : Hid (graphOkP g = false) := ok_root HX.out (by omega)
            go_wp2_with fail
            go_ret
            exact ⟨congrArg (fun b => Ending.returned (.bool b)) HO.out.symm, HB0.out.trans (HBX.out.mono HB0.out.size)⟩
          have HA2 : Hid (∀ (j : Nat) (x : Int), j < k + 1 → g.roots[j]? = some x → 0 ≤ x ∧ x < (g.nodes.length : Int)) := fun j y hj hy => by
            by_cases e : j = k
            · subst e
              rw [HX.out] at hy
              obtain rfl : x = y := by simpa using hy
              omega
            · exact HA.out j y (by omega) hy
          obtain ⟨m, rfl⟩ := Int.eq_ofNat_of_zero_le (show 0 ≤ x by omega)
          obtain ⟨s1, hs1⟩ : ∃ s1, (g.roots.take k).foldl (fun t r => endRoot g (g.nodes.length + 1) t r.toNat) st0 = s1 := ⟨_, rfl⟩
          have HI1 : Hid (WInv g s1) := by
            show WInv g s1
            rw [← hs1]
            refine roots_inv HKI.out _ _ _ (fun r hr => ?_) HI0.out
            obtain ⟨j, hj⟩ := List.mem_iff_getElem?.1 hr
            rw [List.getElem?_take] at hj
            by_cases hjk : j < k
            · rw [if_pos hjk] at hj
              exact HA.out j r hjk hj
            · rw [if_neg hjk] at hj
              cases hj
          have HNX : Hid ((g.roots.take (k + 1)).foldl (fun t r => endRoot g (g.nodes.length + 1) t r.toNat) st0 = endRoot g (g.nodes.length + 1) s1 m) := by
            show _ = _
            have := roots_take (g := g) (f := g.nodes.length + 1) HX.out st0
            rw [hs1] at this
            simpa using this
          rw [hs1] at HW
          have hm : m < g.nodes.length := by omega
          have hmI : (m : Int) < (g.nodes.length : Int) := by omega
          have HC : Hid (Calls Tryd.prog 32 #[.pointer (some ⟨P.heap.size + 1, 0, none⟩), .int .i64 (m : Int)] wr fun e w' => e = .returned (.tuple #[]) ∧ WAt P (P.heap.size + 1) P.heap.size g.nodes.length (.slice na g.nodes.length nc) (.slice (some ⟨b, o, none⟩) g.roots.length rc) (goW g (g.nodes.length + 1) m s1) w') := HGO.out _ _ _ _ (g.nodes.length + 1) m s1 wr HW.out HI1.out (by
            have h1 := zeros_len s1.seen
            have h2 := HI1.out.len
            omega) hm
          have HIM : Hid (WInv g (goW g (g.nodes.length + 1) m s1)) := goW_inv g HKI.out _ m s1 hm HI1.out
          clear hs1 hm
          go_wp2_with fail
          refine HC.out.mono ?_
          rintro e w1 ⟨rfl, hw1⟩
          have HER : Hid (endRoot g (g.nodes.length + 1) s1 m = { goW g (g.nodes.length + 1) m s1 with seen := thrK g.nodes.length (goW g (g.nodes.length + 1) m s1).seen }) := rfl
          obtain ⟨t, ht⟩ : ∃ t, goW g (g.nodes.length + 1) m s1 = t := ⟨_, rfl⟩
          rw [ht] at hw1 HIM HER
          have HT0 : Hid (WAt P (P.heap.size + 1) P.heap.size g.nodes.length (.slice na g.nodes.length nc) (.slice (some ⟨b, o, none⟩) g.roots.length rc) t w1) := hw1
          obtain ⟨_, _, u2, _, _⟩ := hw1.cells
          rw [HIM.out.len] at u2
          clear ht hw1 HC HW HBX d q0 q1 HA HI1
          go_wp2_with fail
          go_loopw [58] (fun iv wr => ∃ j : Nat, iv = .int .i64 j ∧ j ≤ g.nodes.length ∧ Hid (WAt P (P.heap.size + 1) P.heap.size g.nodes.length (.slice na g.nodes.length nc) (.slice (some ⟨b, o, none⟩) g.roots.length rc) { t with seen := thrK j t.seen } wr)) (fun iv _ => g.nodes.length - (intOf iv).toNat)
          case atStart => exact ⟨0, rfl, Nat.zero_le _, HT0⟩
          case round =>
            obtain ⟨j, rfl, hj, HW⟩ := hrel
            clear u2 HT0
            by_cases hjl : j < g.nodes.length
            · have hjI : (j : Int) < (g.nodes.length : Int) := by omega
              have hlen : (thrK j t.seen).length = g.nodes.length := (thrK_len j t.seen).trans HIM.out.len
              obtain ⟨_, _, u2, _, _⟩ := HW.out.cells
              obtain ⟨v0, v1⟩ := HW.out.seenAt (i := j) (by show j < (thrK j t.seen).length; omega)
              replace u2 : wr.cell? ⟨P.heap.size + 1, 2, none⟩ = some (.slice (some ⟨P.heap.size, 0, none⟩) (thrK j t.seen).length g.nodes.length) := u2
              rw [hlen] at u2
              replace v0 : wr.cell? ⟨P.heap.size, j, none⟩ = some (.int .i64 ((thrK j t.seen).getD j 0)) := v0
              obtain ⟨sv, hsv⟩ : ∃ sv, (thrK j t.seen).getD j 0 = sv := ⟨_, rfl⟩
              rw [hsv] at v0
              clear hlen
              by_cases h2 : sv = 2
              · subst h2
                have HK1 : Hid (thrK (j + 1) t.seen = (thrK j t.seen).set j 3) := by show _ = _; rw [thrK, if_pos hsv]
                have HW1 : Hid (WAt P (P.heap.size + 1) P.heap.size g.nodes.length (.slice na g.nodes.length nc) (.slice (some ⟨b, o, none⟩) g.roots.length rc) { t with seen := thrK (j + 1) t.seen } (wr.setCell ⟨P.heap.size, j, none⟩ (.int .i64 3))) := by
                  show WAt _ _ _ _ _ _ _ _
                  rw [HK1.out]
                  exact HW.out.setSeen j 3
                clear hsv HW HK1
                go_wp2_with fail
                go_roundw
                case rel => exact ⟨j + 1, by go_num, hjl, HW1⟩
                case measure => simp [intOf]; omega
              · have t2 : (sv == 2) = false := by rw [beq_eq_false_iff_ne]; exact h2
                have HK1 : Hid (thrK (j + 1) t.seen = thrK j t.seen) := by show _ = _; rw [thrK, if_neg (by rw [hsv]; exact h2)]
                have HW1 : Hid (WAt P (P.heap.size + 1) P.heap.size g.nodes.length (.slice na g.nodes.length nc) (.slice (some ⟨b, o, none⟩) g.roots.length rc) { t with seen := thrK (j + 1) t.seen } wr) := by
                  show WAt _ _ _ _ _ _ _ _
                  rw [HK1.out]
                  exact HW.out
                clear hsv HW HK1
                go_wp2_with fail
                go_roundw
                case rel => exact ⟨j + 1, by go_num, hjl, HW1⟩
                case measure => simp [intOf]; omega
            · have hge : ¬ (j : Int) < (g.nodes.length : Int) := by omega
              have ej : j = g.nodes.length := by omega
              have HW2 : Hid (WAt P (P.heap.size + 1) P.heap.size g.nodes.length (.slice na g.nodes.length nc) (.slice (some ⟨b, o, none⟩) g.roots.length rc) ((g.roots.take (k + 1)).foldl (fun t r => endRoot g (g.nodes.length + 1) t r.toNat) st0) wr) := by
                show WAt _ _ _ _ _ _ _ _
                rw [HNX.out, HER.out]
                have := HW.out
                rw [ej] at this
                exact this
              clear HW HNX HER ej
              go_wp2_with fail
              go_roundw
              case rel => exact ⟨k + 1, by go_num, hlt, HA2, HW2⟩
              case measure => simp [intOf]; omega
        · have hge : ¬ (k : Int) < (g.roots.length : Int) := by omega
          have ek : k = g.roots.length := by omega
          have HKR : Hid (kidsIn g.nodes.length g.roots = true) := kids_yes (fun j x hx => HA.out j x (by have := (List.getElem?_eq_some_iff.1 hx).1; omega) hx)
          have hw := HW.out
          rw [ek, List.take_length] at hw
          obtain ⟨t, ht⟩ : ∃ t, g.roots.foldl (fun t r => endRoot g (g.nodes.length + 1) t r.toNat) st0 = t := ⟨_, rfl⟩
          rw [ht] at hw
          have HO : Hid (graphOkP g = (!t.bad && decide (t.next = (g.nodes.length : Int)))) := ok_end HM.out HALL.out HKR.out (by rw [HST.out]; exact ht)
          obtain ⟨_, _, _, u3, u4⟩ := hw.cells
          have HBW : Hid (Below w.heap.size w wr) := HB0.out.trans (HBX.out.mono HB0.out.size)
          clear ht hw HW HA ek HKR
          cases hb : t.bad with
          | true =>
            rw [hb] at u4 HO
            clear hb
            go_wp2_with fail
            go_quiet (fail)
            go_wp2_with fail
            go_ret
            exact ⟨congrArg (fun b => Ending.returned (.bool b)) HO.out.symm, HBW.out.trans ((g_below_drewN wr _).mono HBW.out.size)⟩
          | false =>
            rw [hb] at u4 HO
            clear hb
            by_cases hn : t.next = (g.nodes.length : Int)
            · have HO2 : Hid (graphOkP g = true) := by show _ = _; rw [HO.out, decide_eq_true hn]; rfl
              rw [hn] at u3
              clear hn HO
              go_wp2_with fail
              go_quiet (fail)
              go_wp2_with fail
              go_ret
              exact ⟨congrArg (fun b => Ending.returned (.bool b)) HO2.out.symm, HBW.out.trans ((g_below_drewN wr _).mono HBW.out.size)⟩
            · have HO2 : Hid (graphOkP g = false) := by show _ = _; rw [HO.out, decide_eq_false hn]; rfl
              have tn : (t.next == (g.nodes.length : Int)) = false := by rw [beq_eq_false_iff_ne]; exact hn
              clear hn HO
              go_wp2_with fail
              go_quiet (fail)
              go_wp2_with fail
              go_ret
              exact ⟨congrArg (fun b => Ending.returned (.bool b)) HO2.out.symm, HBW.out.trans ((g_below_drewN wr _).mono HBW.out.size)⟩
end Go.Proofs.YtgaibajkegfpoaaDoor
