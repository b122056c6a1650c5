/- The program's survey: all roots; two lists of knots are the same. -/
import Derived.Test.YtgaibajkegfpoaaGvl
namespace Go.Proofs.Ytgaibajkegfpoaa
open Go.ChangeShapes Go.WideShapes Go.ChangeAt Go.RowKit Go.Deep
theorem SvAt.met_ {P0 w : World} {B first : Nat} {Ps : List Nat} {s : Sv} (h : SvAt P0 B Ps first s w) : ∃ (ma : Option Addr) (mc : Nat), w.cell? ⟨B, 1, none⟩ = some (.slice ma s.met.length mc) ∧ PlAt w (.slice ma s.met.length mc) (bks Ps s.met) := by
  obtain ⟨oa, oc, h1, h2⟩ := h.tr
  obtain ⟨nv, ma, mn, mc, h3, h4, _⟩ := h1.ex
  have hmn : mn = s.met.length := by
    have hl := bks_len Ps s.met
    rcases h4.2 with ⟨e1, e2⟩ | ⟨gb, cap, cur, e1, _⟩
    · injection e1 with _ e1 _; omega
    · injection e1 with _ e1 _; omega
  subst hmn
  exact ⟨ma, mc, tr_1 h3, pl_of_own h4⟩
set_option maxHeartbeats 8000000 in
set_option maxRecDepth 100000 in
theorem roots_any {P0 : World} {B : Nat} {Ps : List Nat} {g : Gr} {kn rt : Value} (hW : WebAt P0 g Ps kn rt) (hk : ∀ i, ∀ k ∈ kidsOf g i, 0 ≤ k ∧ k < (g.nodes.length : Int)) (hr : ∀ k ∈ g.roots, 0 ≤ k ∧ k < (g.nodes.length : Int)) (hlen : g.nodes.length ≤ 3000) (hrl : g.roots.length ≤ 1048576) (hkl : ∀ n ∈ g.nodes, n.kids.length ≤ 1048576) (w : World) (first : Nat) (s : Sv) (hS : SvAt P0 B Ps first s w) (hI : SvI g s) (hok : s.ok = true) :
    Calls Try.prog 35 #[.pointer (some ⟨B, 0, none⟩), rt] w fun e w' => e = .returned (.bool (g.roots.foldl (svR g (g.nodes.length + 1)) s).ok) ∧ ∃ f2, SvAt P0 B Ps f2 (g.roots.foldl (svR g (g.nodes.length + 1)) s) w' := by
  obtain ⟨ra, rc, rfl⟩ := hW.roots.sl
  have HPL : Hid (PlAt P0 (.slice ra (g.roots.map (blk Ps)).length rc) (g.roots.map (blk Ps))) := hW.roots
  rw [List.length_map] at hW ⊢
  have HIS : Hid (∀ j, SvI g ((g.roots.take j).foldl (svR g (g.nodes.length + 1)) s)) := fun j => svR_inv hk _ _ s (fun x hx => hr x (List.mem_of_mem_take hx)) hI
  have HML : Hid (∀ t, SvI g t → t.met.length ≤ 3000 ∧ unmet g.nodes.length t.met < g.nodes.length + 1) := fun t ht => by have := ht.room; omega
  have HKC : Hid (∀ first, KnC P0 B first Ps g (g.nodes.length + 1)) := fun first => kn_all hW hk hlen hkl _
  have HKR := hidG hr
  have HS := hidG hS
  have HOK := hidG hok
  have hrI : (g.roots.length : Int) ≤ 1048576 := by omega
  clear hW hk hr hlen hkl hS hI hok hrl
  go_enter Try.func35, Try.ntmps35
  go_wp2_with fail
  go_loopw [9] (fun iv wr => ∃ j : Nat, iv = .int .i64 j ∧ j ≤ g.roots.length ∧ Hid (∃ f2, SvAt P0 B Ps f2 ((g.roots.take j).foldl (svR g (g.nodes.length + 1)) s) wr) ∧ Hid (((g.roots.take j).foldl (svR g (g.nodes.length + 1)) s).ok = true)) (fun iv _ => g.roots.length - (intOf iv).toNat)
  case atStart => exact ⟨0, rfl, Nat.zero_le _, ⟨first, HS.out⟩, HOK⟩
  case round =>
    obtain ⟨j, rfl, hj, HR, HK⟩ := hrel
    clear HS HOK
    obtain ⟨f2, hR⟩ := HR.out
    by_cases hlt : j < g.roots.length
    · have hltI : (j : Int) < (g.roots.length : Int) := by omega
      obtain ⟨x, hx⟩ : ∃ x, g.roots[j]? = some x := ⟨_, List.getElem?_eq_getElem hlt⟩
      have hpx : (g.roots.map (blk Ps))[j]? = some (blk Ps x) := by rw [List.getElem?_map, hx]; rfl
      obtain ⟨b, o, hab, hbl, d⟩ := HPL.out.at hpx
      subst hab
      rw [← hR.below.cell hbl] at d
      have hx0 := HKR.out x (List.mem_of_getElem? hx)
      obtain ⟨m, rfl⟩ := Int.eq_ofNat_of_zero_le hx0.1
      have hm : m < g.nodes.length := by omega
      have hst := svR_take (g := g) (f := g.nodes.length + 1) hx s
      have hIj := HIS.out j
      have hok := HK.out
      obtain ⟨t, ht⟩ : ∃ t, (g.roots.take j).foldl (svR g (g.nodes.length + 1)) s = t := ⟨_, rfl⟩
      rw [ht] at hR hst hIj hok
      obtain ⟨hml, hum⟩ := HML.out t hIj
      rw [show svR g (g.nodes.length + 1) t (m : Int) = svK g t.met.length (g.nodes.length + 1) m t by unfold svR; rw [if_pos hok]; rfl] at hst
      obtain ⟨ma, mc, q1, _⟩ := hR.met_
      obtain ⟨_, _, q2, _, qf, _⟩ := hR.cells
      have hR2 := hR.first_ t.met.length
      have cK := HKC.out t.met.length m t _ hR2 hIj hum hm
      obtain ⟨u, hu⟩ : ∃ u, svK g t.met.length (g.nodes.length + 1) m t = u := ⟨_, rfl⟩
      rw [hu] at cK hst
      obtain ⟨r, hr⟩ : ∃ r, u.ok = r := ⟨_, rfl⟩
      rw [hr] at cK
      have HST := hidG hst
      have HTR := hidG hr
      have HF : Hid (∀ w2, SvAt P0 B Ps t.met.length u w2 → ∃ f2, SvAt P0 B Ps f2 ((g.roots.take (j + 1)).foldl (svR g (g.nodes.length + 1)) s) w2) := fun w2 h => ⟨_, by rw [hst]; exact h⟩
      unfold ptr at d
      have hmI : (t.met.length : Int) ≤ 1048576 := by omega
      clear hx hpx hbl hx0 hm ht hst hr HR HK hIj hok hR hR2 hum hu hml
      cases r with
      | false =>
        go_wp2_with fail
        refine cK.mono ?_
        rintro e w2 ⟨rfl, hS2⟩
        have hfin := svR_fail HST.out HTR.out
        have HFN := hidG hfin
        have HS2 : Hid (∃ f2, SvAt P0 B Ps f2 (g.roots.foldl (svR g (g.nodes.length + 1)) s) w2) := ⟨_, by rw [hfin]; exact hS2⟩
        clear cK hS2 hfin
        go_wp2_with fail
        go_ret
        exact ⟨congrArg (fun b => Ending.returned (.bool b)) (show false = (g.roots.foldl (svR g (g.nodes.length + 1)) s).ok by rw [HFN.out, HTR.out]), HS2.out⟩
      | true =>
        go_wp2_with fail
        refine cK.mono ?_
        rintro e w2 ⟨rfl, hS2⟩
        have HS2 : Hid (∃ f2, SvAt P0 B Ps f2 ((g.roots.take (j + 1)).foldl (svR g (g.nodes.length + 1)) s) w2) := HF.out w2 hS2
        have HK2 : Hid (((g.roots.take (j + 1)).foldl (svR g (g.nodes.length + 1)) s).ok = true) := by show _ = _; rw [HST.out]; exact HTR.out
        clear cK hS2
        go_wp2_with fail
        go_roundw
        case rel => exact ⟨j + 1, by go_num, hlt, HS2, HK2⟩
        case measure => simp [intOf]; omega
    · have hge : ¬ (j : Int) < (g.roots.length : Int) := by omega
      obtain rfl : j = g.roots.length := by omega
      have HKF : Hid ((g.roots.foldl (svR g (g.nodes.length + 1)) s).ok = true) := by
        have := HK.out
        rw [List.take_length] at this
        exact this
      have HSF : Hid (∃ f2, SvAt P0 B Ps f2 (g.roots.foldl (svR g (g.nodes.length + 1)) s) wr) := by
        have := HR.out
        rw [List.take_length] at this
        exact this
      clear HR HK hR
      go_wp2_with fail
      go_ret
      exact ⟨congrArg (fun b => Ending.returned (.bool b)) (show true = (g.roots.foldl (svR g (g.nodes.length + 1)) s).ok from HKF.out.symm), HSF.out⟩
set_option maxHeartbeats 8000000 in
set_option maxRecDepth 100000 in
theorem eqK_any (w : World) (v1 v2 : Value) (l1 l2 : List Nat) (h1 : PlAt w v1 l1) (h2 : PlAt w v2 l2) (hL1 : ∀ x ∈ l1, Live w x) (hL2 : ∀ x ∈ l2, Live w x) (hl1 : l1.length ≤ 1048576) (hl2 : l2.length ≤ 1048576) (r : Bool) (hr : decide (l1 = l2) = r) :
    Calls Try.prog 36 #[v1, v2] w fun e w' => e = .returned (.bool r) ∧ Below w.heap.size w w' := by
  obtain ⟨a1, c1, rfl⟩ := h1.sl
  obtain ⟨a2, c2, rfl⟩ := h2.sl
  have hI1 : (l1.length : Int) ≤ 1048576 := by omega
  have hI2 : (l2.length : Int) ≤ 1048576 := by omega
  by_cases hll : l1.length = l2.length
  case neg =>
    have hne : ((l1.length : Int) != (l2.length : Int)) = true := by rw [bne_iff_ne]; omega
    obtain rfl : false = r := by rw [← hr]; exact (decide_eq_false (fun e => hll (by rw [e]))).symm
    have HB := hidG (Below.refl w.heap.size w)
    clear h1 h2 hL1 hL2 hll hr hl1 hl2
    go_enter Try.func36, Try.ntmps36
    go_wp2_with fail
    go_ret
    exact ⟨rfl, HB.out⟩
  have heq : ((l1.length : Int) != (l2.length : Int)) = false := by rw [hll]; simp
  obtain ⟨ti, hti, hsz⟩ := infoKi
  have H1 := hidG h1
  have H2 := hidG h2
  have HL1 := hidG hL1
  have HL2 := hidG hL2
  have HLL := hidG hll
  have HR := hidG hr
  have HTI : Hid (Try.prog.info? 101 = some ti ∧ ti.size ≠ 0) := ⟨hti, hsz⟩
  rw [← hll] at heq
  clear h1 h2 hL1 hL2 hll hr hl1 hl2 hti hsz
  have hle : l2.length = l1.length := HLL.out.symm
  rw [hle] at H2 ⊢
  go_enter Try.func36, Try.ntmps36
  go_wp2_with fail
  go_loopw [13] (fun iv wr => ∃ k : Nat, iv = .int .i64 k ∧ k ≤ l1.length ∧ Hid (∀ i, i < k → l1[i]? = l2[i]?) ∧ Hid (Below w.heap.size w wr)) (fun iv _ => l1.length - (intOf iv).toNat)
  case atStart => exact ⟨0, rfl, Nat.zero_le _, fun i h => absurd h (Nat.not_lt_zero _), Below.refl _ _⟩
  case round =>
    obtain ⟨k, rfl, hk, HE, HB⟩ := hrel
    by_cases hlt : k < l1.length
    · have hltI : (k : Int) < (l1.length : Int) := by omega
      obtain ⟨x, hx⟩ : ∃ x, l1[k]? = some x := ⟨_, List.getElem?_eq_getElem hlt⟩
      obtain ⟨y, hy⟩ : ∃ y, l2[k]? = some y := ⟨_, List.getElem?_eq_getElem (by rw [hle]; exact hlt)⟩
      obtain ⟨b1, o1, rfl, hb1, d1⟩ := H1.out.at hx
      have H2' := H2.out
      rw [← hle] at H2'
      obtain ⟨b2, o2, rfl, hb2, d2⟩ := H2'.at hy
      rw [← HB.out.cell hb1] at d1
      rw [← HB.out.cell hb2] at d2
      have lx : Live wr.drew x := by
        obtain ⟨cs, t, h⟩ := HL1.out x (List.mem_of_getElem? hx)
        exact ⟨cs, t, (HB.out.block _ (Array.getElem?_eq_some_iff.1 h).1).trans h⟩
      have ly : Live wr.drew y := by
        obtain ⟨cs, t, h⟩ := HL2.out y (List.mem_of_getElem? hy)
        exact ⟨cs, t, (HB.out.block _ (Array.getElem?_eq_some_iff.1 h).1).trans h⟩
      have hq := ptr_neq (P := Try.prog) (w := wr.drew) Try.underlying70 HTI.out.1 HTI.out.2 lx ly
      unfold ptr at d1 d2 hq
      by_cases hxy : x = y
      · rw [decide_eq_true hxy] at hq
        have HE2 : Hid (∀ i, i < k + 1 → l1[i]? = l2[i]?) := fun i hi => by
          by_cases e : i = k
          · subst e
            rw [hx, hy, hxy]
          · exact HE.out i (by omega)
        have HB2 : Hid (Below w.heap.size w wr.drew) := HB.out.drew
        clear hx hy hb1 hb2 lx ly hxy H2' HE
        go_wp2_with fail
        go_region
        go_wp2_with fail
        go_roundw
        case rel => exact ⟨k + 1, by go_num, hlt, HE2, HB2⟩
        case measure => simp [intOf]; omega
      · rw [decide_eq_false hxy] at hq
        have HO : Hid (false = r) := by
          show _ = _
          rw [← HR.out]
          refine (decide_eq_false fun e => hxy ?_).symm
          rw [e, hy] at hx
          exact (Option.some.inj hx).symm
        have HB2 : Hid (Below w.heap.size w wr.drew) := HB.out.drew
        clear hx hy hb1 hb2 lx ly hxy H2' HE
        go_wp2_with fail
        go_region
        go_wp2_with fail
        go_ret
        exact ⟨congrArg (fun b => Ending.returned (.bool b)) HO.out, HB2.out⟩
    · have hge : ¬ (k : Int) < (l1.length : Int) := by omega
      have HO : Hid (true = r) := by
        show _ = _
        rw [← HR.out]
        refine (decide_eq_true (List.ext_getElem? fun i => ?_)).symm
        by_cases hi : i < l1.length
        · exact HE.out i (by omega)
        · rw [List.getElem?_eq_none (by omega), List.getElem?_eq_none (by omega)]
      clear HE
      go_wp2_with fail
      go_ret
      exact ⟨congrArg (fun b => Ending.returned (.bool b)) HO.out, HB.out⟩
end Go.Proofs.Ytgaibajkegfpoaa
