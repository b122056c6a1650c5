/- The law on SameGraph, walked, over impl's contract. -/
import Derived.Test.YtgaibajkegfpoaaGsa
import Derived.Test.YtgaibajkegfpoaaGsy
import Derived.Test.YtgaibajkegfpoaaGop
import Derived.Test.YtgaibajkegfpoaaGtg
import Derived.Deep.RegionHeld3
namespace Go.Proofs.Ytgaibajkegfpoaa
open Go.ChangeShapes Go.WideShapes Go.ChangeAt Go.RowKit Go.Deep
/-- What is asked of impl.SameGraph. -/
def ImplSm : Prop := ∀ (a b : Gr) (na ra nb rb : Value) (w : World), GrAt w na ra a → GrAt w nb rb b → a.tot ≤ 1048576 → b.tot ≤ 1048576 → a.Wf → b.Wf →
    Calls Try.prog 26 #[.agg #[na, ra], .agg #[nb, rb]] w fun e w' => e = .returned (.bool (sameP a b)) ∧ Below w.heap.size w w'
theorem hidS {p : Prop} (h : p) : Hid p := h
set_option maxHeartbeats 8000000 in
set_option maxRecDepth 100000 in
theorem law_sameGraph (HI : ImplSm) (a b : Gr) (na' ra' nb' rb' : Value) (w : World) (hA : GrAt w na' ra' a) (hB : GrAt w nb' rb' b) (wa : a.Wide) (wb : b.Wide) (fa : a.Wf) (fb : b.Wf) :
    Calls Try.prog 6 #[.agg #[na', ra'], .agg #[nb', rb']] w fun e w' => e = .returned (.bool true) ∧ Below w.heap.size w w' := by
  obtain ⟨na, nc, rfl⟩ := hA.1.sl
  obtain ⟨ra, rc, rfl⟩ := hA.2.sl
  obtain ⟨nb, nd, rfl⟩ := hB.1.sl
  obtain ⟨rb, rd, rfl⟩ := hB.2.sl
  obtain ⟨V, hV⟩ : ∃ V, (w.alloc (.cells #[.slice na a.nodes.length nc, .slice ra a.roots.length rc] 25)).alloc (.cells #[.slice nb b.nodes.length nd, .slice rb b.roots.length rd] 25) = V := ⟨_, rfl⟩
  have HB0 : Hid (Below w.heap.size w V) := by show Below _ _ _; rw [← hV]; exact ((Below.refl _ w).alloc (Nat.le_refl _) _).alloc (by simp) _
  have HS : Hid (V.heap.size = w.heap.size + 2) := by show _ = _; rw [← hV]; show ((w.heap.push _).push _).size = _; simp
  have HE0 : Hid (V.heap[w.heap.size]? = some (.cells #[.slice na a.nodes.length nc, .slice ra a.roots.length rc] 25 (0, 0))) := by
    show _ = _
    rw [← hV]
    show ((w.heap.push _).push _)[w.heap.size]? = _
    rw [Array.getElem?_push, if_neg (by simp), Array.getElem?_push, if_pos rfl]
  have HE1 : Hid (V.heap[w.heap.size + 1]? = some (.cells #[.slice nb b.nodes.length nd, .slice rb b.roots.length rd] 25 (0, 0))) := by
    show _ = _
    rw [← hV]
    show ((w.heap.push _).push _)[w.heap.size + 1]? = _
    rw [Array.getElem?_push, if_pos (by simp)]
  have HQ : Hid (∀ wr, Below V.heap.size V wr → wr.cell? ⟨w.heap.size, 0, none⟩ = some (.slice na a.nodes.length nc) ∧ wr.cell? ⟨w.heap.size, 1, none⟩ = some (.slice ra a.roots.length rc) ∧ wr.cell? ⟨w.heap.size + 1, 0, none⟩ = some (.slice nb b.nodes.length nd) ∧ wr.cell? ⟨w.heap.size + 1, 1, none⟩ = some (.slice rb b.roots.length rd)) := fun wr hb => by
    have h0 := (hb.block w.heap.size (by rw [HS.out]; omega)).trans HE0.out
    have h1 := (hb.block (w.heap.size + 1) (by rw [HS.out]; omega)).trans HE1.out
    exact ⟨n2_0 h0, n2_1 h0, n2_0 h1, n2_1 h1⟩
  have HA : Hid (GrAt V (.slice na a.nodes.length nc) (.slice ra a.roots.length rc) a) := hA.later HB0.out
  have HB : Hid (GrAt V (.slice nb b.nodes.length nd) (.slice rb b.roots.length rd) b) := hB.later HB0.out
  have cZ := szG_left a _ _ 1048576 V HA.out wa (by omega) (by omega)
  have HWB := hidS wb
  have HF : Hid (a.Wf ∧ b.Wf) := ⟨fa, fb⟩
  have HII : Hid ImplSm := HI
  obtain ⟨q0, q1, q2, q3⟩ := HQ.out V (Below.refl _ _)
  have HV := hidS hV
  clear hV hA hB wa wb fa fb HI
  go_enter Try.func6, Try.ntmps6
  go_wp2_with fail
  rw [HV.out]
  go_wp2_with fail
  refine cZ.mono ?_
  rintro e w1 ⟨⟨z, rfl, hz⟩, hb1⟩
  have HB1 := hidS hb1
  clear cZ q0 q1 q2 q3
  rcases hz with rfl | ⟨hz, hz0⟩
  · clear hb1
    go_wp2_with fail
    go_ret
    exact ⟨rfl, HB0.out.trans (HB1.out.mono HB0.out.size)⟩
  have HTA : Hid (a.tot ≤ 1048576) := by show _ ≤ _; omega
  have hz1 : ¬ z < 0 := by omega
  have cY := szG_left b _ _ z w1 (HB.out.later hb1) HWB.out hz0 (by omega)
  obtain ⟨q0, q1, q2, q3⟩ := HQ.out w1 hb1
  have HZ : Hid (z ≤ 1048576) := by show _ ≤ _; omega
  clear hb1 hz
  go_wp2_with fail
  refine cY.mono ?_
  rintro e w2 ⟨⟨y, rfl, hy⟩, hb2⟩
  have hb2' : Below V.heap.size V w2 := HB1.out.trans (hb2.mono HB1.out.size)
  have HB2 := hidS hb2'
  clear cY q0 q1 q2 q3 hb2
  rcases hy with rfl | ⟨hy, hy0⟩
  · clear hb2'
    go_wp2_with fail
    go_ret
    exact ⟨rfl, HB0.out.trans (HB2.out.mono HB0.out.size)⟩
  have HTB : Hid (b.tot ≤ 1048576) := by have := HZ.out; show _ ≤ _; omega
  have hy1 : ¬ y < 0 := by omega
  obtain ⟨q0, q1, q2, q3⟩ := HQ.out w2 hb2'
  have HBV : Hid (Below V.heap.size V w2.drew) := HB2.out.drew
  have HCA : Hid (∀ x, Below V.heap.size V x → Calls Try.prog 9 #[.agg #[.slice na a.nodes.length nc, .slice ra a.roots.length rc]] x fun e w' => (∃ nv' rv' vs, e = .returned (.agg #[nv', rv']) ∧ isSlG nv' ∧ isSlG rv' ∧ GOwn x.heap.size w' nv' rv' a vs) ∧ Below x.heap.size x w') := fun x hb => toG_own a _ _ x (HA.out.later hb) HTA.out
  have HCB : Hid (∀ x, Below V.heap.size V x → Calls Try.prog 9 #[.agg #[.slice nb b.nodes.length nd, .slice rb b.roots.length rd]] x fun e w' => (∃ nv' rv' vs, e = .returned (.agg #[nv', rv']) ∧ isSlG nv' ∧ isSlG rv' ∧ GOwn x.heap.size w' nv' rv' b vs) ∧ Below x.heap.size x w') := fun x hb => toG_own b _ _ x (HB.out.later hb) HTB.out
  have HCS : Hid (∀ (n1 r1 n2 r2 : Value) (x : World), GrAt x n1 r1 a ∧ GrAt x n2 r2 b → Calls Try.prog 25 #[.agg #[n1, r1], .agg #[n2, r2]] x fun e w' => e = .returned (.bool (sameP a b)) ∧ Below x.heap.size x w') := fun n1 r1 n2 r2 x h => spec_sameGraph a b _ _ _ _ x h.1 h.2 HTA.out HTB.out
  obtain ⟨bb, hbb⟩ : ∃ bb, sameP a b = bb := ⟨_, rfl⟩
  have HBB := hidS hbb
  rw [hbb] at HCS
  clear hbb hb2' hz0 hz1
  go_wp2_with fail
  go_region_held3 (fun x => x.cell? ⟨w.heap.size, 0, none⟩ = some (.slice na a.nodes.length nc) ∧ x.cell? ⟨w.heap.size, 1, none⟩ = some (.slice ra a.roots.length rc) ∧ x.cell? ⟨w.heap.size + 1, 0, none⟩ = some (.slice nb b.nodes.length nd) ∧ x.cell? ⟨w.heap.size + 1, 1, none⟩ = some (.slice rb b.roots.length rd))
    (first | exact ⟨q0, q1, q2, q3⟩ | exact HQ.out _ HBs.out | exact HQ.out _ HBa.out | exact HQ.out _ HBb.out | go_keep)
    ((first
      | (go_at_call 9; (with_reducible refine (HCA.out _ (by first | exact HBb.out | exact HBV.out)).mono ?_); rintro e xa ⟨⟨an, ar, vsa, rfl, ⟨_, _, _, rfl⟩, ⟨_, _, _, rfl⟩, hOa⟩, hba⟩; have HBa : Hid (Below V.heap.size V xa) := (by first | exact HBb.out.trans (hba.mono HBb.out.size) | exact HBV.out.trans (hba.mono HBV.out.size)))
      | (go_at_call 9; (with_reducible refine (HCB.out _ (by first | exact HBa.out | exact HBV.out)).mono ?_); rintro e xb ⟨⟨bn, br, vsb, rfl, ⟨_, _, _, rfl⟩, ⟨_, _, _, rfl⟩, hOb⟩, hbb⟩; have HBb : Hid (Below V.heap.size V xb) := (by first | exact HBa.out.trans (hbb.mono HBa.out.size) | exact HBV.out.trans (hbb.mono HBV.out.size)))
      | (go_at_call 25; refine (HCS.out _ _ _ _ _ (by first | exact ⟨hOa.at.later hbb, hOb.at⟩ | exact ⟨hOa.at, hOb.at.later hba⟩)).mono ?_; rintro e xs ⟨rfl, hbs⟩; have HBs : Hid (Below V.heap.size V xs) := (by first | exact HBa.out.trans (hbs.mono HBa.out.size) | exact HBb.out.trans (hbs.mono HBb.out.size)))))
  all_goals (
    clear q0 q1 q2 q3 HCS
    obtain ⟨w3, hw3⟩ : ∃ w3, w3 = xs := ⟨_, rfl⟩
    have HB3 : Hid (Below V.heap.size V w3) := by show Below _ _ _; rw [hw3]; exact HBs.out
    subst hw3
    obtain ⟨q0, q1, q2, q3⟩ := HQ.out _ HB3.out
    go_wp2_with fail
    refine (HCA.out _ HB3.out).mono ?_
    rintro e w4 ⟨⟨n4, r4, vs4, rfl, ⟨a4, l4, k4, rfl⟩, ⟨b4, m4, j4, rfl⟩, hO4⟩, hb4⟩
    clear q0 q1 q2 q3
    obtain ⟨X4, hX4⟩ : ∃ X, w4.alloc (.cells #[.slice a4 l4 k4, .slice b4 m4 j4] 30) = X := ⟨_, rfl⟩
    have hXB4 : Below w4.heap.size w4 X4 := by rw [← hX4]; exact (Below.refl _ w4).alloc (Nat.le_refl _) _
    have hXE4 : X4.heap[w4.heap.size]? = some (.cells #[.slice a4 l4 k4, .slice b4 m4 j4] 30 (0, 0)) := by rw [← hX4]; exact heap_alloc_new w4 _
    have hXS4 : X4.heap.size = w4.heap.size + 1 := by rw [← hX4]; simp
    have hB4 : Below V.heap.size V X4 := HB3.out.trans ((hb4.trans (hXB4.mono hb4.size)).mono HB3.out.size)
    have HB4 := hidS hB4
    have HO4 : Hid (GrAt X4 (.slice a4 l4 k4) (.slice b4 m4 j4) a) := hO4.at.later hXB4
    have HXQ4 : Hid (∀ wr, Below X4.heap.size X4 wr → wr.heap[w4.heap.size]? = some (.cells #[.slice a4 l4 k4, .slice b4 m4 j4] 30 (0, 0))) := fun wr hb => (hb.block w4.heap.size (by omega)).trans hXE4
    have HX4 := hidS hX4
    have hBw4 : Below V.heap.size V w4 := HB3.out.trans (hb4.mono HB3.out.size)
    obtain ⟨q0, q1, q2, q3⟩ := HQ.out _ hBw4
    have hlt0 : w.heap.size < w4.heap.size := by have h1 := hBw4.size; have h2 := HS.out; omega
    have hlt1 : w.heap.size + 1 < w4.heap.size := by have h1 := hBw4.size; have h2 := HS.out; omega
    clear hb4 hO4 hX4 hXB4 hXE4 hXS4 hB4 hBw4
    go_wp2_with fail
    rw [HX4.out]
    clear hlt0 hlt1
    refine (HCB.out _ HB4.out).mono ?_
    rintro e w5 ⟨⟨n5, r5, vs5, rfl, ⟨a5, l5, k5, rfl⟩, ⟨b5, m5, j5, rfl⟩, hO5⟩, hb5⟩
    clear q0 q1 q2 q3
    obtain ⟨X5, hX5⟩ : ∃ X, w5.alloc (.cells #[.slice a5 l5 k5, .slice b5 m5 j5] 30) = X := ⟨_, rfl⟩
    have hXB5 : Below w5.heap.size w5 X5 := by rw [← hX5]; exact (Below.refl _ w5).alloc (Nat.le_refl _) _
    have hXE5 : X5.heap[w5.heap.size]? = some (.cells #[.slice a5 l5 k5, .slice b5 m5 j5] 30 (0, 0)) := by rw [← hX5]; exact heap_alloc_new w5 _
    have hXS5 : X5.heap.size = w5.heap.size + 1 := by rw [← hX5]; simp
    have hb45 : Below X4.heap.size X4 X5 := hb5.trans (hXB5.mono hb5.size)
    have hB5 : Below V.heap.size V X5 := HB4.out.trans (hb45.mono HB4.out.size)
    have HB5 := hidS hB5
    have HO5 : Hid (GrAt X5 (.slice a5 l5 k5) (.slice b5 m5 j5) b) := hO5.at.later hXB5
    have HOA : Hid (GrAt X5 (.slice a4 l4 k4) (.slice b4 m4 j4) a) := HO4.out.later hb45
    have HXQ5 : Hid (∀ wr, Below X5.heap.size X5 wr → wr.cell? ⟨w4.heap.size, 0, none⟩ = some (.slice a4 l4 k4) ∧ wr.cell? ⟨w4.heap.size, 1, none⟩ = some (.slice b4 m4 j4) ∧ wr.cell? ⟨w5.heap.size, 0, none⟩ = some (.slice a5 l5 k5) ∧ wr.cell? ⟨w5.heap.size, 1, none⟩ = some (.slice b5 m5 j5)) := fun wr hb => by
      have h0 := HXQ4.out wr (hb45.trans (hb.mono hb45.size))
      have h1 := (hb.block w5.heap.size (by omega)).trans hXE5
      exact ⟨n2_0 h0, n2_1 h0, n2_0 h1, n2_1 h1⟩
    have HKA : Hid (∀ wr, Below X5.heap.size X5 wr → wr.cell? ⟨w4.heap.size, 0, none⟩ = some (.slice a4 l4 k4) ∧ wr.cell? ⟨w4.heap.size, 1, none⟩ = some (.slice b4 m4 j4) ∧ wr.cell? ⟨w.heap.size, 0, none⟩ = some (.slice na a.nodes.length nc) ∧ wr.cell? ⟨w.heap.size, 1, none⟩ = some (.slice ra a.roots.length rc)) := fun wr hb => by
      obtain ⟨h0, h1, _, _⟩ := HXQ5.out wr hb
      obtain ⟨h2, h3, _, _⟩ := HQ.out wr (HB5.out.trans (hb.mono HB5.out.size))
      exact ⟨h0, h1, h2, h3⟩
    have HKB : Hid (∀ wr, Below X5.heap.size X5 wr → wr.cell? ⟨w5.heap.size, 0, none⟩ = some (.slice a5 l5 k5) ∧ wr.cell? ⟨w5.heap.size, 1, none⟩ = some (.slice b5 m5 j5) ∧ wr.cell? ⟨w.heap.size + 1, 0, none⟩ = some (.slice nb b.nodes.length nd) ∧ wr.cell? ⟨w.heap.size + 1, 1, none⟩ = some (.slice rb b.roots.length rd)) := fun wr hb => by
      obtain ⟨_, _, h0, h1⟩ := HXQ5.out wr hb
      obtain ⟨_, _, h2, h3⟩ := HQ.out wr (HB5.out.trans (hb.mono HB5.out.size))
      exact ⟨h0, h1, h2, h3⟩
    have HX5 := hidS hX5
    have cI := HII.out a b _ _ _ _ X5 HOA.out HO5.out HTA.out HTB.out HF.out.1 HF.out.2
    rw [HBB.out] at cI
    obtain ⟨p0, p1, p2, p3⟩ := HXQ5.out X5 (Below.refl _ _)
    obtain ⟨t0, t1⟩ : w5.cell? ⟨w4.heap.size, 0, none⟩ = some (.slice a4 l4 k4) ∧ w5.cell? ⟨w4.heap.size, 1, none⟩ = some (.slice b4 m4 j4) := by
      have h0 := HXQ4.out w5 hb5
      exact ⟨n2_0 h0, n2_1 h0⟩
    have hlt : w4.heap.size < w5.heap.size := (Array.getElem?_eq_some_iff.1 (HXQ4.out w5 hb5)).1
    clear hb5 hO5 hX5 hXB5 hXE5 hXS5 hb45 hB5
    go_wp2_with fail
    rw [HX5.out]
    refine cI.mono ?_
    rintro e w6 ⟨rfl, hb6⟩
    have HD6 := hidS hb6
    have HB6 := hidS (HB5.out.trans (hb6.mono HB5.out.size))
    clear p0 p1 p2 p3 t0 t1 hlt
    obtain ⟨q0, q1, q2, q3⟩ := HQ.out w6 HB6.out
    obtain ⟨p0, p1, p2, p3⟩ := HXQ5.out w6 hb6
    have hot : (bb != bb) = false := by simp
    clear cI hb6
    cases bb
    all_goals (
      go_wp2_with fail
      go_region_held3 (fun x => x.cell? ⟨w4.heap.size, 0, none⟩ = some (.slice a4 l4 k4) ∧ x.cell? ⟨w4.heap.size, 1, none⟩ = some (.slice b4 m4 j4) ∧ x.cell? ⟨w.heap.size, 0, none⟩ = some (.slice na a.nodes.length nc) ∧ x.cell? ⟨w.heap.size, 1, none⟩ = some (.slice ra a.roots.length rc))
        (first | exact ⟨p0, p1, q0, q1⟩ | exact HKA.out _ HD8.out | exact HKA.out _ HD7.out | go_keep)
        ((first
        | (go_at_call 9; (with_reducible refine (HCA.out _ HB6.out.drew).mono ?_); rintro e w7 ⟨⟨n7, r7, vs7, rfl, ⟨_, _, _, rfl⟩, ⟨_, _, _, rfl⟩, hO7⟩, hb7⟩; have HD7 : Hid (Below X5.heap.size X5 w7) := HD6.out.trans ((((Below.refl _ w6).drew).trans hb7).mono HD6.out.size))
        | (go_at_call 11; refine (eqG_same a _ _ _ _ _ (HOA.out.later HD7.out) hO7.at HTA.out).mono ?_; rintro e w8 ⟨rfl, hb8⟩; have HD8 : Hid (Below X5.heap.size X5 w8) := HD7.out.trans (hb8.mono HD7.out.size))))
      have HB8 : Hid (Below V.heap.size V w8) := HB5.out.trans (HD8.out.mono HB5.out.size)
      clear q0 q1 q2 q3 p0 p1 p2 p3 hO7 hb7 hb8
      obtain ⟨q0, q1, q2, q3⟩ := HQ.out w8 HB8.out
      obtain ⟨p0, p1, p2, p3⟩ := HXQ5.out w8 HD8.out
      go_wp2_with fail
      go_region_held3 (fun x => x.cell? ⟨w5.heap.size, 0, none⟩ = some (.slice a5 l5 k5) ∧ x.cell? ⟨w5.heap.size, 1, none⟩ = some (.slice b5 m5 j5) ∧ x.cell? ⟨w.heap.size + 1, 0, none⟩ = some (.slice nb b.nodes.length nd) ∧ x.cell? ⟨w.heap.size + 1, 1, none⟩ = some (.slice rb b.roots.length rd))
        (first | exact ⟨p2, p3, q2, q3⟩ | exact HKB.out _ HD10.out | exact HKB.out _ HD9.out | go_keep)
        ((first
        | (go_at_call 9; (with_reducible refine (HCB.out _ HB8.out.drew).mono ?_); rintro e w9 ⟨⟨n9, r9, vs9, rfl, ⟨_, _, _, rfl⟩, ⟨_, _, _, rfl⟩, hO9⟩, hb9⟩; have HD9 : Hid (Below X5.heap.size X5 w9) := HD8.out.trans ((((Below.refl _ w8).drew).trans hb9).mono HD8.out.size))
        | (go_at_call 11; refine (eqG_same b _ _ _ _ _ (HO5.out.later HD9.out) hO9.at HTB.out).mono ?_; rintro e w10 ⟨rfl, hb10⟩; have HD10 : Hid (Below X5.heap.size X5 w10) := HD9.out.trans (hb10.mono HD9.out.size))))
      have HFIN : Hid (Below w.heap.size w w10) := HB0.out.trans ((HB5.out.trans (HD10.out.mono HB5.out.size)).mono HB0.out.size)
      clear q0 q1 q2 q3 p0 p1 p2 p3 hO9 hb9 hb10
      go_wp2_with fail
      go_ret
      exact ⟨rfl, HFIN.out⟩))
end Go.Proofs.Ytgaibajkegfpoaa
