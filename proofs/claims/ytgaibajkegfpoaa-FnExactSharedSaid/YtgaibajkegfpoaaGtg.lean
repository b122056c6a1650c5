/- A copy of a graph, which is the call's own; what is owned can be read. -/
import Derived.Test.YtgaibajkegfpoaaGtn
namespace Go.Proofs.Ytgaibajkegfpoaa
open Go.ChangeShapes Go.WideShapes Go.ChangeAt Go.RowKit Go.Deep
/-- A graph of the call's own: its nodes, their kids and its roots, each list in a block of its own. -/
structure GOwn (lo : Nat) (w : World) (nv rv : Value) (g : Gr) (vs : List Value) : Prop where
  nodes : w.ownsRow lo 50 4 nv g.nodes.length (cellsN g.nodes vs)
  kids : KidsOwn lo w vs g.nodes
  roots : w.ownsRow lo 3 1 rv g.roots.length (ilV g.roots)
  apart : ∀ (i : Nat) (a : Value) (x : Nat), vs[i]? = some a → a.ownBlock = some x → rv.ownBlock ≠ some x
theorem cellsN_at : ∀ (ns : List Nd) (vs : List Value) (i : Nat) (n : Nd) (v : Value), ns[i]? = some n → vs[i]? = some v → ∀ j u, [Value.int .i64 n.kind, .string n.tag, .string n.text, v][j]? = some u → (cellsN ns vs)[i * 4 + j]? = some u
  | [], _, i, n, v, h, _, _, _, _ => by simp at h
  | _ :: _, [], i, n, v, _, h, _, _, _ => by simp at h
  | m :: t, x :: y, 0, n, v, h, h', j, u, hu => by
    obtain rfl : m = n := by simpa using h
    obtain rfl : x = v := by simpa using h'
    have hj : j < 4 := (List.getElem?_eq_some_iff.1 hu).1
    rw [Nat.zero_mul, Nat.zero_add, cellsN]
    match j, hj, hu with
    | 0, _, hu => exact hu
    | 1, _, hu => exact hu
    | 2, _, hu => exact hu
    | 3, _, hu => exact hu
  | m :: t, x :: y, i + 1, n, v, h, h', j, u, hu => by
    rw [cellsN, show (i + 1) * 4 + j = (i * 4 + j) + 4 by omega]
    exact cellsN_at t y i n v (by simpa using h) (by simpa using h') j u hu
theorem nl_of_own {w : World} {lo : Nat} {nv : Value} {ns : List Nd} {vs : List Value} (h : w.ownsRow lo 50 4 nv ns.length (cellsN ns vs)) (hk : KidsOwn lo w vs ns) : NlAt w nv ns := by
  by_cases hz : ns = []
  · subst hz
    left
    rcases h.2 with ⟨e, _⟩ | ⟨g, cap, cur, e, _⟩
    · exact ⟨rfl, _, _, e⟩
    · exact ⟨rfl, _, _, e⟩
  · right
    have hpos : 0 < ns.length := List.length_pos_iff.2 hz
    rcases h.2 with ⟨_, e⟩ | ⟨g, cap, cur, rfl, _, hg, _⟩
    · omega
    · refine ⟨hz, g, 0, cap, rfl, (Array.getElem?_eq_some_iff.1 hg).1, fun i n hi => ?_⟩
      have hil : i < vs.length := by rw [hk.len]; exact (List.getElem?_eq_some_iff.1 hi).1
      have hv : vs[i]? = some vs[i] := List.getElem?_eq_getElem hil
      have hc : ∀ j u, [Value.int .i64 n.kind, .string n.tag, .string n.text, vs[i]][j]? = some u → w.cell? ⟨g, 0 + i * 4 + j, none⟩ = some u := fun j u hu => by
        have h1 := h.cells (g := g) rfl (i * 4 + j) u (cellsN_at ns vs i n _ hi hv j u hu)
        have a1 : (⟨g, 0, none⟩ : Addr).add (i * 4 + j) = ⟨g, i * 4 + j, none⟩ := by unfold Addr.add; split <;> simp_all
        rw [a1] at h1
        rw [Nat.zero_add]
        exact h1
      exact ⟨vs[i], hc 0 _ rfl, hc 1 _ rfl, hc 2 _ rfl, hc 3 _ rfl, il_of_own (hk.own i _ n hv hi)⟩
theorem GOwn.at {lo : Nat} {w : World} {nv rv : Value} {g : Gr} {vs : List Value} (h : GOwn lo w nv rv g vs) : GrAt w nv rv g := ⟨nl_of_own h.nodes h.kids, il_of_own h.roots⟩
theorem GOwn.later {lo : Nat} {w w' : World} {nv rv : Value} {g : Gr} {vs : List Value} (h : GOwn lo w nv rv g vs) (hb : Below w.heap.size w w') : GOwn lo w' nv rv g vs :=
  ⟨g_row_below h.nodes hb, h.kids.later hb, g_row_below h.roots hb, h.apart⟩
theorem GOwn.lower {lo lo' : Nat} {w : World} {nv rv : Value} {g : Gr} {vs : List Value} (h : GOwn lo w nv rv g vs) (hl : lo' ≤ lo) : GOwn lo' w nv rv g vs :=
  ⟨g_row_lower h.nodes hl, ⟨h.kids.len, fun i v n hv hn => g_row_lower (h.kids.own i v n hv hn) hl, h.kids.apart⟩, g_row_lower h.roots hl, h.apart⟩
section
variable {w : World} {b : Nat} {x0 x1 : Value} {t : TypeId}
theorem n2_0 (h : w.heap[b]? = some (.cells #[x0, x1] t (0, 0))) : w.cell? ⟨b, 0, none⟩ = some x0 := by simp [World.cell?, h]
theorem n2_1 (h : w.heap[b]? = some (.cells #[x0, x1] t (0, 0))) : w.cell? ⟨b, 1, none⟩ = some x1 := by simp [World.cell?, h]
theorem n2_f (h : w.heap[b]? = some (.cells #[x0, x1] t (0, 0))) (i : Nat) : w.frozen? ⟨b, i, none⟩ = false := by simp [World.frozen?, h]
theorem n2_set0 (h : w.heap[b]? = some (.cells #[x0, x1] t (0, 0))) (a : Value) : (w.setCell ⟨b, 0, none⟩ a).heap[b]? = some (.cells #[a, x1] t (0, 0)) := by
  simp [World.setCell, Array.getElem?_modify, h]
theorem n2_set1 (h : w.heap[b]? = some (.cells #[x0, x1] t (0, 0))) (a : Value) : (w.setCell ⟨b, 1, none⟩ a).heap[b]? = some (.cells #[x0, a] t (0, 0)) := by
  simp [World.setCell, Array.getElem?_modify, h]
end
set_option maxHeartbeats 4000000 in
theorem toG_own (g : Gr) (nv rv : Value) (w : World) (hG : GrAt w nv rv g) (ht : g.tot ≤ 1048576) :
    Calls Try.prog 9 #[.agg #[nv, rv]] w fun e w' => (∃ nv' rv' vs, e = .returned (.agg #[nv', rv']) ∧ isSlG nv' ∧ isSlG rv' ∧ GOwn w.heap.size w' nv' rv' g vs) ∧ Below w.heap.size w w' := by
  obtain ⟨nodes, roots⟩ := g
  have htt : nodes.length + totN nodes + roots.length ≤ 1048576 := ht
  have hkk : ∀ n ∈ nodes, n.kids.length ≤ 1048576 := fun n hn => by
    have := totN_mem hn
    unfold Nd.tot at this
    omega
  obtain ⟨na, nc, rfl⟩ := hG.1.sl
  obtain ⟨ra, rc, rfl⟩ := hG.2.sl
  have HG : Hid (GrAt w (.slice na nodes.length nc) (.slice ra roots.length rc) ⟨nodes, roots⟩) := hG
  have HK : Hid (∀ n ∈ nodes, n.kids.length ≤ 1048576) := hkk
  have HT : Hid (nodes.length ≤ 1048576 ∧ roots.length ≤ 1048576) := ⟨by omega, by omega⟩
  obtain ⟨V, hV⟩ : ∃ V, ((w.alloc (.cells #[.slice na nodes.length nc, .slice ra roots.length rc] 25)).alloc (.cells #[.slice none 0 0, .slice none 0 0] 30)).alloc (.cells #[.slice none 0 0, .slice none 0 0] 30) = V := ⟨_, rfl⟩
  have HB0 : Hid (Below w.heap.size w V) := by show Below _ _ _; rw [← hV]; exact (((Below.refl _ w).alloc (Nat.le_refl _) _).alloc (by simp) _).alloc (by simp; omega) _
  have HS0 : Hid (V.heap.size = w.heap.size + 3) := by show _ = _; rw [← hV]; show (((w.heap.push _).push _).push _).size = _; simp
  have H0 : Hid (V.heap[w.heap.size]? = some (.cells #[.slice na nodes.length nc, .slice ra roots.length rc] 25 (0, 0))) := by
    show _ = _
    rw [← hV]
    show (((w.heap.push _).push _).push _)[w.heap.size]? = _
    rw [Array.getElem?_push, if_neg (by simp; omega), Array.getElem?_push, if_neg (by simp), Array.getElem?_push, if_pos rfl]
  have H1 : Hid (V.heap[w.heap.size + 1]? = some (.cells #[.slice none 0 0, .slice none 0 0] 30 (0, 0))) := by
    show _ = _
    rw [← hV]
    show (((w.heap.push _).push _).push _)[w.heap.size + 1]? = _
    rw [Array.getElem?_push, if_neg (by simp), Array.getElem?_push, if_pos (by simp)]
  have H2 : Hid (V.heap[w.heap.size + 2]? = some (.cells #[.slice none 0 0, .slice none 0 0] 30 (0, 0))) := by
    show _ = _
    rw [← hV]
    show (((w.heap.push _).push _).push _)[w.heap.size + 2]? = _
    rw [Array.getElem?_push, if_pos (by simp)]
  have HV : Hid (((w.alloc (.cells #[.slice na nodes.length nc, .slice ra roots.length rc] 25)).alloc (.cells #[.slice none 0 0, .slice none 0 0] 30)).alloc (.cells #[.slice none 0 0, .slice none 0 0] 30) = V) := hV
  clear hV hG ht htt hkk
  go_enter Try.func9, Try.ntmps9
  go_wp2_with fail
  rw [HV.out]
  refine (toNs_own V _ nodes (HG.out.1.later HB0.out) HT.out.1 HK.out).mono ?_
  rintro e w1 ⟨⟨rfl, vs, ho, hk⟩, hb1⟩
  have HB1 : Hid (Below w.heap.size w w1) := HB0.out.trans (hb1.mono HB0.out.size)
  have G0 := (hb1.block w.heap.size (by rw [HS0.out]; omega)).trans H0.out
  have G1 : Hid (w1.heap[w.heap.size + 1]? = some (.cells #[.slice none 0 0, .slice none 0 0] 30 (0, 0))) := (hb1.block (w.heap.size + 1) (by rw [HS0.out]; omega)).trans H1.out
  have G2 := (hb1.block (w.heap.size + 2) (by rw [HS0.out]; omega)).trans H2.out
  have S1 : Hid (w.heap.size + 3 ≤ w1.heap.size) := by show _ ≤ _; rw [← HS0.out]; exact hb1.size
  have p0 := n2_0 G2
  have f0 := n2_f G2 0
  have a1 := n2_1 G0
  obtain ⟨W1, hW1⟩ : ∃ W1, w1.setCell ⟨w.heap.size + 2, 0, none⟩ (.slice (some ⟨V.heap.size, 0, none⟩) nodes.length nodes.length) = W1 := ⟨_, rfl⟩
  have hx : ∀ k, k ≠ w.heap.size + 2 → W1.heap[k]? = w1.heap[k]? := fun k hk => by rw [← hW1]; exact heap_setCell_other _ _ _ _ hk
  have HO : Hid (W1.ownsRow V.heap.size 50 4 (.slice (some ⟨V.heap.size, 0, none⟩) nodes.length nodes.length) nodes.length (cellsN nodes vs)) := g_row_block ho (fun g hg => hx g (by have := (ho.lt g hg).1; have := HS0.out; omega))
  have HKO : Hid (KidsOwn V.heap.size W1 vs nodes) := hk.block (fun i v x hv hx2 => hx x (by have := (hk.lt hv hx2).1; have := HS0.out; omega))
  have HB2 : Hid (Below w.heap.size w W1) := by show Below _ _ _; rw [← hW1]; exact HB1.out.setCell (by show w.heap.size ≤ w.heap.size + 2; omega) _
  have K0 : Hid (W1.heap[w.heap.size]? = some (.cells #[.slice na nodes.length nc, .slice ra roots.length rc] 25 (0, 0))) := (hx _ (by omega)).trans G0
  have K1 : Hid (W1.heap[w.heap.size + 1]? = some (.cells #[.slice none 0 0, .slice none 0 0] 30 (0, 0))) := (hx _ (by omega)).trans G1.out
  have K2 : Hid (W1.heap[w.heap.size + 2]? = some (.cells #[.slice (some ⟨V.heap.size, 0, none⟩) nodes.length nodes.length, .slice none 0 0] 30 (0, 0))) := by show _ = _; rw [← hW1]; exact n2_set0 G2 _
  have SW : Hid (W1.heap.size = w1.heap.size) := by show _ = _; rw [← hW1]; simp
  have HW1 : Hid (w1.setCell ⟨w.heap.size + 2, 0, none⟩ (.slice (some ⟨V.heap.size, 0, none⟩) nodes.length nodes.length) = W1) := hW1
  have b1 := n2_1 K0.out
  rw [← hW1] at b1
  clear hb1 ho hk G0 G1 G2 HV H0 H1 H2 hx hW1 HB1
  go_wp2_with fail
  rw [HW1.out]
  refine (toI_own W1 _ roots (HG.out.2.later HB2.out) HT.out.2).mono ?_
  rintro e w2 ⟨⟨rfl, hr⟩, hb2⟩
  have HB3 : Hid (Below w.heap.size w w2) := HB2.out.trans (hb2.mono HB2.out.size)
  have hsz : w.heap.size + 3 ≤ W1.heap.size := by rw [SW.out]; exact S1.out
  have M1 := (hb2.block (w.heap.size + 1) (by omega)).trans K1.out
  have M2 := (hb2.block (w.heap.size + 2) (by omega)).trans K2.out
  have HR : Hid (w2.ownsRow W1.heap.size 3 1 (.slice (some ⟨W1.heap.size, 0, none⟩) roots.length roots.length) roots.length (ilV roots)) := hr
  have HO2 : Hid (w2.ownsRow V.heap.size 50 4 (.slice (some ⟨V.heap.size, 0, none⟩) nodes.length nodes.length) nodes.length (cellsN nodes vs)) := g_row_below HO.out hb2
  have HK2 : Hid (KidsOwn V.heap.size w2 vs nodes) := HKO.out.later hb2
  have HLT : Hid (∀ (i : Nat) (v : Value) (x : Nat), vs[i]? = some v → v.ownBlock = some x → x < W1.heap.size) := fun i v x hv hx => (HKO.out.lt hv hx).2
  have HVW : Hid (V.heap.size ≤ W1.heap.size) := by show _ ≤ _; have := HS0.out; omega
  have HM1 : Hid (w2.heap[w.heap.size + 1]? = some (.cells #[.slice none 0 0, .slice none 0 0] 30 (0, 0))) := M1
  have p1 := n2_1 M2
  have q0 := n2_0 M2
  have f1 := n2_f M2 1
  have z0 := n2_0 M1
  have z1 := n2_1 M1
  have y0 := n2_f M1 0
  have y1 := n2_f M1 1
  clear hb2 hr M1 M2 K0 K1 K2 HO HKO HW1 b1 p0 f0 a1 HB2 HG HK
  go_wp2_with fail
  have hX : ∀ k, k ≠ w.heap.size + 2 → k ≠ w.heap.size + 1 → (((w2.setCell ⟨w.heap.size + 2, 1, none⟩ (.slice (some ⟨W1.heap.size, 0, none⟩) roots.length roots.length)).setCell ⟨w.heap.size + 1, 0, none⟩ (.slice (some ⟨V.heap.size, 0, none⟩) nodes.length nodes.length)).setCell ⟨w.heap.size + 1, 1, none⟩ (.slice (some ⟨W1.heap.size, 0, none⟩) roots.length roots.length)).heap[k]? = w2.heap[k]? := fun k h1 h2 => by
    rw [heap_setCell_other _ _ _ _ h2, heap_setCell_other _ _ _ _ h2, heap_setCell_other _ _ _ _ h1]
  have hF : (((w2.setCell ⟨w.heap.size + 2, 1, none⟩ (.slice (some ⟨W1.heap.size, 0, none⟩) roots.length roots.length)).setCell ⟨w.heap.size + 1, 0, none⟩ (.slice (some ⟨V.heap.size, 0, none⟩) nodes.length nodes.length)).setCell ⟨w.heap.size + 1, 1, none⟩ (.slice (some ⟨W1.heap.size, 0, none⟩) roots.length roots.length)).heap[w.heap.size + 1]? = some (.cells #[.slice (some ⟨V.heap.size, 0, none⟩) nodes.length nodes.length, .slice (some ⟨W1.heap.size, 0, none⟩) roots.length roots.length] 30 (0, 0)) :=
    n2_set1 (n2_set0 ((heap_setCell_other _ _ _ _ (by show w.heap.size + 1 ≠ w.heap.size + 2; omega)).trans HM1.out) _) _
  have hFb := ((HB3.out.setCell (p := ⟨w.heap.size + 2, 1, none⟩) (by show w.heap.size ≤ w.heap.size + 2; omega) (.slice (some ⟨W1.heap.size, 0, none⟩) roots.length roots.length)).setCell (p := ⟨w.heap.size + 1, 0, none⟩) (by show w.heap.size ≤ w.heap.size + 1; omega) (.slice (some ⟨V.heap.size, 0, none⟩) nodes.length nodes.length)).setCell (p := ⟨w.heap.size + 1, 1, none⟩) (by show w.heap.size ≤ w.heap.size + 1; omega) (.slice (some ⟨W1.heap.size, 0, none⟩) roots.length roots.length)
  try simp only [Exit.inBlock, Exit.then]
  refine bodyPost_ret (results_cell_row rfl _ _ (w.heap.size + 1) 30 _ (0, 0) _ rfl hF Try.underlying30 rfl (by kernel_rfl)) rfl ?_
  have hv0 : w.heap.size + 3 = V.heap.size := HS0.out.symm
  have hvw := HVW.out
  refine ⟨⟨_, _, vs, rfl, ⟨_, _, _, rfl⟩, ⟨_, _, _, rfl⟩, ?_⟩, hFb⟩
  refine ⟨g_row_lower (g_row_block HO2.out (fun g hg => hX g (by have := (HO2.out.lt g hg).1; omega) (by have := (HO2.out.lt g hg).1; omega))) (by omega), ⟨HK2.out.len, fun i v n hv hn => g_row_lower (g_row_block (HK2.out.own i v n hv hn) (fun x hx => hX x (by have := (HK2.out.lt hv hx).1; omega) (by have := (HK2.out.lt hv hx).1; omega))) (by omega), HK2.out.apart⟩, g_row_lower (g_row_block HR.out (fun g hg => hX g (by have := (HR.out.lt g hg).1; omega) (by have := (HR.out.lt g hg).1; omega))) (by omega), fun i a x ha hx hrx => ?_⟩
  have h1 := HLT.out i a x ha hx
  have h2 := (HR.out.lt x hrx).1
  omega
end Go.Proofs.Ytgaibajkegfpoaa
