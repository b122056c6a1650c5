/- Two graphs that are alike, held against each other. -/
import Derived.Test.YtkdlakcmhdiojaaGtg
import Derived.Test.YtkdlakcmhdiojaaBwr
namespace Go.Proofs.Ytkdlakcmhdiojaa
open Go.ChangeShapes Go.WideShapes Go.ChangeAt Go.RowKit Go.Deep
theorem g_below_drewN (w : World) (n : Nat) : Below w.heap.size w (w.drewN n) := by
  induction n with
  | zero => exact Below.refl _ _
  | succ n ih => exact ih.drew
set_option maxHeartbeats 4000000 in
theorem eqIl_same (v u : Value) (l : List Int) (w : World) (hV : IlAt w v l) (hU : IlAt w u l) (hl : l.length ≤ 1048576) :
    Calls Try.prog 32 #[v, u] w fun e w' => e = .returned (.bool true) ∧ Below w.heap.size w w' := by
  obtain ⟨a, c, rfl⟩ := hV.sl
  obtain ⟨a2, c2, rfl⟩ := hU.sl
  have HV : Hid (IlAt w (.slice a l.length c) l) := hV
  have HU : Hid (IlAt w (.slice a2 l.length c2) l) := hU
  have hl' : (l.length : Int) ≤ 1048576 := by omega
  clear hV hU
  go_enter Try.func32, Try.ntmps32
  go_wp2_with fail
  go_loopw [5] (fun kv wr => ∃ k : Nat, k ≤ l.length ∧ kv = .int .i64 (k : Int) ∧ Hid (Below w.heap.size w wr)) (fun kv _ => l.length - (intOf kv).toNat)
  case atStart => exact ⟨0, Nat.zero_le _, rfl, Below.refl _ _⟩
  case round =>
    obtain ⟨k, hk, rfl, HB⟩ := hrel
    by_cases hlt : k < l.length
    · have hlt' : (k : Int) < (l.length : Int) := by omega
      obtain ⟨n, hn⟩ : ∃ n, l[k]? = some n := ⟨_, List.getElem?_eq_getElem hlt⟩
      obtain ⟨b, o, rfl, _, d1⟩ := (HV.out.later HB.out).at hn
      obtain ⟨b2, o2, rfl, _, d2⟩ := (HU.out.later HB.out).at hn
      have tn : (n != n) = false := by simp
      clear hn
      go_wp2_with fail
      go_quiet (fail)
      have HB2 : Hid (Below w.heap.size w (wr.drewN nq)) := HB.out.trans ((g_below_drewN wr _).mono HB.out.size)
      clear HB
      go_wp2_with fail
      go_roundw
      case rel => exact ⟨k + 1, hlt, by go_num, HB2⟩
      case measure => simp [intOf]; omega
    · have hge : ¬ (k : Int) < (l.length : Int) := by omega
      go_wp2_with fail
      go_ret
      exact ⟨rfl, HB.out⟩
set_option maxHeartbeats 4000000 in
theorem eqNd_same (n : Nd) (v u : Value) (w : World) (hV : IlAt w v n.kids) (hU : IlAt w u n.kids) (hl : n.kids.length ≤ 1048576) :
    Calls Try.prog 54 #[.agg #[.int .i64 n.kind, .string n.tag, .string n.text, v], .agg #[.int .i64 n.kind, .string n.tag, .string n.text, u]] w fun e w' => e = .returned (.bool true) ∧ Below w.heap.size w w' := by
  obtain ⟨kind, tag, text, kids⟩ := n
  obtain ⟨a, c, rfl⟩ := hV.sl
  obtain ⟨a2, c2, rfl⟩ := hU.sl
  show Calls Try.prog 54 #[.agg #[.int .i64 kind, .string tag, .string text, .slice a kids.length c], .agg #[.int .i64 kind, .string tag, .string text, .slice a2 kids.length c2]] w fun e w' => e = .returned (.bool true) ∧ Below w.heap.size w w'
  have h1 : (kind != kind) = false := by simp
  have h2 : (tag.toList != tag.toList) = false := by simp
  have h3 : (text.toList != text.toList) = false := by simp
  have HB : Hid (Below w.heap.size w ((w.alloc (.cells #[.int .i64 kind, .string tag, .string text, .slice a kids.length c] 70)).alloc (.cells #[.int .i64 kind, .string tag, .string text, .slice a2 kids.length c2] 70))) := ((Below.refl _ w).alloc (Nat.le_refl _) _).alloc (by simp) _
  have cE := eqIl_same _ _ kids _ (hV.later HB.out) (hU.later HB.out) hl
  clear hV hU
  go_enter Try.func54, Try.ntmps54
  go_wp2_with fail
  refine cE.mono ?_
  rintro e w1 ⟨rfl, hb1⟩
  have HB1 : Hid (Below w.heap.size w w1) := HB.out.trans (hb1.mono HB.out.size)
  clear hb1 cE
  go_wp2_with fail
  go_ret
  exact ⟨rfl, HB1.out⟩
set_option maxHeartbeats 8000000 in
theorem eqNs_same (w : World) (v u : Value) (ns : List Nd) (hV : NlAt w v ns) (hU : NlAt w u ns) (hl : ns.length ≤ 1048576) (hkk : ∀ n ∈ ns, n.kids.length ≤ 1048576) :
    Calls Try.prog 31 #[v, u] w fun e w' => e = .returned (.bool true) ∧ Below w.heap.size w w' := by
  obtain ⟨a, c, rfl⟩ := hV.sl
  obtain ⟨a', c', rfl⟩ := hU.sl
  have HV : Hid (NlAt w (.slice a ns.length c) ns) := hV
  have HU : Hid (NlAt w (.slice a' ns.length c') ns) := hU
  have HK : Hid (∀ n ∈ ns, n.kids.length ≤ 1048576) := hkk
  have hl' : (ns.length : Int) ≤ 1048576 := by omega
  clear hV hU hkk
  go_enter Try.func31, Try.ntmps31
  go_wp2_with fail
  go_loopw [5] (fun i wr => ∃ k : Nat, k ≤ ns.length ∧ i = .int .i64 k ∧ Hid (Below w.heap.size w wr)) (fun i _ => ns.length - (intOf i).toNat)
  case atStart => exact ⟨0, Nat.zero_le _, rfl, Below.refl _ _⟩
  case round =>
    obtain ⟨k, hk, rfl, HB⟩ := hrel
    by_cases hlt : k < ns.length
    · obtain ⟨n, hx⟩ : ∃ h, ns[k]? = some h := ⟨_, List.getElem?_eq_getElem hlt⟩
      have hkn := HK.out n (List.mem_of_getElem? hx)
      obtain ⟨b, off, kv, rfl, hbl, hN⟩ := (HV.out.later HB.out).at hx
      obtain ⟨b', off', kv', rfl, hbl', hN'⟩ := (HU.out.later HB.out).at hx
      have c1 : ∀ m : Bw wr, NdAt m.val b (off + k * 4) n kv := fun m => hN.later hbl m.ok
      have c2 : ∀ m : Bw wr, NdAt m.val b' (off' + k * 4) n kv' := fun m => hN'.later hbl' m.ok
      have d0 := fun m => (c1 m).c0
      have d1 := fun m => (c1 m).c1
      have d2 := fun m => (c1 m).c2
      have d3 := fun m => (c1 m).c3
      have g0 := fun m => (c2 m).c0
      have g1 := fun m => (c2 m).c1
      have g2 := fun m => (c2 m).c2
      have g3 := fun m => (c2 m).c3
      have hE := Bw.calls (w := wr) (fun w' hb' => eqNd_same n kv kv' w' (hN.kids.later hb') (hN'.kids.later hb') hkn)
      have hne := Bw.some wr
      have hlt' : (k : Int) < (ns.length : Int) := by omega
      clear hx c1 c2 hN hN' hbl hbl' hkn
      obtain ⟨kind, tag, text, kids⟩ := n
      go_wp2_with fail
      refine wp_region_bw (w0 := wr) (by kernel_rfl) (by kernel_rfl) (Below.refl _ _) ?_
      repeat (go_big_quiet_step ((go_at_call 54; exact hE _)))
      refine wpQuiet_nil ?_
      rintro _ ⟨m, rfl⟩
      have hB1 : Hid (Below w.heap.size w m.val) := HB.out.trans (m.ok.mono HB.out.size)
      generalize m.val = w1 at *
      clear HB hE d0 d1 d2 d3 g0 g1 g2 g3 hne
      try simp [Act.put]
      go_wp2_with fail
      go_roundw
      case rel => exact ⟨k + 1, hlt, by go_num, hB1⟩
      case measure => simp [intOf]; omega
    · have hge : ¬ (k : Int) < (ns.length : Int) := by omega
      go_wp2_with fail
      go_ret
      exact ⟨rfl, HB.out⟩
set_option maxHeartbeats 4000000 in
theorem eqG_same (g : Gr) (nv rv nv' rv' : Value) (w : World) (hV : GrAt w nv rv g) (hU : GrAt w nv' rv' g) (ht : g.tot ≤ 1048576) :
    Calls Try.prog 9 #[.agg #[nv, rv], .agg #[nv', rv']] w fun e w' => e = .returned (.bool true) ∧ Below w.heap.size w w' := by
  obtain ⟨nodes, roots⟩ := g
  have htt : nodes.length + totN nodes + roots.length ≤ 1048576 := ht
  have HK : Hid (∀ n ∈ nodes, n.kids.length ≤ 1048576) := fun n hn => by
    have := totN_mem hn
    unfold Nd.tot at this
    omega
  have HT : Hid (nodes.length ≤ 1048576 ∧ roots.length ≤ 1048576) := ⟨by omega, by omega⟩
  obtain ⟨na, nc, rfl⟩ := hV.1.sl
  obtain ⟨ra, rc, rfl⟩ := hV.2.sl
  obtain ⟨na', nc', rfl⟩ := hU.1.sl
  obtain ⟨ra', rc', rfl⟩ := hU.2.sl
  obtain ⟨V, hW⟩ : ∃ V, (w.alloc (.cells #[.slice na nodes.length nc, .slice ra roots.length rc] 27)).alloc (.cells #[.slice na' nodes.length nc', .slice ra' roots.length rc'] 27) = V := ⟨_, rfl⟩
  have HB0 : Hid (Below w.heap.size w V) := by show Below _ _ _; rw [← hW]; exact ((Below.refl _ w).alloc (Nat.le_refl _) _).alloc (by simp) _
  have H0 : V.heap[w.heap.size]? = some (.cells #[.slice na nodes.length nc, .slice ra roots.length rc] 27 (0, 0)) := by
    rw [← hW]
    show ((w.heap.push _).push _)[w.heap.size]? = _
    rw [Array.getElem?_push, if_neg (by simp), Array.getElem?_push, if_pos rfl]
  have H1 : V.heap[w.heap.size + 1]? = some (.cells #[.slice na' nodes.length nc', .slice ra' roots.length rc'] 27 (0, 0)) := by
    rw [← hW]
    show ((w.heap.push _).push _)[w.heap.size + 1]? = _
    rw [Array.getElem?_push, if_pos (by simp)]
  have HS : Hid (V.heap.size = w.heap.size + 2) := by show _ = _; rw [← hW]; show ((w.heap.push _).push _).size = _; simp
  have HE0 : Hid (V.heap[w.heap.size]? = some (.cells #[.slice na nodes.length nc, .slice ra roots.length rc] 27 (0, 0))) := H0
  have HE1 : Hid (V.heap[w.heap.size + 1]? = some (.cells #[.slice na' nodes.length nc', .slice ra' roots.length rc'] 27 (0, 0))) := H1
  have cN := eqNs_same V _ _ nodes (hV.1.later HB0.out) (hU.1.later HB0.out) HT.out.1 HK.out
  have HR : Hid (IlAt V (.slice ra roots.length rc) roots ∧ IlAt V (.slice ra' roots.length rc') roots) := ⟨hV.2.later HB0.out, hU.2.later HB0.out⟩
  have HW : Hid ((w.alloc (.cells #[.slice na nodes.length nc, .slice ra roots.length rc] 27)).alloc (.cells #[.slice na' nodes.length nc', .slice ra' roots.length rc'] 27) = V) := hW
  clear hW hV hU ht htt H0 H1
  go_enter Try.func9, Try.ntmps9
  go_wp2_with fail
  rw [HW.out]
  refine cN.mono ?_
  rintro e w1 ⟨rfl, hb1⟩
  have HB1 : Hid (Below w.heap.size w w1) := HB0.out.trans (hb1.mono HB0.out.size)
  have a1 : w1.cell? ⟨w.heap.size, 1, none⟩ = some (.slice ra roots.length rc) := n2_1 ((hb1.block _ (by rw [HS.out]; omega)).trans HE0.out)
  have b1 : w1.cell? ⟨w.heap.size + 1, 1, none⟩ = some (.slice ra' roots.length rc') := n2_1 ((hb1.block _ (by rw [HS.out]; omega)).trans HE1.out)
  have cR := eqIl_same _ _ roots w1 (HR.out.1.later hb1) (HR.out.2.later hb1) HT.out.2
  clear hb1 cN HW HE0 HE1
  go_wp2_with fail
  refine cR.mono ?_
  rintro e w2 ⟨rfl, hb2⟩
  have HB2 : Hid (Below w.heap.size w w2) := HB1.out.trans (hb2.mono HB1.out.size)
  clear hb2 cR a1 b1
  go_wp2_with fail
  go_ret
  exact ⟨rfl, HB2.out⟩
end Go.Proofs.Ytkdlakcmhdiojaa
