/- Marks and comparisons of graphs a little greater than the laws' bound: a composed graph may be. -/
import Derived.Test.YtkdlakcmhdiojaaZqae
import Derived.Test.YtkdlakcmhdiojaaZqai
import Derived.Test.YtkdlakcmhdiojaaZqbe
namespace Go.Proofs.Ytkdlakcmhdiojaa
open Go.ChangeShapes Go.WideShapes Go.ChangeAt Go.RowKit Go.Deep
set_option maxHeartbeats 4000000 in
theorem eqIl_sameW (v u : Value) (l : List Int) (w : World) (hV : IlAt w v l) (hU : IlAt w u l) (hl : l.length ≤ 1060000) :
    Calls Try.prog 32 #[v, u] w fun e w' => e = .returned (.bool true) ∧ Below w.heap.size w w' := by
  obtain ⟨a, c, rfl⟩ := hV.sl
  obtain ⟨a2, c2, rfl⟩ := hU.sl
  have HV : Hid (IlAt w (.slice a l.length c) l) := hV
  have HU : Hid (IlAt w (.slice a2 l.length c2) l) := hU
  have hl' : (l.length : Int) ≤ 1060000 := by omega
  clear hV hU
  go_enter Try.func32, Try.ntmps32
  go_wp2_with fail
  go_loopw [5] (fun kv wr => ∃ k : Nat, k ≤ l.length ∧ kv = .int .i64 (k : Int) ∧ Hid (Below w.heap.size w wr)) (fun kv _ => l.length - (intOf kv).toNat)
  case atStart => exact ⟨0, Nat.zero_le _, rfl, Below.refl _ _⟩
  case round =>
    obtain ⟨k, hk, rfl, HB⟩ := hrel
    by_cases hlt : k < l.length
    · have hlt' : (k : Int) < (l.length : Int) := by omega
      obtain ⟨n, hn⟩ : ∃ n, l[k]? = some n := ⟨_, List.getElem?_eq_getElem hlt⟩
      obtain ⟨b, o, rfl, _, d1⟩ := (HV.out.later HB.out).at hn
      obtain ⟨b2, o2, rfl, _, d2⟩ := (HU.out.later HB.out).at hn
      have tn : (n != n) = false := by simp
      clear hn
      go_wp2_with fail
      go_quiet (fail)
      have HB2 : Hid (Below w.heap.size w (wr.drewN nq)) := HB.out.trans ((g_below_drewN wr _).mono HB.out.size)
      clear HB
      go_wp2_with fail
      go_roundw
      case rel => exact ⟨k + 1, hlt, by go_num, HB2⟩
      case measure => simp [intOf]; omega
    · have hge : ¬ (k : Int) < (l.length : Int) := by omega
      go_wp2_with fail
      go_ret
      exact ⟨rfl, HB.out⟩
set_option maxHeartbeats 4000000 in
theorem eqNd_sameW (n : Nd) (v u : Value) (w : World) (hV : IlAt w v n.kids) (hU : IlAt w u n.kids) (hl : n.kids.length ≤ 1060000) :
    Calls Try.prog 54 #[.agg #[.int .i64 n.kind, .string n.tag, .string n.text, v], .agg #[.int .i64 n.kind, .string n.tag, .string n.text, u]] w fun e w' => e = .returned (.bool true) ∧ Below w.heap.size w w' := by
  obtain ⟨kind, tag, text, kids⟩ := n
  obtain ⟨a, c, rfl⟩ := hV.sl
  obtain ⟨a2, c2, rfl⟩ := hU.sl
  show Calls Try.prog 54 #[.agg #[.int .i64 kind, .string tag, .string text, .slice a kids.length c], .agg #[.int .i64 kind, .string tag, .string text, .slice a2 kids.length c2]] w fun e w' => e = .returned (.bool true) ∧ Below w.heap.size w w'
  have h1 : (kind != kind) = false := by simp
  have h2 : (tag.toList != tag.toList) = false := by simp
  have h3 : (text.toList != text.toList) = false := by simp
  have HB : Hid (Below w.heap.size w ((w.alloc (.cells #[.int .i64 kind, .string tag, .string text, .slice a kids.length c] 70)).alloc (.cells #[.int .i64 kind, .string tag, .string text, .slice a2 kids.length c2] 70))) := ((Below.refl _ w).alloc (Nat.le_refl _) _).alloc (by simp) _
  have cE := eqIl_sameW _ _ kids _ (hV.later HB.out) (hU.later HB.out) hl
  clear hV hU
  go_enter Try.func54, Try.ntmps54
  go_wp2_with fail
  refine cE.mono ?_
  rintro e w1 ⟨rfl, hb1⟩
  have HB1 : Hid (Below w.heap.size w w1) := HB.out.trans (hb1.mono HB.out.size)
  clear hb1 cE
  go_wp2_with fail
  go_ret
  exact ⟨rfl, HB1.out⟩
set_option maxHeartbeats 8000000 in
theorem eqNs_sameW (w : World) (v u : Value) (ns : List Nd) (hV : NlAt w v ns) (hU : NlAt w u ns) (hl : ns.length ≤ 1060000) (hkk : ∀ n ∈ ns, n.kids.length ≤ 1060000) :
    Calls Try.prog 31 #[v, u] w fun e w' => e = .returned (.bool true) ∧ Below w.heap.size w w' := by
  obtain ⟨a, c, rfl⟩ := hV.sl
  obtain ⟨a', c', rfl⟩ := hU.sl
  have HV : Hid (NlAt w (.slice a ns.length c) ns) := hV
  have HU : Hid (NlAt w (.slice a' ns.length c') ns) := hU
  have HK : Hid (∀ n ∈ ns, n.kids.length ≤ 1060000) := hkk
  have hl' : (ns.length : Int) ≤ 1060000 := by omega
  clear hV hU hkk
  go_enter Try.func31, Try.ntmps31
  go_wp2_with fail
  go_loopw [5] (fun i wr => ∃ k : Nat, k ≤ ns.length ∧ i = .int .i64 k ∧ Hid (Below w.heap.size w wr)) (fun i _ => ns.length - (intOf i).toNat)
  case atStart => exact ⟨0, Nat.zero_le _, rfl, Below.refl _ _⟩
  case round =>
    obtain ⟨k, hk, rfl, HB⟩ := hrel
    by_cases hlt : k < ns.length
    · obtain ⟨n, hx⟩ : ∃ h, ns[k]? = some h := ⟨_, List.getElem?_eq_getElem hlt⟩
      have hkn := HK.out n (List.mem_of_getElem? hx)
      obtain ⟨b, off, kv, rfl, hbl, hN⟩ := (HV.out.later HB.out).at hx
      obtain ⟨b', off', kv', rfl, hbl', hN'⟩ := (HU.out.later HB.out).at hx
      have c1 : ∀ m : Bw wr, NdAt m.val b (off + k * 4) n kv := fun m => hN.later hbl m.ok
      have c2 : ∀ m : Bw wr, NdAt m.val b' (off' + k * 4) n kv' := fun m => hN'.later hbl' m.ok
      have d0 := fun m => (c1 m).c0
      have d1 := fun m => (c1 m).c1
      have d2 := fun m => (c1 m).c2
      have d3 := fun m => (c1 m).c3
      have g0 := fun m => (c2 m).c0
      have g1 := fun m => (c2 m).c1
      have g2 := fun m => (c2 m).c2
      have g3 := fun m => (c2 m).c3
      have hE := Bw.calls (w := wr) (fun w' hb' => eqNd_sameW n kv kv' w' (hN.kids.later hb') (hN'.kids.later hb') hkn)
      have hne := Bw.some wr
      have hlt' : (k : Int) < (ns.length : Int) := by omega
      clear hx c1 c2 hN hN' hbl hbl' hkn
      obtain ⟨kind, tag, text, kids⟩ := n
      go_wp2_with fail
      refine wp_region_bw (w0 := wr) (by kernel_rfl) (by kernel_rfl) (Below.refl _ _) ?_
      repeat (go_big_quiet_step ((go_at_call 54; exact hE _)))
      refine wpQuiet_nil ?_
      rintro _ ⟨m, rfl⟩
      have hB1 : Hid (Below w.heap.size w m.val) := HB.out.trans (m.ok.mono HB.out.size)
      generalize m.val = w1 at *
      clear HB hE d0 d1 d2 d3 g0 g1 g2 g3 hne
      try simp [Act.put]
      go_wp2_with fail
      go_roundw
      case rel => exact ⟨k + 1, hlt, by go_num, hB1⟩
      case measure => simp [intOf]; omega
    · have hge : ¬ (k : Int) < (ns.length : Int) := by omega
      go_wp2_with fail
      go_ret
      exact ⟨rfl, HB.out⟩
set_option maxHeartbeats 4000000 in
theorem eqG_sameW (g : Gr) (nv rv nv' rv' : Value) (w : World) (hV : GrAt w nv rv g) (hU : GrAt w nv' rv' g) (ht : g.tot ≤ 1060000) :
    Calls Try.prog 9 #[.agg #[nv, rv], .agg #[nv', rv']] w fun e w' => e = .returned (.bool true) ∧ Below w.heap.size w w' := by
  obtain ⟨nodes, roots⟩ := g
  have htt : nodes.length + totN nodes + roots.length ≤ 1060000 := ht
  have HK : Hid (∀ n ∈ nodes, n.kids.length ≤ 1060000) := fun n hn => by
    have := totN_mem hn
    unfold Nd.tot at this
    omega
  have HT : Hid (nodes.length ≤ 1060000 ∧ roots.length ≤ 1060000) := ⟨by omega, by omega⟩
  obtain ⟨na, nc, rfl⟩ := hV.1.sl
  obtain ⟨ra, rc, rfl⟩ := hV.2.sl
  obtain ⟨na', nc', rfl⟩ := hU.1.sl
  obtain ⟨ra', rc', rfl⟩ := hU.2.sl
  obtain ⟨V, hW⟩ : ∃ V, (w.alloc (.cells #[.slice na nodes.length nc, .slice ra roots.length rc] 27)).alloc (.cells #[.slice na' nodes.length nc', .slice ra' roots.length rc'] 27) = V := ⟨_, rfl⟩
  have HB0 : Hid (Below w.heap.size w V) := by show Below _ _ _; rw [← hW]; exact ((Below.refl _ w).alloc (Nat.le_refl _) _).alloc (by simp) _
  have H0 : V.heap[w.heap.size]? = some (.cells #[.slice na nodes.length nc, .slice ra roots.length rc] 27 (0, 0)) := by
    rw [← hW]
    show ((w.heap.push _).push _)[w.heap.size]? = _
    rw [Array.getElem?_push, if_neg (by simp), Array.getElem?_push, if_pos rfl]
  have H1 : V.heap[w.heap.size + 1]? = some (.cells #[.slice na' nodes.length nc', .slice ra' roots.length rc'] 27 (0, 0)) := by
    rw [← hW]
    show ((w.heap.push _).push _)[w.heap.size + 1]? = _
    rw [Array.getElem?_push, if_pos (by simp)]
  have HS : Hid (V.heap.size = w.heap.size + 2) := by show _ = _; rw [← hW]; show ((w.heap.push _).push _).size = _; simp
  have HE0 : Hid (V.heap[w.heap.size]? = some (.cells #[.slice na nodes.length nc, .slice ra roots.length rc] 27 (0, 0))) := H0
  have HE1 : Hid (V.heap[w.heap.size + 1]? = some (.cells #[.slice na' nodes.length nc', .slice ra' roots.length rc'] 27 (0, 0))) := H1
  have cN := eqNs_sameW V _ _ nodes (hV.1.later HB0.out) (hU.1.later HB0.out) HT.out.1 HK.out
  have HR : Hid (IlAt V (.slice ra roots.length rc) roots ∧ IlAt V (.slice ra' roots.length rc') roots) := ⟨hV.2.later HB0.out, hU.2.later HB0.out⟩
  have HW : Hid ((w.alloc (.cells #[.slice na nodes.length nc, .slice ra roots.length rc] 27)).alloc (.cells #[.slice na' nodes.length nc', .slice ra' roots.length rc'] 27) = V) := hW
  clear hW hV hU ht htt H0 H1
  go_enter Try.func9, Try.ntmps9
  go_wp2_with fail
  rw [HW.out]
  refine cN.mono ?_
  rintro e w1 ⟨rfl, hb1⟩
  have HB1 : Hid (Below w.heap.size w w1) := HB0.out.trans (hb1.mono HB0.out.size)
  have a1 : w1.cell? ⟨w.heap.size, 1, none⟩ = some (.slice ra roots.length rc) := n2_1 ((hb1.block _ (by rw [HS.out]; omega)).trans HE0.out)
  have b1 : w1.cell? ⟨w.heap.size + 1, 1, none⟩ = some (.slice ra' roots.length rc') := n2_1 ((hb1.block _ (by rw [HS.out]; omega)).trans HE1.out)
  have cR := eqIl_sameW _ _ roots w1 (HR.out.1.later hb1) (HR.out.2.later hb1) HT.out.2
  clear hb1 cN HW HE0 HE1
  go_wp2_with fail
  refine cR.mono ?_
  rintro e w2 ⟨rfl, hb2⟩
  have HB2 : Hid (Below w.heap.size w w2) := HB1.out.trans (hb2.mono HB1.out.size)
  clear hb2 cR a1 b1
  go_wp2_with fail
  go_ret
  exact ⟨rfl, HB2.out⟩
set_option maxHeartbeats 4000000 in
theorem markX_anyW (w : World) (lo : Nat) (v : Value) (n : Nat) (xs : List Value) (k : Nat) (hO : w.ownsRow lo 3 1 v n xs) (hl : n ≤ 1060000) (hk : k ≤ 20000000) :
    Calls Try.prog 36 #[v, .int .i64 (k : Int)] w fun e w' => e = .returned (.int .i64 ((k + n : Nat) : Int)) ∧ w'.ownsRow lo 3 1 v n (ilV (mkN k n)) ∧ w.grownBy w' v.ownBlock := by
  have hxl : xs.length = n := by rw [hO.1, Nat.mul_one]
  by_cases h0 : n = 0
  · subst h0
    obtain rfl : xs = [] := List.length_eq_zero_iff.1 hxl
    obtain ⟨a, c, rfl⟩ : ∃ a c, v = .slice a 0 c := by
      rcases hO.2 with ⟨e, _⟩ | ⟨g, cap, cur, e, _⟩
      · exact ⟨_, _, e⟩
      · exact ⟨_, _, e⟩
    have HO : Hid (w.ownsRow lo 3 1 (.slice a 0 c) 0 []) := hO
    clear hO
    go_enter Try.func36, Try.ntmps36
    go_wp2_with fail
    refine wp_loop_rounds 1 ?_
    rw [rounds_succ]
    go_wp2_with fail
    go_ret
    exact ⟨by simp, HO.out, ⟨rfl, rfl, rfl, Nat.le_refl _, fun _ _ _ => rfl⟩⟩
  · have hpos : 0 < n := Nat.pos_of_ne_zero h0
    obtain ⟨g, cap, rfl, hg, hgl⟩ := World.ownsRow.form hO hpos
    have HO : Hid (w.ownsRow lo 3 1 (.slice (some ⟨g, 0, none⟩) n cap) n xs) := hO
    have HXL : Hid (xs.length = n) := hxl
    have hk' : (k : Int) ≤ 20000000 := by omega
    have hl' : (n : Int) ≤ 1060000 := by omega
    clear hO h0 hxl
    go_enter Try.func36, Try.ntmps36
    go_wp2_with fail
    go_loopw [1, 5] (fun kk i wr => ∃ (j : Nat), j ≤ n ∧ i = .int .i64 (j : Int) ∧ kk = .int .i64 ((k + j : Nat) : Int) ∧ Hid (wr.ownsRow lo 3 1 (.slice (some ⟨g, 0, none⟩) n cap) n (ilV (mkN k j) ++ xs.drop j)) ∧ w.grownBy wr (some g)) (fun _ i _ => n - (intOf i).toNat)
    case atStart => exact ⟨0, Nat.zero_le _, rfl, by simp, by show World.ownsRow _ _ _ _ _ _ _; simpa [mkN, ilV] using HO.out, ⟨rfl, rfl, rfl, Nat.le_refl _, fun _ _ _ => rfl⟩⟩
    case round =>
      obtain ⟨j, hj, rfl, rfl, HR, hgr⟩ := hrel
      by_cases hlt : j < n
      · have hlt' : (j : Int) < (n : Int) := by omega
        have hlen : (ilV (mkN k j) ++ xs.drop j).length = n := by have := HXL.out; simp [ilV, mkN]; omega
        have hc0 := HR.out.cells (g := g) rfl j ((ilV (mkN k j) ++ xs.drop j)[j]'(by omega)) (by simp)
        have hadd : (⟨g, 0, none⟩ : Addr).add j = ⟨g, j, none⟩ := by unfold Addr.add; split <;> simp_all
        rw [hadd] at hc0
        obtain ⟨zc, hcd⟩ : ∃ zc, wr.cell? ⟨g, j, none⟩ = some zc := ⟨_, hc0⟩
        have hfd : wr.frozen? ⟨g, j, none⟩ = false := HR.out.frozenAt j
        obtain ⟨m, hm⟩ : ∃ m, k + j = m := ⟨_, rfl⟩
        have HM : Hid (k + j = m) := hm
        have hml : (m : Int) ≤ 30000000 := by omega
        have HLN : Hid (j < (ilV (mkN k j) ++ xs.drop j).length) := by show _ < _; omega
        rw [hm]
        clear hc0 hadd hm hlen
        go_wp2_with fail
        go_roundw
        case rel =>
          refine ⟨j + 1, hlt, by go_num, by have := HM.out; rw [← Nat.add_assoc, this]; go_num, ?_, ?_⟩
          · have := own_setX HR.out j (.int .i64 ((k + j : Nat) : Int)) HLN.out
            rw [mkN_step (by have := HXL.out; omega), HM.out] at this
            exact this
          · exact ⟨hgr.os, hgr.tape, hgr.output, by simp [World.setCell]; exact hgr.size, fun i hi hne => by rw [Below.heap_setCell _ _ _ _ (fun e => hne (by rw [e]))]; exact hgr.block i hi hne⟩
        case measure => simp [intOf]; omega
      · go_wp2_with fail
        go_ret
        have ej : j = n := by omega
        have := HR.out
        rw [ej, List.drop_of_length_le (by have := HXL.out; omega), List.append_nil] at this
        exact ⟨by rw [ej]; rfl, this, hgr⟩
set_option maxHeartbeats 4000000 in
theorem heldX_anyW (w : World) (v : Value) (n k : Nat) (hV : IlAt w v (mkN k n)) (hl : n ≤ 1060000) (hk : k ≤ 20000000) :
    Calls Try.prog 38 #[v, .int .i64 (k : Int)] w fun e w' => e = .returned (.int .i64 ((k + n : Nat) : Int)) ∧ Below w.heap.size w w' := by
  obtain ⟨a, c, rfl⟩ := hV.sl
  have HV : Hid (IlAt w (.slice a (mkN k n).length c) (mkN k n)) := hV
  rw [mkN_len]
  have hk' : (k : Int) ≤ 20000000 := by omega
  have hl' : (n : Int) ≤ 1060000 := by omega
  clear hV
  go_enter Try.func38, Try.ntmps38
  go_wp2_with fail
  go_loopw [1, 5] (fun kk i wr => ∃ (j : Nat), j ≤ n ∧ i = .int .i64 (j : Int) ∧ kk = .int .i64 ((k + j : Nat) : Int) ∧ Hid (Below w.heap.size w wr)) (fun _ i _ => n - (intOf i).toNat)
  case atStart => exact ⟨0, Nat.zero_le _, rfl, by simp, Below.refl _ _⟩
  case round =>
    obtain ⟨j, hj, rfl, rfl, HB⟩ := hrel
    by_cases hlt : j < n
    · have hlt' : (j : Int) < (n : Int) := by omega
      obtain ⟨b, o, rfl, hbl, d1⟩ := HV.out.at (mkN_at (k := k) hlt)
      rw [← HB.out.cell hbl] at d1
      obtain ⟨m, hm⟩ : ∃ m, k + j = m := ⟨_, rfl⟩
      have HM : Hid (k + j = m) := hm
      have hml : (m : Int) ≤ 30000000 := by omega
      rw [hm] at d1 ⊢
      have tm : ((m : Int) != (m : Int)) = false := by simp
      clear hm hbl
      go_wp2_with fail
      go_roundw
      case rel => exact ⟨j + 1, hlt, by go_num, by have := HM.out; rw [← Nat.add_assoc, this]; go_num, HB⟩
      case measure => simp [intOf]; omega
    · obtain rfl : j = n := by omega
      have hlt' : ¬ (j : Int) < (j : Int) := by omega
      go_wp2_with fail
      go_ret
      exact ⟨rfl, HB.out⟩
set_option maxHeartbeats 8000000 in
theorem markNs_anyW (w : World) (lo : Nat) (nv : Value) (ns : List Nd) (vs : List Value) (k : Nat) (hO : w.ownsRow lo 70 4 nv ns.length (cellsN ns vs)) (hK : KidsOwn lo w vs ns) (hlo : lo ≤ w.heap.size) (ht : ns.length + totN ns ≤ 1060000) (k0 : 0 < k) (k1 : k ≤ 1000) :
    Calls Try.prog 35 #[nv, .int .i64 (k : Int)] w fun e w' => e = .returned (.int .i64 ((k + cntNs ns : Nat) : Int)) ∧ w'.ownsRow lo 70 4 nv ns.length (cellsN (markNs k ns) vs) ∧ KidsOwn lo w' vs (markNs k ns) ∧ FrN w lo nv vs w' := by
  by_cases h0 : ns = []
  · subst h0
    obtain ⟨a, c, rfl⟩ : ∃ a c, nv = .slice a 0 c := by
      rcases hO.2 with ⟨e, _⟩ | ⟨g, cap, cur, e, _⟩
      · exact ⟨_, _, e⟩
      · exact ⟨_, _, e⟩
    have HO : Hid (w.ownsRow lo 70 4 (.slice a 0 c) 0 (cellsN (markNs k []) vs)) := hO
    have HKO : Hid (KidsOwn lo w vs (markNs k [])) := hK
    clear hO hK
    go_enter Try.func35, Try.ntmps35
    go_wp2_with fail
    refine wp_loop_rounds 1 ?_
    rw [rounds_succ]
    go_wp2_with fail
    go_ret
    exact ⟨by simp [cntNs], HO.out, HKO.out, FrN.refl _ _ _ _⟩
  · have hpos : 0 < ns.length := List.length_pos_iff.2 h0
    obtain ⟨B, cap, rfl, hB, hBl⟩ := World.ownsRow.form hO hpos
    have HO : Hid (w.ownsRow lo 70 4 (.slice (some ⟨B, 0, none⟩) ns.length cap) ns.length (cellsN (mkL k ns 0) vs)) := hO
    have HKO : Hid (KidsOwn lo w vs (mkL k ns 0)) := hK
    have HLO : Hid (lo ≤ w.heap.size) := hlo
    have HB : Hid (lo ≤ B) := hB
    have hnl : (ns.length : Int) ≤ 1060000 := by omega
    have HT : Hid (ns.length + totN ns ≤ 1060000) := ht
    clear hO hK h0 hlo hB hBl ht
    go_enter Try.func35, Try.ntmps35
    go_wp2_with fail
    go_loopw [1, 5] (fun kk i wr => ∃ (j : Nat), j ≤ ns.length ∧ i = .int .i64 (j : Int) ∧ kk = .int .i64 ((k + cntNs (ns.take j) : Nat) : Int) ∧ Hid (wr.ownsRow lo 70 4 (.slice (some ⟨B, 0, none⟩) ns.length cap) ns.length (cellsN (mkL k ns j) vs)) ∧ Hid (KidsOwn lo wr vs (mkL k ns j)) ∧ Hid (FrN w lo (.slice (some ⟨B, 0, none⟩) ns.length cap) vs wr)) (fun _ i _ => ns.length - (intOf i).toNat)
    case atStart => exact ⟨0, Nat.zero_le _, rfl, by simp [cntNs], HO, HKO, FrN.refl _ _ _ _⟩
    case round =>
      obtain ⟨j, hj, rfl, rfl, HR, HQ, HF⟩ := hrel
      clear HO HKO
      by_cases hlt : j < ns.length
      · have hlt' : (j : Int) < (ns.length : Int) := by omega
        obtain ⟨n, hx⟩ : ∃ n, ns[j]? = some n := ⟨_, List.getElem?_eq_getElem hlt⟩
        have hat := mkL_at (k := k) hx
        have hsu := mkL_succ (k := k) hx
        obtain ⟨v, hv⟩ : ∃ v, vs[j]? = some v := ⟨_, List.getElem?_eq_getElem (by rw [HQ.out.len, mkL_len]; exact hlt)⟩
        have htk := totN_take hx
        have hct := cntNs_tot (ns.take j)
        have htm : totN (ns.take (j + 1)) ≤ totN ns := by
          have e : totN (ns.take (j + 1)) + totN (ns.drop (j + 1)) = totN ns := by rw [← totN_app, List.take_append_drop]
          omega
        have hkl : n.kids.length ≤ n.tot := by unfold Nd.tot; omega
        have hcs : cntNs (ns.take (j + 1)) = cntNs (ns.take j) + 3 + n.kids.length := by
          rw [List.take_add_one, hx]
          show cntNs (ns.take j ++ [n]) = _
          rw [cntNs_app]
          simp only [cntNs]
          omega
        have hKb : cntNs (ns.take j) ≤ 5000000 := by
          rw [List.length_take] at hct
          have := HT.out
          omega
        have hkb : n.kids.length ≤ 1060000 := by have := HT.out; omega
        obtain ⟨K, hK⟩ : ∃ K, k + cntNs (ns.take j) = K := ⟨_, rfl⟩
        have HCS : Hid (k + cntNs (ns.take (j + 1)) = K + 3 + n.kids.length) := by show _ = _; omega
        have hK1 : K ≤ 5001000 := by omega
        have hK0 : 0 < K := by omega
        rw [hK] at hsu ⊢
        obtain ⟨xs, hxs⟩ : ∃ xs, cellsN (mkL k ns j) vs = xs := ⟨_, rfl⟩
        have hfin := cellsN_set (mkL k ns j) vs j n v (markNd K n) hat hv
        have hkd := cellsN_kid hat hv
        have hxl : xs.length = ns.length * 4 := by rw [← hxs, cellsN_len _ _ HQ.out.len, mkL_len]
        rw [hxs] at HR hfin hkd
        rw [← hsu] at hfin
        have hvr := HQ.out.own j v n hv hat
        obtain ⟨va, vn, vc, rfl⟩ : ∃ va vn vc, v = .slice va vn vc := by
          rcases hvr.2 with ⟨e, _⟩ | ⟨g, cap, cur, e, _⟩
          · exact ⟨_, _, _, e⟩
          · exact ⟨_, _, _, e⟩
        have HSU : Hid (mkL k ns (j + 1) = (mkL k ns j).set j (markNd K n)) := hsu
        have HFIN : Hid (((xs.set (j * 4) (.int .i64 (K : Int))).set (j * 4 + 1) (.string (mT (K + 1)))).set (j * 4 + 2) (.string (mT (K + 2))) = cellsN (mkL k ns (j + 1)) vs) := hfin
        have HKD : Hid (xs[j * 4 + 3]? = some (.slice va vn vc)) := hkd
        have HXL : Hid (xs.length = ns.length * 4) := hxl
        have HAT : Hid ((mkL k ns j)[j]? = some n) := hat
        have HVJ : Hid (vs[j]? = some (.slice va vn vc)) := hv
        have HLT : Hid (j < ns.length) := hlt
        have HKB : Hid (n.kids.length ≤ 1060000) := hkb
        have c3 : Hid (∀ (q : Int) (_ : q = ((K + 1 : Nat) : Int)) (w' : World), Calls Try.prog 34 #[.int .i64 q] w' fun e w'' => e = .returned (.string (mT (K + 1))) ∧ Below w'.heap.size w' w'') := fun q hq w' => by rw [hq]; exact markText_any (K + 1) w' (by omega) (by omega)
        have c4 : Hid (∀ (q : Int) (_ : q = ((K + 2 : Nat) : Int)) (w' : World), Calls Try.prog 34 #[.int .i64 q] w' fun e w'' => e = .returned (.string (mT (K + 2))) ∧ Below w'.heap.size w' w'') := fun q hq w' => by rw [hq]; exact markText_any (K + 2) w' (by omega) (by omega)
        obtain ⟨⟨z0, hz0⟩, hf0⟩ := row_cellX HR.out (j * 4) (by omega)
        have hKI : (K : Int) ≤ 5001000 := by omega
        have hKI0 : (0 : Int) < (K : Int) := by omega
        clear hx hat hsu hv htk hct htm hkl hcs hKb hK hfin hkd hxl hvr hxs k0 k1 hj hkb hK1 hK0
        go_wp2_with fail
        refine (c3.out _ (by omega) _).mono ?_
        rintro e9 w1 ⟨rfl, hb9⟩
        have R1 := own_setX HR.out (j * 4) (.int .i64 (K : Int)) (by have h1 := HXL.out; have h2 := HLT.out; omega)
        have HR1 : Hid (w1.ownsRow lo 70 4 (.slice (some ⟨B, 0, none⟩) ns.length cap) ns.length (xs.set (j * 4) (.int .i64 (K : Int)))) := g_row_below R1 hb9
        have HQ1 : Hid (KidsOwn lo w1 vs (mkL k ns j)) := (HQ.out.setB HR.out (j * 4) (.int .i64 (K : Int))).later hb9
        have HF1 : Hid (FrN w lo (.slice (some ⟨B, 0, none⟩) ns.length cap) vs w1) := (HF.out.setB HB.out (j * 4) (.int .i64 (K : Int))).later HLO.out hb9
        clear hb9 R1 HR HQ HF hz0 hf0 z0
        obtain ⟨⟨z1, hz1⟩, hf1⟩ := row_cellX HR1.out (j * 4 + 1) (by have h1 := HXL.out; have h2 := HLT.out; simp only [List.length_set]; omega)
        go_wp2_with fail
        refine (c4.out _ (by omega) _).mono ?_
        rintro e9 w2 ⟨rfl, hb9⟩
        have R2 := own_setX HR1.out (j * 4 + 1) (.string (mT (K + 1))) (by have h1 := HXL.out; have h2 := HLT.out; simp only [List.length_set]; omega)
        have HR2 : Hid (w2.ownsRow lo 70 4 (.slice (some ⟨B, 0, none⟩) ns.length cap) ns.length ((xs.set (j * 4) (.int .i64 (K : Int))).set (j * 4 + 1) (.string (mT (K + 1))))) := g_row_below R2 hb9
        have HQ2 : Hid (KidsOwn lo w2 vs (mkL k ns j)) := (HQ1.out.setB HR1.out (j * 4 + 1) (.string (mT (K + 1)))).later hb9
        have HF2 : Hid (FrN w lo (.slice (some ⟨B, 0, none⟩) ns.length cap) vs w2) := (HF1.out.setB HB.out (j * 4 + 1) (.string (mT (K + 1)))).later HLO.out hb9
        clear hb9 R2 HR1 HQ1 HF1 hz1 hf1 z1
        obtain ⟨⟨z2, hz2⟩, hf2⟩ := row_cellX HR2.out (j * 4 + 2) (by have h1 := HXL.out; have h2 := HLT.out; simp only [List.length_set]; omega)
        have R3 := own_setX HR2.out (j * 4 + 2) (.string (mT (K + 2))) (by have h1 := HXL.out; have h2 := HLT.out; simp only [List.length_set]; omega)
        rw [HFIN.out] at R3
        obtain ⟨W3, hW3⟩ : ∃ W3, w2.setCell ⟨B, j * 4 + 2, none⟩ (.string (mT (K + 2))) = W3 := ⟨_, rfl⟩
        have HR3 : Hid (W3.ownsRow lo 70 4 (.slice (some ⟨B, 0, none⟩) ns.length cap) ns.length (cellsN (mkL k ns (j + 1)) vs)) := by show World.ownsRow _ _ _ _ _ _ _; rw [← hW3]; exact R3
        have HQ3 : Hid (KidsOwn lo W3 vs (mkL k ns j)) := by show KidsOwn _ _ _ _; rw [← hW3]; exact HQ2.out.setB HR2.out (j * 4 + 2) (.string (mT (K + 2)))
        have HF3 : Hid (FrN w lo (.slice (some ⟨B, 0, none⟩) ns.length cap) vs W3) := by show FrN _ _ _ _ _; rw [← hW3]; exact HF2.out.setB HB.out (j * 4 + 2) (.string (mT (K + 2)))
        have hk3 : W3.cell? ⟨B, j * 4 + 3, none⟩ = some (.slice va vn vc) := by
          have h1 := HR3.out.cells (g := B) rfl (j * 4 + 3) (.slice va vn vc) (by
            rw [← HFIN.out, List.getElem?_set_ne (by omega), List.getElem?_set_ne (by omega), List.getElem?_set_ne (by omega)]
            exact HKD.out)
          have hadd : (⟨B, 0, none⟩ : Addr).add (j * 4 + 3) = ⟨B, j * 4 + 3, none⟩ := by unfold Addr.add; split <;> simp_all
          rw [hadd] at h1
          exact h1
        have HK3 : Hid (W3.cell? ⟨B, j * 4 + 3, none⟩ = some (.slice va vn vc)) := hk3
        rw [← hW3] at hk3
        have HW3 : Hid (w2.setCell ⟨B, j * 4 + 2, none⟩ (.string (mT (K + 2))) = W3) := hW3
        have cM := markX_anyW W3 lo _ n.kids.length _ (K + 3) (HQ3.out.own j _ n HVJ.out HAT.out) HKB.out (by omega)
        have cMH : Hid (∀ (q : Int) (_ : q = ((K + 3 : Nat) : Int)), Calls Try.prog 36 #[.slice va vn vc, .int .i64 q] W3 fun e w' => e = .returned (.int .i64 ((K + 3 + n.kids.length : Nat) : Int)) ∧ w'.ownsRow lo 3 1 (.slice va vn vc) n.kids.length (ilV (mkN (K + 3) n.kids.length)) ∧ W3.grownBy w' (Value.slice va vn vc).ownBlock) := fun q hq => by rw [hq]; exact cM
        clear cM hW3 R3 HR2 HQ2 HF2
        go_wp2_with fail
        rw [HW3.out]
        refine (cMH.out _ (by omega)).mono ?_
        rintro e9 w4 ⟨rfl, hrow, hgr⟩
        have HQ4 : Hid (KidsOwn lo w4 vs (mkL k ns (j + 1))) := by
          show KidsOwn _ _ _ _
          rw [HSU.out]
          exact HQ3.out.mark HAT.out HVJ.out (by
            show w4.ownsRow lo 3 1 _ (mkN (K + 3) n.kids.length).length (ilV (mkN (K + 3) n.kids.length))
            rw [mkN_len]
            exact hrow) hgr
        have HR4 : Hid (w4.ownsRow lo 70 4 (.slice (some ⟨B, 0, none⟩) ns.length cap) ns.length (cellsN (mkL k ns (j + 1)) vs)) := g_row_block HR3.out (fun x hx => hgr.block x (HR3.out.lt x hx).2 (fun e => HQ3.out.other HR3.out HVJ.out (by
          have : x = B := by simpa [Value.ownBlock] using hx.symm
          rw [← this]
          exact e.symm)))
        have HF4 : Hid (FrN w lo (.slice (some ⟨B, 0, none⟩) ns.length cap) vs w4) := HF3.out.kid HVJ.out (fun x hx => (HQ3.out.lt HVJ.out hx).1) HLO.out hgr
        clear hrow hgr hk3 HK3 HR3 HQ3 HF3 hz2 hf2 cMH c3 c4 HW3
        go_wp2_with fail
        go_roundw
        case rel => exact ⟨j + 1, HLT.out, by go_num, by congr 1; have := HCS.out; omega, HR4, HQ4, HF4⟩
        case measure => simp [intOf]; have := HLT.out; omega
      · have hge : ¬ (j : Int) < (ns.length : Int) := by omega
        have ej : j = ns.length := by omega
        have eL : mkL k ns j = markNs k ns := by unfold mkL; rw [ej, List.take_length, List.drop_length, List.append_nil]
        have HR9 : Hid (wr.ownsRow lo 70 4 (.slice (some ⟨B, 0, none⟩) ns.length cap) ns.length (cellsN (markNs k ns) vs)) := by show World.ownsRow _ _ _ _ _ _ _; rw [← eL]; exact HR.out
        have HQ9 : Hid (KidsOwn lo wr vs (markNs k ns)) := by show KidsOwn _ _ _ _; rw [← eL]; exact HQ.out
        have HJ : Hid (ns.take j = ns) := by show _ = _; rw [ej, List.take_length]
        clear eL ej HR HQ
        rw [HJ.out]
        go_wp2_with fail
        go_ret
        exact ⟨rfl, HR9.out, HQ9.out, HF.out⟩
set_option maxHeartbeats 4000000 in
theorem markG_anyW (w : World) (lo : Nat) (nv rv : Value) (g : Gr) (vs : List Value) (k : Nat) (hO : GOwn lo w nv rv g vs) (hlo : lo ≤ w.heap.size) (ht : g.tot ≤ 1060000) (k0 : 0 < k) (k1 : k ≤ 1000) :
    Calls Try.prog 12 #[.agg #[nv, rv], .int .i64 (k : Int)] w fun e w' => e = .returned (.int .i64 ((k + cntGr g : Nat) : Int)) ∧ GOwn lo w' nv rv (markGr k g) vs ∧ FrG w lo nv rv vs w' := by
  have htt : g.nodes.length + totN g.nodes + g.roots.length ≤ 1060000 := ht
  obtain ⟨na, nn, nc, rfl⟩ := own_isSl hO.nodes
  obtain ⟨ra, rn, rc, rfl⟩ := own_isSl hO.roots
  have HO : Hid (GOwn lo w (.slice na nn nc) (.slice ra rn rc) g vs) := hO
  have HLO : Hid (lo ≤ w.heap.size) := hlo
  obtain ⟨V, hV⟩ : ∃ V, w.alloc (.cells #[.slice na nn nc, .slice ra rn rc] 27) = V := ⟨_, rfl⟩
  have HV : Hid (w.alloc (.cells #[.slice na nn nc, .slice ra rn rc] 27) = V) := hV
  have HB0 : Hid (Below w.heap.size w V) := by show Below _ _ _; rw [← hV]; exact (Below.refl _ w).alloc (Nat.le_refl _) _
  have HS : Hid (V.heap.size = w.heap.size + 1) := by show _ = _; rw [← hV]; show (w.heap.push _).size = _; simp
  have HE : Hid (V.heap[w.heap.size]? = some (.cells #[.slice na nn nc, .slice ra rn rc] 27 (0, 0))) := by show _ = _; rw [← hV]; exact heap_alloc_new w _
  have HOV : Hid (GOwn lo V (.slice na nn nc) (.slice ra rn rc) g vs) := hO.later HB0.out
  have q0 := n2_0 HE.out
  have hct := cntNs_tot g.nodes
  have HCN : Hid (cntNs g.nodes ≤ 4000000) := by show _ ≤ _; omega
  have HTT : Hid (g.nodes.length + totN g.nodes + g.roots.length ≤ 1060000) := htt
  have cN := markNs_anyW V lo _ g.nodes vs k HOV.out.nodes HOV.out.kids (Nat.le_trans hlo (by rw [HS.out]; exact Nat.le_succ _)) (by omega) k0 k1
  have hk1 : (k : Int) ≤ 1000 := by omega
  have HK1 : Hid (k ≤ 1000) := k1
  rw [← hV] at q0
  clear hO hV ht htt hct hlo
  go_enter Try.func12, Try.ntmps12
  go_wp2_with fail
  rw [HV.out]
  refine cN.mono ?_
  rintro e w1 ⟨rfl, hR, hK, hF⟩
  have HR : Hid (w1.ownsRow lo 70 4 (.slice na nn nc) g.nodes.length (cellsN (markNs k g.nodes) vs)) := hR
  have HK : Hid (KidsOwn lo w1 vs (markNs k g.nodes)) := hK
  have HF : Hid (FrN V lo (.slice na nn nc) vs w1) := hF
  have hbox : w1.heap[w.heap.size]? = some (.cells #[.slice na nn nc, .slice ra rn rc] 27 (0, 0)) := (hF.blk w.heap.size (by rw [HS.out]; exact Nat.lt_succ_self _) (fun e => absurd (HO.out.nodes.lt _ e).2 (Nat.lt_irrefl _)) (fun i v hv e => absurd (HO.out.kids.lt hv e).2 (Nat.lt_irrefl _))).trans HE.out
  have q1 := n2_1 hbox
  have HRR : Hid (w1.ownsRow lo 3 1 (.slice ra rn rc) g.roots.length (ilV g.roots)) := g_row_block HOV.out.roots (fun x hx => hF.blk x (HOV.out.roots.lt x hx).2 (fun e => by
      obtain ⟨c1, f1, e1⟩ := own_type HOV.out.nodes e
      obtain ⟨c2, f2, e2⟩ := own_type HOV.out.roots hx
      rw [e1] at e2
      injection e2 with e2
      injection e2 with _ e3 _
      exact absurd e3 (by decide)) (fun i v hv e => HOV.out.apart i v x hv e hx))
  obtain ⟨m, hm⟩ : ∃ m, k + cntNs g.nodes = m := ⟨_, rfl⟩
  have HM : Hid (k + cntNs g.nodes = m) := hm
  have hmb : m ≤ 5000000 := by have h1 := HCN.out; have h2 := HK1.out; omega
  rw [hm]
  have cM := markX_anyW w1 lo _ g.roots.length _ m HRR.out (by have := HTT.out; omega) (by omega)
  clear cN hR hK hF hbox q0 hm
  go_wp2_with fail
  refine cM.mono ?_
  rintro e w2 ⟨rfl, hrow, hgr⟩
  have hne : ∀ x, (Value.slice ra rn rc).ownBlock = some x → (Value.slice na nn nc).ownBlock ≠ some x := fun x hx e => by
    obtain ⟨c1, f1, e1⟩ := own_type HR.out e
    obtain ⟨c2, f2, e2⟩ := own_type HRR.out hx
    rw [e1] at e2
    injection e2 with e2
    injection e2 with _ e3 _
    exact absurd e3 (by decide)
  have HG : Hid (GOwn lo w2 (.slice na nn nc) (.slice ra rn rc) (markGr k g) vs) := by
    refine ⟨?_, ?_, ?_, HO.out.apart⟩
    · show w2.ownsRow lo 70 4 _ (markNs k g.nodes).length (cellsN (markNs k g.nodes) vs)
      rw [markNs_len]
      exact g_row_block HR.out (fun x hx => hgr.block x (HR.out.lt x hx).2 (fun e => hne x e.symm hx))
    · exact HK.out.block (fun i v x hv hx => hgr.block x (HK.out.lt hv hx).2 (fun e => HO.out.apart i v x hv hx e.symm))
    · show w2.ownsRow lo 3 1 _ (mkN (k + cntNs g.nodes) g.roots.length).length (ilV (mkN (k + cntNs g.nodes) g.roots.length))
      rw [mkN_len, HM.out]
      exact hrow
  have HFG : Hid (FrG w lo (.slice na nn nc) (.slice ra rn rc) vs w2) := by
    have hb01 : Below lo w w1 := (HB0.out.mono HLO.out).trans HF.out.below
    refine ⟨hb01.trans ⟨hgr.os, hgr.tape, hgr.output, hgr.size, fun i hi => hgr.block i (Nat.lt_of_lt_of_le hi (Nat.le_trans HLO.out hb01.size)) (fun e => ?_)⟩, fun b h1 h2 h3 h4 => ?_⟩
    · have := (HRR.out.lt i e.symm).1
      omega
    · exact (hgr.block b (Nat.lt_of_lt_of_le h1 hb01.size) (fun e => h4 e.symm)).trans ((HF.out.blk b (Nat.lt_of_lt_of_le h1 HB0.out.size) h2 h3).trans (HB0.out.block b h1))
  have HCG : Hid (m + g.roots.length = k + cntGr g) := by show _ = _; unfold cntGr; rw [← HM.out]; omega
  clear hne hrow hgr cM q1
  go_wp2_with fail
  go_ret
  exact ⟨congrArg (fun z => Ending.returned (.int .i64 z)) (show (m : Int) + (g.roots.length : Int) = ((k + cntGr g : Nat) : Int) by have := HCG.out; omega), HG.out, HFG.out⟩
set_option maxHeartbeats 8000000 in
theorem heldNs_anyW (w : World) (nv : Value) (ns : List Nd) (k : Nat) (hV : NlAt w nv (markNs k ns)) (ht : ns.length + totN ns ≤ 1060000) (k0 : 0 < k) (k1 : k ≤ 1000) :
    Calls Try.prog 37 #[nv, .int .i64 (k : Int)] w fun e w' => e = .returned (.int .i64 ((k + cntNs ns : Nat) : Int)) ∧ Below w.heap.size w w' := by
  obtain ⟨a, c, rfl⟩ := hV.sl
  have HV : Hid (NlAt w (.slice a (markNs k ns).length c) (markNs k ns)) := hV
  have HCT : Hid (cntNs ns ≤ 4000000) := by show _ ≤ _; have := cntNs_tot ns; omega
  have HKL : Hid (∀ n ∈ ns, n.kids.length ≤ 1060000) := fun n hn => by have := totN_mem hn; unfold Nd.tot at this; omega
  have hnl : (ns.length : Int) ≤ 1060000 := by omega
  rw [markNs_len]
  clear hV ht
  go_enter Try.func37, Try.ntmps37
  go_wp2_with fail
  go_loopw [1, 5] (fun kk i wr => ∃ (j : Nat), j ≤ ns.length ∧ i = .int .i64 (j : Int) ∧ kk = .int .i64 ((k + cntNs (ns.take j) : Nat) : Int) ∧ Hid (Below w.heap.size w wr)) (fun _ i _ => ns.length - (intOf i).toNat)
  case atStart => exact ⟨0, Nat.zero_le _, rfl, by simp [cntNs], Below.refl _ _⟩
  case round =>
    obtain ⟨j, hj, rfl, rfl, HB0⟩ := hrel
    by_cases hlt : j < ns.length
    · have hlt' : (j : Int) < (ns.length : Int) := by omega
      obtain ⟨n, hx⟩ : ∃ n, ns[j]? = some n := ⟨_, List.getElem?_eq_getElem hlt⟩
      obtain ⟨b, off, kv, rfl, hbl, hnd⟩ := HV.out.at (markNs_at (k := k) hx)
      obtain ⟨K, hK⟩ : ∃ K, k + cntNs (ns.take j) = K := ⟨_, rfl⟩
      rw [hK] at hnd ⊢
      have hct := cntNs_take hx
      have hle := cntNs_le ns j
      have hK1 : K ≤ 4001000 := by have := HCT.out; omega
      have hK0 : 0 < K := by omega
      have hkl := HKL.out n (List.mem_of_getElem? hx)
      obtain ⟨ka, kc, hkv⟩ := hnd.kids.sl
      obtain rfl : kv = .slice ka (mkN (K + 3) n.kids.length).length kc := hkv
      obtain ⟨M, hM⟩ : ∃ M, K + 3 + n.kids.length = M := ⟨_, rfl⟩
      have HN : Hid (k + cntNs (ns.take (j + 1)) = M) := by show _ = _; omega
      have HC : Hid (∀ wx, Below w.heap.size w wx → wx.cell? ⟨b, off + j * 4, none⟩ = some (.int .i64 (K : Int)) ∧ wx.cell? ⟨b, off + j * 4 + 1, none⟩ = some (.string (mT (K + 1))) ∧ wx.cell? ⟨b, off + j * 4 + 2, none⟩ = some (.string (mT (K + 2))) ∧ wx.cell? ⟨b, off + j * 4 + 3, none⟩ = some (.slice ka n.kids.length kc) ∧ IlAt wx (.slice ka n.kids.length kc) (mkN (K + 3) n.kids.length)) := fun wx hb => by
        have h := hnd.later hbl hb
        have h3 := h.c3
        have h4 : IlAt wx _ (mkN (K + 3) n.kids.length) := h.kids
        rw [mkN_len] at h3 h4
        exact ⟨h.c0, h.c1, h.c2, h3, h4⟩
      have c1 : Hid (∀ w', Calls Try.prog 34 #[.int .i64 ((K : Int) + 1)] w' fun e w'' => e = .returned (.string (mT (K + 1))) ∧ Below w'.heap.size w' w'') := fun w' => markText_any (K + 1) w' (by omega) (by omega)
      have c2 : Hid (∀ w', Calls Try.prog 34 #[.int .i64 ((K : Int) + 1 + 1)] w' fun e w'' => e = .returned (.string (mT (K + 2))) ∧ Below w'.heap.size w' w'') := fun w' => markText_any (K + 2) w' (by omega) (by omega)
      have c3 : Hid (∀ w', IlAt w' (.slice ka n.kids.length kc) (mkN (K + 3) n.kids.length) → Calls Try.prog 38 #[.slice ka n.kids.length kc, .int .i64 ((K : Int) + 1 + 1 + 1)] w' fun e w'' => e = .returned (.int .i64 (M : Int)) ∧ Below w'.heap.size w' w'') := fun w' h => by
        have := heldX_anyW w' _ n.kids.length (K + 3) h hkl (by omega)
        rw [hM] at this
        exact this
      have t0 : ((K : Int) != (K : Int)) = false := by simp
      have hKI : (K : Int) ≤ 4001000 := by omega
      have hMI : ¬ (M : Int) < 0 := by omega
      obtain ⟨q0, _, _, _, _⟩ := HC.out wr HB0.out
      clear hx hnd hK hct hle hK1 hK0 hkl hM hbl k0 k1 hj
      have d3 : ∀ m : Bw wr, m.val.cell? ⟨b, off + j * 4 + 1, none⟩ = some (.string (mT (K + 1))) := fun m => (HC.out m.val (HB0.out.trans (m.ok.mono HB0.out.size))).2.1
      have hM := Bw.calls (w := wr) (fun w' _ => c1.out w')
      have hne := Bw.some wr
      have ts : ((mT (K + 1)).toList != (mT (K + 1)).toList) = false := by simp
      go_wp2_with fail
      refine wp_region_bw (w0 := wr) (by kernel_rfl) (by kernel_rfl) (Below.refl _ _) ?_
      repeat (go_big_quiet_step ((go_at_call 34; exact hM _)))
      refine wpQuiet_nil ?_
      rintro _ ⟨m, rfl⟩
      have HB1 : Hid (Below w.heap.size w m.val) := HB0.out.trans (m.ok.mono HB0.out.size)
      generalize m.val = w1 at *
      clear d3 hM hne HB0 ts q0
      have d4 : ∀ m : Bw w1, m.val.cell? ⟨b, off + j * 4 + 2, none⟩ = some (.string (mT (K + 2))) := fun m => (HC.out m.val (HB1.out.trans (m.ok.mono HB1.out.size))).2.2.1
      have hM := Bw.calls (w := w1) (fun w' _ => c2.out w')
      have hne := Bw.some w1
      have ts : ((mT (K + 2)).toList != (mT (K + 2)).toList) = false := by simp
      go_wp2_with fail
      refine wp_region_bw (w0 := w1) (by kernel_rfl) (by kernel_rfl) (Below.refl _ _) ?_
      repeat (go_big_quiet_step ((go_at_call 34; exact hM _)))
      refine wpQuiet_nil ?_
      rintro _ ⟨m, rfl⟩
      have HB2 : Hid (Below w.heap.size w m.val) := HB1.out.trans (m.ok.mono HB1.out.size)
      generalize m.val = w2 at *
      clear d4 hM hne HB1 ts
      obtain ⟨_, _, _, q3, q4⟩ := HC.out w2 HB2.out
      have c3' := c3.out w2 q4
      clear q4
      go_wp2_with fail
      refine c3'.mono ?_
      rintro e w3 ⟨rfl, hb3⟩
      have HB3 : Hid (Below w.heap.size w w3) := HB2.out.trans (hb3.mono HB2.out.size)
      clear c3' hb3 q3 HB2
      go_wp2_with fail
      go_roundw
      case rel => exact ⟨j + 1, hlt, by go_num, by congr 1; have := HN.out; omega, HB3⟩
      case measure => simp [intOf]; omega
    · obtain rfl : j = ns.length := by omega
      rw [List.take_length]
      go_wp2_with fail
      go_ret
      exact ⟨rfl, HB0.out⟩
set_option maxHeartbeats 4000000 in
theorem heldG_anyW (w : World) (nv rv : Value) (g : Gr) (k : Nat) (hV : GrAt w nv rv (markGr k g)) (ht : g.tot ≤ 1060000) (k0 : 0 < k) (k1 : k ≤ 1000) :
    Calls Try.prog 13 #[.agg #[nv, rv], .int .i64 (k : Int)] w fun e w' => e = .returned (.int .i64 ((k + cntGr g : Nat) : Int)) ∧ Below w.heap.size w w' := by
  have htt : g.nodes.length + totN g.nodes + g.roots.length ≤ 1060000 := ht
  have hN : NlAt w nv (markNs k g.nodes) := hV.1
  have hR : IlAt w rv (mkN (k + cntNs g.nodes) g.roots.length) := hV.2
  obtain ⟨na, nc, rfl⟩ := hN.sl
  obtain ⟨ra, rc, rfl⟩ := hR.sl
  rw [markNs_len] at hN ⊢
  rw [mkN_len] at hR ⊢
  obtain ⟨V, hVW⟩ : ∃ V, w.alloc (.cells #[.slice na g.nodes.length nc, .slice ra g.roots.length rc] 27) = V := ⟨_, rfl⟩
  have HB0 : Hid (Below w.heap.size w V) := by show Below _ _ _; rw [← hVW]; exact (Below.refl _ w).alloc (Nat.le_refl _) _
  have HS : Hid (V.heap.size = w.heap.size + 1) := by show _ = _; rw [← hVW]; show (w.heap.push _).size = _; simp
  have HE : Hid (V.heap[w.heap.size]? = some (.cells #[.slice na g.nodes.length nc, .slice ra g.roots.length rc] 27 (0, 0))) := by show _ = _; rw [← hVW]; exact heap_alloc_new w _
  have hct := cntNs_tot g.nodes
  have cN := heldNs_anyW V _ g.nodes k (hN.later HB0.out) (by omega) k0 k1
  obtain ⟨m, hm⟩ : ∃ m, k + cntNs g.nodes = m := ⟨_, rfl⟩
  rw [hm] at cN hR
  have hmb : m ≤ 5000000 := by omega
  obtain ⟨M, hM⟩ : ∃ M, m + g.roots.length = M := ⟨_, rfl⟩
  have HCG : Hid ((M : Int) = ((k + cntGr g : Nat) : Int)) := by show _ = _; unfold cntGr; omega
  have cR : Hid (∀ x, Below w.heap.size w x → Calls Try.prog 38 #[.slice ra g.roots.length rc, .int .i64 (m : Int)] x fun e w'' => e = .returned (.int .i64 (M : Int)) ∧ Below x.heap.size x w'') := fun x hb => by
    have := heldX_anyW x _ g.roots.length m (hR.later hb) (by omega) (by omega)
    rw [hM] at this
    exact this
  have q0 := n2_0 HE.out
  have HV : Hid (w.alloc (.cells #[.slice na g.nodes.length nc, .slice ra g.roots.length rc] 27) = V) := hVW
  have hm0 : ¬ (m : Int) < 0 := by omega
  have hM0 : ¬ (M : Int) < 0 := by omega
  rw [← hVW] at q0
  clear hV hN hR hVW ht htt hct hm hM hmb k0 k1
  go_enter Try.func13, Try.ntmps13
  go_wp2_with fail
  rw [HV.out]
  refine cN.mono ?_
  rintro e w1 ⟨rfl, hb1⟩
  have HB1 : Hid (Below w.heap.size w w1) := HB0.out.trans (hb1.mono HB0.out.size)
  have q1 := n2_1 ((hb1.block w.heap.size (by rw [HS.out]; exact Nat.lt_succ_self _)).trans HE.out)
  have cR1 := cR.out w1 HB1.out
  clear cN hb1 q0 cR
  go_wp2_with fail
  refine cR1.mono ?_
  rintro e w2 ⟨rfl, hb2⟩
  have HB2 : Hid (Below w.heap.size w w2) := HB1.out.trans (hb2.mono HB1.out.size)
  clear cR1 hb2 q1
  go_wp2_with fail
  go_ret
  exact ⟨congrArg (fun z => Ending.returned (.int .i64 z)) HCG.out, HB2.out⟩
end Go.Proofs.Ytkdlakcmhdiojaa
