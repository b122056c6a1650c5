/- Marks on the nodes of a graph: the laws' markNodeS. -/
import Derived.Test.YtgaibajkegfpoaaGmn
namespace Go.Proofs.Ytgaibajkegfpoaa
open Go.ChangeShapes Go.WideShapes Go.ChangeAt Go.RowKit Go.Deep
set_option maxHeartbeats 8000000 in
theorem markNs_any (w : World) (lo : Nat) (nv : Value) (ns : List Nd) (vs : List Value) (k : Nat) (hO : w.ownsRow lo 50 4 nv ns.length (cellsN ns vs)) (hK : KidsOwn lo w vs ns) (hlo : lo ≤ w.heap.size) (ht : ns.length + totN ns ≤ 1048576) (k0 : 0 < k) (k1 : k ≤ 1000) :
    Calls Try.prog 52 #[nv, .int .i64 (k : Int)] w fun e w' => e = .returned (.int .i64 ((k + cntNs ns : Nat) : Int)) ∧ w'.ownsRow lo 50 4 nv ns.length (cellsN (markNs k ns) vs) ∧ KidsOwn lo w' vs (markNs k ns) ∧ FrN w lo nv vs w' := by
  by_cases h0 : ns = []
  · subst h0
    obtain ⟨a, c, rfl⟩ : ∃ a c, nv = .slice a 0 c := by
      rcases hO.2 with ⟨e, _⟩ | ⟨g, cap, cur, e, _⟩
      · exact ⟨_, _, e⟩
      · exact ⟨_, _, e⟩
    have HO : Hid (w.ownsRow lo 50 4 (.slice a 0 c) 0 (cellsN (markNs k []) vs)) := hO
    have HKO : Hid (KidsOwn lo w vs (markNs k [])) := hK
    clear hO hK
    go_enter Try.func52, Try.ntmps52
    go_wp2_with fail
    refine wp_loop_rounds 1 ?_
    rw [rounds_succ]
    go_wp2_with fail
    go_ret
    exact ⟨by simp [cntNs], HO.out, HKO.out, FrN.refl _ _ _ _⟩
  · have hpos : 0 < ns.length := List.length_pos_iff.2 h0
    obtain ⟨B, cap, rfl, hB, hBl⟩ := World.ownsRow.form hO hpos
    have HO : Hid (w.ownsRow lo 50 4 (.slice (some ⟨B, 0, none⟩) ns.length cap) ns.length (cellsN (mkL k ns 0) vs)) := hO
    have HKO : Hid (KidsOwn lo w vs (mkL k ns 0)) := hK
    have HLO : Hid (lo ≤ w.heap.size) := hlo
    have HB : Hid (lo ≤ B) := hB
    have hnl : (ns.length : Int) ≤ 1048576 := by omega
    have HT : Hid (ns.length + totN ns ≤ 1048576) := ht
    clear hO hK h0 hlo hB hBl ht
    go_enter Try.func52, Try.ntmps52
    go_wp2_with fail
    go_loopw [1, 5] (fun kk i wr => ∃ (j : Nat), j ≤ ns.length ∧ i = .int .i64 (j : Int) ∧ kk = .int .i64 ((k + cntNs (ns.take j) : Nat) : Int) ∧ Hid (wr.ownsRow lo 50 4 (.slice (some ⟨B, 0, none⟩) ns.length cap) ns.length (cellsN (mkL k ns j) vs)) ∧ Hid (KidsOwn lo wr vs (mkL k ns j)) ∧ Hid (FrN w lo (.slice (some ⟨B, 0, none⟩) ns.length cap) vs wr)) (fun _ i _ => ns.length - (intOf i).toNat)
    case atStart => exact ⟨0, Nat.zero_le _, rfl, by simp [cntNs], HO, HKO, FrN.refl _ _ _ _⟩
    case round =>
      obtain ⟨j, hj, rfl, rfl, HR, HQ, HF⟩ := hrel
      clear HO HKO
      by_cases hlt : j < ns.length
      · have hlt' : (j : Int) < (ns.length : Int) := by omega
        obtain ⟨n, hx⟩ : ∃ n, ns[j]? = some n := ⟨_, List.getElem?_eq_getElem hlt⟩
        have hat := mkL_at (k := k) hx
        have hsu := mkL_succ (k := k) hx
        obtain ⟨v, hv⟩ : ∃ v, vs[j]? = some v := ⟨_, List.getElem?_eq_getElem (by rw [HQ.out.len, mkL_len]; exact hlt)⟩
        have htk := totN_take hx
        have hct := cntNs_tot (ns.take j)
        have htm : totN (ns.take (j + 1)) ≤ totN ns := by
          have e : totN (ns.take (j + 1)) + totN (ns.drop (j + 1)) = totN ns := by rw [← totN_app, List.take_append_drop]
          omega
        have hkl : n.kids.length ≤ n.tot := by unfold Nd.tot; omega
        have hcs : cntNs (ns.take (j + 1)) = cntNs (ns.take j) + 3 + n.kids.length := by
          rw [List.take_add_one, hx]
          show cntNs (ns.take j ++ [n]) = _
          rw [cntNs_app]
          simp only [cntNs]
          omega
        have hKb : cntNs (ns.take j) ≤ 5000000 := by
          rw [List.length_take] at hct
          have := HT.out
          omega
        have hkb : n.kids.length ≤ 1048576 := by have := HT.out; omega
        obtain ⟨K, hK⟩ : ∃ K, k + cntNs (ns.take j) = K := ⟨_, rfl⟩
        have HCS : Hid (k + cntNs (ns.take (j + 1)) = K + 3 + n.kids.length) := by show _ = _; omega
        have hK1 : K ≤ 5001000 := by omega
        have hK0 : 0 < K := by omega
        rw [hK] at hsu ⊢
        obtain ⟨xs, hxs⟩ : ∃ xs, cellsN (mkL k ns j) vs = xs := ⟨_, rfl⟩
        have hfin := cellsN_set (mkL k ns j) vs j n v (markNd K n) hat hv
        have hkd := cellsN_kid hat hv
        have hxl : xs.length = ns.length * 4 := by rw [← hxs, cellsN_len _ _ HQ.out.len, mkL_len]
        rw [hxs] at HR hfin hkd
        rw [← hsu] at hfin
        have hvr := HQ.out.own j v n hv hat
        obtain ⟨va, vn, vc, rfl⟩ : ∃ va vn vc, v = .slice va vn vc := by
          rcases hvr.2 with ⟨e, _⟩ | ⟨g, cap, cur, e, _⟩
          · exact ⟨_, _, _, e⟩
          · exact ⟨_, _, _, e⟩
        have HSU : Hid (mkL k ns (j + 1) = (mkL k ns j).set j (markNd K n)) := hsu
        have HFIN : Hid (((xs.set (j * 4) (.int .i64 (K : Int))).set (j * 4 + 1) (.string (mT (K + 1)))).set (j * 4 + 2) (.string (mT (K + 2))) = cellsN (mkL k ns (j + 1)) vs) := hfin
        have HKD : Hid (xs[j * 4 + 3]? = some (.slice va vn vc)) := hkd
        have HXL : Hid (xs.length = ns.length * 4) := hxl
        have HAT : Hid ((mkL k ns j)[j]? = some n) := hat
        have HVJ : Hid (vs[j]? = some (.slice va vn vc)) := hv
        have HLT : Hid (j < ns.length) := hlt
        have HKB : Hid (n.kids.length ≤ 1048576) := hkb
        have c3 : Hid (∀ (q : Int) (_ : q = ((K + 1 : Nat) : Int)) (w' : World), Calls Try.prog 51 #[.int .i64 q] w' fun e w'' => e = .returned (.string (mT (K + 1))) ∧ Below w'.heap.size w' w'') := fun q hq w' => by rw [hq]; exact markText_any (K + 1) w' (by omega) (by omega)
        have c4 : Hid (∀ (q : Int) (_ : q = ((K + 2 : Nat) : Int)) (w' : World), Calls Try.prog 51 #[.int .i64 q] w' fun e w'' => e = .returned (.string (mT (K + 2))) ∧ Below w'.heap.size w' w'') := fun q hq w' => by rw [hq]; exact markText_any (K + 2) w' (by omega) (by omega)
        obtain ⟨⟨z0, hz0⟩, hf0⟩ := row_cellX HR.out (j * 4) (by omega)
        have hKI : (K : Int) ≤ 5001000 := by omega
        have hKI0 : (0 : Int) < (K : Int) := by omega
        clear hx hat hsu hv htk hct htm hkl hcs hKb hK hfin hkd hxl hvr hxs k0 k1 hj hkb hK1 hK0
        go_wp2_with fail
        refine (c3.out _ (by omega) _).mono ?_
        rintro e9 w1 ⟨rfl, hb9⟩
        have R1 := own_setX HR.out (j * 4) (.int .i64 (K : Int)) (by have h1 := HXL.out; have h2 := HLT.out; omega)
        have HR1 : Hid (w1.ownsRow lo 50 4 (.slice (some ⟨B, 0, none⟩) ns.length cap) ns.length (xs.set (j * 4) (.int .i64 (K : Int)))) := g_row_below R1 hb9
        have HQ1 : Hid (KidsOwn lo w1 vs (mkL k ns j)) := (HQ.out.setB HR.out (j * 4) (.int .i64 (K : Int))).later hb9
        have HF1 : Hid (FrN w lo (.slice (some ⟨B, 0, none⟩) ns.length cap) vs w1) := (HF.out.setB HB.out (j * 4) (.int .i64 (K : Int))).later HLO.out hb9
        clear hb9 R1 HR HQ HF hz0 hf0 z0
        obtain ⟨⟨z1, hz1⟩, hf1⟩ := row_cellX HR1.out (j * 4 + 1) (by have h1 := HXL.out; have h2 := HLT.out; simp only [List.length_set]; omega)
        go_wp2_with fail
        refine (c4.out _ (by omega) _).mono ?_
        rintro e9 w2 ⟨rfl, hb9⟩
        have R2 := own_setX HR1.out (j * 4 + 1) (.string (mT (K + 1))) (by have h1 := HXL.out; have h2 := HLT.out; simp only [List.length_set]; omega)
        have HR2 : Hid (w2.ownsRow lo 50 4 (.slice (some ⟨B, 0, none⟩) ns.length cap) ns.length ((xs.set (j * 4) (.int .i64 (K : Int))).set (j * 4 + 1) (.string (mT (K + 1))))) := g_row_below R2 hb9
        have HQ2 : Hid (KidsOwn lo w2 vs (mkL k ns j)) := (HQ1.out.setB HR1.out (j * 4 + 1) (.string (mT (K + 1)))).later hb9
        have HF2 : Hid (FrN w lo (.slice (some ⟨B, 0, none⟩) ns.length cap) vs w2) := (HF1.out.setB HB.out (j * 4 + 1) (.string (mT (K + 1)))).later HLO.out hb9
        clear hb9 R2 HR1 HQ1 HF1 hz1 hf1 z1
        obtain ⟨⟨z2, hz2⟩, hf2⟩ := row_cellX HR2.out (j * 4 + 2) (by have h1 := HXL.out; have h2 := HLT.out; simp only [List.length_set]; omega)
        have R3 := own_setX HR2.out (j * 4 + 2) (.string (mT (K + 2))) (by have h1 := HXL.out; have h2 := HLT.out; simp only [List.length_set]; omega)
        rw [HFIN.out] at R3
        obtain ⟨W3, hW3⟩ : ∃ W3, w2.setCell ⟨B, j * 4 + 2, none⟩ (.string (mT (K + 2))) = W3 := ⟨_, rfl⟩
        have HR3 : Hid (W3.ownsRow lo 50 4 (.slice (some ⟨B, 0, none⟩) ns.length cap) ns.length (cellsN (mkL k ns (j + 1)) vs)) := by show World.ownsRow _ _ _ _ _ _ _; rw [← hW3]; exact R3
        have HQ3 : Hid (KidsOwn lo W3 vs (mkL k ns j)) := by show KidsOwn _ _ _ _; rw [← hW3]; exact HQ2.out.setB HR2.out (j * 4 + 2) (.string (mT (K + 2)))
        have HF3 : Hid (FrN w lo (.slice (some ⟨B, 0, none⟩) ns.length cap) vs W3) := by show FrN _ _ _ _ _; rw [← hW3]; exact HF2.out.setB HB.out (j * 4 + 2) (.string (mT (K + 2)))
        have hk3 : W3.cell? ⟨B, j * 4 + 3, none⟩ = some (.slice va vn vc) := by
          have h1 := HR3.out.cells (g := B) rfl (j * 4 + 3) (.slice va vn vc) (by
            rw [← HFIN.out, List.getElem?_set_ne (by omega), List.getElem?_set_ne (by omega), List.getElem?_set_ne (by omega)]
            exact HKD.out)
          have hadd : (⟨B, 0, none⟩ : Addr).add (j * 4 + 3) = ⟨B, j * 4 + 3, none⟩ := by unfold Addr.add; split <;> simp_all
          rw [hadd] at h1
          exact h1
        have HK3 : Hid (W3.cell? ⟨B, j * 4 + 3, none⟩ = some (.slice va vn vc)) := hk3
        rw [← hW3] at hk3
        have HW3 : Hid (w2.setCell ⟨B, j * 4 + 2, none⟩ (.string (mT (K + 2))) = W3) := hW3
        have cM := markX_any W3 lo _ n.kids.length _ (K + 3) (HQ3.out.own j _ n HVJ.out HAT.out) HKB.out (by omega)
        have cMH : Hid (∀ (q : Int) (_ : q = ((K + 3 : Nat) : Int)), Calls Try.prog 23 #[.slice va vn vc, .int .i64 q] W3 fun e w' => e = .returned (.int .i64 ((K + 3 + n.kids.length : Nat) : Int)) ∧ w'.ownsRow lo 3 1 (.slice va vn vc) n.kids.length (ilV (mkN (K + 3) n.kids.length)) ∧ W3.grownBy w' (Value.slice va vn vc).ownBlock) := fun q hq => by rw [hq]; exact cM
        clear cM hW3 R3 HR2 HQ2 HF2
        go_wp2_with fail
        rw [HW3.out]
        refine (cMH.out _ (by omega)).mono ?_
        rintro e9 w4 ⟨rfl, hrow, hgr⟩
        have HQ4 : Hid (KidsOwn lo w4 vs (mkL k ns (j + 1))) := by
          show KidsOwn _ _ _ _
          rw [HSU.out]
          exact HQ3.out.mark HAT.out HVJ.out (by
            show w4.ownsRow lo 3 1 _ (mkN (K + 3) n.kids.length).length (ilV (mkN (K + 3) n.kids.length))
            rw [mkN_len]
            exact hrow) hgr
        have HR4 : Hid (w4.ownsRow lo 50 4 (.slice (some ⟨B, 0, none⟩) ns.length cap) ns.length (cellsN (mkL k ns (j + 1)) vs)) := g_row_block HR3.out (fun x hx => hgr.block x (HR3.out.lt x hx).2 (fun e => HQ3.out.other HR3.out HVJ.out (by
          have : x = B := by simpa [Value.ownBlock] using hx.symm
          rw [← this]
          exact e.symm)))
        have HF4 : Hid (FrN w lo (.slice (some ⟨B, 0, none⟩) ns.length cap) vs w4) := HF3.out.kid HVJ.out (fun x hx => (HQ3.out.lt HVJ.out hx).1) HLO.out hgr
        clear hrow hgr hk3 HK3 HR3 HQ3 HF3 hz2 hf2 cMH c3 c4 HW3
        go_wp2_with fail
        go_roundw
        case rel => exact ⟨j + 1, HLT.out, by go_num, by congr 1; have := HCS.out; omega, HR4, HQ4, HF4⟩
        case measure => simp [intOf]; have := HLT.out; omega
      · have hge : ¬ (j : Int) < (ns.length : Int) := by omega
        have ej : j = ns.length := by omega
        have eL : mkL k ns j = markNs k ns := by unfold mkL; rw [ej, List.take_length, List.drop_length, List.append_nil]
        have HR9 : Hid (wr.ownsRow lo 50 4 (.slice (some ⟨B, 0, none⟩) ns.length cap) ns.length (cellsN (markNs k ns) vs)) := by show World.ownsRow _ _ _ _ _ _ _; rw [← eL]; exact HR.out
        have HQ9 : Hid (KidsOwn lo wr vs (markNs k ns)) := by show KidsOwn _ _ _ _; rw [← eL]; exact HQ.out
        have HJ : Hid (ns.take j = ns) := by show _ = _; rw [ej, List.take_length]
        clear eL ej HR HQ
        rw [HJ.out]
        go_wp2_with fail
        go_ret
        exact ⟨rfl, HR9.out, HQ9.out, HF.out⟩
end Go.Proofs.Ytgaibajkegfpoaa
