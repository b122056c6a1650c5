/- Marks: a list of ints of the call's own is written full, and looked at again. -/
import Derived.Test.YtkdlakcmhdiojaaGsw
namespace Go.Proofs.Ytkdlakcmhdiojaa
open Go.ChangeShapes Go.WideShapes Go.ChangeAt Go.RowKit Go.Deep
theorem own_setX {w : World} {lo t size g n cap : Nat} {xs : List Value} (h : w.ownsRow lo t size (.slice (some ⟨g, 0, none⟩) n cap) n xs) (j : Nat) (u : Value) (hj : j < xs.length) :
    (w.setCell ⟨g, j, none⟩ u).ownsRow lo t size (.slice (some ⟨g, 0, none⟩) n cap) n (xs.set j u) := by
  refine ⟨by simpa using h.1, ?_⟩
  rcases h.2 with ⟨e, _⟩ | ⟨g', cap', cur, e, hb, hg, hn, hm, hs, ht⟩
  · cases e
  · injection e with e1 e2 e3
    injection e1 with e1
    injection e1 with e1
    subst e1
    subst e3
    refine .inr ⟨g, cap, cur.setIfInBounds j u, rfl, hb, by simp [World.setCell, Array.getElem?_modify, hg], hn, hm, by simpa using hs, ?_⟩
    rw [← ht]
    apply List.ext_getElem?
    intro i
    rw [List.getElem?_set, List.getElem?_take, Array.toList_setIfInBounds, List.getElem?_set]
    have hl : xs.length = n * size := h.1
    have hcl : n * size ≤ cur.size := by rw [hs]; exact Nat.mul_le_mul_right _ hn
    by_cases e : j = i
    · subst e
      rw [if_pos (by omega), if_pos rfl, if_pos rfl]
      simp only [Array.length_toList, List.length_take]
      rw [if_pos (by omega), if_pos (by omega)]
    · rw [if_neg e, if_neg e, List.getElem?_take]
/-- The marks: one number behind the other. -/
def mkN (k n : Nat) : List Int := (List.range n).map fun i => ((k + i : Nat) : Int)
theorem mkN_len (k n : Nat) : (mkN k n).length = n := by unfold mkN; simp
theorem mkN_at {k n i : Nat} (h : i < n) : (mkN k n)[i]? = some ((k + i : Nat) : Int) := by unfold mkN; simp [h]
theorem mkN_succ (k j : Nat) : mkN k (j + 1) = mkN k j ++ [((k + j : Nat) : Int)] := by unfold mkN; rw [List.range_succ, List.map_append]; rfl
theorem mkN_step {k : Nat} {xs : List Value} {j : Nat} (h : j < xs.length) : (ilV (mkN k j) ++ xs.drop j).set j (.int .i64 ((k + j : Nat) : Int)) = ilV (mkN k (j + 1)) ++ xs.drop (j + 1) := by
  have hl : (ilV (mkN k j)).length = j := by rw [ilV_len, mkN_len]
  rw [List.set_append_right _ _ (by omega), hl, Nat.sub_self, List.drop_eq_getElem_cons h, List.set_cons_zero, mkN_succ]
  unfold ilV
  rw [List.map_append, List.append_assoc]
  rfl
set_option maxHeartbeats 4000000 in
theorem markX_any (w : World) (lo : Nat) (v : Value) (n : Nat) (xs : List Value) (k : Nat) (hO : w.ownsRow lo 3 1 v n xs) (hl : n ≤ 1048576) (hk : k ≤ 20000000) :
    Calls Try.prog 36 #[v, .int .i64 (k : Int)] w fun e w' => e = .returned (.int .i64 ((k + n : Nat) : Int)) ∧ w'.ownsRow lo 3 1 v n (ilV (mkN k n)) ∧ w.grownBy w' v.ownBlock := by
  have hxl : xs.length = n := by rw [hO.1, Nat.mul_one]
  by_cases h0 : n = 0
  · subst h0
    obtain rfl : xs = [] := List.length_eq_zero_iff.1 hxl
    obtain ⟨a, c, rfl⟩ : ∃ a c, v = .slice a 0 c := by
      rcases hO.2 with ⟨e, _⟩ | ⟨g, cap, cur, e, _⟩
      · exact ⟨_, _, e⟩
      · exact ⟨_, _, e⟩
    have HO : Hid (w.ownsRow lo 3 1 (.slice a 0 c) 0 []) := hO
    clear hO
    go_enter Try.func36, Try.ntmps36
    go_wp2_with fail
    refine wp_loop_rounds 1 ?_
    rw [rounds_succ]
    go_wp2_with fail
    go_ret
    exact ⟨by simp, HO.out, ⟨rfl, rfl, rfl, Nat.le_refl _, fun _ _ _ => rfl⟩⟩
  · have hpos : 0 < n := Nat.pos_of_ne_zero h0
    obtain ⟨g, cap, rfl, hg, hgl⟩ := World.ownsRow.form hO hpos
    have HO : Hid (w.ownsRow lo 3 1 (.slice (some ⟨g, 0, none⟩) n cap) n xs) := hO
    have HXL : Hid (xs.length = n) := hxl
    have hk' : (k : Int) ≤ 20000000 := by omega
    have hl' : (n : Int) ≤ 1048576 := by omega
    clear hO h0 hxl
    go_enter Try.func36, Try.ntmps36
    go_wp2_with fail
    go_loopw [1, 5] (fun kk i wr => ∃ (j : Nat), j ≤ n ∧ i = .int .i64 (j : Int) ∧ kk = .int .i64 ((k + j : Nat) : Int) ∧ Hid (wr.ownsRow lo 3 1 (.slice (some ⟨g, 0, none⟩) n cap) n (ilV (mkN k j) ++ xs.drop j)) ∧ w.grownBy wr (some g)) (fun _ i _ => n - (intOf i).toNat)
    case atStart => exact ⟨0, Nat.zero_le _, rfl, by simp, by show World.ownsRow _ _ _ _ _ _ _; simpa [mkN, ilV] using HO.out, ⟨rfl, rfl, rfl, Nat.le_refl _, fun _ _ _ => rfl⟩⟩
    case round =>
      obtain ⟨j, hj, rfl, rfl, HR, hgr⟩ := hrel
      by_cases hlt : j < n
      · have hlt' : (j : Int) < (n : Int) := by omega
        have hlen : (ilV (mkN k j) ++ xs.drop j).length = n := by have := HXL.out; simp [ilV, mkN]; omega
        have hc0 := HR.out.cells (g := g) rfl j ((ilV (mkN k j) ++ xs.drop j)[j]'(by omega)) (by simp)
        have hadd : (⟨g, 0, none⟩ : Addr).add j = ⟨g, j, none⟩ := by unfold Addr.add; split <;> simp_all
        rw [hadd] at hc0
        obtain ⟨zc, hcd⟩ : ∃ zc, wr.cell? ⟨g, j, none⟩ = some zc := ⟨_, hc0⟩
        have hfd : wr.frozen? ⟨g, j, none⟩ = false := HR.out.frozenAt j
        obtain ⟨m, hm⟩ : ∃ m, k + j = m := ⟨_, rfl⟩
        have HM : Hid (k + j = m) := hm
        have hml : (m : Int) ≤ 30000000 := by omega
        have HLN : Hid (j < (ilV (mkN k j) ++ xs.drop j).length) := by show _ < _; omega
        rw [hm]
        clear hc0 hadd hm hlen
        go_wp2_with fail
        go_roundw
        case rel =>
          refine ⟨j + 1, hlt, by go_num, by have := HM.out; rw [← Nat.add_assoc, this]; go_num, ?_, ?_⟩
          · have := own_setX HR.out j (.int .i64 ((k + j : Nat) : Int)) HLN.out
            rw [mkN_step (by have := HXL.out; omega), HM.out] at this
            exact this
          · exact ⟨hgr.os, hgr.tape, hgr.output, by simp [World.setCell]; exact hgr.size, fun i hi hne => by rw [Below.heap_setCell _ _ _ _ (fun e => hne (by rw [e]))]; exact hgr.block i hi hne⟩
        case measure => simp [intOf]; omega
      · go_wp2_with fail
        go_ret
        have ej : j = n := by omega
        have := HR.out
        rw [ej, List.drop_of_length_le (by have := HXL.out; omega), List.append_nil] at this
        exact ⟨by rw [ej]; rfl, this, hgr⟩
set_option maxHeartbeats 4000000 in
theorem heldX_any (w : World) (v : Value) (n k : Nat) (hV : IlAt w v (mkN k n)) (hl : n ≤ 1048576) (hk : k ≤ 20000000) :
    Calls Try.prog 38 #[v, .int .i64 (k : Int)] w fun e w' => e = .returned (.int .i64 ((k + n : Nat) : Int)) ∧ Below w.heap.size w w' := by
  obtain ⟨a, c, rfl⟩ := hV.sl
  have HV : Hid (IlAt w (.slice a (mkN k n).length c) (mkN k n)) := hV
  rw [mkN_len]
  have hk' : (k : Int) ≤ 20000000 := by omega
  have hl' : (n : Int) ≤ 1048576 := by omega
  clear hV
  go_enter Try.func38, Try.ntmps38
  go_wp2_with fail
  go_loopw [1, 5] (fun kk i wr => ∃ (j : Nat), j ≤ n ∧ i = .int .i64 (j : Int) ∧ kk = .int .i64 ((k + j : Nat) : Int) ∧ Hid (Below w.heap.size w wr)) (fun _ i _ => n - (intOf i).toNat)
  case atStart => exact ⟨0, Nat.zero_le _, rfl, by simp, Below.refl _ _⟩
  case round =>
    obtain ⟨j, hj, rfl, rfl, HB⟩ := hrel
    by_cases hlt : j < n
    · have hlt' : (j : Int) < (n : Int) := by omega
      obtain ⟨b, o, rfl, hbl, d1⟩ := HV.out.at (mkN_at (k := k) hlt)
      rw [← HB.out.cell hbl] at d1
      obtain ⟨m, hm⟩ : ∃ m, k + j = m := ⟨_, rfl⟩
      have HM : Hid (k + j = m) := hm
      have hml : (m : Int) ≤ 30000000 := by omega
      rw [hm] at d1 ⊢
      have tm : ((m : Int) != (m : Int)) = false := by simp
      clear hm hbl
      go_wp2_with fail
      go_roundw
      case rel => exact ⟨j + 1, hlt, by go_num, by have := HM.out; rw [← Nat.add_assoc, this]; go_num, HB⟩
      case measure => simp [intOf]; omega
    · obtain rfl : j = n := by omega
      have hlt' : ¬ (j : Int) < (j : Int) := by omega
      go_wp2_with fail
      go_ret
      exact ⟨rfl, HB.out⟩
end Go.Proofs.Ytkdlakcmhdiojaa
