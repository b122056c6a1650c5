/- Marking the texts of a list of which the call owns the block, cut off or not, and finding the marks again. -/
import Derived.Test.YtonhgejfbieanalTmt
import Derived.Test.YtonhgejfbieanalSdi
import Derived.Test.YtonhgejfbieanalThf
import Derived.Lib.BufferOwn
import Derived.Test.YtonhgejfbieanalBwr
namespace Go.Proofs.Ytonhgejfbieanal
open Go.ChangeShapes Go.WideShapes Go.ChangeAt Go.RowKit Go.Deep Go.BigFrame
open Go.Lib (grownBy_setB grownBy_below)
/-- A list whose cells are the first of a block of the call's own. -/
def CutR (w : World) (lo t one : Nat) (v : Value) (n : Nat) (xs : List Value) : Prop :=
  xs.length = n * one ∧ ((v = .slice none 0 0 ∧ n = 0) ∨ ∃ g cap cur, v = .slice (some ⟨g, 0, none⟩) n cap ∧ lo ≤ g ∧ w.heap[g]? = some (.cells cur t (0, 0)) ∧ n ≤ cap ∧ n * one ≤ cur.size ∧ cur.toList.take (n * one) = xs)
theorem cut_of {w : World} {lo t : Nat} {v : Value} {n : Nat} {xs : List Value} (h : w.ownsRow lo t 1 v n xs) : CutR w lo t 1 v n xs := by
  refine ⟨h.1, ?_⟩
  rcases h.2 with e | ⟨g, cap, cur, e, hb, hg, hn, _, hs, ht⟩
  · exact .inl e
  · exact .inr ⟨g, cap, cur, e, hb, hg, hn, by omega, ht⟩
/-- The first m of a list of the call's own, by a slice of three indexes. -/
theorem cut_at {w : World} {lo t A m n c : Nat} {xs : List Value} (h : w.ownsRow lo t 1 (.slice (some ⟨A, 0, none⟩) n c) n xs) (hm : m ≤ n) : CutR w lo t 1 (.slice (some ⟨A, 0, none⟩) m m) m (xs.take m) := by
  rcases h.2 with ⟨e, _⟩ | ⟨g, cap, cur, e, hb, hg, hn, _, hs, ht⟩
  · cases e
  · injection e with e1 e2 e3
    injection e1 with e1
    injection e1 with e1
    subst e1
    refine ⟨by rw [List.length_take, h.1]; omega, .inr ⟨A, m, cur, rfl, hb, hg, Nat.le_refl _, by omega, ?_⟩⟩
    rw [← ht, List.take_take]
    congr 1
    omega
theorem CutR.form {w : World} {lo t : Nat} {v : Value} {n : Nat} {xs : List Value} (h : CutR w lo t 1 v n xs) (hn : 0 < n) : ∃ g cap, v = .slice (some ⟨g, 0, none⟩) n cap ∧ lo ≤ g ∧ g < w.heap.size := by
  rcases h.2 with ⟨_, e⟩ | ⟨g, cap, cur, e, hb, hg, _⟩
  · omega
  · exact ⟨g, cap, e, hb, (Array.getElem?_eq_some_iff.1 hg).1⟩
theorem CutR.lt {w : World} {lo t : Nat} {v : Value} {n : Nat} {xs : List Value} (h : CutR w lo t 1 v n xs) (b : Nat) (hv : v.ownBlock = some b) : lo ≤ b ∧ b < w.heap.size := by
  rcases h.2 with ⟨e, _⟩ | ⟨g, cap, cur, e, hb, hg, _⟩
  · subst e; cases hv
  · subst e
    injection hv with hv
    subst hv
    exact ⟨hb, (Array.getElem?_eq_some_iff.1 hg).1⟩
theorem cut_below {w w' : World} {lo e : Nat} {v : Value} {n : Nat} {xs : List Value} (h : CutR w lo e 1 v n xs) (hb : Below w.heap.size w w') : CutR w' lo e 1 v n xs := by
  refine ⟨h.1, ?_⟩
  rcases h.2 with e | ⟨g, cap, cur, e, hlo, hg, rest⟩
  · exact .inl e
  · exact .inr ⟨g, cap, cur, e, hlo, (hb.block g (Array.getElem?_eq_some_iff.1 hg).1).trans hg, rest⟩
theorem far_cut {w w' : World} {v v' : Value} {lo t n : Nat} {xs : List Value} (h : CutR w lo t 1 v n xs) {B : Nat} (hB : ∀ b, v.ownBlock = some b → b < B) (hg : w.grownBy w' v'.ownBlock) (hf : ∀ b, v'.ownBlock = some b → B ≤ b) : CutR w' lo t 1 v n xs := by
  refine ⟨h.1, ?_⟩
  rcases h.2 with hn | ⟨g, cap, cur, rfl, hlo, hgg, rest⟩
  · exact .inl hn
  · refine .inr ⟨g, cap, cur, rfl, hlo, ?_, rest⟩
    rw [hg.block g (Array.getElem?_eq_some_iff.1 hgg).1 (fun e => by have h1 := hB g rfl; have h2 := hf g e.symm; omega)]
    exact hgg
theorem cut_form {w : World} {lo t : Nat} {v : Value} {n : Nat} {xs : List Value} (h : CutR w lo t 1 v n xs) : ∃ a c, v = .slice a n c := by
  rcases h.2 with ⟨e, e0⟩ | ⟨g, cap, cur, e, _⟩
  · exact ⟨_, _, by rw [e0]; exact e⟩
  · exact ⟨_, _, e⟩
theorem cut_setT {w : World} {lo t g n cap : Nat} {xs : List Value} (h : CutR w lo t 1 (.slice (some ⟨g, 0, none⟩) n cap) n xs) (j : Nat) (u : Value) (hj : j < xs.length) :
    CutR (w.setCell ⟨g, j, none⟩ u) lo t 1 (.slice (some ⟨g, 0, none⟩) n cap) n (xs.set j u) := by
  refine ⟨by simpa using h.1, ?_⟩
  rcases h.2 with ⟨e, _⟩ | ⟨g', cap', cur, e, hb, hg, hn, hs, ht⟩
  · cases e
  · injection e with e1 e2 e3
    injection e1 with e1
    injection e1 with e1
    subst e1
    subst e3
    refine .inr ⟨g, cap, cur.setIfInBounds j u, rfl, hb, by simp [World.setCell, Array.getElem?_modify, hg], hn, by simpa using hs, ?_⟩
    rw [← ht]
    apply List.ext_getElem?
    intro i
    rw [List.getElem?_set, List.getElem?_take, Array.toList_setIfInBounds, List.getElem?_set]
    have hl : xs.length = n * 1 := h.1
    have hcl : n * 1 ≤ cur.size := hs
    by_cases e : j = i
    · subst e
      rw [if_pos (by omega), if_pos rfl, if_pos rfl]
      simp only [Array.length_toList, List.length_take]
      rw [if_pos (by omega), if_pos (by omega)]
    · rw [if_neg e, if_neg e, List.getElem?_take]
theorem cut_cell {w : World} {lo t g n cap : Nat} {xs : List Value} (h : CutR w lo t 1 (.slice (some ⟨g, 0, none⟩) n cap) n xs) (i : Nat) (u : Value) (hi : xs[i]? = some u) : w.cell? ⟨g, i, none⟩ = some u ∧ w.frozen? ⟨g, i, none⟩ = false := by
  rcases h.2 with ⟨e, _⟩ | ⟨g', cap', cur, e, hb, hg, hn, hs, ht⟩
  · cases e
  · injection e with e1 e2 e3
    injection e1 with e1
    injection e1 with e1
    subst e1
    have hc : cur[i]? = some u := by
      rw [← ht, List.getElem?_take] at hi
      split at hi
      · simpa using hi
      · cases hi
    exact ⟨by simp [World.cell?, hg, hc], by simp [World.frozen?, hg]⟩
/-- The texts that mark n places, the first number being k. -/
def mkSs (k n : Nat) : List ByteArray := (List.range n).map fun j => mT (k + j)
theorem mkSs_len (k n : Nat) : (mkSs k n).length = n := by simp [mkSs]
theorem mkSs_succ (k n : Nat) : mkSs k (n + 1) = mkSs k n ++ [mT (k + n)] := by simp [mkSs, List.range_succ]
theorem celS_len (l : List ByteArray) : (celS l).length = l.length := by simp [celS]
theorem celS_app (a b : List ByteArray) : celS (a ++ b) = celS a ++ celS b := by simp [celS]
theorem celS_set (a c : List ByteArray) (x y : ByteArray) (n : Nat) (hn : a.length = n) : (celS (a ++ x :: c)).set n (.string y) = celS (a ++ y :: c) := by
  subst hn
  rw [celS_app, celS_app]
  show (celS a ++ .string x :: celS c).set a.length (.string y) = celS a ++ .string y :: celS c
  rw [List.set_append_right _ _ (by rw [celS_len]; exact Nat.le_refl _), celS_len, Nat.sub_self]
  rfl
theorem slS_cut {w : World} {lo : Nat} {v : Value} {ss : List ByteArray} (h : CutR w lo 9 1 v ss.length (celS ss)) : SlS w v ss := by
  by_cases hz : ss = []
  · subst hz
    left
    rcases h.2 with ⟨e, _⟩ | ⟨g, cap, cur, e, _⟩
    · exact ⟨rfl, _, _, e⟩
    · exact ⟨rfl, _, _, e⟩
  · right
    have hpos : 0 < ss.length := List.length_pos_iff.2 hz
    have h' := h
    rcases h.2 with ⟨_, e⟩ | ⟨g, cap, cur, rfl, hb, hg, hn, hs, ht⟩
    · omega
    · refine ⟨hz, g, 0, cap, rfl, (Array.getElem?_eq_some_iff.1 hg).1, hn, fun i s hi => ?_⟩
      rw [Nat.zero_add]
      refine (cut_cell h' i (.string s) ?_).1
      unfold celS
      rw [List.getElem?_map, hi]
      rfl
set_option maxHeartbeats 8000000 in
theorem markSc_any (w : World) (lo : Nat) (v : Value) (ss : List ByteArray) (k : Nat) (hO : CutR w lo 9 1 v ss.length (celS ss)) (hz : ss.length ≤ 5000000) (k0 : 0 < k) (k1 : k ≤ 10) :
    Calls Try.prog 13 #[v, .int .i64 (k : Int)] w fun e w' => e = .returned (.int .i64 ((k + ss.length : Nat) : Int)) ∧ CutR w' lo 9 1 v ss.length (celS (mkSs k ss.length)) ∧ w.grownBy w' v.ownBlock := by
  by_cases h0 : ss = []
  · subst h0
    obtain ⟨a, c, rfl⟩ : ∃ a c, v = .slice a 0 c := by
      rcases hO.2 with ⟨e, _⟩ | ⟨g, cap, cur, e, _⟩
      · exact ⟨_, _, e⟩
      · exact ⟨_, _, e⟩
    have HO : Hid (CutR w lo 9 1 (.slice a 0 c) 0 []) := hO
    clear hO
    go_enter Try.func13, Try.ntmps13
    go_wp2_with fail
    refine wp_loop_rounds 1 ?_
    rw [rounds_succ]
    go_wp2_with fail
    go_ret
    exact ⟨by simp, HO.out, World.grownBy.refl _ _⟩
  · have hpos : 0 < ss.length := List.length_pos_iff.2 h0
    obtain ⟨g, cap, rfl, hg, hgl⟩ := CutR.form hO hpos
    have HO : Hid (CutR w lo 9 1 (.slice (some ⟨g, 0, none⟩) ss.length cap) ss.length (celS ss)) := hO
    clear hO h0
    go_enter Try.func13, Try.ntmps13
    go_wp2_with fail
    go_loopw [1, 5] (fun kk i wr => ∃ (j : Nat), j ≤ ss.length ∧ i = .int .i64 (j : Int) ∧ kk = .int .i64 ((k + j : Nat) : Int) ∧ Hid (CutR wr lo 9 1 (.slice (some ⟨g, 0, none⟩) ss.length cap) ss.length (celS (mkSs k j ++ ss.drop j))) ∧ Hid (w.grownBy wr (some g))) (fun _ i _ => ss.length - (intOf i).toNat)
    case atStart => exact ⟨0, Nat.zero_le _, rfl, by simp, by show CutR _ _ _ _ _ _ _; simpa [mkSs] using HO.out, World.grownBy.refl _ _⟩
    case round =>
      obtain ⟨j, hj, rfl, rfl, HO0, HG0⟩ := hrel
      by_cases hlt : j < ss.length
      · have hlt' : (j : Int) < (ss.length : Int) := by omega
        have hdr : ss.drop j = ss[j] :: ss.drop (j + 1) := List.drop_eq_getElem_cons hlt
        have hset := celS_set (mkSs k j) (ss.drop (j + 1)) ss[j] (mT (k + j)) j (mkSs_len k j)
        rw [← hdr, show mkSs k j ++ mT (k + j) :: ss.drop (j + 1) = mkSs k (j + 1) ++ ss.drop (j + 1) by rw [mkSs_succ]; simp] at hset
        have HSET : Hid ((celS (mkSs k j ++ ss.drop j)).set j (.string (mT (k + j))) = celS (mkSs k (j + 1) ++ ss.drop (j + 1))) := hset
        have HLEN : Hid (j < (celS (mkSs k j ++ ss.drop j)).length) := by show _ < _; rw [celS_len, List.length_append, mkSs_len, List.length_drop]; omega
        have cM := markText_any (k + j) wr (by omega) (by omega)
        clear hset hdr
        go_wp2_with fail
        refine cM.mono ?_
        rintro e9 w1 ⟨rfl, hb9⟩
        have HO1 : Hid (CutR w1 lo 9 1 (.slice (some ⟨g, 0, none⟩) ss.length cap) ss.length (celS (mkSs k j ++ ss.drop j))) := cut_below HO0.out hb9
        have HG1 : Hid (w.grownBy w1 (some g)) := grownBy_below HG0.out hb9
        obtain ⟨z0, hz0⟩ : ∃ z, (celS (mkSs k j ++ ss.drop j))[j]? = some z := ⟨_, List.getElem?_eq_getElem HLEN.out⟩
        obtain ⟨hc0, hf0⟩ := cut_cell HO1.out j z0 hz0
        have HO2 : Hid (CutR (w1.setCell ⟨g, j, none⟩ (.string (mT (k + j)))) lo 9 1 (.slice (some ⟨g, 0, none⟩) ss.length cap) ss.length (celS (mkSs k (j + 1) ++ ss.drop (j + 1)))) := by
          show CutR _ _ _ _ _ _ _
          rw [← HSET.out]
          exact cut_setT HO1.out j _ HLEN.out
        have HG2 : Hid (w.grownBy (w1.setCell ⟨g, j, none⟩ (.string (mT (k + j)))) (some g)) := grownBy_setB HG1.out _ _
        clear hb9 HO0 HG0 cM hz0 HO1 HG1
        go_wp2_with fail
        go_roundw
        case rel => exact ⟨j + 1, hlt, by go_num, by congr 1, HO2, HG2⟩
        case measure => simp [intOf]; omega
      · go_wp2_with fail
        go_ret
        have ej : j = ss.length := by omega
        have := HO0.out
        rw [ej, List.drop_length, List.append_nil] at this
        exact ⟨by rw [ej]; rfl, this, HG0.out⟩
set_option maxHeartbeats 8000000 in
theorem heldSc_any (w : World) (v : Value) (n k lo : Nat) (hV : CutR w lo 9 1 v n (celS (mkSs k n))) (hz : n ≤ 5000000) (k0 : 0 < k) (k1 : k ≤ 10) :
    Calls Try.prog 14 #[v, .int .i64 (k : Int)] w fun e w' => e = .returned (.int .i64 ((k + n : Nat) : Int)) ∧ Below w.heap.size w w' := by
  obtain ⟨a, c, rfl⟩ : ∃ a c, v = .slice a n c := by
    rcases hV.2 with ⟨e, e0⟩ | ⟨g, cap, cur, e, _⟩
    · exact ⟨_, _, by rw [e0]; exact e⟩
    · exact ⟨_, _, e⟩
  have HV : Hid (CutR w lo 9 1 (.slice a n c) n (celS (mkSs k n))) := hV
  clear hV
  go_enter Try.func14, Try.ntmps14
  go_wp2_with fail
  go_loopw [1, 5] (fun kk i wr => ∃ (j : Nat), j ≤ n ∧ i = .int .i64 (j : Int) ∧ kk = .int .i64 ((k + j : Nat) : Int) ∧ Hid (Below w.heap.size w wr)) (fun _ i _ => n - (intOf i).toNat)
  case atStart => exact ⟨0, Nat.zero_le _, rfl, by simp, Below.refl _ _⟩
  case round =>
    obtain ⟨j, hj, rfl, rfl, HB⟩ := hrel
    by_cases hlt : j < n
    · have hlt' : (j : Int) < (n : Int) := by omega
      have HO := cut_below HV.out HB.out
      obtain ⟨g, cap, hgf, _, _⟩ := CutR.form HO (by omega)
      injection hgf with e1 e2 e3
      subst e1
      subst e3
      have hz0 : (celS (mkSs k n))[j]? = some (.string (mT (k + j))) := by
        unfold celS mkSs
        rw [List.getElem?_map, List.getElem?_map, List.getElem?_range hlt]
        rfl
      obtain ⟨hc0, hf0⟩ := cut_cell HO j _ hz0
      have HT : Hid (∀ w', Calls Try.prog 32 #[.int .i64 ((k + j : Nat) : Int)] w' fun e w'' => e = .returned (.string (mT (k + j))) ∧ Below w'.heap.size w' w'') := fun w' => markText_any (k + j) w' (by omega) (by omega)
      have HC : Hid (wr.cell? ⟨g, j, none⟩ = some (.string (mT (k + j)))) := hc0
      have hne : ((mT (k + j)).toList != (mT (k + j)).toList) = false := by simp
      generalize mT (k + j) = X at HT HC hne
      have d3 : ∀ m : Bw wr, m.val.cell? ⟨g, j, none⟩ = some (.string X) := fun m => (m.ok.cell (World.block_lt_of_cell? _ _ HC.out)).trans HC.out
      have hM := Bw.calls (w := wr) (fun w' _ => HT.out w')
      have hnw := Bw.some wr
      clear hz0 HO hf0 hc0
      go_wp2_with fail
      refine wp_region_bw (w0 := wr) (by kernel_rfl) (by kernel_rfl) (Below.refl _ _) ?_
      repeat (go_big_quiet_step ((go_at_call 32; exact hM _)))
      refine wpQuiet_nil ?_
      rintro _ ⟨m, rfl⟩
      have HB1 : Hid (Below w.heap.size w m.val) := HB.out.trans (m.ok.mono HB.out.size)
      generalize m.val = w1 at *
      clear d3 hM hnw
      go_wp2_with fail
      go_roundw
      case rel => exact ⟨j + 1, hlt, by go_num, by congr 1, HB1⟩
      case measure => simp [intOf]; omega
    · go_wp2_with fail
      go_ret
      have ej : j = n := by omega
      exact ⟨by rw [ej]; rfl, HB.out⟩
end Go.Proofs.Ytonhgejfbieanal
