/- Lists of numbers: whether two are alike; marks on one, and finding them again. -/
import Derived.Test.YtepodbjdicnjoaaSks
import Derived.Deep.AppendLies
import Derived.BigQuiet
namespace Go.Proofs.Ytepodbjdicnjoaa
open Go.ChangeShapes Go.WideShapes Go.ChangeAt Go.RowKit
/-- A list of numbers, as it lies. -/
def SlI (w : World) (v : Value) (l : List Nat) : Prop :=
  (l = [] ∧ ∃ a c, v = .slice a 0 c) ∨ (l ≠ [] ∧ ∃ b c, v = .slice (some ⟨b, 0, none⟩) l.length c ∧ b < w.heap.size ∧ ∀ (i n : Nat), l[i]? = some n → w.cell? ⟨b, i, none⟩ = some (.int .i64 (n : Int)))
theorem SlI.sl {w : World} {v : Value} {l : List Nat} (h : SlI w v l) : ∃ a c, v = .slice a l.length c := by
  rcases h with ⟨rfl, a, c, rfl⟩ | ⟨_, b, c, rfl, _⟩
  · exact ⟨a, c, rfl⟩
  · exact ⟨_, c, rfl⟩
theorem SlI.at {w wr : World} {a : Option Addr} {c : Nat} {l : List Nat} (h : SlI w (.slice a l.length c) l) (hb : Below w.heap.size w wr) {k n : Nat} (hx : l[k]? = some n) : ∃ b, a = some ⟨b, 0, none⟩ ∧ wr.cell? ⟨b, k, none⟩ = some (.int .i64 (n : Int)) := by
  rcases h with ⟨e1, _⟩ | ⟨_, b, _, e1, hbl, hcell⟩
  · rw [e1] at hx; simp at hx
  · injection e1 with e1
    exact ⟨b, e1, by rw [hb.cell hbl]; exact hcell k n hx⟩
theorem slI_own {w : World} {lo : Nat} {v : Value} {l : List Nat} (h : w.ownsRow lo 3 1 v l.length (intsV l)) : SlI w v l := by
  by_cases hz : l = []
  · subst hz
    left
    rcases h.2 with ⟨e, _⟩ | ⟨g, cap, cur, e, _⟩
    · exact ⟨rfl, _, _, e⟩
    · exact ⟨rfl, _, _, e⟩
  · right
    have hpos : 0 < l.length := List.length_pos_iff.2 hz
    rcases h.2 with ⟨_, e⟩ | ⟨g, cap, cur, rfl, _, hg, _⟩
    · omega
    · refine ⟨hz, g, cap, rfl, (Array.getElem?_eq_some_iff.1 hg).1, fun i n hi => ?_⟩
      have hx : (intsV l)[i]? = some (.int .i64 (n : Int)) := by unfold intsV; rw [List.getElem?_map, hi]; rfl
      have h1 := h.cells (g := g) rfl i _ hx
      have a1 : (⟨g, 0, none⟩ : Addr).add i = ⟨g, i, none⟩ := by unfold Addr.add; split <;> simp_all
      rw [a1] at h1
      exact h1
set_option maxHeartbeats 4000000 in
theorem eqI_same (v u : Value) (l : List Nat) (w : World) (hV : SlI w v l) (hU : SlI w u l) (hl : l.length ≤ 1048576) :
    Calls Try.prog 17 #[v, u] w fun e w' => e = .returned (.bool true) ∧ Below w.heap.size w w' := by
  obtain ⟨a, c, rfl⟩ := hV.sl
  obtain ⟨a2, c2, rfl⟩ := hU.sl
  have HV : Hid (SlI w (.slice a l.length c) l) := hV
  have HU : Hid (SlI w (.slice a2 l.length c2) l) := hU
  have hl' : (l.length : Int) ≤ 1048576 := by omega
  clear hV hU
  go_enter Try.func17, Try.ntmps17
  go_wp2_with fail
  go_loopw [5] (fun kv wr => ∃ k : Nat, k ≤ l.length ∧ kv = .int .i64 (k : Int) ∧ Hid (Below w.heap.size w wr)) (fun kv _ => l.length - (intOf kv).toNat)
  case atStart => exact ⟨0, Nat.zero_le _, rfl, Below.refl _ _⟩
  case round =>
    obtain ⟨k, hk, rfl, HB⟩ := hrel
    by_cases hlt : k < l.length
    · have hlt' : (k : Int) < (l.length : Int) := by omega
      obtain ⟨n, hn⟩ : ∃ n, l[k]? = some n := ⟨_, List.getElem?_eq_getElem hlt⟩
      obtain ⟨b, rfl, d1⟩ := HV.out.at HB.out hn
      obtain ⟨b2, rfl, d2⟩ := HU.out.at HB.out hn
      have tn : ((n : Int) != (n : Int)) = false := by simp
      clear hn
      go_wp2_with fail
      go_quiet (fail)
      have HB2 : Hid (Below w.heap.size w (wr.drewN nq)) := HB.out.trans ((below_drewN wr _).mono HB.out.size)
      generalize wr.drewN nq = w2 at *
      go_wp2_with fail
      go_roundw
      case rel => exact ⟨k + 1, hlt, by go_num, HB2⟩
      case measure => simp [intOf]; omega
    · obtain rfl : k = l.length := by omega
      have hlt' : ¬ (l.length : Int) < (l.length : Int) := by omega
      go_wp2_with fail
      go_ret
      exact ⟨rfl, HB.out⟩
theorem own_setI {w : World} {lo t size g n cap : Nat} {xs : List Value} (h : w.ownsRow lo t size (.slice (some ⟨g, 0, none⟩) n cap) n xs) (j : Nat) (u : Value) (hj : j < xs.length) :
    (w.setCell ⟨g, j, none⟩ u).ownsRow lo t size (.slice (some ⟨g, 0, none⟩) n cap) n (xs.set j u) := by
  refine ⟨by simpa using h.1, ?_⟩
  rcases h.2 with ⟨e, _⟩ | ⟨g', cap', cur, e, hb, hg, hn, hm, hs, ht⟩
  · cases e
  · injection e with e1 e2 e3
    injection e1 with e1
    injection e1 with e1
    subst e1
    subst e3
    refine .inr ⟨g, cap, cur.setIfInBounds j u, rfl, hb, by simp [World.setCell, Array.getElem?_modify, hg], hn, hm, by simpa using hs, ?_⟩
    rw [← ht]
    apply List.ext_getElem?
    intro i
    rw [List.getElem?_set, List.getElem?_take, Array.toList_setIfInBounds, List.getElem?_set]
    have hl : xs.length = n * size := h.1
    have hcl : n * size ≤ cur.size := by rw [hs]; exact Nat.mul_le_mul_right _ hn
    by_cases e : j = i
    · subst e
      rw [if_pos (by omega), if_pos rfl, if_pos rfl]
      simp only [Array.length_toList, List.length_take]
      rw [if_pos (by omega), if_pos (by omega)]
    · rw [if_neg e, if_neg e, List.getElem?_take]
/-- The marks: one number behind the other. -/
def mksI (k n : Nat) : List Nat := List.range' k n
theorem mksI_len (k n : Nat) : (mksI k n).length = n := by unfold mksI; simp
theorem mksI_at {k n i : Nat} (h : i < n) : (mksI k n)[i]? = some (k + i) := by unfold mksI; rw [List.getElem?_range' h]; simp
theorem mksI_step {k : Nat} {l : List Nat} {j : Nat} (h : j < l.length) : (intsV (mksI k j ++ l.drop j)).set j (.int .i64 ((k + j : Nat) : Int)) = intsV (mksI k (j + 1) ++ l.drop (j + 1)) := by
  have e : l.drop j = l[j] :: l.drop (j + 1) := List.drop_eq_getElem_cons h
  have e2 : mksI k (j + 1) = mksI k j ++ [k + j] := by unfold mksI; rw [List.range'_concat]; simp
  rw [e, e2]
  unfold intsV
  rw [List.map_append, List.map_cons, List.set_append_right _ _ (by simp [mksI])]
  simp [mksI]
set_option maxHeartbeats 4000000 in
theorem markI_any (w : World) (lo : Nat) (v : Value) (l : List Nat) (k : Nat) (hO : w.ownsRow lo 3 1 v l.length (intsV l)) (hl : l.length ≤ 1048576) (hk : k ≤ 1000) :
    Calls Try.prog 19 #[v, .int .i64 (k : Int)] w fun e w' => e = .returned (.int .i64 ((k + l.length : Nat) : Int)) ∧ w'.ownsRow lo 3 1 v l.length (intsV (mksI k l.length)) ∧ w.grownBy w' v.ownBlock := by
  by_cases h0 : l = []
  · subst h0
    obtain ⟨a, c, rfl⟩ : ∃ a c, v = .slice a 0 c := by
      rcases hO.2 with ⟨e, _⟩ | ⟨g, cap, cur, e, _⟩
      · exact ⟨_, _, e⟩
      · exact ⟨_, _, e⟩
    have HO : Hid (w.ownsRow lo 3 1 (.slice a 0 c) 0 []) := hO
    clear hO
    go_enter Try.func19, Try.ntmps19
    go_wp2_with fail
    refine wp_loop_rounds 1 ?_
    rw [rounds_succ]
    go_wp2_with fail
    go_ret
    exact ⟨by simp, HO.out, ⟨rfl, rfl, rfl, Nat.le_refl _, fun _ _ _ => rfl⟩⟩
  · have hpos : 0 < l.length := List.length_pos_iff.2 h0
    obtain ⟨g, cap, rfl, hg, hgl⟩ := World.ownsRow.form hO hpos
    have HO : Hid (w.ownsRow lo 3 1 (.slice (some ⟨g, 0, none⟩) l.length cap) l.length (intsV l)) := hO
    have hk' : (k : Int) ≤ 1000 := by omega
    have hl' : (l.length : Int) ≤ 1048576 := by omega
    clear hO h0
    go_enter Try.func19, Try.ntmps19
    go_wp2_with fail
    go_loopw [1, 5] (fun kk i wr => ∃ (j : Nat), j ≤ l.length ∧ i = .int .i64 (j : Int) ∧ kk = .int .i64 ((k + j : Nat) : Int) ∧ Hid (wr.ownsRow lo 3 1 (.slice (some ⟨g, 0, none⟩) l.length cap) l.length (intsV (mksI k j ++ l.drop j))) ∧ w.grownBy wr (some g)) (fun _ i _ => l.length - (intOf i).toNat)
    case atStart => exact ⟨0, Nat.zero_le _, rfl, by simp, by show World.ownsRow _ _ _ _ _ _ _; simpa [mksI] using HO.out, ⟨rfl, rfl, rfl, Nat.le_refl _, fun _ _ _ => rfl⟩⟩
    case round =>
      obtain ⟨j, hj, rfl, rfl, HR, hgr⟩ := hrel
      by_cases hlt : j < l.length
      · have hlt' : (j : Int) < (l.length : Int) := by omega
        have hlen : (intsV (mksI k j ++ l.drop j)).length = l.length := by simp [intsV, mksI]; omega
        have hc0 := HR.out.cells (g := g) rfl j ((intsV (mksI k j ++ l.drop j))[j]'(by omega)) (by simp)
        have hadd : (⟨g, 0, none⟩ : Addr).add j = ⟨g, j, none⟩ := by unfold Addr.add; split <;> simp_all
        rw [hadd] at hc0
        obtain ⟨zc, hcd⟩ : ∃ zc, wr.cell? ⟨g, j, none⟩ = some zc := ⟨_, hc0⟩
        have hfd : wr.frozen? ⟨g, j, none⟩ = false := by
          rcases HR.out.2 with ⟨e, _⟩ | ⟨g', cap', cur, e, _, hgg, _⟩
          · cases e
          · injection e with e1 _ _
            injection e1 with e1
            injection e1 with e1
            subst e1
            simp [World.frozen?, hgg]
        obtain ⟨m, hm⟩ : ∃ m, k + j = m := ⟨_, rfl⟩
        have HM : Hid (k + j = m) := hm
        have hml : (m : Int) ≤ 2000000 := by omega
        rw [hm]
        clear hc0 hadd hm
        go_wp2_with fail
        go_roundw
        case rel =>
          refine ⟨j + 1, hlt, by go_num, by have := HM.out; rw [← Nat.add_assoc, this]; go_num, ?_, ?_⟩
          · have := own_setI HR.out j (.int .i64 ((k + j : Nat) : Int)) (by omega)
            rw [mksI_step hlt, HM.out] at this
            exact this
          · exact ⟨hgr.os, hgr.tape, hgr.output, by simp [World.setCell]; exact hgr.size, fun i hi hne => by rw [Below.heap_setCell _ _ _ _ (fun e => hne (by rw [e]))]; exact hgr.block i hi hne⟩
        case measure => simp [intOf]; omega
      · go_wp2_with fail
        go_ret
        have ej : j = l.length := by omega
        have := HR.out
        rw [ej, List.drop_length, List.append_nil] at this
        exact ⟨by rw [ej]; rfl, this, hgr⟩
set_option maxHeartbeats 4000000 in
theorem heldI_any (w : World) (v : Value) (n k : Nat) (hV : SlI w v (mksI k n)) (hl : n ≤ 1048576) (hk : k ≤ 1000) :
    Calls Try.prog 20 #[v, .int .i64 (k : Int)] w fun e w' => e = .returned (.int .i64 ((k + n : Nat) : Int)) ∧ Below w.heap.size w w' := by
  obtain ⟨a, c, rfl⟩ := hV.sl
  have HV : Hid (SlI w (.slice a (mksI k n).length c) (mksI k n)) := hV
  rw [mksI_len]
  have hk' : (k : Int) ≤ 1000 := by omega
  have hl' : (n : Int) ≤ 1048576 := by omega
  clear hV
  go_enter Try.func20, Try.ntmps20
  go_wp2_with fail
  go_loopw [1, 5] (fun kk i wr => ∃ (j : Nat), j ≤ n ∧ i = .int .i64 (j : Int) ∧ kk = .int .i64 ((k + j : Nat) : Int) ∧ Hid (Below w.heap.size w wr)) (fun _ i _ => n - (intOf i).toNat)
  case atStart => exact ⟨0, Nat.zero_le _, rfl, by simp, Below.refl _ _⟩
  case round =>
    obtain ⟨j, hj, rfl, rfl, HB⟩ := hrel
    by_cases hlt : j < n
    · have hlt' : (j : Int) < (n : Int) := by omega
      obtain ⟨b, rfl, d1⟩ := HV.out.at HB.out (mksI_at (k := k) hlt)
      obtain ⟨m, hm⟩ : ∃ m, k + j = m := ⟨_, rfl⟩
      have HM : Hid (k + j = m) := hm
      have hml : (m : Int) ≤ 2000000 := by omega
      rw [hm] at d1 ⊢
      have tm : ((m : Int) != (m : Int)) = false := by simp
      clear hm
      go_wp2_with fail
      go_roundw
      case rel => exact ⟨j + 1, hlt, by go_num, by have := HM.out; rw [← Nat.add_assoc, this]; go_num, HB⟩
      case measure => simp [intOf]; omega
    · obtain rfl : j = n := by omega
      have hlt' : ¬ (j : Int) < (j : Int) := by omega
      go_wp2_with fail
      go_ret
      exact ⟨rfl, HB.out⟩
end Go.Proofs.Ytepodbjdicnjoaa
