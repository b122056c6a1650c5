/- Marking the events of a list that the call owns, and finding the marks again. -/
import Derived.Test.YtgaibajkegfpoaaDoorTmt
import Derived.Test.YtgaibajkegfpoaaDoorZqj
import Derived.Lib.BufferOwn
import Derived.Test.YtgaibajkegfpoaaDoorBwr
namespace Go.Proofs.YtgaibajkegfpoaaDoor
open Go.ChangeShapes Go.WideShapes Go.ChangeAt Go.RowKit
open Go.Lib (grownBy_setB grownBy_below)
theorem own_setE {w : World} {lo t size g n cap : Nat} {xs : List Value} (h : w.ownsRow lo t size (.slice (some ⟨g, 0, none⟩) n cap) n xs) (j : Nat) (u : Value) (hj : j < xs.length) :
    (w.setCell ⟨g, j, none⟩ u).ownsRow lo t size (.slice (some ⟨g, 0, none⟩) n cap) n (xs.set j u) := by
  refine ⟨by simpa using h.1, ?_⟩
  rcases h.2 with ⟨e, _⟩ | ⟨g', cap', cur, e, hb, hg, hn, hm, hs, ht⟩
  · cases e
  · injection e with e1 e2 e3
    injection e1 with e1
    injection e1 with e1
    subst e1
    subst e3
    refine .inr ⟨g, cap, cur.setIfInBounds j u, rfl, hb, by simp [World.setCell, Array.getElem?_modify, hg], hn, hm, by simpa using hs, ?_⟩
    rw [← ht]
    apply List.ext_getElem?
    intro i
    rw [List.getElem?_set, List.getElem?_take, Array.toList_setIfInBounds, List.getElem?_set]
    have hl : xs.length = n * size := h.1
    have hcl : n * size ≤ cur.size := by rw [hs]; exact Nat.mul_le_mul_right _ hn
    by_cases e : j = i
    · subst e
      rw [if_pos (by omega), if_pos rfl, if_pos rfl]
      simp only [Array.length_toList, List.length_take]
      rw [if_pos (by omega), if_pos (by omega)]
    · rw [if_neg e, if_neg e, List.getElem?_take]
/-- The event that marks the place j, the first number being k. -/
def mkE (k j : Nat) : Ev := { kind := ((k + 8 * j : Nat) : Int), style := ((k + 8 * j + 1 : Nat) : Int), flag := (k + 8 * j + 2) % 3 == 0, text := mT (k + 8 * j + 3), anchor := mT (k + 8 * j + 4), tag := mT (k + 8 * j + 5), at_ := ((k + 8 * j + 6 : Nat) : Int), code := ((k + 8 * j + 7 : Nat) : Int) }
def mkEs (k n : Nat) : List Ev := (List.range n).map (mkE k)
theorem mkEs_len (k n : Nat) : (mkEs k n).length = n := by simp [mkEs]
theorem mkEs_succ (k n : Nat) : mkEs k (n + 1) = mkEs k n ++ [mkE k n] := by simp [mkEs, List.range_succ]
theorem rowsE_len : ∀ es : List Ev, (rowsE es).length = 8 * es.length
  | [] => rfl
  | e :: t => by
    have := rowsE_len t
    have e1 : rowsE (e :: t) = e.row.toList ++ rowsE t := rfl
    rw [e1, List.length_append, this, List.length_cons]
    show 8 + _ = _
    omega
theorem rowsE_app (a b : List Ev) : rowsE (a ++ b) = rowsE a ++ rowsE b := by unfold rowsE; rw [List.flatMap_append]
/-- Eight cells set: one event for another. -/
theorem rows_set8 {a c : List Ev} {e : Ev} {n : Nat} (hn : a.length * 8 = n) (f : Ev) :
    ((((((((rowsE (a ++ e :: c)).set n (.int .i64 f.kind)).set (n + 1) (.int .i64 f.style)).set (n + 2) (.bool f.flag)).set (n + 3) (.string f.text)).set (n + 4) (.string f.anchor)).set (n + 5) (.string f.tag)).set (n + 6) (.int .i64 f.at_)).set (n + 7) (.int .i64 f.code) = rowsE (a ++ f :: c) := by
  have hl : (rowsE a).length = n := by rw [rowsE_len, ← hn]; omega
  have e1 : rowsE (a ++ e :: c) = rowsE a ++ (.int .i64 e.kind :: .int .i64 e.style :: .bool e.flag :: .string e.text :: .string e.anchor :: .string e.tag :: .int .i64 e.at_ :: .int .i64 e.code :: rowsE c) := by rw [rowsE_app]; rfl
  have e2 : rowsE (a ++ f :: c) = rowsE a ++ (.int .i64 f.kind :: .int .i64 f.style :: .bool f.flag :: .string f.text :: .string f.anchor :: .string f.tag :: .int .i64 f.at_ :: .int .i64 f.code :: rowsE c) := by rw [rowsE_app]; rfl
  rw [e1, e2]
  have st : ∀ (xs : List Value) (i : Nat) (u : Value), (rowsE a ++ xs).set (n + i) u = rowsE a ++ xs.set i u := fun xs i u => by
    rw [List.set_append_right _ _ (by omega), show n + i - (rowsE a).length = i by omega]
  have st0 : ∀ (xs : List Value) (u : Value), (rowsE a ++ xs).set n u = rowsE a ++ xs.set 0 u := fun xs u => st xs 0 u
  rw [st0, st, st, st, st, st, st, st]
  rfl
theorem row_cell {w : World} {lo g n cap : Nat} {xs : List Value} (h : w.ownsRow lo 44 8 (.slice (some ⟨g, 0, none⟩) n cap) n xs) (i : Nat) (hi : i < xs.length) : (∃ z, w.cell? ⟨g, i, none⟩ = some z) ∧ w.frozen? ⟨g, i, none⟩ = false := by
  constructor
  · have := h.cells (g := g) rfl i (xs[i]'hi) (by simp)
    have hadd : (⟨g, 0, none⟩ : Addr).add i = ⟨g, i, none⟩ := by unfold Addr.add; split <;> simp_all
    rw [hadd] at this
    exact ⟨_, this⟩
  · rcases h.2 with ⟨e, _⟩ | ⟨g', cap', cur, e, _, hgg, _⟩
    · cases e
    · injection e with e1 _ _
      injection e1 with e1
      injection e1 with e1
      subst e1
      simp [World.frozen?, hgg]
theorem row_below {w w' : World} {lo e sz : Nat} {v : Value} {n : Nat} {xs : List Value} (h : w.ownsRow lo e sz v n xs) (hb : Below w.heap.size w w') : w'.ownsRow lo e sz v n xs := row_same h (fun k _ hk => hb.block k hk)
theorem row_lt {w : World} {lo e sz g n cap : Nat} {xs : List Value} (h : w.ownsRow lo e sz (.slice (some ⟨g, 0, none⟩) n cap) n xs) : lo ≤ g ∧ g < w.heap.size := h.lt g rfl
set_option maxHeartbeats 16000000 in
theorem markEs_any (w : World) (lo : Nat) (v : Value) (es : List Ev) (k : Nat) (hO : w.ownsRow lo 44 8 v es.length (rowsE es)) (hz : es.length ≤ 5000000) (k0 : 0 < k) (k1 : k ≤ 10) :
    Calls Tryd.prog 11 #[v, .int .i64 (k : Int)] w fun e w' => e = .returned (.int .i64 ((k + 8 * es.length : Nat) : Int)) ∧ w'.ownsRow lo 44 8 v es.length (rowsE (mkEs k es.length)) ∧ w.grownBy w' v.ownBlock := by
  by_cases h0 : es = []
  · subst h0
    obtain ⟨a, c, rfl⟩ : ∃ a c, v = .slice a 0 c := by
      rcases hO.2 with ⟨e, _⟩ | ⟨g, cap, cur, e, _⟩
      · exact ⟨_, _, e⟩
      · exact ⟨_, _, e⟩
    have HO : Hid (w.ownsRow lo 44 8 (.slice a 0 c) 0 []) := hO
    clear hO
    go_enter Tryd.func11, Tryd.ntmps11
    go_wp2_with fail
    refine wp_loop_rounds 1 ?_
    rw [rounds_succ]
    go_wp2_with fail
    go_ret
    exact ⟨by simp, HO.out, World.grownBy.refl _ _⟩
  · have hpos : 0 < es.length := List.length_pos_iff.2 h0
    obtain ⟨g, cap, rfl, hg, hgl⟩ := World.ownsRow.form hO hpos
    have HO : Hid (w.ownsRow lo 44 8 (.slice (some ⟨g, 0, none⟩) es.length cap) es.length (rowsE es)) := hO
    clear hO h0
    go_enter Tryd.func11, Tryd.ntmps11
    go_wp2_with fail
    go_loopw [1, 5] (fun kk i wr => ∃ (j : Nat), j ≤ es.length ∧ i = .int .i64 (j : Int) ∧ kk = .int .i64 ((k + 8 * j : Nat) : Int) ∧ Hid (wr.ownsRow lo 44 8 (.slice (some ⟨g, 0, none⟩) es.length cap) es.length (rowsE (mkEs k j ++ es.drop j))) ∧ Hid (w.grownBy wr (some g))) (fun _ i _ => es.length - (intOf i).toNat)
    case atStart => exact ⟨0, Nat.zero_le _, rfl, by simp, by show World.ownsRow _ _ _ _ _ _ _; simpa [mkEs] using HO.out, World.grownBy.refl _ _⟩
    case round =>
      obtain ⟨j, hj, rfl, rfl, HO0, HG0⟩ := hrel
      by_cases hlt : j < es.length
      · have hlt' : (j : Int) < (es.length : Int) := by omega
        have hlen : (rowsE (mkEs k j ++ es.drop j)).length = 8 * es.length := by rw [rowsE_len, List.length_append, mkEs_len, List.length_drop]; congr 1; omega
        have hdr : es.drop j = es[j] :: es.drop (j + 1) := List.drop_eq_getElem_cons hlt
        obtain ⟨xs, hxs⟩ : ∃ xs, rowsE (mkEs k j ++ es.drop j) = xs := ⟨_, rfl⟩
        rw [hxs] at hlen HO0
        have hfin := rows_set8 (a := mkEs k j) (c := es.drop (j + 1)) (e := es[j]) (n := j * 8) (by rw [mkEs_len]) (mkE k j)
        rw [← hdr, hxs, show mkEs k j ++ mkE k j :: es.drop (j + 1) = mkEs k (j + 1) ++ es.drop (j + 1) by rw [mkEs_succ]; simp] at hfin
        have HLN : Hid (xs.length = 8 * es.length) := hlen
        have HLT : Hid (j < es.length) := hlt
        clear hlen hdr hxs
        obtain ⟨K, hK⟩ : ∃ K, k + 8 * j = K := ⟨_, rfl⟩
        have HK : Hid (k + 8 * j = K) := hK
        have hK1 : K ≤ 40000010 := by omega
        have hK0 : 0 < K := by omega
        rw [hK]
        have HFIN : Hid (((((((((xs.set (j * 8) (.int .i64 (K : Int))).set (j * 8 + 1) (.int .i64 ((K : Int) + 1))).set (j * 8 + 2) (.bool (((K : Int) + 1 + 1) % 3 == 0))).set (j * 8 + 3) (.string (mT (K + 3)))).set (j * 8 + 4) (.string (mT (K + 4)))).set (j * 8 + 5) (.string (mT (K + 5)))).set (j * 8 + 6) (.int .i64 ((K : Int) + 1 + 1 + 1 + 1 + 1 + 1))).set (j * 8 + 7) (.int .i64 ((K : Int) + 1 + 1 + 1 + 1 + 1 + 1 + 1))) = rowsE (mkEs k (j + 1) ++ es.drop (j + 1))) := by
          show _ = _
          rw [← hfin]
          have e1 : (mkE k j).kind = (K : Int) := by rw [← hK]; rfl
          have e2 : (mkE k j).style = (K : Int) + 1 := by rw [← hK]; rfl
          have e3 : (mkE k j).flag = (((K : Int) + 1 + 1) % 3 == 0) := by
            rw [← hK]
            show ((k + 8 * j + 2) % 3 == 0) = _
            rw [Bool.eq_iff_iff]
            simp
            omega
          have e4 : (mkE k j).text = mT (K + 3) := by rw [← hK]; rfl
          have e5 : (mkE k j).anchor = mT (K + 4) := by rw [← hK]; rfl
          have e6 : (mkE k j).tag = mT (K + 5) := by rw [← hK]; rfl
          have e7 : (mkE k j).at_ = (K : Int) + 1 + 1 + 1 + 1 + 1 + 1 := by rw [← hK]; show ((k + 8 * j + 6 : Nat) : Int) = _; omega
          have e8 : (mkE k j).code = (K : Int) + 1 + 1 + 1 + 1 + 1 + 1 + 1 := by rw [← hK]; show ((k + 8 * j + 7 : Nat) : Int) = _; omega
          rw [e1, e2, e3, e4, e5, e6, e7, e8]
        clear hfin
        have c3 : Hid (∀ (q : Int) (_ : q = ((K + 3 : Nat) : Int)) (w' : World), Calls Tryd.prog 29 #[.int .i64 q] w' fun e w'' => e = .returned (.string (mT (K + 3))) ∧ Below w'.heap.size w' w'') := fun q hq w' => by rw [hq]; exact markText_any (K + 3) w' (by omega) (by omega)
        have c4 : Hid (∀ (q : Int) (_ : q = ((K + 4 : Nat) : Int)) (w' : World), Calls Tryd.prog 29 #[.int .i64 q] w' fun e w'' => e = .returned (.string (mT (K + 4))) ∧ Below w'.heap.size w' w'') := fun q hq w' => by rw [hq]; exact markText_any (K + 4) w' (by omega) (by omega)
        have c5 : Hid (∀ (q : Int) (_ : q = ((K + 5 : Nat) : Int)) (w' : World), Calls Tryd.prog 29 #[.int .i64 q] w' fun e w'' => e = .returned (.string (mT (K + 5))) ∧ Below w'.heap.size w' w'') := fun q hq w' => by rw [hq]; exact markText_any (K + 5) w' (by omega) (by omega)
        obtain ⟨⟨z0, hz0⟩, hf0⟩ := row_cell HO0.out (j * 8) (by (try simp only [List.length_set]); have h1 := HLN.out; have h2 := HLT.out; omega)
        obtain ⟨⟨z1, hz1⟩, hf1⟩ := row_cell HO0.out (j * 8 + 1) (by (try simp only [List.length_set]); have h1 := HLN.out; have h2 := HLT.out; omega)
        obtain ⟨⟨z2, hz2⟩, hf2⟩ := row_cell HO0.out (j * 8 + 2) (by (try simp only [List.length_set]); have h1 := HLN.out; have h2 := HLT.out; omega)
        clear hK k0 k1 hj
        go_wp2_with fail
        refine (c3.out _ (by omega) _).mono ?_
        rintro e9 w1 ⟨rfl, hb9⟩
        have HO1 : Hid (w1.ownsRow lo 44 8 (.slice (some ⟨g, 0, none⟩) es.length cap) es.length (((xs.set (j * 8) (.int .i64 (K : Int))).set (j * 8 + 1) (.int .i64 ((K : Int) + 1))).set (j * 8 + 2) (.bool (((K : Int) + 1 + 1) % 3 == 0)))) := row_below (own_setE (own_setE (own_setE HO0.out (j * 8) (.int .i64 (K : Int)) (by (try simp only [List.length_set]); have h1 := HLN.out; have h2 := HLT.out; omega)) (j * 8 + 1) (.int .i64 ((K : Int) + 1)) (by (try simp only [List.length_set]); have h1 := HLN.out; have h2 := HLT.out; omega)) (j * 8 + 2) (.bool (((K : Int) + 1 + 1) % 3 == 0)) (by (try simp only [List.length_set]); have h1 := HLN.out; have h2 := HLT.out; omega)) hb9
        have HG1 : Hid (w.grownBy w1 (some g)) := grownBy_below (grownBy_setB (grownBy_setB (grownBy_setB HG0.out _ _) _ _) _ _) hb9
        clear hb9 HO0 HG0 hz0 hf0 hz1 hf1 hz2 hf2
        obtain ⟨⟨z3, hz3⟩, hf3⟩ := row_cell HO1.out (j * 8 + 3) (by (try simp only [List.length_set]); have h1 := HLN.out; have h2 := HLT.out; omega)
        go_wp2_with fail
        refine (c4.out _ (by omega) _).mono ?_
        rintro e9 w2 ⟨rfl, hb9⟩
        have HO2 : Hid (w2.ownsRow lo 44 8 (.slice (some ⟨g, 0, none⟩) es.length cap) es.length ((((xs.set (j * 8) (.int .i64 (K : Int))).set (j * 8 + 1) (.int .i64 ((K : Int) + 1))).set (j * 8 + 2) (.bool (((K : Int) + 1 + 1) % 3 == 0))).set (j * 8 + 3) (.string (mT (K + 3))))) := row_below (own_setE HO1.out (j * 8 + 3) (.string (mT (K + 3))) (by (try simp only [List.length_set]); have h1 := HLN.out; have h2 := HLT.out; omega)) hb9
        have HG2 : Hid (w.grownBy w2 (some g)) := grownBy_below (grownBy_setB HG1.out _ _) hb9
        clear hb9 HO1 HG1 hz3 hf3
        obtain ⟨⟨z4, hz4⟩, hf4⟩ := row_cell HO2.out (j * 8 + 4) (by (try simp only [List.length_set]); have h1 := HLN.out; have h2 := HLT.out; omega)
        go_wp2_with fail
        refine (c5.out _ (by omega) _).mono ?_
        rintro e9 w3 ⟨rfl, hb9⟩
        have HO3 : Hid (w3.ownsRow lo 44 8 (.slice (some ⟨g, 0, none⟩) es.length cap) es.length (((((xs.set (j * 8) (.int .i64 (K : Int))).set (j * 8 + 1) (.int .i64 ((K : Int) + 1))).set (j * 8 + 2) (.bool (((K : Int) + 1 + 1) % 3 == 0))).set (j * 8 + 3) (.string (mT (K + 3)))).set (j * 8 + 4) (.string (mT (K + 4))))) := row_below (own_setE HO2.out (j * 8 + 4) (.string (mT (K + 4))) (by (try simp only [List.length_set]); have h1 := HLN.out; have h2 := HLT.out; omega)) hb9
        have HG3 : Hid (w.grownBy w3 (some g)) := grownBy_below (grownBy_setB HG2.out _ _) hb9
        clear hb9 HO2 HG2 hz4 hf4
        obtain ⟨⟨z5, hz5⟩, hf5⟩ := row_cell HO3.out (j * 8 + 5) (by (try simp only [List.length_set]); have h1 := HLN.out; have h2 := HLT.out; omega)
        obtain ⟨⟨z6, hz6⟩, hf6⟩ := row_cell HO3.out (j * 8 + 6) (by (try simp only [List.length_set]); have h1 := HLN.out; have h2 := HLT.out; omega)
        obtain ⟨⟨z7, hz7⟩, hf7⟩ := row_cell HO3.out (j * 8 + 7) (by (try simp only [List.length_set]); have h1 := HLN.out; have h2 := HLT.out; omega)
        go_wp2_with fail
        have HO4 := (own_setE (own_setE (own_setE HO3.out (j * 8 + 5) (.string (mT (K + 5))) (by (try simp only [List.length_set]); have h1 := HLN.out; have h2 := HLT.out; omega)) (j * 8 + 6) (.int .i64 ((K : Int) + 1 + 1 + 1 + 1 + 1 + 1)) (by (try simp only [List.length_set]); have h1 := HLN.out; have h2 := HLT.out; omega)) (j * 8 + 7) (.int .i64 ((K : Int) + 1 + 1 + 1 + 1 + 1 + 1 + 1)) (by (try simp only [List.length_set]); have h1 := HLN.out; have h2 := HLT.out; omega))
        rw [HFIN.out] at HO4
        have HG4 := grownBy_setB (grownBy_setB (grownBy_setB HG3.out (j * 8 + 5) (.string (mT (K + 5)))) (j * 8 + 6) (.int .i64 ((K : Int) + 1 + 1 + 1 + 1 + 1 + 1))) (j * 8 + 7) (.int .i64 ((K : Int) + 1 + 1 + 1 + 1 + 1 + 1 + 1))
        have HQ4 : Hid (_ ∧ _) := ⟨HO4, HG4⟩
        clear HO4 HG4 HO3 HG3 hz5 hf5 hz6 hf6 hz7 hf7
        go_roundw
        case rel => exact ⟨j + 1, hlt, by go_num, by congr 1; have := HK.out; omega, HQ4.out.1, HQ4.out.2⟩
        case measure => simp [intOf]; omega
      · go_wp2_with fail
        go_ret
        have ej : j = es.length := by omega
        have := HO0.out
        rw [ej, List.drop_length, List.append_nil] at this
        exact ⟨by rw [ej]; rfl, this, HG0.out⟩
set_option maxRecDepth 100000 in
set_option maxHeartbeats 16000000 in
theorem heldEs_any (w : World) (v : Value) (n k : Nat) (hV : SlE w v (mkEs k n)) (hz : n ≤ 5000000) (k0 : 0 < k) (k1 : k ≤ 10) :
    Calls Tryd.prog 12 #[v, .int .i64 (k : Int)] w fun e w' => e = .returned (.int .i64 ((k + 8 * n : Nat) : Int)) ∧ Below w.heap.size w w' := by
  obtain ⟨a, c, rfl⟩ := hV.sl
  have HV : Hid (SlE w (.slice a (mkEs k n).length c) (mkEs k n)) := hV
  have hml := mkEs_len k n
  clear hV
  rw [hml]
  go_enter Tryd.func12, Tryd.ntmps12
  go_wp2_with fail
  go_loopw [1, 5] (fun kk i wr => ∃ (j : Nat), j ≤ n ∧ i = .int .i64 (j : Int) ∧ kk = .int .i64 ((k + 8 * j : Nat) : Int) ∧ Hid (Below w.heap.size w wr)) (fun _ i _ => n - (intOf i).toNat)
  case atStart => exact ⟨0, Nat.zero_le _, rfl, by simp, Below.refl _ _⟩
  case round =>
    obtain ⟨j, hj, rfl, rfl, HB0⟩ := hrel
    by_cases hlt : j < n
    · have hlt' : (j : Int) < (n : Int) := by omega
      have hx : (mkEs k n)[j]? = some (mkE k j) := by unfold mkEs; rw [List.getElem?_map, List.getElem?_range hlt]; rfl
      obtain ⟨b, off, rfl, hbl, _⟩ := HV.out.at (Below.refl _ _) hx
      have HEV : Hid (∀ wx, Below w.heap.size w wx → EvAt wx b (off + j * 8) (mkE k j)) := fun wx hb => by
        obtain ⟨_, _, e1, _, h1⟩ := HV.out.at hb hx
        injection e1 with e1
        injection e1 with e1 e2
        subst e1
        subst e2
        exact h1
      obtain ⟨K, hK⟩ : ∃ K, k + 8 * j = K := ⟨_, rfl⟩
      have HK : Hid (k + 8 * j = K) := hK
      have hK1 : K ≤ 40000010 := by omega
      have hK0 : 0 < K := by omega
      have e1 : (mkE k j).kind = (K : Int) := by rw [← hK]; rfl
      have e2 : (mkE k j).style = (K : Int) + 1 := by rw [← hK]; rfl
      have e3 : (mkE k j).flag = (((K : Int) + 1 + 1) % 3 == 0) := by
        rw [← hK]
        show ((k + 8 * j + 2) % 3 == 0) = _
        rw [Bool.eq_iff_iff]
        simp
        omega
      have e4 : (mkE k j).text = mT (K + 3) := by rw [← hK]; rfl
      have e5 : (mkE k j).anchor = mT (K + 4) := by rw [← hK]; rfl
      have e6 : (mkE k j).tag = mT (K + 5) := by rw [← hK]; rfl
      have e7 : (mkE k j).at_ = (K : Int) + 1 + 1 + 1 + 1 + 1 + 1 := by rw [← hK]; show ((k + 8 * j + 6 : Nat) : Int) = _; omega
      have e8 : (mkE k j).code = (K : Int) + 1 + 1 + 1 + 1 + 1 + 1 + 1 := by rw [← hK]; show ((k + 8 * j + 7 : Nat) : Int) = _; omega
      have HC : Hid (∀ wx, Below w.heap.size w wx → wx.cell? ⟨b, off + j * 8, none⟩ = some (.int .i64 (K : Int)) ∧ wx.cell? ⟨b, off + j * 8 + 1, none⟩ = some (.int .i64 ((K : Int) + 1)) ∧ wx.cell? ⟨b, off + j * 8 + 2, none⟩ = some (.bool (((K : Int) + 1 + 1) % 3 == 0)) ∧ wx.cell? ⟨b, off + j * 8 + 3, none⟩ = some (.string (mT (K + 3))) ∧ wx.cell? ⟨b, off + j * 8 + 4, none⟩ = some (.string (mT (K + 4))) ∧ wx.cell? ⟨b, off + j * 8 + 5, none⟩ = some (.string (mT (K + 5))) ∧ wx.cell? ⟨b, off + j * 8 + 6, none⟩ = some (.int .i64 ((K : Int) + 1 + 1 + 1 + 1 + 1 + 1)) ∧ wx.cell? ⟨b, off + j * 8 + 7, none⟩ = some (.int .i64 ((K : Int) + 1 + 1 + 1 + 1 + 1 + 1 + 1))) := fun wx hb => by
        have h := HEV.out wx hb
        exact ⟨e1 ▸ h.c0, e2 ▸ h.c1, e3 ▸ h.c2, e4 ▸ h.c3, e5 ▸ h.c4, e6 ▸ h.c5, e7 ▸ h.c6, e8 ▸ h.c7⟩
      have hfl : ((((K : Int) + 1 + 1) % 3 == 0) != (((K : Int) + 1 + 1) % 3 == 0)) = false := by simp
      generalize hfb : (((K : Int) + 1 + 1) % 3 == 0) = fb at HC hfl
      have HFB : Hid ((((K : Int) + 1 + 1) % 3 == 0) = fb) := hfb
      clear e1 e2 e3 e4 e5 e6 e7 e8 HEV hx hbl
      rw [hK]
      have c3 : Hid (∀ w', Calls Tryd.prog 29 #[.int .i64 ((K : Int) + 1 + 1 + 1)] w' fun e w'' => e = .returned (.string (mT (K + 3))) ∧ Below w'.heap.size w' w'') := fun w' => markText_any (K + 3) w' (by omega) (by omega)
      have c4 : Hid (∀ w', Calls Tryd.prog 29 #[.int .i64 ((K : Int) + 1 + 1 + 1 + 1)] w' fun e w'' => e = .returned (.string (mT (K + 4))) ∧ Below w'.heap.size w' w'') := fun w' => markText_any (K + 4) w' (by omega) (by omega)
      have c5 : Hid (∀ w', Calls Tryd.prog 29 #[.int .i64 ((K : Int) + 1 + 1 + 1 + 1 + 1)] w' fun e w'' => e = .returned (.string (mT (K + 5))) ∧ Below w'.heap.size w' w'') := fun w' => markText_any (K + 5) w' (by omega) (by omega)
      have t6 : ((K : Int) != (K : Int)) = false := by simp
      obtain ⟨q0, q1, q2, _, _, _, _, _⟩ := HC.out wr HB0.out
      clear hK k0 k1 hj hml
      have d3 : ∀ m : Bw wr, m.val.cell? ⟨b, off + j * 8 + 3, none⟩ = some (.string (mT (K + 3))) := fun m => (HC.out m.val (HB0.out.trans (m.ok.mono HB0.out.size))).2.2.2.1
      have hM := Bw.calls (w := wr) (fun w' _ => c3.out w')
      have hne := Bw.some wr
      have ts : ((mT (K + 3)).toList != (mT (K + 3)).toList) = false := by simp
      go_wp2_with fail
      refine wp_region_bw (w0 := wr) (by kernel_rfl) (by kernel_rfl) (Below.refl _ _) ?_
      repeat (go_big_quiet_step ((go_at_call 29; exact hM _)))
      refine wpQuiet_nil ?_
      rintro _ ⟨m, rfl⟩
      have HB1 : Hid (Below w.heap.size w m.val) := HB0.out.trans (m.ok.mono HB0.out.size)
      generalize m.val = w1 at *
      clear d3 hM hne HB0 ts
      clear q0 q1 q2
      have d4 : ∀ m : Bw w1, m.val.cell? ⟨b, off + j * 8 + 4, none⟩ = some (.string (mT (K + 4))) := fun m => (HC.out m.val (HB1.out.trans (m.ok.mono HB1.out.size))).2.2.2.2.1
      have hM := Bw.calls (w := w1) (fun w' _ => c4.out w')
      have hne := Bw.some w1
      have ts : ((mT (K + 4)).toList != (mT (K + 4)).toList) = false := by simp
      go_wp2_with fail
      refine wp_region_bw (w0 := w1) (by kernel_rfl) (by kernel_rfl) (Below.refl _ _) ?_
      repeat (go_big_quiet_step ((go_at_call 29; exact hM _)))
      refine wpQuiet_nil ?_
      rintro _ ⟨m, rfl⟩
      have HB2 : Hid (Below w.heap.size w m.val) := HB1.out.trans (m.ok.mono HB1.out.size)
      generalize m.val = w2 at *
      clear d4 hM hne HB1 ts
      have d5 : ∀ m : Bw w2, m.val.cell? ⟨b, off + j * 8 + 5, none⟩ = some (.string (mT (K + 5))) := fun m => (HC.out m.val (HB2.out.trans (m.ok.mono HB2.out.size))).2.2.2.2.2.1
      have hM := Bw.calls (w := w2) (fun w' _ => c5.out w')
      have hne := Bw.some w2
      have ts : ((mT (K + 5)).toList != (mT (K + 5)).toList) = false := by simp
      go_wp2_with fail
      refine wp_region_bw (w0 := w2) (by kernel_rfl) (by kernel_rfl) (Below.refl _ _) ?_
      repeat (go_big_quiet_step ((go_at_call 29; exact hM _)))
      refine wpQuiet_nil ?_
      rintro _ ⟨m, rfl⟩
      have HB3 : Hid (Below w.heap.size w m.val) := HB2.out.trans (m.ok.mono HB2.out.size)
      generalize m.val = w3 at *
      clear d5 hM hne HB2 ts
      obtain ⟨_, _, _, _, _, _, q6, q7⟩ := HC.out w3 HB3.out
      go_wp2_with fail
      go_roundw
      case rel => exact ⟨j + 1, hlt, by go_num, by congr 1; have := HK.out; omega, HB3⟩
      case measure => simp [intOf]; omega
    · have ej : j = n := by omega
      subst ej
      go_wp2_with fail
      go_ret
      exact ⟨rfl, HB0.out⟩
end Go.Proofs.YtgaibajkegfpoaaDoor
