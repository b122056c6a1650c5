/- Several texts in one: Tmt Tme. -/
import Derived.Test.YtepodbjdicnjoaaProg
import Derived.WalkKit
import Derived.ProofKit
import Derived.WalkLawsBesides
import Derived.WalkSpells
import Derived.Below
import Derived.Deep.RegionWith
import Derived.Lib.LaidTab
import Derived.Lib.SmallJoins
import Derived.Test.YtepodbjdicnjoaaRwe
import Derived.Lib.BufferOwn
import Derived.Test.YtepodbjdicnjoaaBwr
/- The text that marks a place: the contract of the laws' markText. -/
namespace Go.Proofs.Ytepodbjdicnjoaa
open Go.ChangeShapes Go.WideShapes Go.ChangeAt Go.RowKit
theorem conv1m (w : World) (a : Int) : (convert 62 9 (.slice (some ⟨w.heap.size, 0, none⟩) 1 1)).run Try.prog (w.alloc (.cells #[.int .u8 a] 5)) = .ok (.string (strOfNums [a])) (w.alloc (.cells #[.int .u8 a] 5)) :=
  run_convert_bytes_arg _ 62 5 Try.underlying62 Try.underlying5 _ 0 1 1 [a] rfl (fun i hi => by
    match i, hi with
    | 0, _ => simp) 9 Try.underlying9
theorem ret_strm {a b : ByteArray} (h : a = b) : Ending.returned (.string a) = .returned (.string b) := by rw [h]
/-- The digits of a number, ahead of a text. -/
def mtGo : Nat → Nat → ByteArray → ByteArray
  | 0, _, o => o
  | f + 1, k, o => if k = 0 then o else mtGo f (k / 10) (strOfNums [((48 + k % 10 : Nat) : Int)] ++ o)
def mT (k : Nat) : ByteArray := ⟨#[109]⟩ ++ mtGo (k + 1) k ByteArray.empty
theorem mt_zero (f : Nat) (o : ByteArray) : mtGo f 0 o = o := by cases f <;> rfl
theorem mt_step (f k : Nat) (o : ByteArray) (h : k ≠ 0) : mtGo (f + 1) k o = mtGo f (k / 10) (strOfNums [((48 + k % 10 : Nat) : Int)] ++ o) := by rw [mtGo, if_neg h]
set_option maxHeartbeats 2000000 in
theorem markText_any (k : Nat) (w : World) (h0 : 0 < k) (h1 : k ≤ 100000000) :
    Calls Try.prog 41 #[.int .i64 (k : Int)] w fun e w' => e = .returned (.string (mT k)) ∧ Below w.heap.size w w' := by
  obtain ⟨X, hX⟩ : ∃ X, mtGo (k + 1) k ByteArray.empty = X := ⟨_, rfl⟩
  have HX : Hid (mtGo (k + 1) k ByteArray.empty = X) := hX
  have HM : Hid (mT k = ⟨#[109]⟩ ++ X) := by show mT k = _; unfold mT; rw [hX]
  have h0' : ¬ (k : Int) ≤ 0 := by omega
  clear hX
  go_enter Try.func41, Try.ntmps41
  go_wp2_with fail
  go_loopw [0, 3] (fun kv ov wr => ∃ (j f : Nat) (o : ByteArray), kv = .int .i64 (j : Int) ∧ ov = .string o ∧ j ≤ 100000000 ∧ o.size + j ≤ 100000000 ∧ Hid (j < f) ∧ Hid (mtGo f j o = X) ∧ Hid (Below w.heap.size w wr)) (fun kv _ _ => (intOf kv).toNat)
  case atStart => exact ⟨k, k + 1, ByteArray.empty, rfl, rfl, h1, by show 0 + k ≤ _; omega, by show k < k + 1; omega, HX, Below.refl _ _⟩
  case round =>
    obtain ⟨j, f, o, rfl, rfl, hj, ho, HF, HG, HB⟩ := hrel
    by_cases hz : j = 0
    · subst hz
      have HE : Hid (o = X) := by show o = X; rw [← HG.out, mt_zero]
      have ho' : o.size ≤ 100000000 := by omega
      clear ho
      go_wp2_with fail
      go_ret
      exact ⟨ret_strm (by rw [HM.out, HE.out]), HB.out⟩
    · have hz' : (0 : Int) < (j : Int) := by omega
      obtain ⟨f, rfl⟩ : ∃ f', f = f' + 1 := ⟨f - 1, by have := HF.out; omega⟩
      have HG2 : Hid (mtGo f (j / 10) (strOfNums [((48 + j % 10 : Nat) : Int)] ++ o) = X) := by show _ = X; rw [← HG.out, mt_step _ _ _ hz]
      have hc := conv1m wr
      have hsz : (strOfNums [((48 + j % 10 : Nat) : Int)] ++ o).size = o.size + 1 := by
        rw [ByteArray.size_append, strOfNums_size]; simp; omega
      have HSZ : Hid ((strOfNums [((48 + j % 10 : Nat) : Int)] ++ o).size = o.size + 1) := hsz
      have hadd : ∀ (w : World) (d : Int), (Op.stringOp .add (strOfNums [d]) o).run Try.prog w = .ok (.string (strOfNums [d] ++ o)) w := fun w d =>
        run_string_add_sum w _ _ (by rw [strOfNums_size]; simp; omega)
      have HF2 : Hid (j / 10 < f) := by have := HF.out; show j / 10 < f; omega
      have HBD : Hid (j / 10 ≤ 100000000 ∧ o.size + 1 + j / 10 ≤ 100000000) := by show _ ∧ _; omega
      clear hsz HG HF ho
      go_wp2_with fail
      go_roundw
      case rel => exact ⟨j / 10, f, strOfNums [((48 + j % 10 : Nat) : Int)] ++ o, by go_num, rfl, HBD.out.1, by rw [HSZ.out]; exact HBD.out.2, HF2, HG2, HB.out.alloc HB.out.size _⟩
      case measure => simp [intOf]; omega
end Go.Proofs.Ytepodbjdicnjoaa
/- Marking the events of a list that the call owns, and finding the marks again. -/
namespace Go.Proofs.Ytepodbjdicnjoaa
open Go.ChangeShapes Go.WideShapes Go.ChangeAt Go.RowKit
open Go.Lib (grownBy_setB grownBy_below)
theorem own_setE {w : World} {lo t size g n cap : Nat} {xs : List Value} (h : w.ownsRow lo t size (.slice (some ⟨g, 0, none⟩) n cap) n xs) (j : Nat) (u : Value) (hj : j < xs.length) :
    (w.setCell ⟨g, j, none⟩ u).ownsRow lo t size (.slice (some ⟨g, 0, none⟩) n cap) n (xs.set j u) := by
  refine ⟨by simpa using h.1, ?_⟩
  rcases h.2 with ⟨e, _⟩ | ⟨g', cap', cur, e, hb, hg, hn, hm, hs, ht⟩
  · cases e
  · injection e with e1 e2 e3
    injection e1 with e1
    injection e1 with e1
    subst e1
    subst e3
    refine .inr ⟨g, cap, cur.setIfInBounds j u, rfl, hb, by simp [World.setCell, Array.getElem?_modify, hg], hn, hm, by simpa using hs, ?_⟩
    rw [← ht]
    apply List.ext_getElem?
    intro i
    rw [List.getElem?_set, List.getElem?_take, Array.toList_setIfInBounds, List.getElem?_set]
    have hl : xs.length = n * size := h.1
    have hcl : n * size ≤ cur.size := by rw [hs]; exact Nat.mul_le_mul_right _ hn
    by_cases e : j = i
    · subst e
      rw [if_pos (by omega), if_pos rfl, if_pos rfl]
      simp only [Array.length_toList, List.length_take]
      rw [if_pos (by omega), if_pos (by omega)]
    · rw [if_neg e, if_neg e, List.getElem?_take]
/-- The event that marks the place j, the first number being k. -/
def mkE (k j : Nat) : Ev := { kind := ((k + 8 * j : Nat) : Int), style := ((k + 8 * j + 1 : Nat) : Int), flag := (k + 8 * j + 2) % 3 == 0, text := mT (k + 8 * j + 3), anchor := mT (k + 8 * j + 4), tag := mT (k + 8 * j + 5), at_ := ((k + 8 * j + 6 : Nat) : Int), code := ((k + 8 * j + 7 : Nat) : Int) }
def mkEs (k n : Nat) : List Ev := (List.range n).map (mkE k)
theorem mkEs_len (k n : Nat) : (mkEs k n).length = n := by simp [mkEs]
theorem mkEs_succ (k n : Nat) : mkEs k (n + 1) = mkEs k n ++ [mkE k n] := by simp [mkEs, List.range_succ]
theorem rowsE_len : ∀ es : List Ev, (rowsE es).length = 8 * es.length
  | [] => rfl
  | e :: t => by
    have := rowsE_len t
    have e1 : rowsE (e :: t) = e.row.toList ++ rowsE t := rfl
    rw [e1, List.length_append, this, List.length_cons]
    show 8 + _ = _
    omega
theorem rowsE_app (a b : List Ev) : rowsE (a ++ b) = rowsE a ++ rowsE b := by unfold rowsE; rw [List.flatMap_append]
/-- Eight cells set: one event for another. -/
theorem rows_set8 {a c : List Ev} {e : Ev} {n : Nat} (hn : a.length * 8 = n) (f : Ev) :
    ((((((((rowsE (a ++ e :: c)).set n (.int .i64 f.kind)).set (n + 1) (.int .i64 f.style)).set (n + 2) (.bool f.flag)).set (n + 3) (.string f.text)).set (n + 4) (.string f.anchor)).set (n + 5) (.string f.tag)).set (n + 6) (.int .i64 f.at_)).set (n + 7) (.int .i64 f.code) = rowsE (a ++ f :: c) := by
  have hl : (rowsE a).length = n := by rw [rowsE_len, ← hn]; omega
  have e1 : rowsE (a ++ e :: c) = rowsE a ++ (.int .i64 e.kind :: .int .i64 e.style :: .bool e.flag :: .string e.text :: .string e.anchor :: .string e.tag :: .int .i64 e.at_ :: .int .i64 e.code :: rowsE c) := by rw [rowsE_app]; rfl
  have e2 : rowsE (a ++ f :: c) = rowsE a ++ (.int .i64 f.kind :: .int .i64 f.style :: .bool f.flag :: .string f.text :: .string f.anchor :: .string f.tag :: .int .i64 f.at_ :: .int .i64 f.code :: rowsE c) := by rw [rowsE_app]; rfl
  rw [e1, e2]
  have st : ∀ (xs : List Value) (i : Nat) (u : Value), (rowsE a ++ xs).set (n + i) u = rowsE a ++ xs.set i u := fun xs i u => by
    rw [List.set_append_right _ _ (by omega), show n + i - (rowsE a).length = i by omega]
  have st0 : ∀ (xs : List Value) (u : Value), (rowsE a ++ xs).set n u = rowsE a ++ xs.set 0 u := fun xs u => st xs 0 u
  rw [st0, st, st, st, st, st, st, st]
  rfl
theorem row_cell {w : World} {lo g n cap : Nat} {xs : List Value} (h : w.ownsRow lo 39 8 (.slice (some ⟨g, 0, none⟩) n cap) n xs) (i : Nat) (hi : i < xs.length) : (∃ z, w.cell? ⟨g, i, none⟩ = some z) ∧ w.frozen? ⟨g, i, none⟩ = false := by
  constructor
  · have := h.cells (g := g) rfl i (xs[i]'hi) (by simp)
    have hadd : (⟨g, 0, none⟩ : Addr).add i = ⟨g, i, none⟩ := by unfold Addr.add; split <;> simp_all
    rw [hadd] at this
    exact ⟨_, this⟩
  · rcases h.2 with ⟨e, _⟩ | ⟨g', cap', cur, e, _, hgg, _⟩
    · cases e
    · injection e with e1 _ _
      injection e1 with e1
      injection e1 with e1
      subst e1
      simp [World.frozen?, hgg]
theorem row_below {w w' : World} {lo e sz : Nat} {v : Value} {n : Nat} {xs : List Value} (h : w.ownsRow lo e sz v n xs) (hb : Below w.heap.size w w') : w'.ownsRow lo e sz v n xs := row_same h (fun k _ hk => hb.block k hk)
theorem row_lt {w : World} {lo e sz g n cap : Nat} {xs : List Value} (h : w.ownsRow lo e sz (.slice (some ⟨g, 0, none⟩) n cap) n xs) : lo ≤ g ∧ g < w.heap.size := h.lt g rfl
set_option maxHeartbeats 16000000 in
theorem markEs_any (w : World) (lo : Nat) (v : Value) (es : List Ev) (k : Nat) (hO : w.ownsRow lo 39 8 v es.length (rowsE es)) (hz : es.length ≤ 5000000) (k0 : 0 < k) (k1 : k ≤ 10) :
    Calls Try.prog 18 #[v, .int .i64 (k : Int)] w fun e w' => e = .returned (.int .i64 ((k + 8 * es.length : Nat) : Int)) ∧ w'.ownsRow lo 39 8 v es.length (rowsE (mkEs k es.length)) ∧ w.grownBy w' v.ownBlock := by
  by_cases h0 : es = []
  · subst h0
    obtain ⟨a, c, rfl⟩ : ∃ a c, v = .slice a 0 c := by
      rcases hO.2 with ⟨e, _⟩ | ⟨g, cap, cur, e, _⟩
      · exact ⟨_, _, e⟩
      · exact ⟨_, _, e⟩
    have HO : Hid (w.ownsRow lo 39 8 (.slice a 0 c) 0 []) := hO
    clear hO
    go_enter Try.func18, Try.ntmps18
    go_wp2_with fail
    refine wp_loop_rounds 1 ?_
    rw [rounds_succ]
    go_wp2_with fail
    go_ret
    exact ⟨by simp, HO.out, World.grownBy.refl _ _⟩
  · have hpos : 0 < es.length := List.length_pos_iff.2 h0
    obtain ⟨g, cap, rfl, hg, hgl⟩ := World.ownsRow.form hO hpos
    have HO : Hid (w.ownsRow lo 39 8 (.slice (some ⟨g, 0, none⟩) es.length cap) es.length (rowsE es)) := hO
    clear hO h0
    go_enter Try.func18, Try.ntmps18
    go_wp2_with fail
    go_loopw [1, 5] (fun kk i wr => ∃ (j : Nat), j ≤ es.length ∧ i = .int .i64 (j : Int) ∧ kk = .int .i64 ((k + 8 * j : Nat) : Int) ∧ Hid (wr.ownsRow lo 39 8 (.slice (some ⟨g, 0, none⟩) es.length cap) es.length (rowsE (mkEs k j ++ es.drop j))) ∧ Hid (w.grownBy wr (some g))) (fun _ i _ => es.length - (intOf i).toNat)
    case atStart => exact ⟨0, Nat.zero_le _, rfl, by simp, by show World.ownsRow _ _ _ _ _ _ _; simpa [mkEs] using HO.out, World.grownBy.refl _ _⟩
    case round =>
      obtain ⟨j, hj, rfl, rfl, HO0, HG0⟩ := hrel
      by_cases hlt : j < es.length
      · have hlt' : (j : Int) < (es.length : Int) := by omega
        have hlen : (rowsE (mkEs k j ++ es.drop j)).length = 8 * es.length := by rw [rowsE_len, List.length_append, mkEs_len, List.length_drop]; congr 1; omega
        have hdr : es.drop j = es[j] :: es.drop (j + 1) := List.drop_eq_getElem_cons hlt
        obtain ⟨xs, hxs⟩ : ∃ xs, rowsE (mkEs k j ++ es.drop j) = xs := ⟨_, rfl⟩
        rw [hxs] at hlen HO0
        have hfin := rows_set8 (a := mkEs k j) (c := es.drop (j + 1)) (e := es[j]) (n := j * 8) (by rw [mkEs_len]) (mkE k j)
        rw [← hdr, hxs, show mkEs k j ++ mkE k j :: es.drop (j + 1) = mkEs k (j + 1) ++ es.drop (j + 1) by rw [mkEs_succ]; simp] at hfin
        have HLN : Hid (xs.length = 8 * es.length) := hlen
        have HLT : Hid (j < es.length) := hlt
        clear hlen hdr hxs
        obtain ⟨K, hK⟩ : ∃ K, k + 8 * j = K := ⟨_, rfl⟩
        have HK : Hid (k + 8 * j = K) := hK
        have hK1 : K ≤ 40000010 := by omega
        have hK0 : 0 < K := by omega
        rw [hK]
        have HFIN : Hid (((((((((xs.set (j * 8) (.int .i64 (K : Int))).set (j * 8 + 1) (.int .i64 ((K : Int) + 1))).set (j * 8 + 2) (.bool (((K : Int) + 1 + 1) % 3 == 0))).set (j * 8 + 3) (.string (mT (K + 3)))).set (j * 8 + 4) (.string (mT (K + 4)))).set (j * 8 + 5) (.string (mT (K + 5)))).set (j * 8 + 6) (.int .i64 ((K : Int) + 1 + 1 + 1 + 1 + 1 + 1))).set (j * 8 + 7) (.int .i64 ((K : Int) + 1 + 1 + 1 + 1 + 1 + 1 + 1))) = rowsE (mkEs k (j + 1) ++ es.drop (j + 1))) := by
          show _ = _
          rw [← hfin]
          have e1 : (mkE k j).kind = (K : Int) := by rw [← hK]; rfl
          have e2 : (mkE k j).style = (K : Int) + 1 := by rw [← hK]; rfl
          have e3 : (mkE k j).flag = (((K : Int) + 1 + 1) % 3 == 0) := by
            rw [← hK]
            show ((k + 8 * j + 2) % 3 == 0) = _
            rw [Bool.eq_iff_iff]
            simp
            omega
          have e4 : (mkE k j).text = mT (K + 3) := by rw [← hK]; rfl
          have e5 : (mkE k j).anchor = mT (K + 4) := by rw [← hK]; rfl
          have e6 : (mkE k j).tag = mT (K + 5) := by rw [← hK]; rfl
          have e7 : (mkE k j).at_ = (K : Int) + 1 + 1 + 1 + 1 + 1 + 1 := by rw [← hK]; show ((k + 8 * j + 6 : Nat) : Int) = _; omega
          have e8 : (mkE k j).code = (K : Int) + 1 + 1 + 1 + 1 + 1 + 1 + 1 := by rw [← hK]; show ((k + 8 * j + 7 : Nat) : Int) = _; omega
          rw [e1, e2, e3, e4, e5, e6, e7, e8]
        clear hfin
        have c3 : Hid (∀ (q : Int) (_ : q = ((K + 3 : Nat) : Int)) (w' : World), Calls Try.prog 41 #[.int .i64 q] w' fun e w'' => e = .returned (.string (mT (K + 3))) ∧ Below w'.heap.size w' w'') := fun q hq w' => by rw [hq]; exact markText_any (K + 3) w' (by omega) (by omega)
        have c4 : Hid (∀ (q : Int) (_ : q = ((K + 4 : Nat) : Int)) (w' : World), Calls Try.prog 41 #[.int .i64 q] w' fun e w'' => e = .returned (.string (mT (K + 4))) ∧ Below w'.heap.size w' w'') := fun q hq w' => by rw [hq]; exact markText_any (K + 4) w' (by omega) (by omega)
        have c5 : Hid (∀ (q : Int) (_ : q = ((K + 5 : Nat) : Int)) (w' : World), Calls Try.prog 41 #[.int .i64 q] w' fun e w'' => e = .returned (.string (mT (K + 5))) ∧ Below w'.heap.size w' w'') := fun q hq w' => by rw [hq]; exact markText_any (K + 5) w' (by omega) (by omega)
        obtain ⟨⟨z0, hz0⟩, hf0⟩ := row_cell HO0.out (j * 8) (by (try simp only [List.length_set]); have h1 := HLN.out; have h2 := HLT.out; omega)
        obtain ⟨⟨z1, hz1⟩, hf1⟩ := row_cell HO0.out (j * 8 + 1) (by (try simp only [List.length_set]); have h1 := HLN.out; have h2 := HLT.out; omega)
        obtain ⟨⟨z2, hz2⟩, hf2⟩ := row_cell HO0.out (j * 8 + 2) (by (try simp only [List.length_set]); have h1 := HLN.out; have h2 := HLT.out; omega)
        clear hK k0 k1 hj
        go_wp2_with fail
        refine (c3.out _ (by omega) _).mono ?_
        rintro e9 w1 ⟨rfl, hb9⟩
        have HO1 : Hid (w1.ownsRow lo 39 8 (.slice (some ⟨g, 0, none⟩) es.length cap) es.length (((xs.set (j * 8) (.int .i64 (K : Int))).set (j * 8 + 1) (.int .i64 ((K : Int) + 1))).set (j * 8 + 2) (.bool (((K : Int) + 1 + 1) % 3 == 0)))) := row_below (own_setE (own_setE (own_setE HO0.out (j * 8) (.int .i64 (K : Int)) (by (try simp only [List.length_set]); have h1 := HLN.out; have h2 := HLT.out; omega)) (j * 8 + 1) (.int .i64 ((K : Int) + 1)) (by (try simp only [List.length_set]); have h1 := HLN.out; have h2 := HLT.out; omega)) (j * 8 + 2) (.bool (((K : Int) + 1 + 1) % 3 == 0)) (by (try simp only [List.length_set]); have h1 := HLN.out; have h2 := HLT.out; omega)) hb9
        have HG1 : Hid (w.grownBy w1 (some g)) := grownBy_below (grownBy_setB (grownBy_setB (grownBy_setB HG0.out _ _) _ _) _ _) hb9
        clear hb9 HO0 HG0 hz0 hf0 hz1 hf1 hz2 hf2
        obtain ⟨⟨z3, hz3⟩, hf3⟩ := row_cell HO1.out (j * 8 + 3) (by (try simp only [List.length_set]); have h1 := HLN.out; have h2 := HLT.out; omega)
        go_wp2_with fail
        refine (c4.out _ (by omega) _).mono ?_
        rintro e9 w2 ⟨rfl, hb9⟩
        have HO2 : Hid (w2.ownsRow lo 39 8 (.slice (some ⟨g, 0, none⟩) es.length cap) es.length ((((xs.set (j * 8) (.int .i64 (K : Int))).set (j * 8 + 1) (.int .i64 ((K : Int) + 1))).set (j * 8 + 2) (.bool (((K : Int) + 1 + 1) % 3 == 0))).set (j * 8 + 3) (.string (mT (K + 3))))) := row_below (own_setE HO1.out (j * 8 + 3) (.string (mT (K + 3))) (by (try simp only [List.length_set]); have h1 := HLN.out; have h2 := HLT.out; omega)) hb9
        have HG2 : Hid (w.grownBy w2 (some g)) := grownBy_below (grownBy_setB HG1.out _ _) hb9
        clear hb9 HO1 HG1 hz3 hf3
        obtain ⟨⟨z4, hz4⟩, hf4⟩ := row_cell HO2.out (j * 8 + 4) (by (try simp only [List.length_set]); have h1 := HLN.out; have h2 := HLT.out; omega)
        go_wp2_with fail
        refine (c5.out _ (by omega) _).mono ?_
        rintro e9 w3 ⟨rfl, hb9⟩
        have HO3 : Hid (w3.ownsRow lo 39 8 (.slice (some ⟨g, 0, none⟩) es.length cap) es.length (((((xs.set (j * 8) (.int .i64 (K : Int))).set (j * 8 + 1) (.int .i64 ((K : Int) + 1))).set (j * 8 + 2) (.bool (((K : Int) + 1 + 1) % 3 == 0))).set (j * 8 + 3) (.string (mT (K + 3)))).set (j * 8 + 4) (.string (mT (K + 4))))) := row_below (own_setE HO2.out (j * 8 + 4) (.string (mT (K + 4))) (by (try simp only [List.length_set]); have h1 := HLN.out; have h2 := HLT.out; omega)) hb9
        have HG3 : Hid (w.grownBy w3 (some g)) := grownBy_below (grownBy_setB HG2.out _ _) hb9
        clear hb9 HO2 HG2 hz4 hf4
        obtain ⟨⟨z5, hz5⟩, hf5⟩ := row_cell HO3.out (j * 8 + 5) (by (try simp only [List.length_set]); have h1 := HLN.out; have h2 := HLT.out; omega)
        obtain ⟨⟨z6, hz6⟩, hf6⟩ := row_cell HO3.out (j * 8 + 6) (by (try simp only [List.length_set]); have h1 := HLN.out; have h2 := HLT.out; omega)
        obtain ⟨⟨z7, hz7⟩, hf7⟩ := row_cell HO3.out (j * 8 + 7) (by (try simp only [List.length_set]); have h1 := HLN.out; have h2 := HLT.out; omega)
        go_wp2_with fail
        have HO4 := (own_setE (own_setE (own_setE HO3.out (j * 8 + 5) (.string (mT (K + 5))) (by (try simp only [List.length_set]); have h1 := HLN.out; have h2 := HLT.out; omega)) (j * 8 + 6) (.int .i64 ((K : Int) + 1 + 1 + 1 + 1 + 1 + 1)) (by (try simp only [List.length_set]); have h1 := HLN.out; have h2 := HLT.out; omega)) (j * 8 + 7) (.int .i64 ((K : Int) + 1 + 1 + 1 + 1 + 1 + 1 + 1)) (by (try simp only [List.length_set]); have h1 := HLN.out; have h2 := HLT.out; omega))
        rw [HFIN.out] at HO4
        have HG4 := grownBy_setB (grownBy_setB (grownBy_setB HG3.out (j * 8 + 5) (.string (mT (K + 5)))) (j * 8 + 6) (.int .i64 ((K : Int) + 1 + 1 + 1 + 1 + 1 + 1))) (j * 8 + 7) (.int .i64 ((K : Int) + 1 + 1 + 1 + 1 + 1 + 1 + 1))
        have HQ4 : Hid (_ ∧ _) := ⟨HO4, HG4⟩
        clear HO4 HG4 HO3 HG3 hz5 hf5 hz6 hf6 hz7 hf7
        go_roundw
        case rel => exact ⟨j + 1, hlt, by go_num, by congr 1; have := HK.out; omega, HQ4.out.1, HQ4.out.2⟩
        case measure => simp [intOf]; omega
      · go_wp2_with fail
        go_ret
        have ej : j = es.length := by omega
        have := HO0.out
        rw [ej, List.drop_length, List.append_nil] at this
        exact ⟨by rw [ej]; rfl, this, HG0.out⟩
end Go.Proofs.Ytepodbjdicnjoaa
