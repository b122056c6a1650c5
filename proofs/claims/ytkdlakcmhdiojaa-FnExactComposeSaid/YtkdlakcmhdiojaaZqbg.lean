/- Several texts in one: Rwe Teo Tme Rwf Lcp. -/
import Derived.Test.YtkdlakcmhdiojaaZqab
import Derived.Test.YtkdlakcmhdiojaaZqag
import Derived.Test.YtkdlakcmhdiojaaZqav
import Derived.Test.YtkdlakcmhdiojaaZqai
import Derived.Lib.BufferOwn
import Derived.Test.YtkdlakcmhdiojaaZqad
import Derived.Test.YtkdlakcmhdiojaaZqbe
import Derived.Test.YtkdlakcmhdiojaaGwq
/- Events in a row. -/
namespace Go.Proofs.Ytkdlakcmhdiojaa
open Go.RowKit
def rowsE (es : List Ev) : List Value := es.flatMap (fun e => e.row.toList)
end Go.Proofs.Ytkdlakcmhdiojaa
/- A copy of a list of events, which is the call's own. -/
namespace Go.Proofs.Ytkdlakcmhdiojaa
open Go.ChangeShapes Go.WideShapes Go.ChangeAt Go.RowKit Go.Deep
theorem own_of_rowE {w : World} {g t n : Nat} {f : Nat → Value} {size m : Nat} {xs : List Value} (h : w.rowIs g t (m * size) f) (hn : n = m) (hx : xs.length = m * size) (hf : ∀ i, i < m * size → xs[i]? = some (f i)) (hm : m ≤ maxLen) {lo : Nat} (hlo : lo ≤ g) :
    w.ownsRow lo t size (.slice (some ⟨g, 0, none⟩) n n) m xs := by
  subst hn
  obtain ⟨c, hb, hs, hc⟩ := h
  refine ⟨hx, .inr ⟨g, n, c, rfl, hlo, hb, Nat.le_refl _, hm, hs, ?_⟩⟩
  apply List.ext_getElem?
  intro i
  rw [List.getElem?_take]
  by_cases hi : i < n * size
  · rw [if_pos hi, Array.getElem?_toList, hc i hi, hf i hi]
  · rw [if_neg hi, List.getElem?_eq_none (by omega)]
set_option maxHeartbeats 8000000 in
theorem toEs_own (w : World) (v : Value) (es : List Ev) (hV : SlE w v es) (hl : es.length ≤ 1048576) :
    Calls Try.prog 7 #[v] w fun e w' => (e = .returned (.slice (some ⟨w.heap.size, 0, none⟩) es.length es.length) ∧ w'.ownsRow w.heap.size 47 8 (.slice (some ⟨w.heap.size, 0, none⟩) es.length es.length) es.length (rowsE es)) ∧ Below w.heap.size w w' := by
  obtain ⟨a, c, rfl⟩ := hV.sl
  have HV : Hid (SlE w (.slice a es.length c) es) := hV
  clear hV
  obtain ⟨ti, hti, hz0, hz1, hz2⟩ := infoE_parts
  have hmk : ∀ w : World, (Instr.makeSlice 30 (.int .i64 (es.length : Int)) (.int .i64 (es.length : Int))).run Try.prog w = .ok (.slice (some ⟨w.heap.size, 0, none⟩) es.length es.length) (w.alloc (.cells (madeCells zrow (es.length * 8)) 47)) := by
    intro w
    have := run_make (P := Try.prog) w 30 47 ti _ Try.underlying30 hti hz0 .i64 .i64 es.length es.length (by omega) (Int.le_refl _) (by rw [hz2]; omega) (by omega)
    rw [hz1] at this
    simpa [Value.cells] using this
  clear hti hz0 hz1 hz2
  go_enter Try.func7, Try.ntmps7
  go_wp2_with fail
  go_loopw [4] (fun i wr => ∃ k : Nat, k ≤ es.length ∧ i = .int .i64 k ∧ Hid (wr.rowIs w.heap.size 47 (es.length * 8) (fun j => (cellsE (es.take k))[j]?.getD (zE j))) ∧ Below w.heap.size w wr) (fun i _ => es.length - (intOf i).toNat)
  case atStart =>
    refine ⟨0, Nat.zero_le _, rfl, ?_, (Below.refl _ _).alloc (Nat.le_refl _) _⟩
    have := World.rowIs_alloc w (madeCells zrow (es.length * 8)) 47 zE (fun i hi => by
      rw [size_madeCells] at hi
      unfold madeCells zE
      have h8 : zrow.size = 8 := rfl
      simp [hi, h8])
    rw [size_madeCells] at this
    exact this.congr (fun i hi => by simp [cellsE])
  case round =>
    obtain ⟨k, hk, rfl, HC, hb⟩ := hrel
    by_cases hlt : k < es.length
    · obtain ⟨e, hx⟩ : ∃ h, es[k]? = some h := ⟨_, List.getElem?_eq_getElem hlt⟩
      obtain ⟨b, off, rfl, _, ⟨c0, c1, c2, c3, c4, c5, c6, c7⟩⟩ := HV.out.at hb hx
      have HX : Hid (es.take (k + 1) = es.take k ++ [e]) := by show es.take (k + 1) = _; rw [List.take_add_one, hx]; rfl
      have hlt' : (k : Int) < (es.length : Int) := by omega
      have hszH := HC.out.lt
      have htl : (es.take k).length = k := by rw [List.length_take]; omega
      have HTL : Hid ((es.take k).length = k) := htl
      have hE := toE_any e wr
      clear hx htl
      obtain ⟨kind, style, flag, text, anchor, tag, at_, code⟩ := e
      unfold Ev.row at hE
      go_wp2_with fail
      refine hE.mono ?_
      rintro e w1 ⟨rfl, hb1⟩
      clear hE c0 c1 c2 c3 c4 c5 c6 c7
      have hrow := HC.out.of_block (hb1.block _ hszH)
      have k0 : w1.cell? ⟨w.heap.size, k * 8, none⟩ = some _ := hrow.cell (by omega)
      have k1 : w1.cell? ⟨w.heap.size, k * 8 + 1, none⟩ = some _ := hrow.cell (by omega)
      have k2 : w1.cell? ⟨w.heap.size, k * 8 + 2, none⟩ = some _ := hrow.cell (by omega)
      have k3 : w1.cell? ⟨w.heap.size, k * 8 + 3, none⟩ = some _ := hrow.cell (by omega)
      have k4 : w1.cell? ⟨w.heap.size, k * 8 + 4, none⟩ = some _ := hrow.cell (by omega)
      have k5 : w1.cell? ⟨w.heap.size, k * 8 + 5, none⟩ = some _ := hrow.cell (by omega)
      have k6 : w1.cell? ⟨w.heap.size, k * 8 + 6, none⟩ = some _ := hrow.cell (by omega)
      have k7 : w1.cell? ⟨w.heap.size, k * 8 + 7, none⟩ = some _ := hrow.cell (by omega)
      have f0 := hrow.frozen (k * 8)
      have f1 := hrow.frozen (k * 8 + 1)
      have f2 := hrow.frozen (k * 8 + 2)
      have f3 := hrow.frozen (k * 8 + 3)
      have f4 := hrow.frozen (k * 8 + 4)
      have f5 := hrow.frozen (k * 8 + 5)
      have f6 := hrow.frozen (k * 8 + 6)
      have f7 := hrow.frozen (k * 8 + 7)
      have hB1 : Below w.heap.size w w1 := hb.trans (hb1.mono hb.size)
      have RA : Hid (((((((((w1.setCell ⟨w.heap.size, k * 8, none⟩ (.int .i64 kind)).setCell ⟨w.heap.size, k * 8 + 1, none⟩ (.int .i64 style)).setCell ⟨w.heap.size, k * 8 + 2, none⟩ (.bool flag)).setCell ⟨w.heap.size, k * 8 + 3, none⟩ (.string text)).setCell ⟨w.heap.size, k * 8 + 4, none⟩ (.string anchor)).setCell ⟨w.heap.size, k * 8 + 5, none⟩ (.string tag)).setCell ⟨w.heap.size, k * 8 + 6, none⟩ (.int .i64 at_)).setCell ⟨w.heap.size, k * 8 + 7, none⟩ (.int .i64 code)).rowIs w.heap.size 47 (es.length * 8) (fun j => (cellsE (es.take (k + 1)))[j]?.getD (zE j))) := by
        show World.rowIs _ _ _ _ _
        rw [HX.out]
        exact ((((((((hrow.set (k * 8) _).set (k * 8 + 1) _).set (k * 8 + 2) _).set (k * 8 + 3) _).set (k * 8 + 4) _).set (k * 8 + 5) _).set (k * 8 + 6) _).set (k * 8 + 7) _).congr (fun j _ => cellsE_step HTL.out ⟨kind, style, flag, text, anchor, tag, at_, code⟩ j)
      have RB : Hid (Below w.heap.size w ((((((((w1.setCell ⟨w.heap.size, k * 8, none⟩ (.int .i64 kind)).setCell ⟨w.heap.size, k * 8 + 1, none⟩ (.int .i64 style)).setCell ⟨w.heap.size, k * 8 + 2, none⟩ (.bool flag)).setCell ⟨w.heap.size, k * 8 + 3, none⟩ (.string text)).setCell ⟨w.heap.size, k * 8 + 4, none⟩ (.string anchor)).setCell ⟨w.heap.size, k * 8 + 5, none⟩ (.string tag)).setCell ⟨w.heap.size, k * 8 + 6, none⟩ (.int .i64 at_)).setCell ⟨w.heap.size, k * 8 + 7, none⟩ (.int .i64 code))) :=
        (((((((hB1.setCell (Nat.le_refl _) _).setCell (Nat.le_refl _) _).setCell (Nat.le_refl _) _).setCell (Nat.le_refl _) _).setCell (Nat.le_refl _) _).setCell (Nat.le_refl _) _).setCell (Nat.le_refl _) _).setCell (Nat.le_refl _) _
      clear hb1 hrow HC hB1
      go_wp2_with fail
      go_roundw
      case rel => exact ⟨k + 1, hlt, by go_num, RA, RB.out⟩
      case measure => simp [intOf]; omega
    · go_wp2_with fail
      go_ret
      have ek : k = es.length := by omega
      have hrow := HC.out
      rw [ek, List.take_length] at hrow
      refine ⟨⟨rfl, ?_⟩, hb⟩
      exact own_of_rowE (m := es.length) hrow rfl (cellsE_len es) (fun i hi => by
        have hl : i < (rowsE es).length := by show i < (cellsE es).length; rw [cellsE_len]; exact hi
        have h1 : (rowsE es)[i]? = some ((rowsE es)[i]'hl) := List.getElem?_eq_getElem hl
        have h2 : (cellsE es)[i]? = some ((rowsE es)[i]'hl) := h1
        show (rowsE es)[i]? = some ((cellsE es)[i]?.getD (zE i))
        rw [h2, h1]
        rfl) (by unfold maxLen; omega) (Nat.le_refl _)
end Go.Proofs.Ytkdlakcmhdiojaa
/- Marking the events of a list that the call owns, and finding the marks again. -/
namespace Go.Proofs.Ytkdlakcmhdiojaa
open Go.ChangeShapes Go.WideShapes Go.ChangeAt Go.RowKit
open Go.Lib (grownBy_setB grownBy_below)
theorem own_setE {w : World} {lo t size g n cap : Nat} {xs : List Value} (h : w.ownsRow lo t size (.slice (some ⟨g, 0, none⟩) n cap) n xs) (j : Nat) (u : Value) (hj : j < xs.length) :
    (w.setCell ⟨g, j, none⟩ u).ownsRow lo t size (.slice (some ⟨g, 0, none⟩) n cap) n (xs.set j u) := by
  refine ⟨by simpa using h.1, ?_⟩
  rcases h.2 with ⟨e, _⟩ | ⟨g', cap', cur, e, hb, hg, hn, hm, hs, ht⟩
  · cases e
  · injection e with e1 e2 e3
    injection e1 with e1
    injection e1 with e1
    subst e1
    subst e3
    refine .inr ⟨g, cap, cur.setIfInBounds j u, rfl, hb, by simp [World.setCell, Array.getElem?_modify, hg], hn, hm, by simpa using hs, ?_⟩
    rw [← ht]
    apply List.ext_getElem?
    intro i
    rw [List.getElem?_set, List.getElem?_take, Array.toList_setIfInBounds, List.getElem?_set]
    have hl : xs.length = n * size := h.1
    have hcl : n * size ≤ cur.size := by rw [hs]; exact Nat.mul_le_mul_right _ hn
    by_cases e : j = i
    · subst e
      rw [if_pos (by omega), if_pos rfl, if_pos rfl]
      simp only [Array.length_toList, List.length_take]
      rw [if_pos (by omega), if_pos (by omega)]
    · rw [if_neg e, if_neg e, List.getElem?_take]
/-- The event that marks the place j, the first number being k. -/
def mkE (k j : Nat) : Ev := { kind := ((k + 8 * j : Nat) : Int), style := ((k + 8 * j + 1 : Nat) : Int), flag := (k + 8 * j + 2) % 3 == 0, text := mT (k + 8 * j + 3), anchor := mT (k + 8 * j + 4), tag := mT (k + 8 * j + 5), at_ := ((k + 8 * j + 6 : Nat) : Int), code := ((k + 8 * j + 7 : Nat) : Int) }
def mkEs (k n : Nat) : List Ev := (List.range n).map (mkE k)
theorem mkEs_len (k n : Nat) : (mkEs k n).length = n := by simp [mkEs]
theorem mkEs_succ (k n : Nat) : mkEs k (n + 1) = mkEs k n ++ [mkE k n] := by simp [mkEs, List.range_succ]
theorem rowsE_len : ∀ es : List Ev, (rowsE es).length = 8 * es.length
  | [] => rfl
  | e :: t => by
    have := rowsE_len t
    have e1 : rowsE (e :: t) = e.row.toList ++ rowsE t := rfl
    rw [e1, List.length_append, this, List.length_cons]
    show 8 + _ = _
    omega
theorem rowsE_app (a b : List Ev) : rowsE (a ++ b) = rowsE a ++ rowsE b := by unfold rowsE; rw [List.flatMap_append]
/-- Eight cells set: one event for another. -/
theorem rows_set8 {a c : List Ev} {e : Ev} {n : Nat} (hn : a.length * 8 = n) (f : Ev) :
    ((((((((rowsE (a ++ e :: c)).set n (.int .i64 f.kind)).set (n + 1) (.int .i64 f.style)).set (n + 2) (.bool f.flag)).set (n + 3) (.string f.text)).set (n + 4) (.string f.anchor)).set (n + 5) (.string f.tag)).set (n + 6) (.int .i64 f.at_)).set (n + 7) (.int .i64 f.code) = rowsE (a ++ f :: c) := by
  have hl : (rowsE a).length = n := by rw [rowsE_len, ← hn]; omega
  have e1 : rowsE (a ++ e :: c) = rowsE a ++ (.int .i64 e.kind :: .int .i64 e.style :: .bool e.flag :: .string e.text :: .string e.anchor :: .string e.tag :: .int .i64 e.at_ :: .int .i64 e.code :: rowsE c) := by rw [rowsE_app]; rfl
  have e2 : rowsE (a ++ f :: c) = rowsE a ++ (.int .i64 f.kind :: .int .i64 f.style :: .bool f.flag :: .string f.text :: .string f.anchor :: .string f.tag :: .int .i64 f.at_ :: .int .i64 f.code :: rowsE c) := by rw [rowsE_app]; rfl
  rw [e1, e2]
  have st : ∀ (xs : List Value) (i : Nat) (u : Value), (rowsE a ++ xs).set (n + i) u = rowsE a ++ xs.set i u := fun xs i u => by
    rw [List.set_append_right _ _ (by omega), show n + i - (rowsE a).length = i by omega]
  have st0 : ∀ (xs : List Value) (u : Value), (rowsE a ++ xs).set n u = rowsE a ++ xs.set 0 u := fun xs u => st xs 0 u
  rw [st0, st, st, st, st, st, st, st]
  rfl
theorem row_cell {w : World} {lo g n cap : Nat} {xs : List Value} (h : w.ownsRow lo 47 8 (.slice (some ⟨g, 0, none⟩) n cap) n xs) (i : Nat) (hi : i < xs.length) : (∃ z, w.cell? ⟨g, i, none⟩ = some z) ∧ w.frozen? ⟨g, i, none⟩ = false := by
  constructor
  · have := h.cells (g := g) rfl i (xs[i]'hi) (by simp)
    have hadd : (⟨g, 0, none⟩ : Addr).add i = ⟨g, i, none⟩ := by unfold Addr.add; split <;> simp_all
    rw [hadd] at this
    exact ⟨_, this⟩
  · rcases h.2 with ⟨e, _⟩ | ⟨g', cap', cur, e, _, hgg, _⟩
    · cases e
    · injection e with e1 _ _
      injection e1 with e1
      injection e1 with e1
      subst e1
      simp [World.frozen?, hgg]
theorem row_below {w w' : World} {lo e sz : Nat} {v : Value} {n : Nat} {xs : List Value} (h : w.ownsRow lo e sz v n xs) (hb : Below w.heap.size w w') : w'.ownsRow lo e sz v n xs := row_same h (fun k _ hk => hb.block k hk)
theorem row_lt {w : World} {lo e sz g n cap : Nat} {xs : List Value} (h : w.ownsRow lo e sz (.slice (some ⟨g, 0, none⟩) n cap) n xs) : lo ≤ g ∧ g < w.heap.size := h.lt g rfl
set_option maxHeartbeats 16000000 in
theorem markEs_any (w : World) (lo : Nat) (v : Value) (es : List Ev) (k : Nat) (hO : w.ownsRow lo 47 8 v es.length (rowsE es)) (hz : es.length ≤ 5000000) (k0 : 0 < k) (k1 : k ≤ 10) :
    Calls Try.prog 11 #[v, .int .i64 (k : Int)] w fun e w' => e = .returned (.int .i64 ((k + 8 * es.length : Nat) : Int)) ∧ w'.ownsRow lo 47 8 v es.length (rowsE (mkEs k es.length)) ∧ w.grownBy w' v.ownBlock := by
  by_cases h0 : es = []
  · subst h0
    obtain ⟨a, c, rfl⟩ : ∃ a c, v = .slice a 0 c := by
      rcases hO.2 with ⟨e, _⟩ | ⟨g, cap, cur, e, _⟩
      · exact ⟨_, _, e⟩
      · exact ⟨_, _, e⟩
    have HO : Hid (w.ownsRow lo 47 8 (.slice a 0 c) 0 []) := hO
    clear hO
    go_enter Try.func11, Try.ntmps11
    go_wp2_with fail
    refine wp_loop_rounds 1 ?_
    rw [rounds_succ]
    go_wp2_with fail
    go_ret
    exact ⟨by simp, HO.out, World.grownBy.refl _ _⟩
  · have hpos : 0 < es.length := List.length_pos_iff.2 h0
    obtain ⟨g, cap, rfl, hg, hgl⟩ := World.ownsRow.form hO hpos
    have HO : Hid (w.ownsRow lo 47 8 (.slice (some ⟨g, 0, none⟩) es.length cap) es.length (rowsE es)) := hO
    clear hO h0
    go_enter Try.func11, Try.ntmps11
    go_wp2_with fail
    go_loopw [1, 5] (fun kk i wr => ∃ (j : Nat), j ≤ es.length ∧ i = .int .i64 (j : Int) ∧ kk = .int .i64 ((k + 8 * j : Nat) : Int) ∧ Hid (wr.ownsRow lo 47 8 (.slice (some ⟨g, 0, none⟩) es.length cap) es.length (rowsE (mkEs k j ++ es.drop j))) ∧ Hid (w.grownBy wr (some g))) (fun _ i _ => es.length - (intOf i).toNat)
    case atStart => exact ⟨0, Nat.zero_le _, rfl, by simp, by show World.ownsRow _ _ _ _ _ _ _; simpa [mkEs] using HO.out, World.grownBy.refl _ _⟩
    case round =>
      obtain ⟨j, hj, rfl, rfl, HO0, HG0⟩ := hrel
      by_cases hlt : j < es.length
      · have hlt' : (j : Int) < (es.length : Int) := by omega
        have hlen : (rowsE (mkEs k j ++ es.drop j)).length = 8 * es.length := by rw [rowsE_len, List.length_append, mkEs_len, List.length_drop]; congr 1; omega
        have hdr : es.drop j = es[j] :: es.drop (j + 1) := List.drop_eq_getElem_cons hlt
        obtain ⟨xs, hxs⟩ : ∃ xs, rowsE (mkEs k j ++ es.drop j) = xs := ⟨_, rfl⟩
        rw [hxs] at hlen HO0
        have hfin := rows_set8 (a := mkEs k j) (c := es.drop (j + 1)) (e := es[j]) (n := j * 8) (by rw [mkEs_len]) (mkE k j)
        rw [← hdr, hxs, show mkEs k j ++ mkE k j :: es.drop (j + 1) = mkEs k (j + 1) ++ es.drop (j + 1) by rw [mkEs_succ]; simp] at hfin
        have HLN : Hid (xs.length = 8 * es.length) := hlen
        have HLT : Hid (j < es.length) := hlt
        clear hlen hdr hxs
        obtain ⟨K, hK⟩ : ∃ K, k + 8 * j = K := ⟨_, rfl⟩
        have HK : Hid (k + 8 * j = K) := hK
        have hK1 : K ≤ 40000010 := by omega
        have hK0 : 0 < K := by omega
        rw [hK]
        have HFIN : Hid (((((((((xs.set (j * 8) (.int .i64 (K : Int))).set (j * 8 + 1) (.int .i64 ((K : Int) + 1))).set (j * 8 + 2) (.bool (((K : Int) + 1 + 1) % 3 == 0))).set (j * 8 + 3) (.string (mT (K + 3)))).set (j * 8 + 4) (.string (mT (K + 4)))).set (j * 8 + 5) (.string (mT (K + 5)))).set (j * 8 + 6) (.int .i64 ((K : Int) + 1 + 1 + 1 + 1 + 1 + 1))).set (j * 8 + 7) (.int .i64 ((K : Int) + 1 + 1 + 1 + 1 + 1 + 1 + 1))) = rowsE (mkEs k (j + 1) ++ es.drop (j + 1))) := by
          show _ = _
          rw [← hfin]
          have e1 : (mkE k j).kind = (K : Int) := by rw [← hK]; rfl
          have e2 : (mkE k j).style = (K : Int) + 1 := by rw [← hK]; rfl
          have e3 : (mkE k j).flag = (((K : Int) + 1 + 1) % 3 == 0) := by
            rw [← hK]
            show ((k + 8 * j + 2) % 3 == 0) = _
            rw [Bool.eq_iff_iff]
            simp
            omega
          have e4 : (mkE k j).text = mT (K + 3) := by rw [← hK]; rfl
          have e5 : (mkE k j).anchor = mT (K + 4) := by rw [← hK]; rfl
          have e6 : (mkE k j).tag = mT (K + 5) := by rw [← hK]; rfl
          have e7 : (mkE k j).at_ = (K : Int) + 1 + 1 + 1 + 1 + 1 + 1 := by rw [← hK]; show ((k + 8 * j + 6 : Nat) : Int) = _; omega
          have e8 : (mkE k j).code = (K : Int) + 1 + 1 + 1 + 1 + 1 + 1 + 1 := by rw [← hK]; show ((k + 8 * j + 7 : Nat) : Int) = _; omega
          rw [e1, e2, e3, e4, e5, e6, e7, e8]
        clear hfin
        have c3 : Hid (∀ (q : Int) (_ : q = ((K + 3 : Nat) : Int)) (w' : World), Calls Try.prog 34 #[.int .i64 q] w' fun e w'' => e = .returned (.string (mT (K + 3))) ∧ Below w'.heap.size w' w'') := fun q hq w' => by rw [hq]; exact markText_any (K + 3) w' (by omega) (by omega)
        have c4 : Hid (∀ (q : Int) (_ : q = ((K + 4 : Nat) : Int)) (w' : World), Calls Try.prog 34 #[.int .i64 q] w' fun e w'' => e = .returned (.string (mT (K + 4))) ∧ Below w'.heap.size w' w'') := fun q hq w' => by rw [hq]; exact markText_any (K + 4) w' (by omega) (by omega)
        have c5 : Hid (∀ (q : Int) (_ : q = ((K + 5 : Nat) : Int)) (w' : World), Calls Try.prog 34 #[.int .i64 q] w' fun e w'' => e = .returned (.string (mT (K + 5))) ∧ Below w'.heap.size w' w'') := fun q hq w' => by rw [hq]; exact markText_any (K + 5) w' (by omega) (by omega)
        obtain ⟨⟨z0, hz0⟩, hf0⟩ := row_cell HO0.out (j * 8) (by (try simp only [List.length_set]); have h1 := HLN.out; have h2 := HLT.out; omega)
        obtain ⟨⟨z1, hz1⟩, hf1⟩ := row_cell HO0.out (j * 8 + 1) (by (try simp only [List.length_set]); have h1 := HLN.out; have h2 := HLT.out; omega)
        obtain ⟨⟨z2, hz2⟩, hf2⟩ := row_cell HO0.out (j * 8 + 2) (by (try simp only [List.length_set]); have h1 := HLN.out; have h2 := HLT.out; omega)
        clear hK k0 k1 hj
        go_wp2_with fail
        refine (c3.out _ (by omega) _).mono ?_
        rintro e9 w1 ⟨rfl, hb9⟩
        have HO1 : Hid (w1.ownsRow lo 47 8 (.slice (some ⟨g, 0, none⟩) es.length cap) es.length (((xs.set (j * 8) (.int .i64 (K : Int))).set (j * 8 + 1) (.int .i64 ((K : Int) + 1))).set (j * 8 + 2) (.bool (((K : Int) + 1 + 1) % 3 == 0)))) := row_below (own_setE (own_setE (own_setE HO0.out (j * 8) (.int .i64 (K : Int)) (by (try simp only [List.length_set]); have h1 := HLN.out; have h2 := HLT.out; omega)) (j * 8 + 1) (.int .i64 ((K : Int) + 1)) (by (try simp only [List.length_set]); have h1 := HLN.out; have h2 := HLT.out; omega)) (j * 8 + 2) (.bool (((K : Int) + 1 + 1) % 3 == 0)) (by (try simp only [List.length_set]); have h1 := HLN.out; have h2 := HLT.out; omega)) hb9
        have HG1 : Hid (w.grownBy w1 (some g)) := grownBy_below (grownBy_setB (grownBy_setB (grownBy_setB HG0.out _ _) _ _) _ _) hb9
        clear hb9 HO0 HG0 hz0 hf0 hz1 hf1 hz2 hf2
        obtain ⟨⟨z3, hz3⟩, hf3⟩ := row_cell HO1.out (j * 8 + 3) (by (try simp only [List.length_set]); have h1 := HLN.out; have h2 := HLT.out; omega)
        go_wp2_with fail
        refine (c4.out _ (by omega) _).mono ?_
        rintro e9 w2 ⟨rfl, hb9⟩
        have HO2 : Hid (w2.ownsRow lo 47 8 (.slice (some ⟨g, 0, none⟩) es.length cap) es.length ((((xs.set (j * 8) (.int .i64 (K : Int))).set (j * 8 + 1) (.int .i64 ((K : Int) + 1))).set (j * 8 + 2) (.bool (((K : Int) + 1 + 1) % 3 == 0))).set (j * 8 + 3) (.string (mT (K + 3))))) := row_below (own_setE HO1.out (j * 8 + 3) (.string (mT (K + 3))) (by (try simp only [List.length_set]); have h1 := HLN.out; have h2 := HLT.out; omega)) hb9
        have HG2 : Hid (w.grownBy w2 (some g)) := grownBy_below (grownBy_setB HG1.out _ _) hb9
        clear hb9 HO1 HG1 hz3 hf3
        obtain ⟨⟨z4, hz4⟩, hf4⟩ := row_cell HO2.out (j * 8 + 4) (by (try simp only [List.length_set]); have h1 := HLN.out; have h2 := HLT.out; omega)
        go_wp2_with fail
        refine (c5.out _ (by omega) _).mono ?_
        rintro e9 w3 ⟨rfl, hb9⟩
        have HO3 : Hid (w3.ownsRow lo 47 8 (.slice (some ⟨g, 0, none⟩) es.length cap) es.length (((((xs.set (j * 8) (.int .i64 (K : Int))).set (j * 8 + 1) (.int .i64 ((K : Int) + 1))).set (j * 8 + 2) (.bool (((K : Int) + 1 + 1) % 3 == 0))).set (j * 8 + 3) (.string (mT (K + 3)))).set (j * 8 + 4) (.string (mT (K + 4))))) := row_below (own_setE HO2.out (j * 8 + 4) (.string (mT (K + 4))) (by (try simp only [List.length_set]); have h1 := HLN.out; have h2 := HLT.out; omega)) hb9
        have HG3 : Hid (w.grownBy w3 (some g)) := grownBy_below (grownBy_setB HG2.out _ _) hb9
        clear hb9 HO2 HG2 hz4 hf4
        obtain ⟨⟨z5, hz5⟩, hf5⟩ := row_cell HO3.out (j * 8 + 5) (by (try simp only [List.length_set]); have h1 := HLN.out; have h2 := HLT.out; omega)
        obtain ⟨⟨z6, hz6⟩, hf6⟩ := row_cell HO3.out (j * 8 + 6) (by (try simp only [List.length_set]); have h1 := HLN.out; have h2 := HLT.out; omega)
        obtain ⟨⟨z7, hz7⟩, hf7⟩ := row_cell HO3.out (j * 8 + 7) (by (try simp only [List.length_set]); have h1 := HLN.out; have h2 := HLT.out; omega)
        go_wp2_with fail
        have HO4 := (own_setE (own_setE (own_setE HO3.out (j * 8 + 5) (.string (mT (K + 5))) (by (try simp only [List.length_set]); have h1 := HLN.out; have h2 := HLT.out; omega)) (j * 8 + 6) (.int .i64 ((K : Int) + 1 + 1 + 1 + 1 + 1 + 1)) (by (try simp only [List.length_set]); have h1 := HLN.out; have h2 := HLT.out; omega)) (j * 8 + 7) (.int .i64 ((K : Int) + 1 + 1 + 1 + 1 + 1 + 1 + 1)) (by (try simp only [List.length_set]); have h1 := HLN.out; have h2 := HLT.out; omega))
        rw [HFIN.out] at HO4
        have HG4 := grownBy_setB (grownBy_setB (grownBy_setB HG3.out (j * 8 + 5) (.string (mT (K + 5)))) (j * 8 + 6) (.int .i64 ((K : Int) + 1 + 1 + 1 + 1 + 1 + 1))) (j * 8 + 7) (.int .i64 ((K : Int) + 1 + 1 + 1 + 1 + 1 + 1 + 1))
        have HQ4 : Hid (_ ∧ _) := ⟨HO4, HG4⟩
        clear HO4 HG4 HO3 HG3 hz5 hf5 hz6 hf6 hz7 hf7
        go_roundw
        case rel => exact ⟨j + 1, hlt, by go_num, by congr 1; have := HK.out; omega, HQ4.out.1, HQ4.out.2⟩
        case measure => simp [intOf]; omega
      · go_wp2_with fail
        go_ret
        have ej : j = es.length := by omega
        have := HO0.out
        rw [ej, List.drop_length, List.append_nil] at this
        exact ⟨by rw [ej]; rfl, this, HG0.out⟩
end Go.Proofs.Ytkdlakcmhdiojaa
/- A row of events is a list of events; a row beside another one. -/
namespace Go.Proofs.Ytkdlakcmhdiojaa
open Go.RowKit
theorem rowsE_at : ∀ (es : List Ev) (i : Nat) (e : Ev), es[i]? = some e → ∀ j u, e.row[j]? = some u → (rowsE es)[i * 8 + j]? = some u
  | [], i, e, h => by simp at h
  | x :: t, 0, e, h => by
    intro j u hu
    obtain rfl : x = e := by simpa using h
    have hj : j < 8 := by
      rcases Nat.lt_or_ge j 8 with h' | h'
      · exact h'
      · rw [Array.getElem?_eq_none (by exact h')] at hu; cases hu
    rw [Nat.zero_mul, Nat.zero_add]
    show (x.row.toList ++ rowsE t)[j]? = some u
    rw [List.getElem?_append_left (by show j < 8; exact hj)]
    rw [← hu]
    simp
  | x :: t, i + 1, e, h => by
    intro j u hu
    have ih := rowsE_at t i e (by simpa using h) j u hu
    show (x.row.toList ++ rowsE t)[(i + 1) * 8 + j]? = some u
    rw [List.getElem?_append_right (by show 8 ≤ _; omega)]
    rw [show (i + 1) * 8 + j - x.row.toList.length = i * 8 + j by show (i + 1) * 8 + j - 8 = _; omega]
    exact ih
theorem slE_row {w : World} {lo : Nat} {v : Value} {es : List Ev} (h : w.ownsRow lo 47 8 v es.length (rowsE es)) : SlE w v es := by
  by_cases hz : es = []
  · subst hz
    left
    rcases h.2 with ⟨e, _⟩ | ⟨g, cap, cur, e, _⟩
    · exact ⟨rfl, _, _, e⟩
    · exact ⟨rfl, _, _, e⟩
  · right
    have hpos : 0 < es.length := List.length_pos_iff.2 hz
    rcases h.2 with ⟨_, e⟩ | ⟨g, cap, cur, rfl, hb, hg, hn, hm, hs, ht⟩
    · omega
    · refine ⟨hz, g, 0, cap, rfl, (Array.getElem?_eq_some_iff.1 hg).1, hn, fun i e hi j u hu => ?_⟩
      have hx := rowsE_at es i e hi j u hu
      have h1 := h.cells (g := g) rfl (i * 8 + j) _ hx
      have hadd : (⟨g, 0, none⟩ : Addr).add (i * 8 + j) = ⟨g, 0 + i * 8 + j, none⟩ := by unfold Addr.add; split <;> simp_all
      rw [hadd] at h1
      exact h1
theorem SlE.far {w w' : World} {v v' : Value} {lo : Nat} {es : List Ev} (h : w.ownsRow lo 47 8 v es.length (rowsE es)) {B : Nat} (hB : ∀ b, v.ownBlock = some b → b < B) (hg : w.grownBy w' v'.ownBlock) (hf : ∀ b, v'.ownBlock = some b → B ≤ b) : w'.ownsRow lo 47 8 v es.length (rowsE es) := by
  refine ⟨h.1, ?_⟩
  rcases h.2 with hn | ⟨g, cap, cur, rfl, hlo, hgg, rest⟩
  · exact .inl hn
  · refine .inr ⟨g, cap, cur, rfl, hlo, ?_, rest⟩
    rw [hg.block g (Array.getElem?_eq_some_iff.1 hgg).1 (fun e => by have h1 := hB g rfl; have h2 := hf g e.symm; omega)]
    exact hgg
end Go.Proofs.Ytkdlakcmhdiojaa
/- The law on Compose, walked, over impl's contract. -/
namespace Go.Proofs.Ytkdlakcmhdiojaa
open Go.ChangeShapes Go.WideShapes Go.ChangeAt Go.RowKit Go.Deep
theorem com_bound {l : List Ev} {g : Gr} {ok : Bool} (hg : composeP l = (g, ok)) (hl : totE l + l.length ≤ 1048576) : g.tot ≤ 1060000 := by
  by_cases h : whole l = true ∧ cntR l l.length ≤ 3000
  · obtain ⟨rfl, _⟩ := com_yes hg h
    have h1 := com_tot l
    have h2 : (knotsTo l l.length).length = cntR l l.length := by unfold knotsTo; rw [List.length_map]; rfl
    show (knotsTo l l.length).length + totN (knotsTo l l.length) + (kidsTo l (-1) l.length).length ≤ _
    have := h.2
    omega
  · obtain ⟨rfl, _⟩ := com_no hg h
    show 0 + 0 + 0 ≤ 1060000
    omega
theorem GOwn.ge {lo : Nat} {w w' : World} {nv rv : Value} {g : Gr} {vs : List Value} (h : GOwn lo w nv rv g vs) (hb : ∀ x, lo ≤ x → x < w.heap.size → w'.heap[x]? = w.heap[x]?) : GOwn lo w' nv rv g vs :=
  ⟨g_row_block h.nodes (fun x hx => hb x (h.nodes.lt x hx).1 (h.nodes.lt x hx).2), h.kids.block (fun _ _ x hv hx => hb x (h.kids.lt hv hx).1 (h.kids.lt hv hx).2), g_row_block h.roots (fun x hx => hb x (h.roots.lt x hx).1 (h.roots.lt x hx).2), h.apart⟩
set_option maxRecDepth 100000 in
set_option maxHeartbeats 8000000 in
theorem law_compose (HI : ImplCo) (v : Value) (es : List Ev) (w : World) (hV : SlE w v es) (hw : wideEs es) (hf : ∀ e ∈ es, wfE e) (hl : es.length ≤ 9223372036854775807) :
    Calls Try.prog 3 #[v] w fun e w' => e = .returned (.bool true) ∧ Below w.heap.size w w' := by
  obtain ⟨a, c, rfl⟩ := hV.sl
  have hSz := szEs_ w _ es hV hw hl
  have HV := hidG hV
  have HII : Hid ImplCo := HI
  have HF := hidG hf
  clear hV hw hl hf HI
  go_enter Try.func3, Try.ntmps3
  go_wp2_with fail
  refine hSz.mono ?_
  rintro e w1 ⟨⟨r, rfl, hr⟩, hb1⟩
  clear hSz
  rcases hr with rfl | ⟨hr0, hrt⟩
  · go_wp2_with fail
    go_ret
    exact ⟨rfl, hb1⟩
  have HT := hidG hrt
  have HL : Hid (es.length ≤ 1048576) := by show es.length ≤ 1048576; omega
  obtain ⟨g, ok, hg⟩ : ∃ g ok, composeP es = (g, ok) := ⟨_, _, rfl⟩
  have HG := hidG hg
  have HGT := hidG (com_bound hg hrt)
  have HB1 := hidG hb1
  have hr0' : ¬ r < 0 := by omega
  clear hrt hg hb1
  go_wp2_with fail
  refine (toEs_ w1 _ es (HV.out.stays HB1.out) HL.out).mono ?_
  rintro e w2 ⟨⟨v2, rfl, hV2⟩, hb2⟩
  have HB2 := hidG (HB1.out.trans (hb2.mono HB1.out.size))
  have cS := spec_compose w2 _ es hV2 HT.out g ok HG.out
  obtain ⟨a2, c2, rfl⟩ := hV2.sl
  clear hb2 hV2 HB1
  go_wp2_with fail
  refine cS.mono ?_
  rintro e w3 ⟨⟨nv0, rv0, rfl, ⟨na0, nn0, nc0, rfl⟩, ⟨ra0, rn0, rc0, rfl⟩, hW0⟩, hb3⟩
  have HB3 := hidG (HB2.out.trans (hb3.mono HB2.out.size))
  obtain ⟨Wb, hWb⟩ : ∃ Wb, w3.alloc (.cells #[.slice na0 nn0 nc0, .slice ra0 rn0 rc0] 27) = Wb := ⟨_, rfl⟩
  have hbb : Below w3.heap.size w3 Wb := by rw [← hWb]; exact al_belowG w3 _
  have hbs : Wb.heap.size = w3.heap.size + 1 := by rw [← hWb]; show (w3.heap.push _).size = _; simp
  have hbe : Wb.heap[w3.heap.size]? = some (.cells #[.slice na0 nn0 nc0, .slice ra0 rn0 rc0] 27 (0, 0)) := by rw [← hWb]; exact heap_alloc_new w3 _
  have HBB := hidG (HB3.out.trans (hbb.mono HB3.out.size))
  have HQ4 : Hid (∀ x, Below Wb.heap.size Wb x → GrAt x (.slice na0 nn0 nc0) (.slice ra0 rn0 rc0) g ∧ x.cell? ⟨w3.heap.size, 0, none⟩ = some (.slice na0 nn0 nc0) ∧ x.cell? ⟨w3.heap.size, 1, none⟩ = some (.slice ra0 rn0 rc0)) := fun x hb => by
    have h1 := (hb.block w3.heap.size (by omega)).trans hbe
    exact ⟨(hW0.later hbb).later hb, n2_0 h1, n2_1 h1⟩
  have HWb := hidG hWb
  have cX := toEs_own Wb _ es (HV.out.stays HBB.out) HL.out
  clear hb3 cS hW0 hWb hbb hbs hbe HB2 HB3
  go_wp2_with fail
  rw [HWb.out]
  refine cX.mono ?_
  rintro e w4 ⟨⟨rfl, hrow4⟩, hb4⟩
  have HB4 := hidG hb4
  have HR4 := hidG hrow4
  have cI := HII.out w4 _ es (slE_row hrow4) HT.out HF.out g ok HG.out
  clear cX hb4 hrow4 HWb
  go_wp2_with fail
  refine cI.mono ?_
  rintro e w5 ⟨⟨nv, rv, vs, rfl, ⟨na, nn, nc, rfl⟩, ⟨ra, rn, rc, rfl⟩, hO⟩, hb5⟩
  have HO5 := hidG hO
  have HB5 := hidG hb5
  obtain ⟨Wg, hWg⟩ : ∃ Wg, w5.alloc (.cells #[.slice na nn nc, .slice ra rn rc] 27) = Wg := ⟨_, rfl⟩
  have hgb : Below w5.heap.size w5 Wg := by rw [← hWg]; exact al_belowG w5 _
  have hgs : Wg.heap.size = w5.heap.size + 1 := by rw [← hWg]; show (w5.heap.push _).size = _; simp
  have hge : Wg.heap[w5.heap.size]? = some (.cells #[.slice na nn nc, .slice ra rn rc] 27 (0, 0)) := by rw [← hWg]; exact heap_alloc_new w5 _
  have HGB := hidG hgb
  have HGS := hidG hgs
  have HGE := hidG hge
  have HBG : Hid (Below Wb.heap.size Wb Wg) := HB4.out.trans ((HB5.out.trans (hgb.mono HB5.out.size)).mono HB4.out.size)
  have hOg := hO.later hgb
  obtain ⟨hw0, d0, d1⟩ := HQ4.out Wg HBG.out
  have d2 := n2_0 hge
  have d3 := n2_1 hge
  have cE := eqG_sameW g _ _ _ _ Wg hOg.at hw0 HGT.out
  have HWg := hidG hWg
  have d4 : (w5.alloc (.cells #[.slice na nn nc, .slice ra rn rc] 27)).cell? ⟨w3.heap.size, 0, none⟩ = some (.slice na0 nn0 nc0) := by rw [hWg]; exact d0
  have d5 : (w5.alloc (.cells #[.slice na nn nc, .slice ra rn rc] 27)).cell? ⟨w3.heap.size, 1, none⟩ = some (.slice ra0 rn0 rc0) := by rw [hWg]; exact d1
  have hot : (ok != ok) = false := by cases ok <;> rfl
  clear hb5 cI hO hWg hgb hgs hge hOg hw0
  go_wp2_with fail
  rw [HWg.out]
  refine cE.mono ?_
  rintro e w6 ⟨rfl, hb6⟩
  have HB6 := hidG hb6
  clear cE hb6 d0 d1 d2 d3 d4 d5 HWg
  have HBW6 : Hid (Below Wb.heap.size Wb w6) := HBG.out.trans (HB6.out.mono HBG.out.size)
  have HA6 : Hid (Below w.heap.size w w6) := HBB.out.trans (HBW6.out.mono HBB.out.size)
  go_wp2_with fail
  refine (toEs_ w6 _ es (HV.out.stays HA6.out) HL.out).mono ?_
  rintro e w7 ⟨⟨v7, rfl, hV7⟩, hb7⟩
  have HB7 : Hid (Below Wg.heap.size Wg w7) := HB6.out.trans (hb7.mono HB6.out.size)
  have HR7 : Hid (w7.ownsRow Wb.heap.size 47 8 (.slice (some ⟨Wb.heap.size, 0, none⟩) es.length es.length) es.length (rowsE es)) := by
    have h1 := HB5.out.trans (HGB.out.mono HB5.out.size)
    exact g_row_below (g_row_below HR4.out h1) (HB7.out.mono (Nat.le_refl _))
  have cQ := eqEs_ w7 _ _ es (slE_row HR7.out) hV7 (by have := HL.out; omega)
  obtain ⟨a7, c7, rfl⟩ := hV7.sl
  clear hb7 hV7
  go_wp2_with fail
  refine cQ.mono ?_
  rintro e w8 ⟨rfl, hb8⟩
  have HB8 : Hid (Below Wg.heap.size Wg w8) := HB7.out.trans (hb8.mono HB7.out.size)
  have cM := markEs_any w8 Wb.heap.size _ es 1 (g_row_below HR7.out hb8) (by have := HL.out; omega) (by decide) (by decide)
  obtain ⟨kk, hkk⟩ : ∃ kk, 1 + 8 * es.length = kk := ⟨_, rfl⟩
  have hk5 : (kk : Int) ≤ 8388609 := by have := HL.out; omega
  have hk6 : ¬ (kk : Int) < 0 := by omega
  rw [hkk] at cM
  clear hb8 cQ hkk
  go_wp2_with fail
  refine cM.mono ?_
  rintro e w9 ⟨rfl, _, hg9⟩
  have hx9 : ∀ x, x < w8.heap.size → x ≠ Wb.heap.size → w9.heap[x]? = w8.heap[x]? := fun x h1 h2 => hg9.block x h1 (fun e => h2 (Option.some.inj e))
  have HX9 := hidG hx9
  have HS9 : Hid (w8.heap.size ≤ w9.heap.size) := hg9.size
  have HBW8 : Hid (Below Wb.heap.size Wb w8) := HBG.out.trans (HB8.out.mono HBG.out.size)
  have HBW9 : Hid (Below Wb.heap.size Wb w9) := HBW8.out.trans ⟨hg9.os, hg9.tape, hg9.output, hg9.size, fun i hi => hx9 i (Nat.lt_of_lt_of_le hi HBW8.out.size) (by omega)⟩
  have HLT4 : Hid (Wb.heap.size < w4.heap.size) := (HR4.out.lt Wb.heap.size rfl).2
  have HO8 : Hid (GOwn w4.heap.size w8 (.slice na nn nc) (.slice ra rn rc) g vs) := (HO5.out.later HGB.out).later HB8.out
  have HO9 : Hid (GOwn w4.heap.size w9 (.slice na nn nc) (.slice ra rn rc) g vs) := HO8.out.ge (fun x h1 h2 => HX9.out x h2 (by have := HLT4.out; omega))
  have HE8 : Hid (w8.heap[w5.heap.size]? = some (.cells #[.slice na nn nc, .slice ra rn rc] 27 (0, 0))) := (HB8.out.block _ (by have := HGS.out; omega)).trans HGE.out
  have HE9 : Hid (w9.heap[w5.heap.size]? = some (.cells #[.slice na nn nc, .slice ra rn rc] 27 (0, 0))) := (HX9.out _ (Array.getElem?_eq_some_iff.1 HE8.out).1 (by have h1 := HLT4.out; have h2 := HB5.out.size; omega)).trans HE8.out
  obtain ⟨hw0, d0, d1⟩ := HQ4.out w9 HBW9.out
  have d2 := n2_0 HE9.out
  have d3 := n2_1 HE9.out
  have cE := eqG_sameW g _ _ _ _ w9 HO9.out.at hw0 HGT.out
  clear cM hg9 hx9 hw0
  go_wp2_with fail
  refine cE.mono ?_
  rintro e w10 ⟨rfl, hb10⟩
  have HB10 := hidG hb10
  have HO10 : Hid (GOwn w4.heap.size w10 (.slice na nn nc) (.slice ra rn rc) g vs) := HO9.out.later hb10
  have HE10 : Hid (w10.heap[w5.heap.size]? = some (.cells #[.slice na nn nc, .slice ra rn rc] 27 (0, 0))) := (hb10.block _ (Array.getElem?_eq_some_iff.1 HE9.out).1).trans HE9.out
  have HBW10 : Hid (Below Wb.heap.size Wb w10) := HBW9.out.trans (hb10.mono HBW9.out.size)
  have HL45 : Hid (w4.heap.size ≤ w10.heap.size) := by show _ ≤ _; have h1 := HB5.out.size; have h2 := (Array.getElem?_eq_some_iff.1 HE10.out).1; omega
  have d2 := n2_0 HE10.out
  have d3 := n2_1 HE10.out
  have cG := markG_anyW w10 w4.heap.size _ _ g vs 1 HO10.out HL45.out HGT.out (by decide) (by decide)
  obtain ⟨mm, hmm⟩ : ∃ mm, 1 + cntGr g = mm := ⟨_, rfl⟩
  have hm5 : (mm : Int) ≤ 5000000 := by
    have h1 := cntNs_tot g.nodes
    have h2 : g.nodes.length + totN g.nodes + g.roots.length ≤ 1060000 := HGT.out
    unfold cntGr at hmm
    omega
  have hm6 : ¬ (mm : Int) < 0 := by omega
  have hm7 : ((mm : Int) != (mm : Int)) = false := by simp
  have HMM := hidG hmm
  rw [hmm] at cG
  clear cE hb10 hmm HE8
  go_wp2_with fail
  refine cG.mono ?_
  rintro e w11 ⟨rfl, hO11, hfr⟩
  have HO11 := hidG hO11
  have HBW11 : Hid (Below Wb.heap.size Wb w11) := HBW10.out.trans (hfr.below.mono HB4.out.size)
  have HE11 : Hid (w11.heap[w5.heap.size]? = some (.cells #[.slice na nn nc, .slice ra rn rc] 27 (0, 0))) := (hfr.blk _ (Array.getElem?_eq_some_iff.1 HE10.out).1
    (fun e => Nat.lt_irrefl _ (HO5.out.nodes.lt _ e).2) (fun i v hv e => Nat.lt_irrefl _ (HO5.out.kids.lt hv e).2) (fun e => Nat.lt_irrefl _ (HO5.out.roots.lt _ e).2)).trans HE10.out
  have HH : Hid (∀ x, Below w11.heap.size w11 x → Calls Try.prog 13 #[.agg #[.slice na nn nc, .slice ra rn rc], .int .i64 1] x fun e w' => e = .returned (.int .i64 (mm : Int)) ∧ Below x.heap.size x w') := fun x hb => by
    have := heldG_anyW x _ _ g 1 (HO11.out.later hb).at HGT.out (by decide) (by decide)
    rw [HMM.out] at this
    exact this
  have d2 := n2_0 HE11.out
  have d3 := n2_1 HE11.out
  have cH := HH.out w11 (Below.refl _ _)
  clear cG hO11 hfr
  go_wp2_with fail
  refine cH.mono ?_
  rintro e w12 ⟨rfl, hb12⟩
  have HB12 := hidG hb12
  have HA12 : Hid (Below w.heap.size w w12) := HBB.out.trans ((HBW11.out.trans (hb12.mono HBW11.out.size)).mono HBB.out.size)
  clear cH hb12
  go_wp2_with fail
  refine (toEs_ w12 _ es (HV.out.stays HA12.out) HL.out).mono ?_
  rintro e w13 ⟨⟨v13, rfl, hV13⟩, hb13⟩
  have HB13 := hidG (HB12.out.trans (hb13.mono HB12.out.size))
  have cI2 := HII.out w13 _ es hV13 HT.out HF.out g ok HG.out
  obtain ⟨a13, c13, rfl⟩ := hV13.sl
  clear hb13 hV13
  go_wp2_with fail
  refine cI2.mono ?_
  rintro e w14 ⟨⟨nv4, rv4, vs4, rfl, ⟨na4, nn4, nc4, rfl⟩, ⟨ra4, rn4, rc4, rfl⟩, hO4⟩, hb14⟩
  obtain ⟨Wh, hWh⟩ : ∃ Wh, w14.alloc (.cells #[.slice na4 nn4 nc4, .slice ra4 rn4 rc4] 27) = Wh := ⟨_, rfl⟩
  have hhb : Below w14.heap.size w14 Wh := by rw [← hWh]; exact al_belowG w14 _
  have hhe : Wh.heap[w14.heap.size]? = some (.cells #[.slice na4 nn4 nc4, .slice ra4 rn4 rc4] 27 (0, 0)) := by rw [← hWh]; exact heap_alloc_new w14 _
  have HBH : Hid (Below w11.heap.size w11 Wh) := (HB13.out.trans (hb14.mono HB13.out.size)).trans (hhb.mono (HB13.out.trans (hb14.mono HB13.out.size)).size)
  obtain ⟨hw0, d0, d1⟩ := HQ4.out Wh (HBW11.out.trans (HBH.out.mono HBW11.out.size))
  have d4 := n2_0 hhe
  have d5 := n2_1 hhe
  have cE := eqG_sameW g _ _ _ _ Wh (hO4.later hhb).at hw0 HGT.out
  have HWh := hidG hWh
  have d6 : (w14.alloc (.cells #[.slice na4 nn4 nc4, .slice ra4 rn4 rc4] 27)).cell? ⟨w3.heap.size, 0, none⟩ = some (.slice na0 nn0 nc0) := by rw [hWh]; exact d0
  have d7 : (w14.alloc (.cells #[.slice na4 nn4 nc4, .slice ra4 rn4 rc4] 27)).cell? ⟨w3.heap.size, 1, none⟩ = some (.slice ra0 rn0 rc0) := by rw [hWh]; exact d1
  clear hb14 cI2 hO4 hWh hhb hhe hw0 HB12 HB13
  go_wp2_with fail
  rw [HWh.out]
  refine cE.mono ?_
  rintro e w15 ⟨rfl, hb15⟩
  have HB15 := hidG (HBH.out.trans (hb15.mono HBH.out.size))
  have hE15 := (HB15.out.block _ (Array.getElem?_eq_some_iff.1 HE11.out).1).trans HE11.out
  have d2 := n2_0 hE15
  have d3 := n2_1 hE15
  have cH := HH.out w15 HB15.out
  clear cE hb15 hE15
  go_wp2_with fail
  refine cH.mono ?_
  rintro e w16 ⟨rfl, hb16⟩
  have HBE : Hid (Below w.heap.size w w16) := HBB.out.trans ((HBW11.out.trans ((HB15.out.trans (hb16.mono HB15.out.size)).mono HBW11.out.size)).mono HBB.out.size)
  clear cH hb16
  go_wp2_with fail
  go_ret
  exact ⟨rfl, HBE.out⟩
end Go.Proofs.Ytkdlakcmhdiojaa
