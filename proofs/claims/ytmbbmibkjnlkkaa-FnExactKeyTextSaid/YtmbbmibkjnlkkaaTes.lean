/- A list of events that came in: how large it is, a copy of it in new memory, whether two are alike. -/
import Derived.Test.YtmbbmibkjnlkkaaTez
import Derived.Test.YtmbbmibkjnlkkaaBwr
import Derived.Deep.OwnRows
import Derived.Laws.MakeOwn
import Derived.Deep.RegionWith
import Derived.Deep.QuietTactic
import Derived.OwnWalk
namespace Go.Proofs.Ytmbbmibkjnlkkaa
open Go.ChangeShapes Go.WideShapes Go.ChangeAt Go.RowKit Go.Deep Go.BigFrame
def SzEs (es : List Ev) (w : World) (e : Ending) (w' : World) : Prop :=
  (∃ r : Int, e = .returned (.int .i64 r) ∧ (r = -1 ∨ (0 ≤ r ∧ totE es + es.length ≤ 1048576))) ∧ Below w.heap.size w w'
set_option maxHeartbeats 4000000 in
theorem szEs_ (w : World) (v : Value) (es : List Ev) (hV : SlE w v es) (hw : wideEs es) (hl : es.length ≤ 9223372036854775807) :
    Calls Try.prog 5 #[v, .int .i64 1048576] w fun e w' => SzEs es w e w' := by
  obtain ⟨a, c, rfl⟩ := hV.sl
  have HV : Hid (SlE w (.slice a es.length c) es) := hV
  have HW : Hid (wideEs es) := hw
  clear hV hw
  by_cases h : (1048576 : Int) < (es.length : Int)
  · go_enter Try.func5, Try.ntmps5
    go_wp2_with fail
    go_ret
    exact ⟨⟨_, rfl, .inl rfl⟩, Below.refl _ _⟩
  · go_enter Try.func5, Try.ntmps5
    go_wp2_with fail
    go_loopw [1, 5] (fun l i wr => ∃ (k : Nat) (m : Int), k ≤ es.length ∧ i = .int .i64 k ∧ l = .int .i64 m ∧ 0 ≤ m ∧ m + (totE (es.take k) : Int) + (es.length : Int) = 1048576 ∧ Below w.heap.size w wr) (fun _ i _ => es.length - (intOf i).toNat)
    case atStart => exact ⟨0, 1048576 - es.length, Nat.zero_le _, rfl, by go_num, by omega, by simp [totE], Below.refl _ _⟩
    case round =>
      obtain ⟨k, m, hk, rfl, rfl, hm0, hsum, hb⟩ := hrel
      by_cases hlt : k < es.length
      · obtain ⟨e, hx⟩ : ∃ e, es[k]? = some e := ⟨_, List.getElem?_eq_getElem hlt⟩
        obtain ⟨b, off, rfl, _, ⟨c0, c1, c2, c3, c4, c5, c6, c7⟩⟩ := HV.out.at hb hx
        have hzn := HW.out _ (List.mem_of_getElem? hx)
        have hts := totE_take hx
        have hE := szE_any e m wr hm0 (by omega) hzn
        have hlt' : (k : Int) < (es.length : Int) := by omega
        have hlc := szE_cases e m
        have HTS : Hid (totE (es.take (k + 1)) = totE (es.take k) + (e.text.size + e.anchor.size + e.tag.size)) := hts
        have HSUM : Hid (m + (totE (es.take k) : Int) + (es.length : Int) = 1048576) := hsum
        clear hx hts hsum hzn
        generalize hzz : szE e m = m' at *
        clear hzz
        obtain ⟨kind, style, flag, text, anchor, tag, at_, code⟩ := e
        unfold Ev.row at hE
        go_wp2_with fail
        refine hE.mono ?_
        rintro e w1 ⟨rfl, hb1⟩
        have hB1 : Below w.heap.size w w1 := hb.trans (hb1.mono hb.size)
        clear hE hb1 c0 c1 c2 c3 c4 c5 c6 c7
        rcases hlc with rfl | ⟨e, hge⟩
        · go_wp2_with fail
          go_ret
          exact ⟨⟨_, rfl, .inl rfl⟩, hB1⟩
        · have hge' : ¬ m' < 0 := by omega
          have HEQ : Hid (m' = m - text.size - anchor.size - tag.size) := e
          clear e hge
          go_wp2_with fail
          go_roundw
          case rel => exact ⟨k + 1, _, hlt, by go_num, rfl, by omega, by have h1 := HTS.out; have h2 := HSUM.out; have h3 := HEQ.out; omega, hB1⟩
          case measure => simp [intOf]; omega
      · obtain rfl : k = es.length := by omega
        rw [List.take_length] at hsum
        have HSUM : Hid (m + (totE es : Int) + (es.length : Int) = 1048576) := hsum
        clear hsum
        go_wp2_with fail
        go_ret
        exact ⟨⟨_, rfl, .inr ⟨hm0, by have := HSUM.out; omega⟩⟩, hb⟩
/-- The cells of a list of events. -/
def cellsE (es : List Ev) : List Value := es.flatMap (fun e => e.row.toList)
theorem cellsE_len : ∀ es : List Ev, (cellsE es).length = es.length * 8
  | [] => rfl
  | h :: t => by
    have := cellsE_len t
    have h8 : h.row.toList.length = 8 := rfl
    unfold cellsE at *
    simp only [List.flatMap_cons, List.length_append, List.length_cons, this, h8]
    omega
theorem cellsE_at : ∀ {es : List Ev} {i : Nat} {e : Ev}, es[i]? = some e → ∀ j u, e.row[j]? = some u → (cellsE es)[i * 8 + j]? = some u
  | [], i, h, e => by simp at e
  | x :: t, 0, h, e => by
    obtain rfl : x = h := by simpa using e
    intro j u hu
    have hj : j < 8 := (Array.getElem?_eq_some_iff.1 hu).1
    show (x.row.toList ++ cellsE t)[0 * 8 + j]? = some u
    rw [List.getElem?_append_left (by show 0 * 8 + j < 8; omega)]
    simpa using hu
  | x :: t, i + 1, h, e => by
    intro j u hu
    have := cellsE_at (es := t) (i := i) (e := h) (by simpa using e) j u hu
    show (x.row.toList ++ cellsE t)[(i + 1) * 8 + j]? = some u
    have h8 : x.row.toList.length = 8 := rfl
    rw [List.getElem?_append_right (by rw [h8]; omega), h8, show (i + 1) * 8 + j - 8 = i * 8 + j by omega]
    exact this
theorem cellsE_snoc (rs : List Ev) (h : Ev) : cellsE (rs ++ [h]) = cellsE rs ++ h.row.toList := by simp [cellsE]
def zrow : Array Value := #[.int .i64 0, .int .i64 0, .bool false, .string ByteArray.empty, .string ByteArray.empty, .string ByteArray.empty, .int .i64 0, .int .i64 0]
def zE (j : Nat) : Value := zrow[j % 8]!
theorem cellsE_step {rs : List Ev} {k : Nat} (hk : rs.length = k) (h : Ev) (j : Nat) :
    (if j = k * 8 + 7 then Value.int .i64 h.code else if j = k * 8 + 6 then Value.int .i64 h.at_ else if j = k * 8 + 5 then Value.string h.tag else if j = k * 8 + 4 then Value.string h.anchor else if j = k * 8 + 3 then Value.string h.text else if j = k * 8 + 2 then Value.bool h.flag else if j = k * 8 + 1 then Value.int .i64 h.style else if j = k * 8 then Value.int .i64 h.kind else (cellsE rs)[j]?.getD (zE j)) = (cellsE (rs ++ [h]))[j]?.getD (zE j) := by
  have hl := cellsE_len rs
  rw [cellsE_snoc, List.getElem?_append]
  by_cases h1 : j < (cellsE rs).length
  · rw [if_pos h1]
    repeat rw [if_neg (by omega)]
  · rw [if_neg h1]
    by_cases h9 : j < k * 8 + 8
    · obtain ⟨d, hd, hd8⟩ : ∃ d, j = k * 8 + d ∧ d < 8 := ⟨j - k * 8, by omega, by omega⟩
      have e : j - (cellsE rs).length = d := by omega
      rw [e]
      subst hd
      clear e h1 h9 hl
      rcases (show d = 0 ∨ d = 1 ∨ d = 2 ∨ d = 3 ∨ d = 4 ∨ d = 5 ∨ d = 6 ∨ d = 7 by omega) with rfl | rfl | rfl | rfl | rfl | rfl | rfl | rfl
      all_goals
        (repeat (first | rw [if_pos (by omega)] | rw [if_neg (by omega)]))
        rfl
    · repeat rw [if_neg (by omega)]
      rw [List.getElem?_eq_none (l := cellsE rs) (by omega), List.getElem?_eq_none (l := h.row.toList) (by show 8 ≤ _; omega)]
theorem infoE : (Try.prog.info? 38).map (fun i => (i.zero, i.size, i.bytes)) = some (some (.agg zrow), 8, 88) := by kernel_rfl
theorem infoE_parts : ∃ ti, Try.prog.info? 38 = some ti ∧ ti.zero = some (.agg zrow) ∧ ti.size = 8 ∧ ti.bytes = 88 := by
  have h := infoE
  cases e : Try.prog.info? 38 with
  | none => rw [e] at h; cases h
  | some ti =>
    rw [e] at h
    simp at h
    exact ⟨ti, rfl, h.1, h.2.1, h.2.2⟩
set_option maxHeartbeats 8000000 in
theorem toEs_ (w : World) (v : Value) (es : List Ev) (hV : SlE w v es) (hl : es.length ≤ 1048576) :
    Calls Try.prog 7 #[v] w fun e w' => (∃ v', e = .returned v' ∧ SlE w' v' es) ∧ Below w.heap.size w w' := by
  obtain ⟨a, c, rfl⟩ := hV.sl
  have HV : Hid (SlE w (.slice a es.length c) es) := hV
  clear hV
  obtain ⟨ti, hti, hz0, hz1, hz2⟩ := infoE_parts
  have hmk : ∀ w : World, (Instr.makeSlice 25 (.int .i64 (es.length : Int)) (.int .i64 (es.length : Int))).run Try.prog w = .ok (.slice (some ⟨w.heap.size, 0, none⟩) es.length es.length) (w.alloc (.cells (madeCells zrow (es.length * 8)) 38)) := by
    intro w
    have := run_make (P := Try.prog) w 25 38 ti _ Try.underlying25 hti hz0 .i64 .i64 es.length es.length (by omega) (Int.le_refl _) (by rw [hz2]; omega) (by omega)
    rw [hz1] at this
    simpa [Value.cells] using this
  clear hti hz0 hz1 hz2
  go_enter Try.func7, Try.ntmps7
  go_wp2_with fail
  go_loopw [4] (fun i wr => ∃ k : Nat, k ≤ es.length ∧ i = .int .i64 k ∧ Hid (wr.rowIs w.heap.size 38 (es.length * 8) (fun j => (cellsE (es.take k))[j]?.getD (zE j))) ∧ Below w.heap.size w wr) (fun i _ => es.length - (intOf i).toNat)
  case atStart =>
    refine ⟨0, Nat.zero_le _, rfl, ?_, (Below.refl _ _).alloc (Nat.le_refl _) _⟩
    have := World.rowIs_alloc w (madeCells zrow (es.length * 8)) 38 zE (fun i hi => by
      rw [size_madeCells] at hi
      unfold madeCells zE
      have h8 : zrow.size = 8 := rfl
      simp [hi, h8])
    rw [size_madeCells] at this
    exact this.congr (fun i hi => by simp [cellsE])
  case round =>
    obtain ⟨k, hk, rfl, HC, hb⟩ := hrel
    by_cases hlt : k < es.length
    · obtain ⟨e, hx⟩ : ∃ h, es[k]? = some h := ⟨_, List.getElem?_eq_getElem hlt⟩
      obtain ⟨b, off, rfl, _, ⟨c0, c1, c2, c3, c4, c5, c6, c7⟩⟩ := HV.out.at hb hx
      have HX : Hid (es.take (k + 1) = es.take k ++ [e]) := by show es.take (k + 1) = _; rw [List.take_add_one, hx]; rfl
      have hlt' : (k : Int) < (es.length : Int) := by omega
      have hszH := HC.out.lt
      have htl : (es.take k).length = k := by rw [List.length_take]; omega
      have HTL : Hid ((es.take k).length = k) := htl
      have hE := toE_any e wr
      clear hx htl
      obtain ⟨kind, style, flag, text, anchor, tag, at_, code⟩ := e
      unfold Ev.row at hE
      go_wp2_with fail
      refine hE.mono ?_
      rintro e w1 ⟨rfl, hb1⟩
      clear hE c0 c1 c2 c3 c4 c5 c6 c7
      have hrow := HC.out.of_block (hb1.block _ hszH)
      have k0 : w1.cell? ⟨w.heap.size, k * 8, none⟩ = some _ := hrow.cell (by omega)
      have k1 : w1.cell? ⟨w.heap.size, k * 8 + 1, none⟩ = some _ := hrow.cell (by omega)
      have k2 : w1.cell? ⟨w.heap.size, k * 8 + 2, none⟩ = some _ := hrow.cell (by omega)
      have k3 : w1.cell? ⟨w.heap.size, k * 8 + 3, none⟩ = some _ := hrow.cell (by omega)
      have k4 : w1.cell? ⟨w.heap.size, k * 8 + 4, none⟩ = some _ := hrow.cell (by omega)
      have k5 : w1.cell? ⟨w.heap.size, k * 8 + 5, none⟩ = some _ := hrow.cell (by omega)
      have k6 : w1.cell? ⟨w.heap.size, k * 8 + 6, none⟩ = some _ := hrow.cell (by omega)
      have k7 : w1.cell? ⟨w.heap.size, k * 8 + 7, none⟩ = some _ := hrow.cell (by omega)
      have f0 := hrow.frozen (k * 8)
      have f1 := hrow.frozen (k * 8 + 1)
      have f2 := hrow.frozen (k * 8 + 2)
      have f3 := hrow.frozen (k * 8 + 3)
      have f4 := hrow.frozen (k * 8 + 4)
      have f5 := hrow.frozen (k * 8 + 5)
      have f6 := hrow.frozen (k * 8 + 6)
      have f7 := hrow.frozen (k * 8 + 7)
      have hB1 : Below w.heap.size w w1 := hb.trans (hb1.mono hb.size)
      have RA : Hid (((((((((w1.setCell ⟨w.heap.size, k * 8, none⟩ (.int .i64 kind)).setCell ⟨w.heap.size, k * 8 + 1, none⟩ (.int .i64 style)).setCell ⟨w.heap.size, k * 8 + 2, none⟩ (.bool flag)).setCell ⟨w.heap.size, k * 8 + 3, none⟩ (.string text)).setCell ⟨w.heap.size, k * 8 + 4, none⟩ (.string anchor)).setCell ⟨w.heap.size, k * 8 + 5, none⟩ (.string tag)).setCell ⟨w.heap.size, k * 8 + 6, none⟩ (.int .i64 at_)).setCell ⟨w.heap.size, k * 8 + 7, none⟩ (.int .i64 code)).rowIs w.heap.size 38 (es.length * 8) (fun j => (cellsE (es.take (k + 1)))[j]?.getD (zE j))) := by
        show World.rowIs _ _ _ _ _
        rw [HX.out]
        exact ((((((((hrow.set (k * 8) _).set (k * 8 + 1) _).set (k * 8 + 2) _).set (k * 8 + 3) _).set (k * 8 + 4) _).set (k * 8 + 5) _).set (k * 8 + 6) _).set (k * 8 + 7) _).congr (fun j _ => cellsE_step HTL.out ⟨kind, style, flag, text, anchor, tag, at_, code⟩ j)
      have RB : Hid (Below w.heap.size w ((((((((w1.setCell ⟨w.heap.size, k * 8, none⟩ (.int .i64 kind)).setCell ⟨w.heap.size, k * 8 + 1, none⟩ (.int .i64 style)).setCell ⟨w.heap.size, k * 8 + 2, none⟩ (.bool flag)).setCell ⟨w.heap.size, k * 8 + 3, none⟩ (.string text)).setCell ⟨w.heap.size, k * 8 + 4, none⟩ (.string anchor)).setCell ⟨w.heap.size, k * 8 + 5, none⟩ (.string tag)).setCell ⟨w.heap.size, k * 8 + 6, none⟩ (.int .i64 at_)).setCell ⟨w.heap.size, k * 8 + 7, none⟩ (.int .i64 code))) :=
        (((((((hB1.setCell (Nat.le_refl _) _).setCell (Nat.le_refl _) _).setCell (Nat.le_refl _) _).setCell (Nat.le_refl _) _).setCell (Nat.le_refl _) _).setCell (Nat.le_refl _) _).setCell (Nat.le_refl _) _).setCell (Nat.le_refl _) _
      clear hb1 hrow HC hB1
      go_wp2_with fail
      go_roundw
      case rel => exact ⟨k + 1, hlt, by go_num, RA, RB.out⟩
      case measure => simp [intOf]; omega
    · go_wp2_with fail
      go_ret
      have ek : k = es.length := by omega
      have hrow := HC.out
      rw [ek, List.take_length] at hrow
      refine ⟨⟨_, rfl, ?_⟩, hb⟩
      by_cases h0 : es = []
      · left; subst h0; exact ⟨rfl, _, _, rfl⟩
      · right
        refine ⟨h0, w.heap.size, 0, es.length, rfl, hrow.lt, Nat.le_refl _, fun i h hi j u hu => ?_⟩
        have hil : i < es.length := by
          rcases Nat.lt_or_ge i es.length with h' | h'
          · exact h'
          · rw [List.getElem?_eq_none h'] at hi; cases hi
        have hj : j < 8 := (Array.getElem?_eq_some_iff.1 hu).1
        have q := cellsE_at hi j u hu
        rw [Nat.zero_add]
        refine (hrow.cell (by omega)).trans ?_
        rw [q]; rfl
end Go.Proofs.Ytmbbmibkjnlkkaa
