/- Several texts in one: Tes Teq Lnt Int Isp. -/
import Derived.Test.YtmbbmibkjnlkkaaZpk
import Derived.Test.YtmbbmibkjnlkkaaZpb
import Derived.Deep.OwnRows
import Derived.Laws.MakeOwn
import Derived.Deep.RegionWith
import Derived.Deep.QuietTactic
import Derived.OwnWalk
import Derived.Test.YtmbbmibkjnlkkaaSnt
import Derived.Test.YtmbbmibkjnlkkaaIwt
import Derived.Test.YtmbbmibkjnlkkaaZpi
/- A list of events that came in: how large it is, a copy of it in new memory, whether two are alike. -/
namespace Go.Proofs.Ytmbbmibkjnlkkaa
open Go.ChangeShapes Go.WideShapes Go.ChangeAt Go.RowKit Go.Deep Go.BigFrame
def SzEs (es : List Ev) (w : World) (e : Ending) (w' : World) : Prop :=
  (∃ r : Int, e = .returned (.int .i64 r) ∧ (r = -1 ∨ (0 ≤ r ∧ totE es + es.length ≤ 1048576))) ∧ Below w.heap.size w w'
set_option maxHeartbeats 4000000 in
theorem szEs_ (w : World) (v : Value) (es : List Ev) (hV : SlE w v es) (hw : wideEs es) (hl : es.length ≤ 9223372036854775807) :
    Calls Try.prog 5 #[v, .int .i64 1048576] w fun e w' => SzEs es w e w' := by
  obtain ⟨a, c, rfl⟩ := hV.sl
  have HV : Hid (SlE w (.slice a es.length c) es) := hV
  have HW : Hid (wideEs es) := hw
  clear hV hw
  by_cases h : (1048576 : Int) < (es.length : Int)
  · go_enter Try.func5, Try.ntmps5
    go_wp2_with fail
    go_ret
    exact ⟨⟨_, rfl, .inl rfl⟩, Below.refl _ _⟩
  · go_enter Try.func5, Try.ntmps5
    go_wp2_with fail
    go_loopw [1, 5] (fun l i wr => ∃ (k : Nat) (m : Int), k ≤ es.length ∧ i = .int .i64 k ∧ l = .int .i64 m ∧ 0 ≤ m ∧ m + (totE (es.take k) : Int) + (es.length : Int) = 1048576 ∧ Below w.heap.size w wr) (fun _ i _ => es.length - (intOf i).toNat)
    case atStart => exact ⟨0, 1048576 - es.length, Nat.zero_le _, rfl, by go_num, by omega, by simp [totE], Below.refl _ _⟩
    case round =>
      obtain ⟨k, m, hk, rfl, rfl, hm0, hsum, hb⟩ := hrel
      by_cases hlt : k < es.length
      · obtain ⟨e, hx⟩ : ∃ e, es[k]? = some e := ⟨_, List.getElem?_eq_getElem hlt⟩
        obtain ⟨b, off, rfl, _, ⟨c0, c1, c2, c3, c4, c5, c6, c7⟩⟩ := HV.out.at hb hx
        have hzn := HW.out _ (List.mem_of_getElem? hx)
        have hts := totE_take hx
        have hE := szE_any e m wr hm0 (by omega) hzn
        have hlt' : (k : Int) < (es.length : Int) := by omega
        have hlc := szE_cases e m
        have HTS : Hid (totE (es.take (k + 1)) = totE (es.take k) + (e.text.size + e.anchor.size + e.tag.size)) := hts
        have HSUM : Hid (m + (totE (es.take k) : Int) + (es.length : Int) = 1048576) := hsum
        clear hx hts hsum hzn
        generalize hzz : szE e m = m' at *
        clear hzz
        obtain ⟨kind, style, flag, text, anchor, tag, at_, code⟩ := e
        unfold Ev.row at hE
        go_wp2_with fail
        refine hE.mono ?_
        rintro e w1 ⟨rfl, hb1⟩
        have hB1 : Below w.heap.size w w1 := hb.trans (hb1.mono hb.size)
        clear hE hb1 c0 c1 c2 c3 c4 c5 c6 c7
        rcases hlc with rfl | ⟨e, hge⟩
        · go_wp2_with fail
          go_ret
          exact ⟨⟨_, rfl, .inl rfl⟩, hB1⟩
        · have hge' : ¬ m' < 0 := by omega
          have HEQ : Hid (m' = m - text.size - anchor.size - tag.size) := e
          clear e hge
          go_wp2_with fail
          go_roundw
          case rel => exact ⟨k + 1, _, hlt, by go_num, rfl, by omega, by have h1 := HTS.out; have h2 := HSUM.out; have h3 := HEQ.out; omega, hB1⟩
          case measure => simp [intOf]; omega
      · obtain rfl : k = es.length := by omega
        rw [List.take_length] at hsum
        have HSUM : Hid (m + (totE es : Int) + (es.length : Int) = 1048576) := hsum
        clear hsum
        go_wp2_with fail
        go_ret
        exact ⟨⟨_, rfl, .inr ⟨hm0, by have := HSUM.out; omega⟩⟩, hb⟩
/-- The cells of a list of events. -/
def cellsE (es : List Ev) : List Value := es.flatMap (fun e => e.row.toList)
theorem cellsE_len : ∀ es : List Ev, (cellsE es).length = es.length * 8
  | [] => rfl
  | h :: t => by
    have := cellsE_len t
    have h8 : h.row.toList.length = 8 := rfl
    unfold cellsE at *
    simp only [List.flatMap_cons, List.length_append, List.length_cons, this, h8]
    omega
theorem cellsE_at : ∀ {es : List Ev} {i : Nat} {e : Ev}, es[i]? = some e → ∀ j u, e.row[j]? = some u → (cellsE es)[i * 8 + j]? = some u
  | [], i, h, e => by simp at e
  | x :: t, 0, h, e => by
    obtain rfl : x = h := by simpa using e
    intro j u hu
    have hj : j < 8 := (Array.getElem?_eq_some_iff.1 hu).1
    show (x.row.toList ++ cellsE t)[0 * 8 + j]? = some u
    rw [List.getElem?_append_left (by show 0 * 8 + j < 8; omega)]
    simpa using hu
  | x :: t, i + 1, h, e => by
    intro j u hu
    have := cellsE_at (es := t) (i := i) (e := h) (by simpa using e) j u hu
    show (x.row.toList ++ cellsE t)[(i + 1) * 8 + j]? = some u
    have h8 : x.row.toList.length = 8 := rfl
    rw [List.getElem?_append_right (by rw [h8]; omega), h8, show (i + 1) * 8 + j - 8 = i * 8 + j by omega]
    exact this
theorem cellsE_snoc (rs : List Ev) (h : Ev) : cellsE (rs ++ [h]) = cellsE rs ++ h.row.toList := by simp [cellsE]
def zrow : Array Value := #[.int .i64 0, .int .i64 0, .bool false, .string ByteArray.empty, .string ByteArray.empty, .string ByteArray.empty, .int .i64 0, .int .i64 0]
def zE (j : Nat) : Value := zrow[j % 8]!
theorem cellsE_step {rs : List Ev} {k : Nat} (hk : rs.length = k) (h : Ev) (j : Nat) :
    (if j = k * 8 + 7 then Value.int .i64 h.code else if j = k * 8 + 6 then Value.int .i64 h.at_ else if j = k * 8 + 5 then Value.string h.tag else if j = k * 8 + 4 then Value.string h.anchor else if j = k * 8 + 3 then Value.string h.text else if j = k * 8 + 2 then Value.bool h.flag else if j = k * 8 + 1 then Value.int .i64 h.style else if j = k * 8 then Value.int .i64 h.kind else (cellsE rs)[j]?.getD (zE j)) = (cellsE (rs ++ [h]))[j]?.getD (zE j) := by
  have hl := cellsE_len rs
  rw [cellsE_snoc, List.getElem?_append]
  by_cases h1 : j < (cellsE rs).length
  · rw [if_pos h1]
    repeat rw [if_neg (by omega)]
  · rw [if_neg h1]
    by_cases h9 : j < k * 8 + 8
    · obtain ⟨d, hd, hd8⟩ : ∃ d, j = k * 8 + d ∧ d < 8 := ⟨j - k * 8, by omega, by omega⟩
      have e : j - (cellsE rs).length = d := by omega
      rw [e]
      subst hd
      clear e h1 h9 hl
      rcases (show d = 0 ∨ d = 1 ∨ d = 2 ∨ d = 3 ∨ d = 4 ∨ d = 5 ∨ d = 6 ∨ d = 7 by omega) with rfl | rfl | rfl | rfl | rfl | rfl | rfl | rfl
      all_goals
        (repeat (first | rw [if_pos (by omega)] | rw [if_neg (by omega)]))
        rfl
    · repeat rw [if_neg (by omega)]
      rw [List.getElem?_eq_none (l := cellsE rs) (by omega), List.getElem?_eq_none (l := h.row.toList) (by show 8 ≤ _; omega)]
theorem infoE : (Try.prog.info? 38).map (fun i => (i.zero, i.size, i.bytes)) = some (some (.agg zrow), 8, 88) := by kernel_rfl
theorem infoE_parts : ∃ ti, Try.prog.info? 38 = some ti ∧ ti.zero = some (.agg zrow) ∧ ti.size = 8 ∧ ti.bytes = 88 := by
  have h := infoE
  cases e : Try.prog.info? 38 with
  | none => rw [e] at h; cases h
  | some ti =>
    rw [e] at h
    simp at h
    exact ⟨ti, rfl, h.1, h.2.1, h.2.2⟩
set_option maxHeartbeats 8000000 in
theorem toEs_ (w : World) (v : Value) (es : List Ev) (hV : SlE w v es) (hl : es.length ≤ 1048576) :
    Calls Try.prog 7 #[v] w fun e w' => (∃ v', e = .returned v' ∧ SlE w' v' es) ∧ Below w.heap.size w w' := by
  obtain ⟨a, c, rfl⟩ := hV.sl
  have HV : Hid (SlE w (.slice a es.length c) es) := hV
  clear hV
  obtain ⟨ti, hti, hz0, hz1, hz2⟩ := infoE_parts
  have hmk : ∀ w : World, (Instr.makeSlice 25 (.int .i64 (es.length : Int)) (.int .i64 (es.length : Int))).run Try.prog w = .ok (.slice (some ⟨w.heap.size, 0, none⟩) es.length es.length) (w.alloc (.cells (madeCells zrow (es.length * 8)) 38)) := by
    intro w
    have := run_make (P := Try.prog) w 25 38 ti _ Try.underlying25 hti hz0 .i64 .i64 es.length es.length (by omega) (Int.le_refl _) (by rw [hz2]; omega) (by omega)
    rw [hz1] at this
    simpa [Value.cells] using this
  clear hti hz0 hz1 hz2
  go_enter Try.func7, Try.ntmps7
  go_wp2_with fail
  go_loopw [4] (fun i wr => ∃ k : Nat, k ≤ es.length ∧ i = .int .i64 k ∧ Hid (wr.rowIs w.heap.size 38 (es.length * 8) (fun j => (cellsE (es.take k))[j]?.getD (zE j))) ∧ Below w.heap.size w wr) (fun i _ => es.length - (intOf i).toNat)
  case atStart =>
    refine ⟨0, Nat.zero_le _, rfl, ?_, (Below.refl _ _).alloc (Nat.le_refl _) _⟩
    have := World.rowIs_alloc w (madeCells zrow (es.length * 8)) 38 zE (fun i hi => by
      rw [size_madeCells] at hi
      unfold madeCells zE
      have h8 : zrow.size = 8 := rfl
      simp [hi, h8])
    rw [size_madeCells] at this
    exact this.congr (fun i hi => by simp [cellsE])
  case round =>
    obtain ⟨k, hk, rfl, HC, hb⟩ := hrel
    by_cases hlt : k < es.length
    · obtain ⟨e, hx⟩ : ∃ h, es[k]? = some h := ⟨_, List.getElem?_eq_getElem hlt⟩
      obtain ⟨b, off, rfl, _, ⟨c0, c1, c2, c3, c4, c5, c6, c7⟩⟩ := HV.out.at hb hx
      have HX : Hid (es.take (k + 1) = es.take k ++ [e]) := by show es.take (k + 1) = _; rw [List.take_add_one, hx]; rfl
      have hlt' : (k : Int) < (es.length : Int) := by omega
      have hszH := HC.out.lt
      have htl : (es.take k).length = k := by rw [List.length_take]; omega
      have HTL : Hid ((es.take k).length = k) := htl
      have hE := toE_any e wr
      clear hx htl
      obtain ⟨kind, style, flag, text, anchor, tag, at_, code⟩ := e
      unfold Ev.row at hE
      go_wp2_with fail
      refine hE.mono ?_
      rintro e w1 ⟨rfl, hb1⟩
      clear hE c0 c1 c2 c3 c4 c5 c6 c7
      have hrow := HC.out.of_block (hb1.block _ hszH)
      have k0 : w1.cell? ⟨w.heap.size, k * 8, none⟩ = some _ := hrow.cell (by omega)
      have k1 : w1.cell? ⟨w.heap.size, k * 8 + 1, none⟩ = some _ := hrow.cell (by omega)
      have k2 : w1.cell? ⟨w.heap.size, k * 8 + 2, none⟩ = some _ := hrow.cell (by omega)
      have k3 : w1.cell? ⟨w.heap.size, k * 8 + 3, none⟩ = some _ := hrow.cell (by omega)
      have k4 : w1.cell? ⟨w.heap.size, k * 8 + 4, none⟩ = some _ := hrow.cell (by omega)
      have k5 : w1.cell? ⟨w.heap.size, k * 8 + 5, none⟩ = some _ := hrow.cell (by omega)
      have k6 : w1.cell? ⟨w.heap.size, k * 8 + 6, none⟩ = some _ := hrow.cell (by omega)
      have k7 : w1.cell? ⟨w.heap.size, k * 8 + 7, none⟩ = some _ := hrow.cell (by omega)
      have f0 := hrow.frozen (k * 8)
      have f1 := hrow.frozen (k * 8 + 1)
      have f2 := hrow.frozen (k * 8 + 2)
      have f3 := hrow.frozen (k * 8 + 3)
      have f4 := hrow.frozen (k * 8 + 4)
      have f5 := hrow.frozen (k * 8 + 5)
      have f6 := hrow.frozen (k * 8 + 6)
      have f7 := hrow.frozen (k * 8 + 7)
      have hB1 : Below w.heap.size w w1 := hb.trans (hb1.mono hb.size)
      have RA : Hid (((((((((w1.setCell ⟨w.heap.size, k * 8, none⟩ (.int .i64 kind)).setCell ⟨w.heap.size, k * 8 + 1, none⟩ (.int .i64 style)).setCell ⟨w.heap.size, k * 8 + 2, none⟩ (.bool flag)).setCell ⟨w.heap.size, k * 8 + 3, none⟩ (.string text)).setCell ⟨w.heap.size, k * 8 + 4, none⟩ (.string anchor)).setCell ⟨w.heap.size, k * 8 + 5, none⟩ (.string tag)).setCell ⟨w.heap.size, k * 8 + 6, none⟩ (.int .i64 at_)).setCell ⟨w.heap.size, k * 8 + 7, none⟩ (.int .i64 code)).rowIs w.heap.size 38 (es.length * 8) (fun j => (cellsE (es.take (k + 1)))[j]?.getD (zE j))) := by
        show World.rowIs _ _ _ _ _
        rw [HX.out]
        exact ((((((((hrow.set (k * 8) _).set (k * 8 + 1) _).set (k * 8 + 2) _).set (k * 8 + 3) _).set (k * 8 + 4) _).set (k * 8 + 5) _).set (k * 8 + 6) _).set (k * 8 + 7) _).congr (fun j _ => cellsE_step HTL.out ⟨kind, style, flag, text, anchor, tag, at_, code⟩ j)
      have RB : Hid (Below w.heap.size w ((((((((w1.setCell ⟨w.heap.size, k * 8, none⟩ (.int .i64 kind)).setCell ⟨w.heap.size, k * 8 + 1, none⟩ (.int .i64 style)).setCell ⟨w.heap.size, k * 8 + 2, none⟩ (.bool flag)).setCell ⟨w.heap.size, k * 8 + 3, none⟩ (.string text)).setCell ⟨w.heap.size, k * 8 + 4, none⟩ (.string anchor)).setCell ⟨w.heap.size, k * 8 + 5, none⟩ (.string tag)).setCell ⟨w.heap.size, k * 8 + 6, none⟩ (.int .i64 at_)).setCell ⟨w.heap.size, k * 8 + 7, none⟩ (.int .i64 code))) :=
        (((((((hB1.setCell (Nat.le_refl _) _).setCell (Nat.le_refl _) _).setCell (Nat.le_refl _) _).setCell (Nat.le_refl _) _).setCell (Nat.le_refl _) _).setCell (Nat.le_refl _) _).setCell (Nat.le_refl _) _).setCell (Nat.le_refl _) _
      clear hb1 hrow HC hB1
      go_wp2_with fail
      go_roundw
      case rel => exact ⟨k + 1, hlt, by go_num, RA, RB.out⟩
      case measure => simp [intOf]; omega
    · go_wp2_with fail
      go_ret
      have ek : k = es.length := by omega
      have hrow := HC.out
      rw [ek, List.take_length] at hrow
      refine ⟨⟨_, rfl, ?_⟩, hb⟩
      by_cases h0 : es = []
      · left; subst h0; exact ⟨rfl, _, _, rfl⟩
      · right
        refine ⟨h0, w.heap.size, 0, es.length, rfl, hrow.lt, Nat.le_refl _, fun i h hi j u hu => ?_⟩
        have hil : i < es.length := by
          rcases Nat.lt_or_ge i es.length with h' | h'
          · exact h'
          · rw [List.getElem?_eq_none h'] at hi; cases hi
        have hj : j < 8 := (Array.getElem?_eq_some_iff.1 hu).1
        have q := cellsE_at hi j u hu
        rw [Nat.zero_add]
        refine (hrow.cell (by omega)).trans ?_
        rw [q]; rfl
end Go.Proofs.Ytmbbmibkjnlkkaa
/- Whether two events, or two lists of events, are alike: where they are the same. -/
namespace Go.Proofs.Ytmbbmibkjnlkkaa
open Go.ChangeShapes Go.WideShapes Go.ChangeAt Go.RowKit Go.Deep Go.BigFrame
set_option maxHeartbeats 4000000 in
theorem eqE_ (e : Ev) (w : World) :
    Calls Try.prog 22 #[.agg e.row, .agg e.row] w fun r w' => r = .returned (.bool true) ∧ Below w.heap.size w w' := by
  obtain ⟨kind, style, flag, text, anchor, tag, at_, code⟩ := e
  show Calls Try.prog 22 #[.agg #[.int .i64 kind, .int .i64 style, .bool flag, .string text, .string anchor, .string tag, .int .i64 at_, .int .i64 code], .agg #[.int .i64 kind, .int .i64 style, .bool flag, .string text, .string anchor, .string tag, .int .i64 at_, .int .i64 code]] w fun r w' => r = .returned (.bool true) ∧ Below w.heap.size w w'
  have h1 : (kind != kind) = false := by simp
  have h2 : (style != style) = false := by simp
  have h3 : (flag != flag) = false := by cases flag <;> rfl
  have h4 : (text.toList != text.toList) = false := by simp
  have h5 : (anchor.toList != anchor.toList) = false := by simp
  have h6 : (tag.toList != tag.toList) = false := by simp
  have h7 : (at_ != at_) = false := by simp
  have h8 : (code != code) = false := by simp
  go_enter Try.func22, Try.ntmps22
  go_wp2_with fail
  go_ret
  exact ⟨rfl, ((Below.refl _ w).alloc (Nat.le_refl _) _).alloc (by simp) _⟩
set_option maxHeartbeats 8000000 in
theorem eqEs_ (w : World) (v u : Value) (es : List Ev) (hV : SlE w v es) (hU : SlE w u es) (hl : es.length ≤ 16777216) :
    Calls Try.prog 9 #[v, u] w fun e w' => e = .returned (.bool true) ∧ Below w.heap.size w w' := by
  obtain ⟨a, c, rfl⟩ := hV.sl
  obtain ⟨a', c', rfl⟩ := hU.sl
  have HV : Hid (SlE w (.slice a es.length c) es) := hV
  have HU : Hid (SlE w (.slice a' es.length c') es) := hU
  clear hV hU
  go_enter Try.func9, Try.ntmps9
  go_wp2_with fail
  go_loopw [5] (fun i wr => ∃ k : Nat, k ≤ es.length ∧ i = .int .i64 k ∧ Below w.heap.size w wr) (fun i _ => es.length - (intOf i).toNat)
  case atStart => exact ⟨0, Nat.zero_le _, rfl, Below.refl _ _⟩
  case round =>
    obtain ⟨k, hk, rfl, hb⟩ := hrel
    by_cases hlt : k < es.length
    · obtain ⟨e, hx⟩ : ∃ h, es[k]? = some h := ⟨_, List.getElem?_eq_getElem hlt⟩
      obtain ⟨b, off, rfl, _, _⟩ := HV.out.at hb hx
      obtain ⟨b', off', rfl, _, _⟩ := HU.out.at hb hx
      have c1 : ∀ m : Bw wr, EvAt m.val b (off + k * 8) e := fun m => by
        obtain ⟨_, _, e1, _, h1⟩ := HV.out.at (hb.trans (m.ok.mono hb.size)) hx
        injection e1 with e1
        injection e1 with e1 e2
        subst e1
        subst e2
        exact h1
      have c2 : ∀ m : Bw wr, EvAt m.val b' (off' + k * 8) e := fun m => by
        obtain ⟨_, _, e1, _, h1⟩ := HU.out.at (hb.trans (m.ok.mono hb.size)) hx
        injection e1 with e1
        injection e1 with e1 e2
        subst e1
        subst e2
        exact h1
      have d0 := fun m => (c1 m).c0
      have d1 := fun m => (c1 m).c1
      have d2 := fun m => (c1 m).c2
      have d3 := fun m => (c1 m).c3
      have d4 := fun m => (c1 m).c4
      have d5 := fun m => (c1 m).c5
      have d6 := fun m => (c1 m).c6
      have d7 := fun m => (c1 m).c7
      have g0 := fun m => (c2 m).c0
      have g1 := fun m => (c2 m).c1
      have g2 := fun m => (c2 m).c2
      have g3 := fun m => (c2 m).c3
      have g4 := fun m => (c2 m).c4
      have g5 := fun m => (c2 m).c5
      have g6 := fun m => (c2 m).c6
      have g7 := fun m => (c2 m).c7
      have hE := Bw.calls (w := wr) (fun w' _ => eqE_ e w')
      have hne := Bw.some wr
      have hlt' : (k : Int) < (es.length : Int) := by omega
      clear hx c1 c2
      obtain ⟨kind, style, flag, text, anchor, tag, at_, code⟩ := e
      unfold Ev.row at hE
      go_wp2_with fail
      refine wp_region_bw (w0 := wr) (by kernel_rfl) (by kernel_rfl) (Below.refl _ _) ?_
      repeat (go_big_quiet_step ((go_at_call 22; exact hE _)))
      refine wpQuiet_nil ?_
      rintro _ ⟨m, rfl⟩
      have hB1 : Below w.heap.size w m.val := hb.trans (m.ok.mono hb.size)
      generalize m.val = w1 at *
      clear d0 d1 d2 d3 d4 d5 d6 d7 g0 g1 g2 g3 g4 g5 g6 g7 hE hne
      go_wp2_with fail
      go_roundw
      case rel => exact ⟨k + 1, hlt, by go_num, hB1⟩
      case measure => simp [intOf]; omega
    · go_wp2_with fail
      go_ret
      exact ⟨rfl, hb⟩
end Go.Proofs.Ytmbbmibkjnlkkaa
/- The law on Nested, walked, over impl's contract. -/
namespace Go.Proofs.Ytmbbmibkjnlkkaa
open Go.ChangeShapes Go.WideShapes Go.ChangeAt Go.RowKit
/-- What is asked of impl.Nested. -/
def ImplNe : Prop := ∀ (w : World) (v : Value) (es : List Ev), SlE w v es → totE es + es.length ≤ 1048576 → (∀ e ∈ es, wfE e) →
    Calls Try.prog 44 #[v] w fun r w' => r = .returned (.bool (nested es)) ∧ Below w.heap.size w w'
end Go.Proofs.Ytmbbmibkjnlkkaa
/- The contract of impl.Nested. -/
namespace Go.Proofs.Ytmbbmibkjnlkkaa
open Go.ChangeShapes Go.WideShapes Go.ChangeAt Go.RowKit
/-- Between two rounds: where the walk is, and what is still to be answered. -/
def InN (b : Nat) (w : World) (o : Bool) (k : Nat) (rest : List Ev) (wr : World) : Prop :=
  ∃ c ar, Wk b c ar wr ∧ Below w.heap.size w wr ∧ ar.length ≤ k ∧ ((c = 7 ∧ rest.isEmpty = o) ∨ ∃ f d s, Rel f d s c ar ∧ nst f d s rest = o)
theorem tk_len {c : Int} {ar : List Int} {k : Int} {p : Int × List Int} (h : tk c ar k = some p) : p.2.length ≤ ar.length + 1 := by
  unfold tk at h
  repeat' split at h
  all_goals first | (cases h; done) | (injection h with h; subst h; simp; done) | (injection h with h; subst h; simp; omega) | (obtain ⟨d, _, rfl⟩ := Option.map_eq_some_iff.1 h; simp)
theorem inN_step {c : Int} {ar : List Int} {o : Bool} {e : Ev} {t : List Ev} (h : (c = 7 ∧ (e :: t).isEmpty = o) ∨ ∃ f d s, Rel f d s c ar ∧ nst f d s (e :: t) = o) :
    (evOk e = false → o = false) ∧ (evOk e = true → match tk c ar e.kind with
      | none => o = false
      | some p => (p.1 = 7 ∧ t.isEmpty = o) ∨ ∃ f d s, Rel f d s p.1 p.2 ∧ nst f d s t = o) ∧ (c = 4 ∨ c = 5 → ∃ x t, ar = x :: t) := by
  rcases h with ⟨rfl, h⟩ | ⟨f, d, s, hR, h⟩
  · refine ⟨fun _ => h.symm, fun hok => ?_, fun h => by omega⟩
    obtain ⟨k1, k2⟩ := evOk_kind hok
    rw [tk_end ar e.kind k1 k2]
    exact h.symm
  · refine ⟨fun hb => (nst_bad h hb).symm, fun hok => ?_, hR.some⟩
    have hs := step_walk hR e t hok
    cases ht : tk c ar e.kind with
    | none =>
      rw [ht] at hs
      exact h.symm.trans hs
    | some p =>
      rw [ht] at hs
      rcases hs with ⟨h7, h2⟩ | ⟨f', d', s', hR', h2⟩
      · exact .inl ⟨h7, h2.symm.trans h⟩
      · exact .inr ⟨f', d', s', hR', h2.symm.trans h⟩
set_option maxHeartbeats 8000000 in
theorem implNe : ImplNe := by
  intro w v es hV hl hf
  obtain ⟨o, ho⟩ : ∃ o, nested es = o := ⟨_, rfl⟩
  rw [ho]
  obtain ⟨a, c, rfl⟩ := hV.sl
  have HV : Hid (SlE w (.slice a es.length c) es) := hV
  have HT : Hid (totE es + es.length ≤ 1048576) := hl
  have hlen : es.length ≤ 1048576 := by omega
  have HI0 : Hid (InN w.heap.size w o 0 (es.drop 0) (w.alloc (.cells #[.int .i64 0, .slice none 0 0] 95))) := by
    refine ⟨0, [], ⟨none, 0, 0, heap_alloc_new w _, ⟨rfl, .inl ⟨rfl, rfl⟩⟩⟩, (Below.refl _ w).alloc (Nat.le_refl _) _, Nat.le_refl _, .inr ⟨_, _, _, Rel.at0, ?_⟩⟩
    exact ho
  clear hV hl hf ho
  go_enter Try.func44, Try.ntmps44
  go_wp2_with fail
  go_loopw [8] (fun kv wr => ∃ k : Nat, kv = .int .i64 (k : Int) ∧ k ≤ es.length ∧ Hid (InN w.heap.size w o k (es.drop k) wr)) (fun kv _ => es.length - (intOf kv).toNat)
  case atStart => exact ⟨0, rfl, Nat.zero_le _, HI0⟩
  case round =>
    clear HI0
    obtain ⟨k, rfl, hk, HIN⟩ := hrel
    obtain ⟨pc, ar, hW, hB, hal, hst⟩ := HIN.out
    clear HIN
    by_cases hlt : k < es.length
    · obtain ⟨e, hx⟩ : ∃ e, es[k]? = some e := ⟨_, List.getElem?_eq_getElem hlt⟩
      have hdr : es.drop k = e :: es.drop (k + 1) := by
        obtain ⟨h1, h2⟩ := List.getElem?_eq_some_iff.1 hx
        rw [List.drop_eq_getElem_cons h1, h2]
      rw [hdr] at hst
      obtain ⟨bb, off, rfl, _, ⟨c0, c1, c2, c3, c4, c5, c6, c7⟩⟩ := HV.out.at hB hx
      have htm := totE_mem (List.mem_of_getElem? hx)
      obtain ⟨HS1, HS2, HS3⟩ := inN_step hst
      have cO : Hid (∀ w, Calls Try.prog 51 #[.agg e.row] w fun r w' => r = .returned (.bool (evOk e)) ∧ Below w.heap.size w w') := fun w => by
        have h3 := HT.out
        unfold Ev.tot at htm
        exact eventOk_any e w ⟨by unfold mx; omega, by unfold mx; omega, by unfold mx; omega⟩
      have HK : Hid (evOk e = true → 1 ≤ e.kind ∧ e.kind ≤ 10) := fun h => evOk_kind h
      have HTK : Hid (∀ w, Wk w.heap.size pc ar w → True) := fun _ _ => trivial
      have hlt' : (k : Int) < (es.length : Int) := by omega
      have HH : Hid (Wk w.heap.size pc ar wr) := hW
      have HB : Hid (Below w.heap.size w wr) := hB
      have HAL : Hid (ar.length ≤ k) := hal
      clear hx htm hst hW hB hal HTK
      cases hok : evOk e with
      | false =>
        have HO : Hid (o = false) := HS1 hok
        rw [hok] at cO
        clear HS1 HS2 HS3 HK hdr hok
        obtain ⟨kind, style, flag, text, anchor, tag, at_, code⟩ := e
        unfold Ev.row at cO
        simp only at c0 c1 c2 c3 c4 c5 c6 c7
        have HA1 : Hid (Below wr.heap.size wr (wr.alloc (.cells #[.int .i64 kind, .int .i64 style, .bool flag, .string text, .string anchor, .string tag, .int .i64 at_, .int .i64 code] 38))) := (Below.refl _ wr).alloc (Nat.le_refl _) _
        go_wp2_with fail
        refine (cO.out _).mono ?_
        rintro r w1 ⟨rfl, hb1⟩
        clear cO c0 c1 c2 c3 c4 c5 c6 c7
        have HB1 : Hid (Below w.heap.size w w1) := HB.out.trans ((HA1.out.trans (hb1.mono HA1.out.size)).mono HB.out.size)
        clear hb1
        go_wp2_with fail
        go_ret
        exact ⟨ret_bool HO.out.symm, HB1.out⟩
      | true =>
        have HS : Hid (match tk pc ar e.kind with
          | none => o = false
          | some p => (p.1 = 7 ∧ (es.drop (k + 1)).isEmpty = o) ∨ ∃ f d s, Rel f d s p.1 p.2 ∧ nst f d s (es.drop (k + 1)) = o) := HS2 hok
        have cT : Hid (∀ w', Wk w.heap.size pc ar w' → Calls Try.prog 52 #[.pointer (some ⟨w.heap.size, 0, none⟩), .agg e.row] w' (TakeQ w.heap.size w' (tk pc ar e.kind))) := fun w' h => take_any _ pc ar e w' h (HK.out hok).1 (HK.out hok).2 HS3 (by have := HAL.out; omega)
        have HLN : Hid (∀ p, tk pc ar e.kind = some p → p.2.length ≤ k + 1) := fun p h => Nat.le_trans (tk_len h) (Nat.succ_le_succ HAL.out)
        rw [hok] at cO
        clear HS1 HS2 HS3 HK hdr hok
        generalize tk pc ar e.kind = tko at HS cT HLN
        obtain ⟨kind, style, flag, text, anchor, tag, at_, code⟩ := e
        unfold Ev.row at cO cT
        simp only at c0 c1 c2 c3 c4 c5 c6 c7
        have HA1 : Hid (Below wr.heap.size wr (wr.alloc (.cells #[.int .i64 kind, .int .i64 style, .bool flag, .string text, .string anchor, .string tag, .int .i64 at_, .int .i64 code] 38))) := (Below.refl _ wr).alloc (Nat.le_refl _) _
        have HNEW : Hid ((wr.alloc (.cells #[.int .i64 kind, .int .i64 style, .bool flag, .string text, .string anchor, .string tag, .int .i64 at_, .int .i64 code] 38)).heap[wr.heap.size]? = some (.cells #[.int .i64 kind, .int .i64 style, .bool flag, .string text, .string anchor, .string tag, .int .i64 at_, .int .i64 code] 38 (0, 0))) := heap_alloc_new wr _
        go_wp2_with fail
        refine (cO.out _).mono ?_
        rintro r w1 ⟨rfl, hb1⟩
        clear cO c0 c1 c2 c3 c4 c5 c6 c7
        have hB1 : Below wr.heap.size wr w1 := HA1.out.trans (hb1.mono HA1.out.size)
        have HB1 : Hid (Below w.heap.size w w1) := HB.out.trans (hB1.mono HB.out.size)
        have HC := cT.out w1 (HH.out.stays hB1)
        obtain ⟨q0, q1, q2, q3, q4, q5, q6, q7⟩ := ev_at ((hb1.block wr.heap.size (show wr.heap.size < (wr.heap.push _).size by simp)).trans HNEW.out)
        clear hb1 hB1 cT HNEW HA1 HH
        cases tko with
        | none =>
          have HO : Hid (o = false) := HS.out
          clear HS HLN
          go_wp2_with fail
          refine HC.mono ?_
          rintro r w2 ⟨hb2, rfl⟩
          clear HC q0 q1 q2 q3 q4 q5 q6 q7
          go_wp2_with fail
          go_ret
          exact ⟨ret_bool HO.out.symm, HB1.out.trans hb2⟩
        | some p =>
          go_wp2_with fail
          refine HC.mono ?_
          rintro r w2 ⟨hb2, rfl, hw2⟩
          clear HC q0 q1 q2 q3 q4 q5 q6 q7
          have HN : Hid (InN w.heap.size w o (k + 1) (es.drop (k + 1)) w2) := ⟨p.1, p.2, hw2, HB1.out.trans hb2, HLN.out p rfl, HS.out⟩
          clear hb2 hw2 HLN HS
          go_wp2_with fail
          go_roundw
          case rel => exact ⟨k + 1, by go_num, hlt, HN⟩
          case measure => simp [intOf]; omega
    · have hlt' : ¬ (k : Int) < (es.length : Int) := by omega
      rw [List.drop_of_length_le (by omega)] at hst
      have HO : Hid ((pc == 7) = o) := by
        show (pc == 7) = o
        rcases hst with ⟨rfl, h⟩ | ⟨f, d, s, hR, h⟩
        · exact h
        · rw [← h, beq_eq_false_iff_ne.2 hR.no7]
          rfl
      have HB : Hid (Below w.heap.size w wr) := hB
      obtain ⟨_, _, _, h1, _⟩ := hW
      have c0 := h1.c0
      clear h1 hB hst hal
      go_wp2_with fail
      go_ret
      exact ⟨ret_bool HO.out, HB.out⟩
end Go.Proofs.Ytmbbmibkjnlkkaa
/- The contracts of impl.spansOf and impl.eachNode. -/
namespace Go.Proofs.Ytmbbmibkjnlkkaa
open Go.ChangeShapes Go.WideShapes Go.ChangeAt Go.RowKit
theorem spans_le (es : List Ev) (k : Nat) : (spansTo es k).length ≤ k := by
  unfold spansTo
  rw [List.length_map]
  exact nodesTo_le es k
theorem stk_le (es : List Ev) : ∀ k, (stk es k).length ≤ k
  | 0 => Nat.le_refl _
  | k + 1 => by
    have ih := stk_le es k
    rw [stk]
    split
    · omega
    · split
      · rw [List.length_cons]; omega
      · split
        · rw [List.length_tail]; omega
        · omega
theorem begin_at (b : Nat) (es : List Ev) (k : Nat) (hk : k < es.length) (w : World) (hG : Ng b (spansTo es k) (opensTo es k) w) (hl : es.length ≤ 1048576) :
    Calls Try.prog 53 #[.pointer (some ⟨b, 0, none⟩), .int .i64 (k : Int)] w fun e w' => e = .returned (.tuple #[]) ∧ Ng b (spansTo es k ++ [⟨k, -1, headI (stk es k)⟩]) ((spansTo es k).length :: opensTo es k) w' ∧ Below b w w' := by
  have hsl := spans_le es k
  have hkl := stk_le es k
  cases hs : stk es k with
  | nil =>
    have ho : opensTo es k = [] := by unfold opensTo; rw [hs]; rfl
    rw [ho] at hG ⊢
    exact begin_none b _ k w hG (by omega)
  | cons j q =>
    have ho : opensTo es k = openAt es j :: q.map (openAt es) := by unfold opensTo; rw [hs]; rfl
    obtain ⟨s, hs1, hs2⟩ := opens_top hs
    rw [ho] at hG ⊢
    have := begin_some b _ (openAt es j) (q.map (openAt es)) s k w hG (by omega) (by rw [List.length_map]; rw [hs] at hkl; simp at hkl; omega) hs1
    rw [hs2] at this
    exact this
theorem col_step (b : Nat) (es : List Ev) (k : Nat) (e : Ev) (he : es[k]? = some e) (hc : e.kind = 3 ∨ e.kind = 4) (hl : es.length ≤ 1048576) (w : World) (hG : Ng b (spansTo es k) (opensTo es k) w) :
    Calls Try.prog 53 #[.pointer (some ⟨b, 0, none⟩), .int .i64 (k : Int)] w fun r w' => r = .returned (.tuple #[]) ∧ Ng b (spansTo es (k + 1)) (opensTo es (k + 1)) w' ∧ Below b w w' := by
  have hc' : colE e = true := by unfold colE; simp; omega
  rw [spans_col he hc', opens_col he hc']
  exact begin_at b es k (List.getElem?_eq_some_iff.1 he).1 w hG hl
theorem leaf_step (b : Nat) (es : List Ev) (k : Nat) (e : Ev) (he : es[k]? = some e) (hc : e.kind = 5 ∨ e.kind = 6) (hl : es.length ≤ 1048576) (w : World) (hG : Ng b (spansTo es k ++ [⟨k, -1, headI (stk es k)⟩]) ((spansTo es k).length :: opensTo es k) w) :
    Calls Try.prog 54 #[.pointer (some ⟨b, 0, none⟩), .int .i64 (k : Int)] w fun r w' => r = .returned (.tuple #[]) ∧ Ng b (spansTo es (k + 1)) (opensTo es (k + 1)) w' ∧ Below b w w' := by
  have hk := (List.getElem?_eq_some_iff.1 he).1
  have hsl := spans_le es k
  have hkl := stk_le es k
  have hcf : colE e = false := by unfold colE; simp; omega
  have hol : (opensTo es k).length ≤ k := by unfold opensTo; rw [List.length_map]; exact hkl
  have := nend_any b (spansTo es k ++ [⟨k, -1, headI (stk es k)⟩]) (spansTo es k).length (opensTo es k) ⟨k, -1, headI (stk es k)⟩ k w hG (by simp; omega) (by omega) (by simp)
  rw [spans_leaf he hc, opens_else he hcf (by omega)]
  have hset : (spansTo es k ++ [(⟨k, -1, headI (stk es k)⟩ : Sp)]).set (spansTo es k).length (⟨k, (k : Int), headI (stk es k)⟩ : Sp) = spansTo es k ++ [⟨k, (k : Int), headI (stk es k)⟩] := by
    rw [List.set_append_right _ _ (Nat.le_refl _)]
    simp
  simp only [] at this
  rw [hset] at this
  exact this
theorem end_step (b : Nat) (es : List Ev) (hN : nested es = true) (k : Nat) (e : Ev) (he : es[k]? = some e) (h7 : e.kind = 7) (hl : es.length ≤ 1048576) (w : World) (hG : Ng b (spansTo es k) (opensTo es k) w) :
    Calls Try.prog 54 #[.pointer (some ⟨b, 0, none⟩), .int .i64 (k : Int)] w fun r w' => r = .returned (.tuple #[]) ∧ Ng b (spansTo es (k + 1)) (opensTo es (k + 1)) w' ∧ Below b w w' := by
  have hk := (List.getElem?_eq_some_iff.1 he).1
  have hsl := spans_le es k
  have hkl := stk_le es k
  have hne := (ns_at hN he).end_ h7
  cases hs : stk es k with
  | nil => exact absurd hs hne
  | cons j q =>
    obtain ⟨h1, h2⟩ := spans_end he h7 hs
    have h3 := opens_end he h7 hs
    rw [h3] at hG
    have hol : (opensTo es k).length ≤ k := by unfold opensTo; rw [List.length_map]; exact hkl
    rw [h3, List.length_cons] at hol
    have := nend_any b _ _ _ _ k w hG (by omega) (by omega) h1
    rw [h2]
    exact this
def OwnS (w : World) (l : List Sp) (e : Ending) (w' : World) : Prop := ∃ a n c, e = .returned (.slice a n c) ∧ w'.ownsRow w.heap.size 64 3 (.slice a n c) l.length (rowsS l) ∧ Below w.heap.size w w'
theorem row_lowS {w : World} {lo lo' e sz : Nat} {v : Value} {n : Nat} {xs : List Value} (h : w.ownsRow lo e sz v n xs) (hl : lo' ≤ lo) : w.ownsRow lo' e sz v n xs := by
  refine ⟨h.1, ?_⟩
  rcases h.2 with hn | ⟨g, cap, cur, e1, e2, rest⟩
  · exact .inl hn
  · exact .inr ⟨g, cap, cur, e1, by omega, rest⟩
set_option maxHeartbeats 8000000 in
theorem spansOf_any (w : World) (v : Value) (es : List Ev) (hV : SlE w v es) (hl : es.length ≤ 1048576) (hN : nested es = true) : Calls Try.prog 45 #[v] w (OwnS w (spansF es)) := by
  obtain ⟨a, c, rfl⟩ := hV.sl
  have HV : Hid (SlE w (.slice a es.length c) es) := hV
  have HL : Hid (es.length ≤ 1048576) := hl
  have HN : Hid (nested es = true) := hN
  have hlen : (es.length : Int) ≤ 1048576 := by omega
  have HI0 : Hid (Ng w.heap.size (spansTo es 0) (opensTo es 0) (w.alloc (.cells #[.slice none 0 0, .slice none 0 0] 97)) ∧ Below w.heap.size w (w.alloc (.cells #[.slice none 0 0, .slice none 0 0] 97))) :=
    ⟨⟨none, 0, 0, none, 0, 0, heap_alloc_new w _, ⟨rfl, .inl ⟨rfl, rfl⟩⟩, ⟨rfl, .inl ⟨rfl, rfl⟩⟩⟩, (Below.refl _ w).alloc (Nat.le_refl _) _⟩
  clear hV hl hN
  go_enter Try.func45, Try.ntmps45
  go_wp2_with fail
  go_loopw [8] (fun kv wr => ∃ k : Nat, kv = .int .i64 (k : Int) ∧ k ≤ es.length ∧ Hid (Ng w.heap.size (spansTo es k) (opensTo es k) wr ∧ Below w.heap.size w wr)) (fun kv _ => es.length - (intOf kv).toNat)
  case atStart => exact ⟨0, rfl, Nat.zero_le _, HI0⟩
  case round =>
    clear HI0
    obtain ⟨k, rfl, hk, HIN⟩ := hrel
    by_cases hlt : k < es.length
    · obtain ⟨e, hx⟩ : ∃ e, es[k]? = some e := ⟨_, List.getElem?_eq_getElem hlt⟩
      have HX : Hid (es[k]? = some e) := hx
      obtain ⟨bb, off, rfl, _, ⟨c0, c1, c2, c3, c4, c5, c6, c7⟩⟩ := HV.out.at HIN.out.2 hx
      have hlt' : (k : Int) < (es.length : Int) := by omega
      have HLT : Hid (k < es.length) := hlt
      clear hx hlt hk
      obtain ⟨kind, style, flag, text, anchor, tag, at_, code⟩ := e
      simp only at c0 c1 c2 c3 c4 c5 c6 c7
      obtain ⟨W, hW⟩ : ∃ W, wr.alloc (.cells #[.int .i64 kind, .int .i64 style, .bool flag, .string text, .string anchor, .string tag, .int .i64 at_, .int .i64 code] 38) = W := ⟨_, rfl⟩
      have HBW : Hid (Below wr.heap.size wr W) := by show Below _ _ _; rw [← hW]; exact (Below.refl _ wr).alloc (Nat.le_refl _) _
      have HG : Hid (Ng w.heap.size (spansTo es k) (opensTo es k) W) := HIN.out.1.stays HBW.out
      have HB : Hid (Below w.heap.size w W) := HIN.out.2.trans (HBW.out.mono HIN.out.2.size)
      have q0 : W.cell? ⟨wr.heap.size, 0, none⟩ = some (.int .i64 kind) := by rw [← hW]; exact (ev_at (heap_alloc_new wr _)).1
      have HW : Hid (wr.alloc (.cells #[.int .i64 kind, .int .i64 style, .bool flag, .string text, .string anchor, .string tag, .int .i64 at_, .int .i64 code] 38) = W) := hW
      clear hW HBW HIN
      by_cases h3 : kind = 3
      · subst h3
        have hC := col_step w.heap.size es k _ HX.out (.inl rfl) HL.out W HG.out
        go_wp2_with fail
        rw [HW.out]
        clear c0 c1 c2 c3 c4 c5 c6 c7 HW
        go_wp2_with fail
        refine hC.mono ?_
        rintro r w1 ⟨rfl, hg1, hb1⟩
        have HO : Hid (Ng w.heap.size (spansTo es (k + 1)) (opensTo es (k + 1)) w1 ∧ Below w.heap.size w w1) := ⟨hg1, HB.out.trans hb1⟩
        clear hC hg1 hb1 q0
        go_wp2_with fail
        go_roundw
        case rel => exact ⟨k + 1, by go_num, HLT.out, HO⟩
        case measure => have := HLT.out; simp [intOf]; omega
      have t3 : (kind == 3) = false := by rw [beq_eq_false_iff_ne]; exact h3
      by_cases h4 : kind = 4
      · subst h4
        have hC := col_step w.heap.size es k _ HX.out (.inr rfl) HL.out W HG.out
        go_wp2_with fail
        rw [HW.out]
        clear c0 c1 c2 c3 c4 c5 c6 c7 HW
        go_wp2_with fail
        refine hC.mono ?_
        rintro r w1 ⟨rfl, hg1, hb1⟩
        have HO : Hid (Ng w.heap.size (spansTo es (k + 1)) (opensTo es (k + 1)) w1 ∧ Below w.heap.size w w1) := ⟨hg1, HB.out.trans hb1⟩
        clear hC hg1 hb1 q0
        go_wp2_with fail
        go_roundw
        case rel => exact ⟨k + 1, by go_num, HLT.out, HO⟩
        case measure => have := HLT.out; simp [intOf]; omega
      have t4 : (kind == 4) = false := by rw [beq_eq_false_iff_ne]; exact h4
      by_cases h5 : kind = 5
      · subst h5
        have hC := begin_at w.heap.size es k HLT.out W HG.out HL.out
        go_wp2_with fail
        rw [HW.out]
        clear c0 c1 c2 c3 c4 c5 c6 c7 HW
        go_wp2_with fail
        refine hC.mono ?_
        rintro r w1 ⟨rfl, hg1, hb1⟩
        have hD := leaf_step w.heap.size es k _ HX.out (.inl rfl) HL.out w1 hg1
        have HB1 : Hid (Below w.heap.size w w1) := HB.out.trans hb1
        clear hC hg1 hb1 q0
        go_wp2_with fail
        refine hD.mono ?_
        rintro r w2 ⟨rfl, hg2, hb2⟩
        have HO : Hid (Ng w.heap.size (spansTo es (k + 1)) (opensTo es (k + 1)) w2 ∧ Below w.heap.size w w2) := ⟨hg2, HB1.out.trans hb2⟩
        clear hD hg2 hb2
        go_wp2_with fail
        go_roundw
        case rel => exact ⟨k + 1, by go_num, HLT.out, HO⟩
        case measure => have := HLT.out; simp [intOf]; omega
      have t5 : (kind == 5) = false := by rw [beq_eq_false_iff_ne]; exact h5
      by_cases h6 : kind = 6
      · subst h6
        have hC := begin_at w.heap.size es k HLT.out W HG.out HL.out
        go_wp2_with fail
        rw [HW.out]
        clear c0 c1 c2 c3 c4 c5 c6 c7 HW
        go_wp2_with fail
        refine hC.mono ?_
        rintro r w1 ⟨rfl, hg1, hb1⟩
        have hD := leaf_step w.heap.size es k _ HX.out (.inr rfl) HL.out w1 hg1
        have HB1 : Hid (Below w.heap.size w w1) := HB.out.trans hb1
        clear hC hg1 hb1 q0
        go_wp2_with fail
        refine hD.mono ?_
        rintro r w2 ⟨rfl, hg2, hb2⟩
        have HO : Hid (Ng w.heap.size (spansTo es (k + 1)) (opensTo es (k + 1)) w2 ∧ Below w.heap.size w w2) := ⟨hg2, HB1.out.trans hb2⟩
        clear hD hg2 hb2
        go_wp2_with fail
        go_roundw
        case rel => exact ⟨k + 1, by go_num, HLT.out, HO⟩
        case measure => have := HLT.out; simp [intOf]; omega
      have t6 : (kind == 6) = false := by rw [beq_eq_false_iff_ne]; exact h6
      by_cases h7 : kind = 7
      · subst h7
        have hC := end_step w.heap.size es HN.out k _ HX.out rfl HL.out W HG.out
        go_wp2_with fail
        rw [HW.out]
        clear c0 c1 c2 c3 c4 c5 c6 c7 HW
        go_wp2_with fail
        refine hC.mono ?_
        rintro r w1 ⟨rfl, hg1, hb1⟩
        have HO : Hid (Ng w.heap.size (spansTo es (k + 1)) (opensTo es (k + 1)) w1 ∧ Below w.heap.size w w1) := ⟨hg1, HB.out.trans hb1⟩
        clear hC hg1 hb1 q0
        go_wp2_with fail
        go_roundw
        case rel => exact ⟨k + 1, by go_num, HLT.out, HO⟩
        case measure => have := HLT.out; simp [intOf]; omega
      have t7 : (kind == 7) = false := by rw [beq_eq_false_iff_ne]; exact h7
      have HO : Hid (Ng w.heap.size (spansTo es (k + 1)) (opensTo es (k + 1)) W ∧ Below w.heap.size w W) := by
        refine ⟨?_, HB.out⟩
        have hnn : nodE ⟨kind, style, flag, text, anchor, tag, at_, code⟩ = false := by
          unfold nodE
          simp
          omega
        rw [spans_else HX.out hnn h7, opens_else HX.out (by unfold colE; simp; omega) h7]
        exact HG.out
      clear h3 h4 h5 h6 h7
      go_wp2_with fail
      rw [HW.out]
      clear c0 c1 c2 c3 c4 c5 c6 c7 HW
      go_wp2_with fail
      go_roundw
      case rel => exact ⟨k + 1, by go_num, HLT.out, HO⟩
      case measure => have := HLT.out; simp [intOf]; omega
    · have hlt' : ¬ (k : Int) < (es.length : Int) := by omega
      have hke : k = es.length := by omega
      subst hke
      obtain ⟨hG, hB⟩ := HIN.out
      rw [spans_all] at hG
      obtain ⟨sa, sn, sc, oa, on, oc, h1, h2, h3⟩ := hG
      have c0 := h1.c0
      have HO : Hid (OwnS w (spansF es) (.returned (.slice sa sn sc)) wr) := ⟨sa, sn, sc, rfl, row_lowS h2 (Nat.le_succ _), hB⟩
      clear h1 h2 h3 hB HIN hk hlt
      go_wp2_with fail
      go_ret
      exact HO.out
end Go.Proofs.Ytmbbmibkjnlkkaa
