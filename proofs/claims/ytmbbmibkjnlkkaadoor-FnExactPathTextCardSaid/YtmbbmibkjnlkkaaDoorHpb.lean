/- Seg that came in: how large it is, a copy of it; lists of it. -/
import Derived.Test.YtmbbmibkjnlkkaaDoorProg
import Derived.Test.YtmbbmibkjnlkkaaDoorHpa
import Derived.Test.YtmbbmibkjnlkkaaDoorBwr
import Derived.WalkLawsBesides
import Derived.WalkSpells
import Derived.WalkMore
import Derived.Handy
import Derived.Laws.ResultCell
import Derived.Deep.OwnRows
import Derived.Laws.MakeOwn
import Derived.Deep.RegionWith
import Derived.Deep.QuietTactic
import Derived.OwnWalk
namespace Go.Proofs.YtmbbmibkjnlkkaaDoor
open Go.ChangeShapes Go.WideShapes Go.ChangeAt Go.RowKit Go.Deep Go.BigFrame
def szP (s : Sg) (l : Int) : Int := if l - s.text.size < 0 then -1 else l - s.text.size
theorem szP_cases (s : Sg) (l : Int) : szP s l = -1 ∨ (szP s l = l - s.text.size ∧ 0 ≤ l - s.text.size) := by
  unfold szP
  split
  · exact .inl rfl
  · exact .inr ⟨rfl, by omega⟩
set_option maxHeartbeats 4000000 in
theorem szP_any (s : Sg) (l : Int) (w : World) (l0 : 0 ≤ l) (l1 : l ≤ 1048576) (hw : wideP s) :
    Calls Tryd.prog 15 #[.agg s.row, .int .i64 l] w fun r w' => r = .returned (.int .i64 (szP s l)) ∧ Below w.heap.size w w' := by
  obtain ⟨kind, n, text⟩ := s
  obtain z1 : text.size ≤ 9223372036854775807 := hw
  show Calls Tryd.prog 15 #[.agg #[.int .i64 kind, .int .i64 n, .string text], .int .i64 l] w fun r w' => r = .returned (.int .i64 (if l - text.size < 0 then -1 else l - text.size)) ∧ Below w.heap.size w w'
  have hal : Hid (Below w.heap.size w (w.alloc (.cells #[.int .i64 kind, .int .i64 n, .string text] 33))) := (Below.refl _ w).alloc (Nat.le_refl _) _
  by_cases h1 : l - (text.size : Int) < 0
  · rw [if_pos h1]
    go_enter Tryd.func15, Tryd.ntmps15
    go_wp2_with fail
    go_ret
    exact ⟨rfl, hal.out⟩
  · rw [if_neg h1]
    go_enter Tryd.func15, Tryd.ntmps15
    go_wp2_with fail
    go_ret
    exact ⟨rfl, hal.out⟩
set_option maxHeartbeats 4000000 in
theorem toP_any (s : Sg) (w : World) :
    Calls Tryd.prog 17 #[.agg s.row] w fun r w' => r = .returned (.agg s.row) ∧ Below w.heap.size w w' := by
  obtain ⟨kind, n, text⟩ := s
  obtain ⟨R, hR⟩ : ∃ R, R = #[Value.int .i64 kind, .int .i64 n, .string text] := ⟨_, rfl⟩
  show Calls Tryd.prog 17 #[.agg #[.int .i64 kind, .int .i64 n, .string text]] w fun r w' => r = .returned (.agg #[.int .i64 kind, .int .i64 n, .string text]) ∧ Below w.heap.size w w'
  have hF : Hid ((((w.alloc (.cells R 33)).alloc (.cells R 29)).alloc (.cells R 29)).heap[w.heap.size + 1]? = some (.cells R 29 (0, 0))) := by
    show ((((w.heap.push _).push _).push _)[w.heap.size + 1]? = _)
    rw [Array.getElem?_push, if_neg (by simp), Array.getElem?_push, if_pos (by simp)]
  have hB : Hid (Below w.heap.size w (((w.alloc (.cells R 33)).alloc (.cells R 29)).alloc (.cells R 29))) := (((Below.refl _ w).alloc (Nat.le_refl _) _).alloc (by simp) _).alloc (by simp <;> omega) _
  rw [hR] at hF hB
  clear hR R
  go_enter Tryd.func17, Tryd.ntmps17
  go_wp2_with fail
  refine bodyPost_ret (results_cell_row rfl _ _ (w.heap.size + 1) 29 _ (0, 0) _ rfl hF.out Tryd.underlying29 rfl (by kernel_rfl)) rfl ?_
  exact ⟨rfl, hB.out⟩
def SzPs (es : List Sg) (w : World) (e : Ending) (w' : World) : Prop :=
  (∃ r : Int, e = .returned (.int .i64 r) ∧ (r = -1 ∨ (0 ≤ r ∧ totP es + es.length ≤ 1048576))) ∧ Below w.heap.size w w'
set_option maxHeartbeats 4000000 in
theorem szPs_ (w : World) (v : Value) (es : List Sg) (hV : SgL w v es) (hw : (∀ e ∈ es, wideP e)) (hl : es.length ≤ 9223372036854775807) :
    Calls Tryd.prog 18 #[v, .int .i64 1048576] w fun e w' => SzPs es w e w' := by
  obtain ⟨a, c, rfl⟩ := hV.sl
  have HV : Hid (SgL w (.slice a es.length c) es) := hV
  have HW : Hid ((∀ e ∈ es, wideP e)) := hw
  clear hV hw
  by_cases h : (1048576 : Int) < (es.length : Int)
  · go_enter Tryd.func18, Tryd.ntmps18
    go_wp2_with fail
    go_ret
    exact ⟨⟨_, rfl, .inl rfl⟩, Below.refl _ _⟩
  · go_enter Tryd.func18, Tryd.ntmps18
    go_wp2_with fail
    go_loopw [1, 5] (fun l i wr => ∃ (k : Nat) (m : Int), k ≤ es.length ∧ i = .int .i64 k ∧ l = .int .i64 m ∧ 0 ≤ m ∧ m + (totP (es.take k) : Int) + (es.length : Int) = 1048576 ∧ Below w.heap.size w wr) (fun _ i _ => es.length - (intOf i).toNat)
    case atStart => exact ⟨0, 1048576 - es.length, Nat.zero_le _, rfl, by go_num, by omega, by simp [totP], Below.refl _ _⟩
    case round =>
      obtain ⟨k, m, hk, rfl, rfl, hm0, hsum, hb⟩ := hrel
      by_cases hlt : k < es.length
      · obtain ⟨e, hx⟩ : ∃ e, es[k]? = some e := ⟨_, List.getElem?_eq_getElem hlt⟩
        obtain ⟨b, off, rfl, _, ⟨c0, c1, c2⟩⟩ := HV.out.at hb hx
        have hzn := HW.out _ (List.mem_of_getElem? hx)
        have hts := totP_take hx
        have hE := szP_any e m wr hm0 (by omega) hzn
        have hlt' : (k : Int) < (es.length : Int) := by omega
        have hlc := szP_cases e m
        have HTS : Hid (totP (es.take (k + 1)) = totP (es.take k) + (e.text.size)) := hts
        have HSUM : Hid (m + (totP (es.take k) : Int) + (es.length : Int) = 1048576) := hsum
        clear hx hts hsum hzn
        generalize hzz : szP e m = m' at *
        clear hzz
        obtain ⟨kind, n, text⟩ := e
        unfold Sg.row at hE
        go_wp2_with fail
        refine hE.mono ?_
        rintro e w1 ⟨rfl, hb1⟩
        have hB1 : Below w.heap.size w w1 := hb.trans (hb1.mono hb.size)
        clear hE hb1 c0 c1 c2
        rcases hlc with rfl | ⟨e, hge⟩
        · go_wp2_with fail
          go_ret
          exact ⟨⟨_, rfl, .inl rfl⟩, hB1⟩
        · have hge' : ¬ m' < 0 := by omega
          have HEQ : Hid (m' = m - text.size) := e
          clear e hge
          go_wp2_with fail
          go_roundw
          case rel => exact ⟨k + 1, _, hlt, by go_num, rfl, by omega, by have h1 := HTS.out; have h2 := HSUM.out; have h3 := HEQ.out; omega, hB1⟩
          case measure => simp [intOf]; omega
      · obtain rfl : k = es.length := by omega
        rw [List.take_length] at hsum
        have HSUM : Hid (m + (totP es : Int) + (es.length : Int) = 1048576) := hsum
        clear hsum
        go_wp2_with fail
        go_ret
        exact ⟨⟨_, rfl, .inr ⟨hm0, by have := HSUM.out; omega⟩⟩, hb⟩
/-- The cells of a list of events. -/
def cellsP (es : List Sg) : List Value := es.flatMap (fun e => e.row.toList)
theorem cellsP_len : ∀ es : List Sg, (cellsP es).length = es.length * 3
  | [] => rfl
  | h :: t => by
    have := cellsP_len t
    have h8 : h.row.toList.length = 3 := rfl
    unfold cellsP at *
    simp only [List.flatMap_cons, List.length_append, List.length_cons, this, h8]
    omega
theorem cellsP_at : ∀ {es : List Sg} {i : Nat} {e : Sg}, es[i]? = some e → ∀ j u, e.row[j]? = some u → (cellsP es)[i * 3 + j]? = some u
  | [], i, h, e => by simp at e
  | x :: t, 0, h, e => by
    obtain rfl : x = h := by simpa using e
    intro j u hu
    have hj : j < 3 := (Array.getElem?_eq_some_iff.1 hu).1
    show (x.row.toList ++ cellsP t)[0 * 3 + j]? = some u
    rw [List.getElem?_append_left (by show 0 * 3 + j < 3; omega)]
    simpa using hu
  | x :: t, i + 1, h, e => by
    intro j u hu
    have := cellsP_at (es := t) (i := i) (e := h) (by simpa using e) j u hu
    show (x.row.toList ++ cellsP t)[(i + 1) * 3 + j]? = some u
    have h8 : x.row.toList.length = 3 := rfl
    rw [List.getElem?_append_right (by rw [h8]; omega), h8, show (i + 1) * 3 + j - 3 = i * 3 + j by omega]
    exact this
theorem cellsP_snoc (rs : List Sg) (h : Sg) : cellsP (rs ++ [h]) = cellsP rs ++ h.row.toList := by simp [cellsP]
def zrowP : Array Value := #[.int .i64 0, .int .i64 0, .string ByteArray.empty]
def zPz (j : Nat) : Value := zrowP[j % 3]!
theorem cellsP_step {rs : List Sg} {k : Nat} (hk : rs.length = k) (h : Sg) (j : Nat) :
    (if j = k * 3 + 2 then Value.string h.text else if j = k * 3 + 1 then Value.int .i64 h.n else if j = k * 3 then Value.int .i64 h.kind else (cellsP rs)[j]?.getD (zPz j)) = (cellsP (rs ++ [h]))[j]?.getD (zPz j) := by
  have hl := cellsP_len rs
  rw [cellsP_snoc, List.getElem?_append]
  by_cases h1 : j < (cellsP rs).length
  · rw [if_pos h1]
    repeat rw [if_neg (by omega)]
  · rw [if_neg h1]
    by_cases h9 : j < k * 3 + 3
    · obtain ⟨d, hd, hd8⟩ : ∃ d, j = k * 3 + d ∧ d < 3 := ⟨j - k * 3, by omega, by omega⟩
      have e : j - (cellsP rs).length = d := by omega
      rw [e]
      subst hd
      clear e h1 h9 hl
      rcases (show d = 0 ∨ d = 1 ∨ d = 2 by omega) with rfl | rfl | rfl
      all_goals
        (repeat (first | rw [if_pos (by omega)] | rw [if_neg (by omega)]))
        rfl
    · repeat rw [if_neg (by omega)]
      rw [List.getElem?_eq_none (l := cellsP rs) (by omega), List.getElem?_eq_none (l := h.row.toList) (by show 3 ≤ _; omega)]
theorem infoPz : (Tryd.prog.info? 29).map (fun i => (i.zero, i.size, i.bytes)) = some (some (.agg zrowP), 3, 32) := by kernel_rfl
theorem infoPz_parts : ∃ ti, Tryd.prog.info? 29 = some ti ∧ ti.zero = some (.agg zrowP) ∧ ti.size = 3 ∧ ti.bytes = 32 := by
  have h := infoPz
  cases e : Tryd.prog.info? 29 with
  | none => rw [e] at h; cases h
  | some ti =>
    rw [e] at h
    simp at h
    exact ⟨ti, rfl, h.1, h.2.1, h.2.2⟩
set_option maxHeartbeats 8000000 in
theorem toPs_ (w : World) (v : Value) (es : List Sg) (hV : SgL w v es) (hl : es.length ≤ 1048576) :
    Calls Tryd.prog 20 #[v] w fun e w' => (∃ v', e = .returned v' ∧ SgL w' v' es) ∧ Below w.heap.size w w' := by
  obtain ⟨a, c, rfl⟩ := hV.sl
  have HV : Hid (SgL w (.slice a es.length c) es) := hV
  clear hV
  obtain ⟨ti, hti, hz0, hz1, hz2⟩ := infoPz_parts
  have hmk : ∀ w : World, (Instr.makeSlice 23 (.int .i64 (es.length : Int)) (.int .i64 (es.length : Int))).run Tryd.prog w = .ok (.slice (some ⟨w.heap.size, 0, none⟩) es.length es.length) (w.alloc (.cells (madeCells zrowP (es.length * 3)) 29)) := by
    intro w
    have := run_make (P := Tryd.prog) w 23 29 ti _ Tryd.underlying23 hti hz0 .i64 .i64 es.length es.length (by omega) (Int.le_refl _) (by rw [hz2]; omega) (by omega)
    rw [hz1] at this
    simpa [Value.cells] using this
  clear hti hz0 hz1 hz2
  go_enter Tryd.func20, Tryd.ntmps20
  go_wp2_with fail
  go_loopw [4] (fun i wr => ∃ k : Nat, k ≤ es.length ∧ i = .int .i64 k ∧ Hid (wr.rowIs w.heap.size 29 (es.length * 3) (fun j => (cellsP (es.take k))[j]?.getD (zPz j))) ∧ Below w.heap.size w wr) (fun i _ => es.length - (intOf i).toNat)
  case atStart =>
    refine ⟨0, Nat.zero_le _, rfl, ?_, (Below.refl _ _).alloc (Nat.le_refl _) _⟩
    have := World.rowIs_alloc w (madeCells zrowP (es.length * 3)) 29 zPz (fun i hi => by
      rw [size_madeCells] at hi
      unfold madeCells zPz
      have h8 : zrowP.size = 3 := rfl
      simp [hi, h8])
    rw [size_madeCells] at this
    exact this.congr (fun i hi => by simp [cellsP])
  case round =>
    obtain ⟨k, hk, rfl, HC, hb⟩ := hrel
    by_cases hlt : k < es.length
    · obtain ⟨e, hx⟩ : ∃ h, es[k]? = some h := ⟨_, List.getElem?_eq_getElem hlt⟩
      obtain ⟨b, off, rfl, _, ⟨c0, c1, c2⟩⟩ := HV.out.at hb hx
      have HX : Hid (es.take (k + 1) = es.take k ++ [e]) := by show es.take (k + 1) = _; rw [List.take_add_one, hx]; rfl
      have hlt' : (k : Int) < (es.length : Int) := by omega
      have hszH := HC.out.lt
      have htl : (es.take k).length = k := by rw [List.length_take]; omega
      have HTL : Hid ((es.take k).length = k) := htl
      have hE := toP_any e wr
      clear hx htl
      obtain ⟨kind, n, text⟩ := e
      unfold Sg.row at hE
      go_wp2_with fail
      refine hE.mono ?_
      rintro e w1 ⟨rfl, hb1⟩
      clear hE c0 c1 c2
      have hrow := HC.out.of_block (hb1.block _ hszH)
      have k0 : w1.cell? ⟨w.heap.size, k * 3, none⟩ = some _ := hrow.cell (by omega)
      have k1 : w1.cell? ⟨w.heap.size, k * 3 + 1, none⟩ = some _ := hrow.cell (by omega)
      have k2 : w1.cell? ⟨w.heap.size, k * 3 + 2, none⟩ = some _ := hrow.cell (by omega)
      have f0 := hrow.frozen (k * 3)
      have f1 := hrow.frozen (k * 3 + 1)
      have f2 := hrow.frozen (k * 3 + 2)
      have hB1 : Below w.heap.size w w1 := hb.trans (hb1.mono hb.size)
      have RA : Hid ((((w1.setCell ⟨w.heap.size, k * 3, none⟩ (.int .i64 kind)).setCell ⟨w.heap.size, k * 3 + 1, none⟩ (.int .i64 n)).setCell ⟨w.heap.size, k * 3 + 2, none⟩ (.string text)).rowIs w.heap.size 29 (es.length * 3) (fun j => (cellsP (es.take (k + 1)))[j]?.getD (zPz j))) := by
        show World.rowIs _ _ _ _ _
        rw [HX.out]
        exact (((hrow.set (k * 3) _).set (k * 3 + 1) _).set (k * 3 + 2) _).congr (fun j _ => cellsP_step HTL.out ⟨kind, n, text⟩ j)
      have RB : Hid (Below w.heap.size w (((w1.setCell ⟨w.heap.size, k * 3, none⟩ (.int .i64 kind)).setCell ⟨w.heap.size, k * 3 + 1, none⟩ (.int .i64 n)).setCell ⟨w.heap.size, k * 3 + 2, none⟩ (.string text))) := (((hB1.setCell (Nat.le_refl _) _).setCell (Nat.le_refl _) _).setCell (Nat.le_refl _) _)
      clear hb1 hrow HC hB1
      go_wp2_with fail
      go_roundw
      case rel => exact ⟨k + 1, hlt, by go_num, RA, RB.out⟩
      case measure => simp [intOf]; omega
    · go_wp2_with fail
      go_ret
      have ek : k = es.length := by omega
      have hrow := HC.out
      rw [ek, List.take_length] at hrow
      refine ⟨⟨_, rfl, ?_⟩, hb⟩
      by_cases h0 : es = []
      · left; subst h0; exact ⟨rfl, _, _, rfl⟩
      · right
        refine ⟨h0, w.heap.size, 0, es.length, rfl, hrow.lt, Nat.le_refl _, fun i h hi j u hu => ?_⟩
        have hil : i < es.length := by
          rcases Nat.lt_or_ge i es.length with h' | h'
          · exact h'
          · rw [List.getElem?_eq_none h'] at hi; cases hi
        have hj : j < 3 := (Array.getElem?_eq_some_iff.1 hu).1
        have q := cellsP_at hi j u hu
        rw [Nat.zero_add]
        refine (hrow.cell (by omega)).trans ?_
        rw [q]; rfl
end Go.Proofs.YtmbbmibkjnlkkaaDoor
