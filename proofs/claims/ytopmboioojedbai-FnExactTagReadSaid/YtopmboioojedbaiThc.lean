/- A list of handles that came in: how large it is, a copy of it in new memory, whether two are alike. -/
import Derived.Test.YtopmboioojedbaiStr
import Derived.Deep.OwnRows
import Derived.Laws.MakeOwn
import Derived.Deep.RegionWith
namespace Go.Proofs.Ytopmboioojedbai
open Go.ChangeShapes Go.WideShapes Go.ChangeAt Go.RowKit Go.Shelf Go.Maps Go.Deep
/-- The sizes of a list of handles, taken together. -/
def totH : List Hn → Nat
  | [] => 0
  | h :: t => h.1.size + h.2.size + totH t
theorem totH_app : ∀ (a b : List Hn), totH (a ++ b) = totH a + totH b
  | [], b => by simp [totH]
  | h :: t, b => by have := totH_app t b; simp only [List.cons_append, totH, this]; omega
theorem totH_take {hs : List Hn} {k : Nat} {h : Hn} (e : hs[k]? = some h) : totH (hs.take (k + 1)) = totH (hs.take k) + (h.1.size + h.2.size) := by
  rw [List.take_add_one, e, totH_app]
  simp [totH]
theorem totH_mem : ∀ {hs : List Hn} {h : Hn}, h ∈ hs → h.1.size + h.2.size ≤ totH hs
  | x :: t, h, e => by
    rcases List.mem_cons.1 e with rfl | e
    · simp only [totH]; omega
    · have := totH_mem e
      simp only [totH]; omega
def wideH (hs : List Hn) : Prop := ∀ h ∈ hs, h.1.size ≤ 9223372036854775807 ∧ h.2.size ≤ 9223372036854775807
def SzH (hs : List Hn) (w : World) (e : Ending) (w' : World) : Prop :=
  (∃ r : Int, e = .returned (.int .i64 r) ∧ (r = -1 ∨ (0 ≤ r ∧ totH hs + hs.length ≤ 1048576))) ∧ Below w.heap.size w w'
theorem szR_cases (n p : ByteArray) (l : Int) : szR n p l = -1 ∨ (szR n p l = l - n.size - p.size ∧ 0 ≤ l - n.size - p.size) := by
  unfold szR
  split
  · exact .inl rfl
  · split
    · exact .inl rfl
    · exact .inr ⟨rfl, by omega⟩
set_option maxHeartbeats 4000000 in
theorem szHs_ (w : World) (v : Value) (hs : List Hn) (hV : SlH w v hs) (hw : wideH hs) (hl : hs.length ≤ 9223372036854775807) :
    Calls Try.prog 18 #[v, .int .i64 1048576] w fun e w' => SzH hs w e w' := by
  obtain ⟨a, c, rfl⟩ := hV.sl
  have HV : Hid (SlH w (.slice a hs.length c) hs) := hV
  have HW : Hid (wideH hs) := hw
  clear hV hw
  by_cases h : (1048576 : Int) < (hs.length : Int)
  · go_enter Try.func18, Try.ntmps18
    go_wp2_with fail
    go_ret
    exact ⟨⟨_, rfl, .inl rfl⟩, Below.refl _ _⟩
  · go_enter Try.func18, Try.ntmps18
    go_wp2_with fail
    go_loopw [1, 5] (fun l i wr => ∃ (k : Nat) (m : Int), k ≤ hs.length ∧ i = .int .i64 k ∧ l = .int .i64 m ∧ 0 ≤ m ∧ m + (totH (hs.take k) : Int) + (hs.length : Int) = 1048576 ∧ Below w.heap.size w wr) (fun _ i _ => hs.length - (intOf i).toNat)
    case atStart => exact ⟨0, 1048576 - hs.length, Nat.zero_le _, rfl, by go_num, by omega, by simp [totH], Below.refl _ _⟩
    case round =>
      obtain ⟨k, m, hk, rfl, rfl, hm0, hsum, hb⟩ := hrel
      by_cases hlt : k < hs.length
      · obtain ⟨⟨n, p⟩, hx⟩ : ∃ h, hs[k]? = some h := ⟨_, List.getElem?_eq_getElem hlt⟩
        obtain ⟨b, off, rfl, c1, c2⟩ : ∃ b off, a = some ⟨b, off, none⟩ ∧ wr.cell? ⟨b, off + k * 2, none⟩ = some (.string n) ∧ wr.cell? ⟨b, off + k * 2 + 1, none⟩ = some (.string p) := by
          rcases HV.out with ⟨e, _⟩ | ⟨_, b, off, _, e, hbl, hcell⟩
          · rw [e] at hx; simp at hx
          · injection e with e
            exact ⟨b, off, e, by rw [hb.cell hbl]; exact (hcell k _ hx).1, by rw [hb.cell hbl]; exact (hcell k _ hx).2⟩
        obtain ⟨hzn, hzp⟩ := HW.out _ (List.mem_of_getElem? hx)
        have hts := totH_take hx
        have hE := szH_ n p m wr hm0 (by omega) hzn hzp
        have hlt' : (k : Int) < (hs.length : Int) := by omega
        have hlc := szR_cases n p m
        have HTS : Hid (totH (hs.take (k + 1)) = totH (hs.take k) + (n.size + p.size)) := hts
        have HSUM : Hid (m + (totH (hs.take k) : Int) + (hs.length : Int) = 1048576) := hsum
        clear hx hts hsum hzn hzp
        go_wp2_with fail
        refine hE.mono ?_
        rintro e w1 ⟨rfl, hb1⟩
        have hB1 : Below w.heap.size w w1 := hb.trans (hb1.mono hb.size)
        clear hE hb1
        generalize szR n p m = m' at *
        rcases hlc with rfl | ⟨e, hge⟩
        · go_wp2_with fail
          go_ret
          exact ⟨⟨_, rfl, .inl rfl⟩, hB1⟩
        · subst e
          have hge' : ¬ m - (n.size : Int) - (p.size : Int) < 0 := by omega
          go_wp2_with fail
          go_roundw
          case rel => exact ⟨k + 1, _, hlt, by go_num, rfl, hge, by have h1 := HTS.out; have h2 := HSUM.out; omega, hB1⟩
          case measure => simp [intOf]; omega
      · obtain rfl : k = hs.length := by omega
        rw [List.take_length] at hsum
        have HSUM : Hid (m + (totH hs : Int) + (hs.length : Int) = 1048576) := hsum
        clear hsum
        go_wp2_with fail
        go_ret
        exact ⟨⟨_, rfl, .inr ⟨hm0, by have := HSUM.out; omega⟩⟩, hb⟩
/-- The cells of a list of handles. -/
def cellsH (hs : List Hn) : List Value := hs.flatMap (fun h => [.string h.1, .string h.2])
theorem cellsH_len : ∀ hs : List Hn, (cellsH hs).length = hs.length * 2
  | [] => rfl
  | h :: t => by
    have := cellsH_len t
    unfold cellsH at *
    simp only [List.flatMap_cons, List.length_append, List.length_cons, List.length_nil, this]
    omega
theorem cellsH_at : ∀ {hs : List Hn} {i : Nat} {h : Hn}, hs[i]? = some h → (cellsH hs)[i * 2]? = some (.string h.1) ∧ (cellsH hs)[i * 2 + 1]? = some (.string h.2)
  | [], i, h, e => by simp at e
  | x :: t, 0, h, e => by
    obtain rfl : x = h := by simpa using e
    exact ⟨rfl, rfl⟩
  | x :: t, i + 1, h, e => by
    have := cellsH_at (hs := t) (i := i) (h := h) (by simpa using e)
    have e1 : cellsH (x :: t) = .string x.1 :: .string x.2 :: cellsH t := rfl
    rw [e1]
    have e2 : (i + 1) * 2 = i * 2 + 1 + 1 := by omega
    rw [e2]
    simpa using this
theorem cellsH_snoc (rs : List Hn) (h : Hn) : cellsH (rs ++ [h]) = cellsH rs ++ [.string h.1, .string h.2] := by simp [cellsH]
def zS : Value := .string ByteArray.empty
theorem cellsH_step {rs : List Hn} {k : Nat} (hk : rs.length = k) (h : Hn) (j : Nat) :
    (if j = k * 2 + 1 then Value.string h.2 else if j = k * 2 then Value.string h.1 else (cellsH rs)[j]?.getD zS) = (cellsH (rs ++ [h]))[j]?.getD zS := by
  have hl := cellsH_len rs
  rw [cellsH_snoc, List.getElem?_append]
  by_cases h1 : j < (cellsH rs).length
  · rw [if_pos h1, if_neg (by omega), if_neg (by omega)]
  · rw [if_neg h1]
    by_cases h2 : j = k * 2
    · rw [if_neg (by omega), if_pos h2]
      have : j - (cellsH rs).length = 0 := by omega
      rw [this]; rfl
    · by_cases h3 : j = k * 2 + 1
      · rw [if_pos h3]
        have : j - (cellsH rs).length = 1 := by omega
        rw [this]; rfl
      · rw [if_neg h3, if_neg h2]
        rw [List.getElem?_eq_none (l := cellsH rs) (by omega), List.getElem?_eq_none (l := [Value.string h.1, Value.string h.2]) (by simp only [List.length_cons, List.length_nil]; omega)]
theorem infoH : (Try.prog.info? 29).map (fun i => (i.zero, i.size, i.bytes)) = some (some (.agg #[.string ByteArray.empty, .string ByteArray.empty]), 2, 32) := by kernel_rfl
theorem infoH_parts : ∃ ti, Try.prog.info? 29 = some ti ∧ ti.zero = some (.agg #[.string ByteArray.empty, .string ByteArray.empty]) ∧ ti.size = 2 ∧ ti.bytes = 32 := by
  have h := infoH
  cases e : Try.prog.info? 29 with
  | none => rw [e] at h; cases h
  | some ti =>
    rw [e] at h
    simp at h
    exact ⟨ti, rfl, h.1, h.2.1, h.2.2⟩
set_option maxHeartbeats 4000000 in
theorem toHs_ (w : World) (v : Value) (hs : List Hn) (hV : SlH w v hs) (hl : hs.length ≤ 1048576) :
    Calls Try.prog 20 #[v] w fun e w' => (∃ v', e = .returned v' ∧ SlH w' v' hs) ∧ Below w.heap.size w w' := by
  obtain ⟨a, c, rfl⟩ := hV.sl
  have HV : Hid (SlH w (.slice a hs.length c) hs) := hV
  clear hV
  obtain ⟨ti, hti, hz0, hz1, hz2⟩ := infoH_parts
  have hmk : ∀ w : World, (Instr.makeSlice 36 (.int .i64 (hs.length : Int)) (.int .i64 (hs.length : Int))).run Try.prog w = .ok (.slice (some ⟨w.heap.size, 0, none⟩) hs.length hs.length) (w.alloc (.cells (madeCells #[.string ByteArray.empty, .string ByteArray.empty] (hs.length * 2)) 29)) := by
    intro w
    have := run_make (P := Try.prog) w 36 29 ti _ Try.underlying36 hti hz0 .i64 .i64 hs.length hs.length (by omega) (Int.le_refl _) (by rw [hz2]; omega) (by omega)
    rw [hz1] at this
    simpa [Value.cells] using this
  clear hti hz0 hz1 hz2
  go_enter Try.func20, Try.ntmps20
  go_wp2_with fail
  go_loopw [4] (fun i wr => ∃ k : Nat, k ≤ hs.length ∧ i = .int .i64 k ∧ Hid (wr.rowIs w.heap.size 29 (hs.length * 2) (fun j => (cellsH (hs.take k))[j]?.getD zS)) ∧ Below w.heap.size w wr) (fun i _ => hs.length - (intOf i).toNat)
  case atStart =>
    refine ⟨0, Nat.zero_le _, rfl, ?_, (Below.refl _ _).alloc (Nat.le_refl _) _⟩
    have := World.rowIs_alloc w (madeCells #[.string ByteArray.empty, .string ByteArray.empty] (hs.length * 2)) 29 (fun _ => zS) (fun i hi => by
      rw [size_madeCells] at hi
      unfold madeCells zS
      rcases Nat.mod_two_eq_zero_or_one i with e | e <;> simp [hi, e])
    rw [size_madeCells] at this
    exact this.congr (fun i hi => by simp [cellsH])
  case round =>
    obtain ⟨k, hk, rfl, HC, hb⟩ := hrel
    by_cases hlt : k < hs.length
    · obtain ⟨⟨n, p⟩, hx⟩ : ∃ h, hs[k]? = some h := ⟨_, List.getElem?_eq_getElem hlt⟩
      obtain ⟨b, off, rfl, c1, c2⟩ : ∃ b off, a = some ⟨b, off, none⟩ ∧ wr.cell? ⟨b, off + k * 2, none⟩ = some (.string n) ∧ wr.cell? ⟨b, off + k * 2 + 1, none⟩ = some (.string p) := by
        rcases HV.out with ⟨e, _⟩ | ⟨_, b, off, _, e, hbl, hcell⟩
        · rw [e] at hx; simp at hx
        · injection e with e
          exact ⟨b, off, e, by rw [hb.cell hbl]; exact (hcell k _ hx).1, by rw [hb.cell hbl]; exact (hcell k _ hx).2⟩
      have HX : Hid (hs.take (k + 1) = hs.take k ++ [(n, p)]) := by show hs.take (k + 1) = _; rw [List.take_add_one, hx]; rfl
      have hlt' : (k : Int) < (hs.length : Int) := by omega
      have hszH := HC.out.lt
      have htl : (hs.take k).length = k := by rw [List.length_take]; omega
      have HTL : Hid ((hs.take k).length = k) := htl
      clear hx htl
      go_wp2_with fail
      refine (toH_ n p wr).mono ?_
      rintro e w1 ⟨rfl, hb1⟩
      have hrow := HC.out.of_block (hb1.block _ hszH)
      have k1 : w1.cell? ⟨w.heap.size, k * 2, none⟩ = some _ := hrow.cell (by omega)
      have k2 : w1.cell? ⟨w.heap.size, k * 2 + 1, none⟩ = some _ := hrow.cell (by omega)
      have f1 := hrow.frozen (k * 2)
      have f2 := hrow.frozen (k * 2 + 1)
      have hB1 : Below w.heap.size w w1 := hb.trans (hb1.mono hb.size)
      have RA : Hid (((w1.setCell ⟨w.heap.size, k * 2, none⟩ (.string n)).setCell ⟨w.heap.size, k * 2 + 1, none⟩ (.string p)).rowIs w.heap.size 29 (hs.length * 2) (fun j => (cellsH (hs.take (k + 1)))[j]?.getD zS)) := by
        show World.rowIs _ _ _ _ _
        rw [HX.out]
        exact ((hrow.set (k * 2) _).set (k * 2 + 1) _).congr (fun j _ => cellsH_step HTL.out (n, p) j)
      have RB := (hB1.setCell (p := ⟨w.heap.size, k * 2, none⟩) (Nat.le_refl _) (.string n)).setCell (p := ⟨w.heap.size, k * 2 + 1, none⟩) (Nat.le_refl _) (.string p)
      clear hb1 hrow HC hB1
      go_wp2_with fail
      go_roundw
      case rel => exact ⟨k + 1, hlt, by go_num, RA, RB⟩
      case measure => simp [intOf]; omega
    · go_wp2_with fail
      go_ret
      have ek : k = hs.length := by omega
      have hrow := HC.out
      rw [ek, List.take_length] at hrow
      refine ⟨⟨_, rfl, ?_⟩, hb⟩
      by_cases h0 : hs = []
      · left; subst h0; exact ⟨rfl, _, _, rfl⟩
      · right
        refine ⟨h0, w.heap.size, 0, hs.length, rfl, hrow.lt, fun i h hi => ?_⟩
        have hil : i < hs.length := by
          rcases Nat.lt_or_ge i hs.length with h' | h'
          · exact h'
          · rw [List.getElem?_eq_none h'] at hi; cases hi
        obtain ⟨q1, q2⟩ := cellsH_at hi
        rw [Nat.zero_add]
        refine ⟨(hrow.cell (by omega)).trans ?_, (hrow.cell (by omega)).trans ?_⟩
        · rw [q1]; rfl
        · rw [q2]; rfl
theorem eqH_ (n p : ByteArray) (w : World) :
    Calls Try.prog 41 #[.agg #[.string n, .string p], .agg #[.string n, .string p]] w fun e w' => e = .returned (.bool true) ∧ Below w.heap.size w w' := by
  go_enter Try.func41, Try.ntmps41
  go_wp2_with fail
  go_ret
  exact ⟨rfl, ((Below.refl _ w).alloc (Nat.le_refl _) _).alloc (by simp) _⟩
theorem SlH.cells {w wr : World} {a : Option Addr} {c : Nat} {hs : List Hn} (h : SlH w (.slice a hs.length c) hs) (hb : Below w.heap.size w wr) {k : Nat} {n p : ByteArray} (hx : hs[k]? = some (n, p)) :
    ∃ b off, a = some ⟨b, off, none⟩ ∧ wr.cell? ⟨b, off + k * 2, none⟩ = some (.string n) ∧ wr.cell? ⟨b, off + k * 2 + 1, none⟩ = some (.string p) := by
  rcases h with ⟨e, _⟩ | ⟨_, b, off, _, e, hbl, hcell⟩
  · rw [e] at hx; simp at hx
  · injection e with e
    exact ⟨b, off, e, by rw [hb.cell hbl]; exact (hcell k _ hx).1, by rw [hb.cell hbl]; exact (hcell k _ hx).2⟩
set_option maxHeartbeats 4000000 in
theorem eqHs_ (w : World) (v u : Value) (hs : List Hn) (hV : SlH w v hs) (hU : SlH w u hs) (hl : hs.length ≤ 1048576) :
    Calls Try.prog 22 #[v, u] w fun e w' => e = .returned (.bool true) ∧ Below w.heap.size w w' := by
  obtain ⟨a, c, rfl⟩ := hV.sl
  obtain ⟨a', c', rfl⟩ := hU.sl
  have HV : Hid (SlH w (.slice a hs.length c) hs) := hV
  have HU : Hid (SlH w (.slice a' hs.length c') hs) := hU
  clear hV hU
  go_enter Try.func22, Try.ntmps22
  go_wp2_with fail
  go_loopw [5] (fun i wr => ∃ k : Nat, k ≤ hs.length ∧ i = .int .i64 k ∧ Below w.heap.size w wr) (fun i _ => hs.length - (intOf i).toNat)
  case atStart => exact ⟨0, Nat.zero_le _, rfl, Below.refl _ _⟩
  case round =>
    obtain ⟨k, hk, rfl, hb⟩ := hrel
    by_cases hlt : k < hs.length
    · obtain ⟨⟨n, p⟩, hx⟩ : ∃ h, hs[k]? = some h := ⟨_, List.getElem?_eq_getElem hlt⟩
      obtain ⟨b, off, rfl, c1, c2⟩ := HV.out.cells hb hx
      obtain ⟨b', off', rfl, c3, c4⟩ := HU.out.cells hb hx
      have hlt' : (k : Int) < (hs.length : Int) := by omega
      clear hx
      go_wp2_with fail
      go_region_with (go_at_call 41; refine (eqH_ n p _).mono ?_; rintro e w1 ⟨rfl, hb1⟩)
      all_goals
        have hB1 : Below w.heap.size w w1 := by
          have h0 : Below w.heap.size w wr.drew := hb.drew
          exact h0.trans (hb1.mono hb.size)
        clear hb1
        go_wp2_with fail
        go_roundw
      all_goals first | exact ⟨k + 1, hlt, by go_num, hB1⟩ | (simp [intOf]; omega)
    · go_wp2_with fail
      go_ret
      exact ⟨rfl, hb⟩
end Go.Proofs.Ytopmboioojedbai
