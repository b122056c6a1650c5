/- A list of pieces that came in: how large it is, a copy of it in new memory, whether two are alike. -/
import Derived.Test.YtckpfdjaobdclaiSls
import Derived.Test.YtckpfdjaobdclaiBwr
import Derived.Test.YtckpfdjaobdclaiProg
import Derived.WalkLawsBesides
import Derived.WalkSpells
import Derived.WalkMore
import Derived.Deep.OwnRows
import Derived.Laws.MakeOwn
import Derived.Deep.RegionWith
import Derived.Deep.QuietTactic
import Derived.OwnWalk
namespace Go.Proofs.Ytckpfdjaobdclai
open Go.ChangeShapes Go.WideShapes Go.ChangeAt Go.RowKit Go.Deep Go.BigFrame
def SzC (ps : List Pc) (w : World) (e : Ending) (w' : World) : Prop :=
  (∃ r : Int, e = .returned (.int .i64 r) ∧ (r = -1 ∨ (0 ≤ r ∧ totC ps + ps.length ≤ 1048576))) ∧ Below w.heap.size w w'
theorem szC_ (n : ByteArray) (g : Bool) (l : Int) (w : World) (l0 : 0 ≤ l) (l1 : l ≤ 1048576) (hn : n.size ≤ 9223372036854775807) :
    Calls Try.prog 48 #[.agg #[.string n, .bool g], .int .i64 l] w fun e w' => e = .returned (.int .i64 (if l - n.size < 0 then -1 else l - n.size)) ∧ Below w.heap.size w w' := by
  have hal : Below w.heap.size w (w.alloc (.cells #[.string n, .bool g] 63)) := (Below.refl _ w).alloc (Nat.le_refl _) _
  by_cases h1 : l - (n.size : Int) < 0
  · rw [if_pos h1]
    go_enter Try.func48, Try.ntmps48
    go_wp2_with fail
    go_ret
    exact ⟨rfl, hal⟩
  · rw [if_neg h1]
    have h1' : 0 ≤ l - (n.size : Int) := by omega
    go_enter Try.func48, Try.ntmps48
    go_wp2_with fail
    go_ret
    exact ⟨rfl, hal⟩
set_option maxHeartbeats 4000000 in
theorem szCs_ (w : World) (v : Value) (ps : List Pc) (hV : SlC w v ps) (hw : wideC ps) (hl : ps.length ≤ 9223372036854775807) :
    Calls Try.prog 24 #[v, .int .i64 1048576] w fun e w' => SzC ps w e w' := by
  obtain ⟨a, c, rfl⟩ := hV.sl
  have HV : Hid (SlC w (.slice a ps.length c) ps) := hV
  have HW : Hid (wideC ps) := hw
  clear hV hw
  by_cases h : (1048576 : Int) < (ps.length : Int)
  · go_enter Try.func24, Try.ntmps24
    go_wp2_with fail
    go_ret
    exact ⟨⟨_, rfl, .inl rfl⟩, Below.refl _ _⟩
  · go_enter Try.func24, Try.ntmps24
    go_wp2_with fail
    go_loopw [1, 5] (fun l i wr => ∃ (k : Nat) (m : Int), k ≤ ps.length ∧ i = .int .i64 k ∧ l = .int .i64 m ∧ 0 ≤ m ∧ m + (totC (ps.take k) : Int) + (ps.length : Int) = 1048576 ∧ Below w.heap.size w wr) (fun _ i _ => ps.length - (intOf i).toNat)
    case atStart => exact ⟨0, 1048576 - ps.length, Nat.zero_le _, rfl, by go_num, by omega, by simp [totC], Below.refl _ _⟩
    case round =>
      obtain ⟨k, m, hk, rfl, rfl, hm0, hsum, hb⟩ := hrel
      by_cases hlt : k < ps.length
      · obtain ⟨⟨n, g⟩, hx⟩ : ∃ h, ps[k]? = some h := ⟨_, List.getElem?_eq_getElem hlt⟩
        obtain ⟨b, off, rfl, c1, c2⟩ := HV.out.cells hb hx
        have hzn := HW.out _ (List.mem_of_getElem? hx)
        have hts := totC_take hx
        have hE := szC_ n g m wr hm0 (by omega) hzn
        have hlt' : (k : Int) < (ps.length : Int) := by omega
        have HTS : Hid (totC (ps.take (k + 1)) = totC (ps.take k) + n.size) := hts
        have HSUM : Hid (m + (totC (ps.take k) : Int) + (ps.length : Int) = 1048576) := hsum
        clear hx hts hsum hzn
        go_wp2_with fail
        refine hE.mono ?_
        rintro e w1 ⟨rfl, hb1⟩
        have hB1 : Below w.heap.size w w1 := hb.trans (hb1.mono hb.size)
        clear hE hb1
        by_cases hlc : m - (n.size : Int) < 0
        · rw [if_pos hlc]
          go_wp2_with fail
          go_ret
          exact ⟨⟨_, rfl, .inl rfl⟩, hB1⟩
        · rw [if_neg hlc]
          go_wp2_with fail
          go_roundw
          case rel => exact ⟨k + 1, _, hlt, by go_num, rfl, by omega, by have h1 := HTS.out; have h2 := HSUM.out; omega, hB1⟩
          case measure => simp [intOf]; omega
      · obtain rfl : k = ps.length := by omega
        rw [List.take_length] at hsum
        have HSUM : Hid (m + (totC ps : Int) + (ps.length : Int) = 1048576) := hsum
        clear hsum
        go_wp2_with fail
        go_ret
        exact ⟨⟨_, rfl, .inr ⟨hm0, by have := HSUM.out; omega⟩⟩, hb⟩
/-- The cells of a list of pieces. -/
def cellsC (ps : List Pc) : List Value := ps.flatMap (fun h => [.string h.1, .bool h.2])
theorem cellsC_len : ∀ ps : List Pc, (cellsC ps).length = ps.length * 2
  | [] => rfl
  | h :: t => by
    have := cellsC_len t
    unfold cellsC at *
    simp only [List.flatMap_cons, List.length_append, List.length_cons, List.length_nil, this]
    omega
theorem cellsC_at : ∀ {ps : List Pc} {i : Nat} {h : Pc}, ps[i]? = some h → (cellsC ps)[i * 2]? = some (.string h.1) ∧ (cellsC ps)[i * 2 + 1]? = some (.bool h.2)
  | [], i, h, e => by simp at e
  | x :: t, 0, h, e => by
    obtain rfl : x = h := by simpa using e
    exact ⟨rfl, rfl⟩
  | x :: t, i + 1, h, e => by
    have := cellsC_at (ps := t) (i := i) (h := h) (by simpa using e)
    have e1 : cellsC (x :: t) = .string x.1 :: .bool x.2 :: cellsC t := rfl
    rw [e1]
    have e2 : (i + 1) * 2 = i * 2 + 1 + 1 := by omega
    rw [e2]
    simpa using this
theorem cellsC_snoc (rs : List Pc) (h : Pc) : cellsC (rs ++ [h]) = cellsC rs ++ [.string h.1, .bool h.2] := by simp [cellsC]
def zC (j : Nat) : Value := if j % 2 = 0 then .string ByteArray.empty else .bool false
theorem cellsC_step {rs : List Pc} {k : Nat} (hk : rs.length = k) (h : Pc) (j : Nat) :
    (if j = k * 2 + 1 then Value.bool h.2 else if j = k * 2 then Value.string h.1 else (cellsC rs)[j]?.getD (zC j)) = (cellsC (rs ++ [h]))[j]?.getD (zC j) := by
  have hl := cellsC_len rs
  rw [cellsC_snoc, List.getElem?_append]
  by_cases h1 : j < (cellsC rs).length
  · rw [if_pos h1, if_neg (by omega), if_neg (by omega)]
  · rw [if_neg h1]
    by_cases h2 : j = k * 2
    · rw [if_neg (by omega), if_pos h2]
      have : j - (cellsC rs).length = 0 := by omega
      rw [this]; rfl
    · by_cases h3 : j = k * 2 + 1
      · rw [if_pos h3]
        have : j - (cellsC rs).length = 1 := by omega
        rw [this]; rfl
      · rw [if_neg h3, if_neg h2]
        rw [List.getElem?_eq_none (l := cellsC rs) (by omega), List.getElem?_eq_none (l := [Value.string h.1, Value.bool h.2]) (by simp only [List.length_cons, List.length_nil]; omega)]
theorem infoC : (Try.prog.info? 64).map (fun i => (i.zero, i.size, i.bytes)) = some (some (.agg #[.string ByteArray.empty, .bool false]), 2, 24) := by kernel_rfl
theorem infoC_parts : ∃ ti, Try.prog.info? 64 = some ti ∧ ti.zero = some (.agg #[.string ByteArray.empty, .bool false]) ∧ ti.size = 2 ∧ ti.bytes = 24 := by
  have h := infoC
  cases e : Try.prog.info? 64 with
  | none => rw [e] at h; cases h
  | some ti =>
    rw [e] at h
    simp at h
    exact ⟨ti, rfl, h.1, h.2.1, h.2.2⟩
theorem toC_ (n : ByteArray) (g : Bool) (w : World) :
    Calls Try.prog 49 #[.agg #[.string n, .bool g]] w fun e w' => e = .returned (.agg #[.string n, .bool g]) ∧ Below w.heap.size w w' := by
  go_enter Try.func49, Try.ntmps49
  go_wp2_with fail
  have hF : (((w.alloc (.cells #[.string n, .bool g] 63)).alloc (.cells #[.string n, .bool g] 64)).alloc (.cells #[.string n, .bool g] 64)).heap[w.heap.size + 1]? = some (.cells #[.string n, .bool g] 64 (0, 0)) := by
    rw [Below.heap_alloc _ _ _ (by simp)]
    show ((w.heap.push _).push _)[w.heap.size + 1]? = _
    rw [Array.getElem?_push, if_pos (by simp)]
  have hB : Below w.heap.size w (((w.alloc (.cells #[.string n, .bool g] 63)).alloc (.cells #[.string n, .bool g] 64)).alloc (.cells #[.string n, .bool g] 64)) := (((Below.refl _ w).alloc (Nat.le_refl _) _).alloc (by simp) _).alloc (by simp <;> omega) _
  refine bodyPost_ret (results_cell_row rfl _ _ (w.heap.size + 1) 64 _ (0, 0) _ rfl hF Try.underlying64 rfl (by kernel_rfl)) rfl ?_
  exact ⟨rfl, hB⟩
set_option maxHeartbeats 4000000 in
theorem toCs_ (w : World) (v : Value) (ps : List Pc) (hV : SlC w v ps) (hl : ps.length ≤ 1048576) :
    Calls Try.prog 26 #[v] w fun e w' => (∃ v', e = .returned v' ∧ SlC w' v' ps) ∧ Below w.heap.size w w' := by
  obtain ⟨a, c, rfl⟩ := hV.sl
  have HV : Hid (SlC w (.slice a ps.length c) ps) := hV
  clear hV
  obtain ⟨ti, hti, hz0, hz1, hz2⟩ := infoC_parts
  have hmk : ∀ w : World, (Instr.makeSlice 43 (.int .i64 (ps.length : Int)) (.int .i64 (ps.length : Int))).run Try.prog w = .ok (.slice (some ⟨w.heap.size, 0, none⟩) ps.length ps.length) (w.alloc (.cells (madeCells #[.string ByteArray.empty, .bool false] (ps.length * 2)) 64)) := by
    intro w
    have := run_make (P := Try.prog) w 43 64 ti _ Try.underlying43 hti hz0 .i64 .i64 ps.length ps.length (by omega) (Int.le_refl _) (by rw [hz2]; omega) (by omega)
    rw [hz1] at this
    simpa [Value.cells] using this
  clear hti hz0 hz1 hz2
  go_enter Try.func26, Try.ntmps26
  go_wp2_with fail
  go_loopw [4] (fun i wr => ∃ k : Nat, k ≤ ps.length ∧ i = .int .i64 k ∧ Hid (wr.rowIs w.heap.size 64 (ps.length * 2) (fun j => (cellsC (ps.take k))[j]?.getD (zC j))) ∧ Below w.heap.size w wr) (fun i _ => ps.length - (intOf i).toNat)
  case atStart =>
    refine ⟨0, Nat.zero_le _, rfl, ?_, (Below.refl _ _).alloc (Nat.le_refl _) _⟩
    have := World.rowIs_alloc w (madeCells #[.string ByteArray.empty, .bool false] (ps.length * 2)) 64 zC (fun i hi => by
      rw [size_madeCells] at hi
      unfold madeCells zC
      rcases Nat.mod_two_eq_zero_or_one i with e | e <;> simp [hi, e])
    rw [size_madeCells] at this
    exact this.congr (fun i hi => by simp [cellsC])
  case round =>
    obtain ⟨k, hk, rfl, HC, hb⟩ := hrel
    by_cases hlt : k < ps.length
    · obtain ⟨⟨n, g⟩, hx⟩ : ∃ h, ps[k]? = some h := ⟨_, List.getElem?_eq_getElem hlt⟩
      obtain ⟨b, off, rfl, c1, c2⟩ := HV.out.cells hb hx
      have HX : Hid (ps.take (k + 1) = ps.take k ++ [(n, g)]) := by show ps.take (k + 1) = _; rw [List.take_add_one, hx]; rfl
      have hlt' : (k : Int) < (ps.length : Int) := by omega
      have hszH := HC.out.lt
      have htl : (ps.take k).length = k := by rw [List.length_take]; omega
      have HTL : Hid ((ps.take k).length = k) := htl
      clear hx htl
      go_wp2_with fail
      refine (toC_ n g wr).mono ?_
      rintro e w1 ⟨rfl, hb1⟩
      have hrow := HC.out.of_block (hb1.block _ hszH)
      have k1 : w1.cell? ⟨w.heap.size, k * 2, none⟩ = some _ := hrow.cell (by omega)
      have k2 : w1.cell? ⟨w.heap.size, k * 2 + 1, none⟩ = some _ := hrow.cell (by omega)
      have f1 := hrow.frozen (k * 2)
      have f2 := hrow.frozen (k * 2 + 1)
      have hB1 : Below w.heap.size w w1 := hb.trans (hb1.mono hb.size)
      have RA : Hid (((w1.setCell ⟨w.heap.size, k * 2, none⟩ (.string n)).setCell ⟨w.heap.size, k * 2 + 1, none⟩ (.bool g)).rowIs w.heap.size 64 (ps.length * 2) (fun j => (cellsC (ps.take (k + 1)))[j]?.getD (zC j))) := by
        show World.rowIs _ _ _ _ _
        rw [HX.out]
        exact ((hrow.set (k * 2) _).set (k * 2 + 1) _).congr (fun j _ => cellsC_step HTL.out (n, g) j)
      have RB := (hB1.setCell (p := ⟨w.heap.size, k * 2, none⟩) (Nat.le_refl _) (.string n)).setCell (p := ⟨w.heap.size, k * 2 + 1, none⟩) (Nat.le_refl _) (.bool g)
      clear hb1 hrow HC hB1
      go_wp2_with fail
      go_roundw
      case rel => exact ⟨k + 1, hlt, by go_num, RA, RB⟩
      case measure => simp [intOf]; omega
    · go_wp2_with fail
      go_ret
      have ek : k = ps.length := by omega
      have hrow := HC.out
      rw [ek, List.take_length] at hrow
      refine ⟨⟨_, rfl, ?_⟩, hb⟩
      by_cases h0 : ps = []
      · left; subst h0; exact ⟨rfl, _, _, rfl⟩
      · right
        refine ⟨h0, w.heap.size, 0, ps.length, rfl, hrow.lt, fun i h hi => ?_⟩
        have hil : i < ps.length := by
          rcases Nat.lt_or_ge i ps.length with h' | h'
          · exact h'
          · rw [List.getElem?_eq_none h'] at hi; cases hi
        obtain ⟨q1, q2⟩ := cellsC_at hi
        rw [Nat.zero_add]
        refine ⟨(hrow.cell (by omega)).trans ?_, (hrow.cell (by omega)).trans ?_⟩
        · rw [q1]; rfl
        · rw [q2]; rfl
theorem eqC_ (n : ByteArray) (g : Bool) (w : World) :
    Calls Try.prog 53 #[.agg #[.string n, .bool g], .agg #[.string n, .bool g]] w fun e w' => e = .returned (.bool true) ∧ Below w.heap.size w w' := by
  have hg : (g != g) = false := by cases g <;> rfl
  have hn : (n.toList != n.toList) = false := by simp
  go_enter Try.func53, Try.ntmps53
  go_wp2_with fail
  go_ret
  exact ⟨rfl, ((Below.refl _ w).alloc (Nat.le_refl _) _).alloc (by simp) _⟩
set_option maxHeartbeats 4000000 in
theorem eqCs_ (w : World) (v u : Value) (ps : List Pc) (hV : SlC w v ps) (hU : SlC w u ps) (hl : ps.length ≤ 1048576) :
    Calls Try.prog 28 #[v, u] w fun e w' => e = .returned (.bool true) ∧ Below w.heap.size w w' := by
  obtain ⟨a, c, rfl⟩ := hV.sl
  obtain ⟨a', c', rfl⟩ := hU.sl
  have HV : Hid (SlC w (.slice a ps.length c) ps) := hV
  have HU : Hid (SlC w (.slice a' ps.length c') ps) := hU
  clear hV hU
  go_enter Try.func28, Try.ntmps28
  go_wp2_with fail
  go_loopw [5] (fun i wr => ∃ k : Nat, k ≤ ps.length ∧ i = .int .i64 k ∧ Below w.heap.size w wr) (fun i _ => ps.length - (intOf i).toNat)
  case atStart => exact ⟨0, Nat.zero_le _, rfl, Below.refl _ _⟩
  case round =>
    obtain ⟨k, hk, rfl, hb⟩ := hrel
    by_cases hlt : k < ps.length
    · obtain ⟨⟨n, g⟩, hx⟩ : ∃ h, ps[k]? = some h := ⟨_, List.getElem?_eq_getElem hlt⟩
      obtain ⟨b, off, rfl, _, _⟩ := HV.out.cells hb hx
      obtain ⟨b', off', rfl, _, _⟩ := HU.out.cells hb hx
      have c1 : ∀ m : Bw wr, m.val.cell? ⟨b, off + k * 2, none⟩ = some (.string n) ∧ m.val.cell? ⟨b, off + k * 2 + 1, none⟩ = some (.bool g) := fun m => by
        obtain ⟨_, _, e, h1, h2⟩ := HV.out.cells (hb.trans (m.ok.mono hb.size)) hx
        injection e with e
        injection e with e1 e2
        subst e1
        subst e2
        exact ⟨h1, h2⟩
      have c2 : ∀ m : Bw wr, m.val.cell? ⟨b', off' + k * 2, none⟩ = some (.string n) ∧ m.val.cell? ⟨b', off' + k * 2 + 1, none⟩ = some (.bool g) := fun m => by
        obtain ⟨_, _, e, h1, h2⟩ := HU.out.cells (hb.trans (m.ok.mono hb.size)) hx
        injection e with e
        injection e with e1 e2
        subst e1
        subst e2
        exact ⟨h1, h2⟩
      have d1 := fun m => (c1 m).1
      have d2 := fun m => (c1 m).2
      have d3 := fun m => (c2 m).1
      have d4 := fun m => (c2 m).2
      have hE := Bw.calls (w := wr) (fun w' _ => eqC_ n g w')
      have hne := Bw.some wr
      have hlt' : (k : Int) < (ps.length : Int) := by omega
      clear hx c1 c2
      go_wp2_with fail
      refine wp_region_bw (w0 := wr) (by kernel_rfl) (by kernel_rfl) (Below.refl _ _) ?_
      repeat (go_big_quiet_step ((go_at_call 53; exact hE _)))
      refine wpQuiet_nil ?_
      rintro _ ⟨m, rfl⟩
      have hB1 : Below w.heap.size w m.val := hb.trans (m.ok.mono hb.size)
      generalize m.val = w1 at *
      clear d1 d2 d3 d4 hE hne
      go_wp2_with fail
      go_roundw
      case rel => exact ⟨k + 1, hlt, by go_num, hB1⟩
      case measure => simp [intOf]; omega
    · go_wp2_with fail
      go_ret
      exact ⟨rfl, hb⟩
end Go.Proofs.Ytckpfdjaobdclai
