/- A list of texts that came in: how large it is, a copy of it in new memory, whether two are alike. -/
import Derived.Test.YthlainjkpeioeajSls
import Derived.Test.YthlainjkpeioeajProg
import Derived.WalkLawsBesides
import Derived.WalkSpells
import Derived.WalkMore
import Derived.Deep.OwnRows
import Derived.Laws.MakeOwn
import Derived.Deep.RegionWith
import Derived.Deep.QuietTactic
import Derived.BigQuiet
import Derived.Deep.Light
namespace Go.Proofs.Ythlainjkpeioeaj
open Go.ChangeShapes Go.WideShapes Go.ChangeAt Go.RowKit Go.Deep
def SzS (ss : List ByteArray) (w : World) (e : Ending) (w' : World) : Prop :=
  (∃ r : Int, e = .returned (.int .i64 r) ∧ (r = -1 ∨ (0 ≤ r ∧ totS ss + ss.length ≤ 1048576))) ∧ Below w.heap.size w w'
set_option maxHeartbeats 4000000 in
theorem szSs_ (w : World) (v : Value) (ss : List ByteArray) (hV : SlS w v ss) (hw : wideS ss) (hl : ss.length ≤ 9223372036854775807) :
    Calls Try.prog 8 #[v, .int .i64 1048576] w fun e w' => SzS ss w e w' := by
  obtain ⟨a, c, rfl⟩ := hV.sl
  have HV : Hid (SlS w (.slice a ss.length c) ss) := hV
  have HW : Hid (wideS ss) := hw
  clear hV hw
  by_cases h : (1048576 : Int) < (ss.length : Int)
  · go_enter Try.func8, Try.ntmps8
    go_wp2_with fail
    go_ret
    exact ⟨⟨_, rfl, .inl rfl⟩, Below.refl _ _⟩
  · go_enter Try.func8, Try.ntmps8
    go_wp2_with fail
    go_loopw [1, 5] (fun l i wr => ∃ (k : Nat) (m : Int), k ≤ ss.length ∧ i = .int .i64 k ∧ l = .int .i64 m ∧ 0 ≤ m ∧ m + (totS (ss.take k) : Int) + (ss.length : Int) = 1048576 ∧ Below w.heap.size w wr) (fun _ i _ => ss.length - (intOf i).toNat)
    case atStart => exact ⟨0, 1048576 - ss.length, Nat.zero_le _, rfl, by go_num, by omega, by simp [totS], Below.refl _ _⟩
    case round =>
      obtain ⟨k, m, hk, rfl, rfl, hm0, hsum, hb⟩ := hrel
      by_cases hlt : k < ss.length
      · obtain ⟨s, hx⟩ : ∃ h, ss[k]? = some h := ⟨_, List.getElem?_eq_getElem hlt⟩
        obtain ⟨b, off, rfl, c1⟩ := HV.out.cells hb hx
        have hzs := HW.out _ (List.mem_of_getElem? hx)
        have hts := totS_take hx
        have hlt' : (k : Int) < (ss.length : Int) := by omega
        have hm1 : m ≤ 1048576 := by omega
        have HTS : Hid (totS (ss.take (k + 1)) = totS (ss.take k) + s.size) := hts
        have HSUM : Hid (m + (totS (ss.take k) : Int) + (ss.length : Int) = 1048576) := hsum
        clear hx hts hsum
        by_cases hlc : m - (s.size : Int) < 0
        · go_wp2_with fail
          go_ret
          exact ⟨⟨_, rfl, .inl rfl⟩, hb⟩
        · go_wp2_with fail
          go_roundw
          case rel => exact ⟨k + 1, _, hlt, by go_num, rfl, by omega, by have h1 := HTS.out; have h2 := HSUM.out; omega, hb⟩
          case measure => simp [intOf]; omega
      · obtain rfl : k = ss.length := by omega
        rw [List.take_length] at hsum
        have HSUM : Hid (m + (totS ss : Int) + (ss.length : Int) = 1048576) := hsum
        clear hsum
        go_wp2_with fail
        go_ret
        exact ⟨⟨_, rfl, .inr ⟨hm0, by have := HSUM.out; omega⟩⟩, hb⟩
def cellsS (ss : List ByteArray) : List Value := ss.map Value.string
def zS : Value := .string ByteArray.empty
theorem cellsS_step {rs : List ByteArray} {k : Nat} (hk : rs.length = k) (s : ByteArray) (j : Nat) :
    (if j = k then Value.string s else (cellsS rs)[j]?.getD zS) = (cellsS (rs ++ [s]))[j]?.getD zS := by
  unfold cellsS
  rw [List.map_append, List.getElem?_append, List.length_map, hk]
  by_cases h1 : j < k
  · rw [if_neg (by omega), if_pos h1]
  · rw [if_neg h1]
    by_cases h2 : j = k
    · rw [if_pos h2, h2, Nat.sub_self]; rfl
    · rw [if_neg h2, List.getElem?_eq_none (l := List.map Value.string rs) (by rw [List.length_map]; omega), List.getElem?_eq_none (l := List.map Value.string [s]) (by simp only [List.map_cons, List.map_nil, List.length_cons, List.length_nil]; omega)]
theorem infoS : (Try.prog.info? 9).map (fun i => (i.zero, i.size, i.bytes)) = some (some (.string ByteArray.empty), 1, 16) := by kernel_rfl
theorem infoS_parts : ∃ ti, Try.prog.info? 9 = some ti ∧ ti.zero = some (.string ByteArray.empty) ∧ ti.size = 1 ∧ ti.bytes = 16 := by
  have h := infoS
  cases e : Try.prog.info? 9 with
  | none => rw [e] at h; cases h
  | some ti =>
    rw [e] at h
    simp at h
    exact ⟨ti, rfl, h.1, h.2.1, h.2.2⟩
set_option maxHeartbeats 4000000 in
theorem toSs_ (w : World) (v : Value) (ss : List ByteArray) (hV : SlS w v ss) (hl : ss.length ≤ 1048576) :
    Calls Try.prog 10 #[v] w fun e w' => (∃ v', e = .returned v' ∧ SlS w' v' ss) ∧ Below w.heap.size w w' := by
  obtain ⟨a, c, rfl⟩ := hV.sl
  have HV : Hid (SlS w (.slice a ss.length c) ss) := hV
  clear hV
  obtain ⟨ti, hti, hz0, hz1, hz2⟩ := infoS_parts
  have hmk : ∀ w : World, (Instr.makeSlice 22 (.int .i64 (ss.length : Int)) (.int .i64 (ss.length : Int))).run Try.prog w = .ok (.slice (some ⟨w.heap.size, 0, none⟩) ss.length ss.length) (w.alloc (.cells (madeCells #[.string ByteArray.empty] (ss.length * 1)) 9)) := by
    intro w
    have := run_make (P := Try.prog) w 22 9 ti _ Try.underlying22 hti hz0 .i64 .i64 ss.length ss.length (by omega) (Int.le_refl _) (by rw [hz2]; omega) (by omega)
    rw [hz1] at this
    simpa [Value.cells] using this
  clear hti hz0 hz1 hz2
  go_enter Try.func10, Try.ntmps10
  go_wp2_with fail
  go_loopw [4] (fun i wr => ∃ k : Nat, k ≤ ss.length ∧ i = .int .i64 k ∧ Hid (wr.rowIs w.heap.size 9 ss.length (fun j => (cellsS (ss.take k))[j]?.getD zS)) ∧ Below w.heap.size w wr) (fun i _ => ss.length - (intOf i).toNat)
  case atStart =>
    refine ⟨0, Nat.zero_le _, rfl, ?_, (Below.refl _ _).alloc (Nat.le_refl _) _⟩
    have := World.rowIs_alloc w (madeCells #[.string ByteArray.empty] ss.length) 9 (fun _ => zS) (fun i hi => by
      rw [size_madeCells] at hi
      unfold madeCells zS
      simp [hi, Nat.mod_one])
    rw [size_madeCells] at this
    exact this.congr (fun i hi => by simp [cellsS])
  case round =>
    obtain ⟨k, hk, rfl, HC, hb⟩ := hrel
    by_cases hlt : k < ss.length
    · obtain ⟨s, hx⟩ : ∃ h, ss[k]? = some h := ⟨_, List.getElem?_eq_getElem hlt⟩
      obtain ⟨b, off, rfl, c1⟩ := HV.out.cells hb hx
      have HX : Hid (ss.take (k + 1) = ss.take k ++ [s]) := by show ss.take (k + 1) = _; rw [List.take_add_one, hx]; rfl
      have hlt' : (k : Int) < (ss.length : Int) := by omega
      have htl : (ss.take k).length = k := by rw [List.length_take]; omega
      have HTL : Hid ((ss.take k).length = k) := htl
      have hrow := HC.out
      have k1 : wr.cell? ⟨w.heap.size, k, none⟩ = some _ := hrow.cell hlt
      have f1 := hrow.frozen k
      have RA : Hid ((wr.setCell ⟨w.heap.size, k, none⟩ (.string s)).rowIs w.heap.size 9 ss.length (fun j => (cellsS (ss.take (k + 1)))[j]?.getD zS)) := by
        show World.rowIs _ _ _ _ _
        rw [HX.out]
        exact (hrow.set k _).congr (fun j _ => cellsS_step HTL.out s j)
      have RB := hb.setCell (p := ⟨w.heap.size, k, none⟩) (Nat.le_refl _) (.string s)
      clear hx htl hrow HC hb
      go_wp2_with fail
      go_roundw
      case rel => exact ⟨k + 1, hlt, by go_num, RA, RB⟩
      case measure => simp [intOf]; omega
    · go_wp2_with fail
      go_ret
      have ek : k = ss.length := by omega
      have hrow := HC.out
      rw [ek, List.take_length] at hrow
      refine ⟨⟨_, rfl, ?_⟩, hb⟩
      by_cases h0 : ss = []
      · left; subst h0; exact ⟨rfl, _, _, rfl⟩
      · right
        refine ⟨h0, w.heap.size, 0, ss.length, rfl, hrow.lt, Nat.le_refl _, fun i s hi => ?_⟩
        have hil : i < ss.length := by
          rcases Nat.lt_or_ge i ss.length with h' | h'
          · exact h'
          · rw [List.getElem?_eq_none h'] at hi; cases hi
        rw [Nat.zero_add]
        refine (hrow.cell hil).trans ?_
        unfold cellsS
        rw [List.getElem?_map, hi]; rfl
set_option maxHeartbeats 4000000 in
theorem eqSs_ (w : World) (v u : Value) (ss : List ByteArray) (hV : SlS w v ss) (hU : SlS w u ss) (hl : ss.length ≤ 1048576) :
    Calls Try.prog 12 #[v, u] w fun e w' => e = .returned (.bool true) ∧ Below w.heap.size w w' := by
  obtain ⟨a, c, rfl⟩ := hV.sl
  obtain ⟨a', c', rfl⟩ := hU.sl
  have HV : Hid (SlS w (.slice a ss.length c) ss) := hV
  have HU : Hid (SlS w (.slice a' ss.length c') ss) := hU
  clear hV hU
  go_enter Try.func12, Try.ntmps12
  go_wp2_with fail
  go_loopw [5] (fun i wr => ∃ k : Nat, k ≤ ss.length ∧ i = .int .i64 k ∧ Below w.heap.size w wr) (fun i _ => ss.length - (intOf i).toNat)
  case atStart => exact ⟨0, Nat.zero_le _, rfl, Below.refl _ _⟩
  case round =>
    obtain ⟨k, hk, rfl, hb⟩ := hrel
    by_cases hlt : k < ss.length
    · obtain ⟨s, hx⟩ : ∃ h, ss[k]? = some h := ⟨_, List.getElem?_eq_getElem hlt⟩
      obtain ⟨b, off, rfl, c1⟩ := HV.out.cells hb hx
      obtain ⟨b', off', rfl, c3⟩ := HU.out.cells hb hx
      have hlt' : (k : Int) < (ss.length : Int) := by omega
      have hss : (s.toList != s.toList) = false := by simp
      clear hx
      go_wp2_with fail
      go_quiet (fail)
      go_wp2_with fail
      go_roundw
      case rel => exact ⟨k + 1, hlt, by go_num, hb.trans ((below_dq _ _).mono hb.size)⟩
      case measure => simp [intOf]; omega
    · go_wp2_with fail
      go_ret
      exact ⟨rfl, hb⟩
end Go.Proofs.Ythlainjkpeioeaj
