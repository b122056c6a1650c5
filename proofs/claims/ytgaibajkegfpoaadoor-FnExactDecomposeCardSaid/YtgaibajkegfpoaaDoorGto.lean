/- A copy of a graph, which is the call's own. -/
import Derived.Test.YtgaibajkegfpoaaDoorGpl
import Derived.Test.YtgaibajkegfpoaaDoorProg
import Derived.WalkLawsBesides
import Derived.WalkSpells
import Derived.WalkMore
import Derived.Handy
import Derived.LoopN
import Derived.Laws.ResultCell
import Derived.Laws.Rows
import Derived.Deep.AppendLies
import Derived.Deep.DeepCutAuto
import Derived.OwnWalk
import Derived.Deep.QuietTactic
import Derived.BigQuiet
import Derived.Deep.OwnRows
import Derived.Deep.RegionWith
import Derived.Laws.MakeOwn
import Derived.Lib.BufferOwn
import Derived.Below
namespace Go.Proofs.YtgaibajkegfpoaaDoor
open Go.ChangeShapes Go.WideShapes Go.ChangeAt Go.RowKit Go.Deep
def isSlG (v : Value) : Prop := ∃ a n c, v = .slice a n c
def ilV (l : List Int) : List Value := l.map (Value.int .i64)
theorem ilV_len (l : List Int) : (ilV l).length = l.length := by unfold ilV; simp
theorem g_own_of_row {w : World} {g t n : Nat} {f : Nat → Value} {size m : Nat} {xs : List Value} (h : w.rowIs g t (m * size) f) (hn : n = m) (hx : xs.length = m * size) (hf : ∀ i, i < m * size → xs[i]? = some (f i)) (hm : m ≤ maxLen) {lo : Nat} (hlo : lo ≤ g) :
    w.ownsRow lo t size (.slice (some ⟨g, 0, none⟩) n n) m xs := by
  subst hn
  obtain ⟨c, hb, hs, hc⟩ := h
  refine ⟨hx, .inr ⟨g, n, c, rfl, hlo, hb, Nat.le_refl _, hm, hs, ?_⟩⟩
  apply List.ext_getElem?
  intro i
  rw [List.getElem?_take]
  by_cases hi : i < n * size
  · rw [if_pos hi, Array.getElem?_toList, hc i hi, hf i hi]
  · rw [if_neg hi, List.getElem?_eq_none (by omega)]
theorem g_row_block {w w' : World} {lo e sz : Nat} {v : Value} {n : Nat} {xs : List Value} (h : w.ownsRow lo e sz v n xs) (hb : ∀ g, v.ownBlock = some g → w'.heap[g]? = w.heap[g]?) : w'.ownsRow lo e sz v n xs := by
  refine ⟨h.1, ?_⟩
  rcases h.2 with hn | ⟨g, cap, cur, rfl, hlo, hg, rest⟩
  · exact .inl hn
  · exact .inr ⟨g, cap, cur, rfl, hlo, by rw [hb g rfl]; exact hg, rest⟩
theorem g_row_below {w w' : World} {lo e sz : Nat} {v : Value} {n : Nat} {xs : List Value} (h : w.ownsRow lo e sz v n xs) (hb : Below w.heap.size w w') : w'.ownsRow lo e sz v n xs :=
  g_row_block h (fun g hg => hb.block g (h.lt g hg).2)
theorem g_row_lower {w : World} {lo lo' e sz : Nat} {v : Value} {n : Nat} {xs : List Value} (h : w.ownsRow lo e sz v n xs) (hl : lo' ≤ lo) : w.ownsRow lo' e sz v n xs := by
  refine ⟨h.1, ?_⟩
  rcases h.2 with hn | ⟨g, cap, cur, e1, e2, rest⟩
  · exact .inl hn
  · exact .inr ⟨g, cap, cur, e1, by omega, rest⟩
theorem infoIt : (Tryd.prog.info? 3).map (fun i => (i.zero, i.size, i.bytes)) = some (some (.int .i64 0), 1, 8) := by kernel_rfl
def zrowN : Array Value := #[.int .i64 0, .string ByteArray.empty, .string ByteArray.empty, .slice none 0 0]
theorem infoNd : (Tryd.prog.info? 67).map (fun i => (i.zero, i.size, i.bytes)) = some (some (.agg zrowN), 4, 64) := by kernel_rfl
theorem il_of_own {w : World} {lo : Nat} {v : Value} {l : List Int} (h : w.ownsRow lo 3 1 v l.length (ilV l)) : IlAt w v l := by
  by_cases hz : l = []
  · subst hz
    left
    rcases h.2 with ⟨e, _⟩ | ⟨g, cap, cur, e, _⟩
    · exact ⟨rfl, _, _, e⟩
    · exact ⟨rfl, _, _, e⟩
  · right
    have hpos : 0 < l.length := List.length_pos_iff.2 hz
    rcases h.2 with ⟨_, e⟩ | ⟨g, cap, cur, rfl, _, hg, _⟩
    · omega
    · refine ⟨hz, g, 0, cap, rfl, (Array.getElem?_eq_some_iff.1 hg).1, fun i n hi => ?_⟩
      have hx : (ilV l)[i]? = some (.int .i64 n) := by unfold ilV; rw [List.getElem?_map, hi]; rfl
      have h1 := h.cells (g := g) rfl i _ hx
      have a1 : (⟨g, 0, none⟩ : Addr).add i = ⟨g, i, none⟩ := by unfold Addr.add; split <;> simp_all
      rw [a1] at h1
      rw [Nat.zero_add]
      exact h1
theorem ilV_step {rs : List Int} {k : Nat} (hk : rs.length = k) (n : Int) (j : Nat) (d : Value) : (if j = k then Value.int .i64 n else (ilV rs)[j]?.getD d) = (ilV (rs ++ [n]))[j]?.getD d := by
  have e : ilV (rs ++ [n]) = ilV rs ++ [.int .i64 n] := by unfold ilV; simp
  have hl := ilV_len rs
  rw [e, List.getElem?_append]
  by_cases h1 : j < (ilV rs).length
  · rw [if_pos h1, if_neg (by omega)]
  · rw [if_neg h1]
    by_cases h2 : j = k
    · rw [if_pos h2, show j - (ilV rs).length = 0 by omega]
      rfl
    · rw [if_neg h2, List.getElem?_eq_none (l := ilV rs) (by omega), List.getElem?_eq_none (by simp; omega)]
set_option maxHeartbeats 8000000 in
theorem toI_own (w : World) (v : Value) (l : List Int) (hV : IlAt w v l) (hl : l.length ≤ 1048576) :
    Calls Tryd.prog 19 #[v] w fun e w' => (e = .returned (.slice (some ⟨w.heap.size, 0, none⟩) l.length l.length) ∧ w'.ownsRow w.heap.size 3 1 (.slice (some ⟨w.heap.size, 0, none⟩) l.length l.length) l.length (ilV l)) ∧ Below w.heap.size w w' := by
  obtain ⟨a, c, rfl⟩ := hV.sl
  have HV : Hid (IlAt w (.slice a l.length c) l) := hV
  clear hV
  obtain ⟨ti, hti, hz0, hz1, hz2⟩ := info_parts infoIt
  have hmk : ∀ w : World, (Instr.makeSlice 23 (.int .i64 (l.length : Int)) (.int .i64 (l.length : Int))).run Tryd.prog w = .ok (.slice (some ⟨w.heap.size, 0, none⟩) l.length l.length) (w.alloc (.cells (madeCells #[.int .i64 0] l.length) 3)) := by
    intro w
    have := run_make (P := Tryd.prog) w 23 3 ti _ Tryd.underlying23 hti hz0 .i64 .i64 l.length l.length (by omega) (Int.le_refl _) (by rw [hz2]; omega) (by omega)
    rw [hz1, Nat.mul_one] at this
    simpa [Value.cells] using this
  clear hti hz0 hz1 hz2
  go_enter Tryd.func19, Tryd.ntmps19
  go_wp2_with fail
  go_loopw [4] (fun i wr => ∃ k : Nat, k ≤ l.length ∧ i = .int .i64 k ∧ Hid (wr.rowIs w.heap.size 3 l.length (fun j => (ilV (l.take k))[j]?.getD (.int .i64 0))) ∧ Below w.heap.size w wr) (fun i _ => l.length - (intOf i).toNat)
  case atStart =>
    refine ⟨0, Nat.zero_le _, rfl, ?_, (Below.refl _ _).alloc (Nat.le_refl _) _⟩
    have := World.rowIs_alloc w (madeCells #[.int .i64 0] l.length) 3 (fun _ => .int .i64 0) (fun i hi => by
      rw [size_madeCells] at hi
      unfold madeCells
      simp [hi, Nat.mod_one])
    rw [size_madeCells] at this
    exact this.congr (fun i _ => by simp [ilV])
  case round =>
    obtain ⟨k, hk, rfl, HC, hb⟩ := hrel
    by_cases hlt : k < l.length
    · obtain ⟨n, hx⟩ : ∃ h, l[k]? = some h := ⟨_, List.getElem?_eq_getElem hlt⟩
      obtain ⟨b, off, rfl, hbl, c0⟩ := HV.out.at hx
      rw [← hb.cell hbl] at c0
      have HX : Hid (l.take (k + 1) = l.take k ++ [n]) := by show l.take (k + 1) = _; rw [List.take_add_one, hx]; rfl
      have hlt' : (k : Int) < (l.length : Int) := by omega
      have HTL : Hid ((l.take k).length = k) := by show _ = _; rw [List.length_take]; omega
      have k0 : wr.cell? ⟨w.heap.size, k, none⟩ = some _ := HC.out.cell (by omega)
      have f0 := HC.out.frozen k
      have RA : Hid ((wr.setCell ⟨w.heap.size, k, none⟩ (.int .i64 n)).rowIs w.heap.size 3 l.length (fun j => (ilV (l.take (k + 1)))[j]?.getD (.int .i64 0))) := by
        show World.rowIs _ _ _ _ _
        rw [HX.out]
        exact (HC.out.set k _).congr (fun j _ => ilV_step HTL.out n j _)
      have RB : Hid (Below w.heap.size w (wr.setCell ⟨w.heap.size, k, none⟩ (.int .i64 n))) := hb.setCell (Nat.le_refl _) _
      clear hx hbl HC HX hb
      go_wp2_with fail
      go_roundw
      case rel => exact ⟨k + 1, hlt, by go_num, RA, RB.out⟩
      case measure => simp [intOf]; omega
    · have hge : ¬ (k : Int) < (l.length : Int) := by omega
      go_wp2_with fail
      go_ret
      have ek : k = l.length := by omega
      have hrow := HC.out
      rw [ek, List.take_length] at hrow
      refine ⟨⟨rfl, ?_⟩, hb⟩
      exact g_own_of_row (m := l.length) (size := 1) (by rw [Nat.mul_one]; exact hrow) rfl (by rw [ilV_len]; omega) (fun i hi => by
        have hl2 : i < (ilV l).length := by rw [ilV_len]; omega
        rw [List.getElem?_eq_getElem hl2]
        rfl) (by unfold maxLen; omega) (Nat.le_refl _)
section
variable {w : World} {b : Nat} {x0 x1 x2 x3 : Value} {t : TypeId}
theorem n4_0 (h : w.heap[b]? = some (.cells #[x0, x1, x2, x3] t (0, 0))) : w.cell? ⟨b, 0, none⟩ = some x0 := by simp [World.cell?, h]
theorem n4_1 (h : w.heap[b]? = some (.cells #[x0, x1, x2, x3] t (0, 0))) : w.cell? ⟨b, 1, none⟩ = some x1 := by simp [World.cell?, h]
theorem n4_2 (h : w.heap[b]? = some (.cells #[x0, x1, x2, x3] t (0, 0))) : w.cell? ⟨b, 2, none⟩ = some x2 := by simp [World.cell?, h]
theorem n4_3 (h : w.heap[b]? = some (.cells #[x0, x1, x2, x3] t (0, 0))) : w.cell? ⟨b, 3, none⟩ = some x3 := by simp [World.cell?, h]
theorem n4_f (h : w.heap[b]? = some (.cells #[x0, x1, x2, x3] t (0, 0))) (i : Nat) : w.frozen? ⟨b, i, none⟩ = false := by simp [World.frozen?, h]
theorem n4_set3 (h : w.heap[b]? = some (.cells #[x0, x1, x2, x3] t (0, 0))) (a3 : Value) : (w.setCell ⟨b, 3, none⟩ a3).heap[b]? = some (.cells #[x0, x1, x2, a3] t (0, 0)) := by
  simp [World.setCell, Array.getElem?_modify, h]
theorem n4_setAll (h : w.heap[b]? = some (.cells #[x0, x1, x2, x3] t (0, 0))) (a0 a1 a2 a3 : Value) :
    ((((w.setCell ⟨b, 0, none⟩ a0).setCell ⟨b, 1, none⟩ a1).setCell ⟨b, 2, none⟩ a2).setCell ⟨b, 3, none⟩ a3).heap[b]? = some (.cells #[a0, a1, a2, a3] t (0, 0)) := by
  simp [World.setCell, Array.getElem?_modify, h]
theorem n4_below {lo : Nat} {W : World} (hb : Below lo W w) (hlo : lo ≤ b) (a0 a1 a2 a3 : Value) : Below lo W ((((w.setCell ⟨b, 0, none⟩ a0).setCell ⟨b, 1, none⟩ a1).setCell ⟨b, 2, none⟩ a2).setCell ⟨b, 3, none⟩ a3) :=
  (((hb.setCell (p := ⟨b, 0, none⟩) hlo a0).setCell (p := ⟨b, 1, none⟩) hlo a1).setCell (p := ⟨b, 2, none⟩) hlo a2).setCell (p := ⟨b, 3, none⟩) hlo a3
theorem n4_other (a0 a1 a2 a3 : Value) {k : Nat} (hk : k ≠ b) : ((((w.setCell ⟨b, 0, none⟩ a0).setCell ⟨b, 1, none⟩ a1).setCell ⟨b, 2, none⟩ a2).setCell ⟨b, 3, none⟩ a3).heap[k]? = w.heap[k]? := by
  rw [heap_setCell_other _ _ _ _ hk, heap_setCell_other _ _ _ _ hk, heap_setCell_other _ _ _ _ hk, heap_setCell_other _ _ _ _ hk]
end
set_option maxHeartbeats 4000000 in
theorem toN_own (n : Nd) (kv : Value) (w : World) (hI : IlAt w kv n.kids) (hl : n.kids.length ≤ 1048576) :
    Calls Tryd.prog 34 #[.agg #[.int .i64 n.kind, .string n.tag, .string n.text, kv]] w fun e w' => (∃ kv', e = .returned (.agg #[.int .i64 n.kind, .string n.tag, .string n.text, kv']) ∧ isSlG kv' ∧ w'.ownsRow w.heap.size 3 1 kv' n.kids.length (ilV n.kids)) ∧ Below w.heap.size w w' := by
  obtain ⟨kind, tag, text, kids⟩ := n
  obtain ⟨a, c, rfl⟩ := hI.sl
  show Calls Tryd.prog 34 #[.agg #[.int .i64 kind, .string tag, .string text, .slice a kids.length c]] w fun e w' => (∃ kv', e = .returned (.agg #[.int .i64 kind, .string tag, .string text, kv']) ∧ isSlG kv' ∧ w'.ownsRow w.heap.size 3 1 kv' kids.length (ilV kids)) ∧ Below w.heap.size w w'
  obtain ⟨V, hV⟩ : ∃ V, ((w.alloc (.cells #[.int .i64 kind, .string tag, .string text, .slice a kids.length c] 66)).alloc (.cells #[.int .i64 0, .string ⟨#[]⟩, .string ⟨#[]⟩, .slice none 0 0] 67)).alloc (.cells #[.int .i64 kind, .string tag, .string text, .slice none 0 0] 67) = V := ⟨_, rfl⟩
  have HB0 : Hid (Below w.heap.size w V) := by show Below _ _ _; rw [← hV]; exact (((Below.refl _ w).alloc (Nat.le_refl _) _).alloc (by simp) _).alloc (by simp; omega) _
  have HS0 : Hid (V.heap.size = w.heap.size + 3) := by show _ = _; rw [← hV]; show (((w.heap.push _).push _).push _).size = _; simp
  have H1 : Hid (V.heap[w.heap.size + 1]? = some (.cells #[.int .i64 0, .string ⟨#[]⟩, .string ⟨#[]⟩, .slice none 0 0] 67 (0, 0))) := by
    show _ = _
    rw [← hV]
    show (((w.heap.push _).push _).push _)[w.heap.size + 1]? = _
    rw [Array.getElem?_push, if_neg (by simp), Array.getElem?_push, if_pos (by simp)]
  have H2 : Hid (V.heap[w.heap.size + 2]? = some (.cells #[.int .i64 kind, .string tag, .string text, .slice none 0 0] 67 (0, 0))) := by
    show _ = _
    rw [← hV]
    show (((w.heap.push _).push _).push _)[w.heap.size + 2]? = _
    rw [Array.getElem?_push, if_pos (by simp)]
  have HI : Hid (IlAt V (.slice a kids.length c) kids) := hI.later HB0.out
  have HL : Hid (kids.length ≤ 1048576) := hl
  have HV : Hid (((w.alloc (.cells #[.int .i64 kind, .string tag, .string text, .slice a kids.length c] 66)).alloc (.cells #[.int .i64 0, .string ⟨#[]⟩, .string ⟨#[]⟩, .slice none 0 0] 67)).alloc (.cells #[.int .i64 kind, .string tag, .string text, .slice none 0 0] 67) = V) := hV
  clear hV hI hl
  go_enter Tryd.func34, Tryd.ntmps34
  go_wp2_with fail
  rw [HV.out]
  refine (toI_own V _ kids HI.out HL.out).mono ?_
  rintro e w1 ⟨⟨rfl, ho⟩, hb1⟩
  have HB1 : Hid (Below w.heap.size w w1) := HB0.out.trans (hb1.mono HB0.out.size)
  have HO : Hid (w1.ownsRow V.heap.size 3 1 (.slice (some ⟨V.heap.size, 0, none⟩) kids.length kids.length) kids.length (ilV kids)) := ho
  have G1 := (hb1.block (w.heap.size + 1) (by rw [HS0.out]; omega)).trans H1.out
  have G2 := (hb1.block (w.heap.size + 2) (by rw [HS0.out]; omega)).trans H2.out
  have p0 := n4_0 G2
  have p1 := n4_1 G2
  have p2 := n4_2 G2
  have p3 := n4_3 G2
  have r0 := n4_f G2 0
  have r1 := n4_f G2 1
  have r2 := n4_f G2 2
  have r3 := n4_f G2 3
  have z0 := n4_0 G1
  have z1 := n4_1 G1
  have z2 := n4_2 G1
  have z3 := n4_3 G1
  have y0 := n4_f G1 0
  have y1 := n4_f G1 1
  have y2 := n4_f G1 2
  have y3 := n4_f G1 3
  have HG1 : Hid (w1.heap[w.heap.size + 1]? = some (.cells #[.int .i64 0, .string ⟨#[]⟩, .string ⟨#[]⟩, .slice none 0 0] 67 (0, 0))) := G1
  clear ho hb1 G1 G2 HV HI HL H1 H2
  go_wp2_with fail
  have hne : w.heap.size + 1 ≠ w.heap.size + 2 := by omega
  have hG1 : (w1.setCell ⟨w.heap.size + 2, 3, none⟩ (.slice (some ⟨V.heap.size, 0, none⟩) kids.length kids.length)).heap[w.heap.size + 1]? = some (.cells #[.int .i64 0, .string ⟨#[]⟩, .string ⟨#[]⟩, .slice none 0 0] 67 (0, 0)) := (heap_setCell_other _ _ _ _ hne).trans HG1.out
  have hF := n4_setAll hG1 (.int .i64 kind) (.string tag) (.string text) (.slice (some ⟨V.heap.size, 0, none⟩) kids.length kids.length)
  have hFb := n4_below (b := w.heap.size + 1) (HB1.out.setCell (p := ⟨w.heap.size + 2, 3, none⟩) (by show w.heap.size ≤ w.heap.size + 2; omega) (.slice (some ⟨V.heap.size, 0, none⟩) kids.length kids.length)) (by omega) (.int .i64 kind) (.string tag) (.string text) (.slice (some ⟨V.heap.size, 0, none⟩) kids.length kids.length)
  have hO2 := g_row_block HO.out (w' := ((((w1.setCell ⟨w.heap.size + 2, 3, none⟩ (.slice (some ⟨V.heap.size, 0, none⟩) kids.length kids.length)).setCell ⟨w.heap.size + 1, 0, none⟩ (.int .i64 kind)).setCell ⟨w.heap.size + 1, 1, none⟩ (.string tag)).setCell ⟨w.heap.size + 1, 2, none⟩ (.string text)).setCell ⟨w.heap.size + 1, 3, none⟩ (.slice (some ⟨V.heap.size, 0, none⟩) kids.length kids.length)) (fun g hg => by
    have hlt := (HO.out.lt g hg).1
    have hs := HS0.out
    rw [n4_other _ _ _ _ (by omega), heap_setCell_other _ _ _ _ (by show g ≠ w.heap.size + 2; omega)])
  try simp only [Exit.inBlock, Exit.then]
  refine bodyPost_ret (results_cell_row rfl _ _ (w.heap.size + 1) 67 _ (0, 0) _ rfl hF Tryd.underlying67 rfl (by kernel_rfl)) rfl ?_
  exact ⟨⟨_, rfl, ⟨_, _, _, rfl⟩, g_row_lower hO2 (by have := HS0.out; omega)⟩, hFb⟩
end Go.Proofs.YtgaibajkegfpoaaDoor
