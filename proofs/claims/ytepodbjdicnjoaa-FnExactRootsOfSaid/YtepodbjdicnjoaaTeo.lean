/- A copy of a list of events, which is the call's own. -/
import Derived.Test.YtepodbjdicnjoaaTes
import Derived.Test.YtepodbjdicnjoaaRwe
namespace Go.Proofs.Ytepodbjdicnjoaa
open Go.ChangeShapes Go.WideShapes Go.ChangeAt Go.RowKit Go.Deep
theorem own_of_rowE {w : World} {g t n : Nat} {f : Nat → Value} {size m : Nat} {xs : List Value} (h : w.rowIs g t (m * size) f) (hn : n = m) (hx : xs.length = m * size) (hf : ∀ i, i < m * size → xs[i]? = some (f i)) (hm : m ≤ maxLen) {lo : Nat} (hlo : lo ≤ g) :
    w.ownsRow lo t size (.slice (some ⟨g, 0, none⟩) n n) m xs := by
  subst hn
  obtain ⟨c, hb, hs, hc⟩ := h
  refine ⟨hx, .inr ⟨g, n, c, rfl, hlo, hb, Nat.le_refl _, hm, hs, ?_⟩⟩
  apply List.ext_getElem?
  intro i
  rw [List.getElem?_take]
  by_cases hi : i < n * size
  · rw [if_pos hi, Array.getElem?_toList, hc i hi, hf i hi]
  · rw [if_neg hi, List.getElem?_eq_none (by omega)]
set_option maxHeartbeats 8000000 in
theorem toEs_own (w : World) (v : Value) (es : List Ev) (hV : SlE w v es) (hl : es.length ≤ 1048576) :
    Calls Try.prog 12 #[v] w fun e w' => (e = .returned (.slice (some ⟨w.heap.size, 0, none⟩) es.length es.length) ∧ w'.ownsRow w.heap.size 39 8 (.slice (some ⟨w.heap.size, 0, none⟩) es.length es.length) es.length (rowsE es)) ∧ Below w.heap.size w w' := by
  obtain ⟨a, c, rfl⟩ := hV.sl
  have HV : Hid (SlE w (.slice a es.length c) es) := hV
  clear hV
  obtain ⟨ti, hti, hz0, hz1, hz2⟩ := infoE_parts
  have hmk : ∀ w : World, (Instr.makeSlice 25 (.int .i64 (es.length : Int)) (.int .i64 (es.length : Int))).run Try.prog w = .ok (.slice (some ⟨w.heap.size, 0, none⟩) es.length es.length) (w.alloc (.cells (madeCells zrow (es.length * 8)) 39)) := by
    intro w
    have := run_make (P := Try.prog) w 25 39 ti _ Try.underlying25 hti hz0 .i64 .i64 es.length es.length (by omega) (Int.le_refl _) (by rw [hz2]; omega) (by omega)
    rw [hz1] at this
    simpa [Value.cells] using this
  clear hti hz0 hz1 hz2
  go_enter Try.func12, Try.ntmps12
  go_wp2_with fail
  go_loopw [4] (fun i wr => ∃ k : Nat, k ≤ es.length ∧ i = .int .i64 k ∧ Hid (wr.rowIs w.heap.size 39 (es.length * 8) (fun j => (cellsE (es.take k))[j]?.getD (zE j))) ∧ Below w.heap.size w wr) (fun i _ => es.length - (intOf i).toNat)
  case atStart =>
    refine ⟨0, Nat.zero_le _, rfl, ?_, (Below.refl _ _).alloc (Nat.le_refl _) _⟩
    have := World.rowIs_alloc w (madeCells zrow (es.length * 8)) 39 zE (fun i hi => by
      rw [size_madeCells] at hi
      unfold madeCells zE
      have h8 : zrow.size = 8 := rfl
      simp [hi, h8])
    rw [size_madeCells] at this
    exact this.congr (fun i hi => by simp [cellsE])
  case round =>
    obtain ⟨k, hk, rfl, HC, hb⟩ := hrel
    by_cases hlt : k < es.length
    · obtain ⟨e, hx⟩ : ∃ h, es[k]? = some h := ⟨_, List.getElem?_eq_getElem hlt⟩
      obtain ⟨b, off, rfl, _, ⟨c0, c1, c2, c3, c4, c5, c6, c7⟩⟩ := HV.out.at hb hx
      have HX : Hid (es.take (k + 1) = es.take k ++ [e]) := by show es.take (k + 1) = _; rw [List.take_add_one, hx]; rfl
      have hlt' : (k : Int) < (es.length : Int) := by omega
      have hszH := HC.out.lt
      have htl : (es.take k).length = k := by rw [List.length_take]; omega
      have HTL : Hid ((es.take k).length = k) := htl
      have hE := toE_any e wr
      clear hx htl
      obtain ⟨kind, style, flag, text, anchor, tag, at_, code⟩ := e
      unfold Ev.row at hE
      go_wp2_with fail
      refine hE.mono ?_
      rintro e w1 ⟨rfl, hb1⟩
      clear hE c0 c1 c2 c3 c4 c5 c6 c7
      have hrow := HC.out.of_block (hb1.block _ hszH)
      have k0 : w1.cell? ⟨w.heap.size, k * 8, none⟩ = some _ := hrow.cell (by omega)
      have k1 : w1.cell? ⟨w.heap.size, k * 8 + 1, none⟩ = some _ := hrow.cell (by omega)
      have k2 : w1.cell? ⟨w.heap.size, k * 8 + 2, none⟩ = some _ := hrow.cell (by omega)
      have k3 : w1.cell? ⟨w.heap.size, k * 8 + 3, none⟩ = some _ := hrow.cell (by omega)
      have k4 : w1.cell? ⟨w.heap.size, k * 8 + 4, none⟩ = some _ := hrow.cell (by omega)
      have k5 : w1.cell? ⟨w.heap.size, k * 8 + 5, none⟩ = some _ := hrow.cell (by omega)
      have k6 : w1.cell? ⟨w.heap.size, k * 8 + 6, none⟩ = some _ := hrow.cell (by omega)
      have k7 : w1.cell? ⟨w.heap.size, k * 8 + 7, none⟩ = some _ := hrow.cell (by omega)
      have f0 := hrow.frozen (k * 8)
      have f1 := hrow.frozen (k * 8 + 1)
      have f2 := hrow.frozen (k * 8 + 2)
      have f3 := hrow.frozen (k * 8 + 3)
      have f4 := hrow.frozen (k * 8 + 4)
      have f5 := hrow.frozen (k * 8 + 5)
      have f6 := hrow.frozen (k * 8 + 6)
      have f7 := hrow.frozen (k * 8 + 7)
      have hB1 : Below w.heap.size w w1 := hb.trans (hb1.mono hb.size)
      have RA : Hid (((((((((w1.setCell ⟨w.heap.size, k * 8, none⟩ (.int .i64 kind)).setCell ⟨w.heap.size, k * 8 + 1, none⟩ (.int .i64 style)).setCell ⟨w.heap.size, k * 8 + 2, none⟩ (.bool flag)).setCell ⟨w.heap.size, k * 8 + 3, none⟩ (.string text)).setCell ⟨w.heap.size, k * 8 + 4, none⟩ (.string anchor)).setCell ⟨w.heap.size, k * 8 + 5, none⟩ (.string tag)).setCell ⟨w.heap.size, k * 8 + 6, none⟩ (.int .i64 at_)).setCell ⟨w.heap.size, k * 8 + 7, none⟩ (.int .i64 code)).rowIs w.heap.size 39 (es.length * 8) (fun j => (cellsE (es.take (k + 1)))[j]?.getD (zE j))) := by
        show World.rowIs _ _ _ _ _
        rw [HX.out]
        exact ((((((((hrow.set (k * 8) _).set (k * 8 + 1) _).set (k * 8 + 2) _).set (k * 8 + 3) _).set (k * 8 + 4) _).set (k * 8 + 5) _).set (k * 8 + 6) _).set (k * 8 + 7) _).congr (fun j _ => cellsE_step HTL.out ⟨kind, style, flag, text, anchor, tag, at_, code⟩ j)
      have RB : Hid (Below w.heap.size w ((((((((w1.setCell ⟨w.heap.size, k * 8, none⟩ (.int .i64 kind)).setCell ⟨w.heap.size, k * 8 + 1, none⟩ (.int .i64 style)).setCell ⟨w.heap.size, k * 8 + 2, none⟩ (.bool flag)).setCell ⟨w.heap.size, k * 8 + 3, none⟩ (.string text)).setCell ⟨w.heap.size, k * 8 + 4, none⟩ (.string anchor)).setCell ⟨w.heap.size, k * 8 + 5, none⟩ (.string tag)).setCell ⟨w.heap.size, k * 8 + 6, none⟩ (.int .i64 at_)).setCell ⟨w.heap.size, k * 8 + 7, none⟩ (.int .i64 code))) :=
        (((((((hB1.setCell (Nat.le_refl _) _).setCell (Nat.le_refl _) _).setCell (Nat.le_refl _) _).setCell (Nat.le_refl _) _).setCell (Nat.le_refl _) _).setCell (Nat.le_refl _) _).setCell (Nat.le_refl _) _).setCell (Nat.le_refl _) _
      clear hb1 hrow HC hB1
      go_wp2_with fail
      go_roundw
      case rel => exact ⟨k + 1, hlt, by go_num, RA, RB.out⟩
      case measure => simp [intOf]; omega
    · go_wp2_with fail
      go_ret
      have ek : k = es.length := by omega
      have hrow := HC.out
      rw [ek, List.take_length] at hrow
      refine ⟨⟨rfl, ?_⟩, hb⟩
      exact own_of_rowE (m := es.length) hrow rfl (cellsE_len es) (fun i hi => by
        have hl : i < (rowsE es).length := by show i < (cellsE es).length; rw [cellsE_len]; exact hi
        have h1 : (rowsE es)[i]? = some ((rowsE es)[i]'hl) := List.getElem?_eq_getElem hl
        have h2 : (cellsE es)[i]? = some ((rowsE es)[i]'hl) := h1
        show (rowsE es)[i]? = some ((cellsE es)[i]?.getD (zE i))
        rw [h2, h1]
        rfl) (by unfold maxLen; omega) (Nat.le_refl _)
end Go.Proofs.Ytepodbjdicnjoaa
