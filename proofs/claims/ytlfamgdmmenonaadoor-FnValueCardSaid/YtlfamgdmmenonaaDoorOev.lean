/- Events that come in as arguments, opened. -/
import Derived.Test.YtlfamgdmmenonaaDoorEvl
import Derived.Test.YtlfamgdmmenonaaDoorProg
import Derived.OpenShut
import Derived.ShutString
import Derived.Deep.SlicePairs
import Derived.Lib.SmallJoins
namespace Go.Proofs.YtlfamgdmmenonaaDoor
open Go.ChangeShapes Go.WideShapes Go.ChangeAt Go.RowKit Go.Deep Go.Maps
def wfE (e : Ev) : Prop := (Lit.int .i64 e.kind).wf = true ∧ (Lit.int .i64 e.style).wf = true ∧ (Lit.int .i64 e.at_).wf = true ∧ (Lit.int .i64 e.code).wf = true
theorem cell_int {H : Type} {enc : TypeId × Value → H} {W : World} {base : Nat} {sp : Nat → Bool} {hd : Bool} {n : Nat} {v : Value} {y : DataW H × List MemPlace} (h : DataW.trod enc Tryd.prog W base sp hd n 3 [v] = some y) : ∃ i, v = .int .i64 i ∧ (Lit.int .i64 i).wf = true := by
  obtain ⟨i, e, _, hw⟩ := DataW.trod_int Tryd.underlying3 h
  exact ⟨i, by simpa using e, hw⟩
theorem cell_bool {H : Type} {enc : TypeId × Value → H} {W : World} {base : Nat} {sp : Nat → Bool} {hd : Bool} {n : Nat} {v : Value} {y : DataW H × List MemPlace} (h : DataW.trod enc Tryd.prog W base sp hd n 4 [v] = some y) : ∃ i, v = .bool i := by
  obtain ⟨i, e, _⟩ := DataW.trod_bool Tryd.underlying4 h
  exact ⟨i, by simpa using e⟩
theorem cell_str {H : Type} {enc : TypeId × Value → H} {W : World} {base : Nat} {sp : Nat → Bool} {hd : Bool} {n : Nat} {v : Value} {y : DataW H × List MemPlace} (h : DataW.trod enc Tryd.prog W base sp hd n 9 [v] = some y) : ∃ i : ByteArray, v = .string i ∧ i.size ≤ 9223372036854775807 := by
  obtain ⟨i, e, _, hw⟩ := DataW.trod_string Tryd.underlying9 h
  unfold maxLen at hw
  exact ⟨i, by simpa using e, by omega⟩
set_option maxRecDepth 100000 in
theorem trod_event {H : Type} {enc : TypeId × Value → H} {W : World} {base : Nat} {sp : Nat → Bool} {hd : Bool} {n : Nat} {cs : List Value} {x : DataW H × List MemPlace} (h : DataW.trod enc Tryd.prog W base sp hd n 35 cs = some x) :
    ∃ e : Ev, cs = e.row.toList ∧ wideE e ∧ wfE e := by
  obtain ⟨xs, m, _, _, hl, hxl, hf⟩ := DataW.trod_struct Tryd.underlying35 h
  have ce : Tryd.prog.cellsOf 35 = 8 := by kernel_rfl
  have c1 : Tryd.prog.cellsOf 3 = 1 := by kernel_rfl
  have c2 : Tryd.prog.cellsOf 4 = 1 := by kernel_rfl
  have c3 : Tryd.prog.cellsOf 9 = 1 := by kernel_rfl
  rw [ce] at hl
  match xs, hxl, cs, hl with
  | [y0, y1, y2, y3, y4, y5, y6, y7], _, [v0, v1, v2, v3, v4, v5, v6, v7], _ =>
    have g0 := hf 0 _ rfl
    have g1 := hf 1 _ rfl
    have g2 := hf 2 _ rfl
    have g3 := hf 3 _ rfl
    have g4 := hf 4 _ rfl
    have g5 := hf 5 _ rfl
    have g6 := hf 6 _ rfl
    have g7 := hf 7 _ rfl
    simp [c1, c2, c3] at g0 g1 g2 g3 g4 g5 g6 g7
    obtain ⟨a0, rfl, w0⟩ := cell_int g0
    obtain ⟨a1, rfl, w1⟩ := cell_int g1
    obtain ⟨a2, rfl⟩ := cell_bool g2
    obtain ⟨a3, rfl, w3⟩ := cell_str g3
    obtain ⟨a4, rfl, w4⟩ := cell_str g4
    obtain ⟨a5, rfl, w5⟩ := cell_str g5
    obtain ⟨a6, rfl, w6⟩ := cell_int g6
    obtain ⟨a7, rfl, w7⟩ := cell_int g7
    exact ⟨⟨a0, a1, a2, a3, a4, a5, a6, a7⟩, rfl, ⟨w3, w4, w5⟩, ⟨w0, w1, w6, w7⟩⟩
set_option maxRecDepth 100000 in
theorem open_event {H : Type} {enc : TypeId × Value → H} {W : World} {sp : Nat → Bool} {hd : Bool} {r : Reach} {b0 : Nat} {v : Value} {d : DataW H} {p : List MemPlace} (hv : Value.okWide Tryd.prog W r b0 35 v) (h : DataW.Trod enc Tryd.prog W 0 sp hd 35 v d p) :
    ∃ e : Ev, v = .agg e.row ∧ wideE e ∧ wfE e := by
  obtain ⟨cs, rfl, hsz⟩ := okWide_struct Tryd.underlying35 hv
  obtain ⟨fuel, hf⟩ := h
  obtain ⟨e, he, h1, h2⟩ := trod_event hf
  refine ⟨e, ?_, h1, h2⟩
  have : cs = e.row := by
    apply Array.ext'
    simpa [Value.cells] using he
  rw [this]
end Go.Proofs.YtlfamgdmmenonaaDoor
