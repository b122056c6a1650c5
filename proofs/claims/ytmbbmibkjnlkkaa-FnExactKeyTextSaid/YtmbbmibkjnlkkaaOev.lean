/- Events that come in as arguments, opened. -/
import Derived.Test.YtmbbmibkjnlkkaaEvl
import Derived.Test.YtmbbmibkjnlkkaaProg
import Derived.OpenShut
import Derived.ShutString
import Derived.Deep.SlicePairs
import Derived.Lib.SmallJoins
namespace Go.Proofs.Ytmbbmibkjnlkkaa
open Go.ChangeShapes Go.WideShapes Go.ChangeAt Go.RowKit Go.Deep Go.Maps
def wfE (e : Ev) : Prop := (Lit.int .i64 e.kind).wf = true ∧ (Lit.int .i64 e.style).wf = true ∧ (Lit.int .i64 e.at_).wf = true ∧ (Lit.int .i64 e.code).wf = true
theorem cell_int {H : Type} {enc : TypeId × Value → H} {W : World} {base : Nat} {sp : Nat → Bool} {hd : Bool} {n : Nat} {v : Value} {y : DataW H × List MemPlace} (h : DataW.trod enc Try.prog W base sp hd n 3 [v] = some y) : ∃ i, v = .int .i64 i ∧ (Lit.int .i64 i).wf = true := by
  obtain ⟨i, e, _, hw⟩ := DataW.trod_int Try.underlying3 h
  exact ⟨i, by simpa using e, hw⟩
theorem cell_bool {H : Type} {enc : TypeId × Value → H} {W : World} {base : Nat} {sp : Nat → Bool} {hd : Bool} {n : Nat} {v : Value} {y : DataW H × List MemPlace} (h : DataW.trod enc Try.prog W base sp hd n 4 [v] = some y) : ∃ i, v = .bool i := by
  obtain ⟨i, e, _⟩ := DataW.trod_bool Try.underlying4 h
  exact ⟨i, by simpa using e⟩
theorem cell_str {H : Type} {enc : TypeId × Value → H} {W : World} {base : Nat} {sp : Nat → Bool} {hd : Bool} {n : Nat} {v : Value} {y : DataW H × List MemPlace} (h : DataW.trod enc Try.prog W base sp hd n 9 [v] = some y) : ∃ i : ByteArray, v = .string i ∧ i.size ≤ 9223372036854775807 := by
  obtain ⟨i, e, _, hw⟩ := DataW.trod_string Try.underlying9 h
  unfold maxLen at hw
  exact ⟨i, by simpa using e, by omega⟩
set_option maxRecDepth 100000 in
theorem trod_event {H : Type} {enc : TypeId × Value → H} {W : World} {base : Nat} {sp : Nat → Bool} {hd : Bool} {n : Nat} {cs : List Value} {x : DataW H × List MemPlace} (h : DataW.trod enc Try.prog W base sp hd n 36 cs = some x) :
    ∃ e : Ev, cs = e.row.toList ∧ wideE e ∧ wfE e := by
  obtain ⟨xs, m, _, _, hl, hxl, hf⟩ := DataW.trod_struct Try.underlying36 h
  have ce : Try.prog.cellsOf 36 = 8 := by kernel_rfl
  have c1 : Try.prog.cellsOf 3 = 1 := by kernel_rfl
  have c2 : Try.prog.cellsOf 4 = 1 := by kernel_rfl
  have c3 : Try.prog.cellsOf 9 = 1 := by kernel_rfl
  rw [ce] at hl
  match xs, hxl, cs, hl with
  | [y0, y1, y2, y3, y4, y5, y6, y7], _, [v0, v1, v2, v3, v4, v5, v6, v7], _ =>
    have g0 := hf 0 _ rfl
    have g1 := hf 1 _ rfl
    have g2 := hf 2 _ rfl
    have g3 := hf 3 _ rfl
    have g4 := hf 4 _ rfl
    have g5 := hf 5 _ rfl
    have g6 := hf 6 _ rfl
    have g7 := hf 7 _ rfl
    simp [c1, c2, c3] at g0 g1 g2 g3 g4 g5 g6 g7
    obtain ⟨a0, rfl, w0⟩ := cell_int g0
    obtain ⟨a1, rfl, w1⟩ := cell_int g1
    obtain ⟨a2, rfl⟩ := cell_bool g2
    obtain ⟨a3, rfl, w3⟩ := cell_str g3
    obtain ⟨a4, rfl, w4⟩ := cell_str g4
    obtain ⟨a5, rfl, w5⟩ := cell_str g5
    obtain ⟨a6, rfl, w6⟩ := cell_int g6
    obtain ⟨a7, rfl, w7⟩ := cell_int g7
    exact ⟨⟨a0, a1, a2, a3, a4, a5, a6, a7⟩, rfl, ⟨w3, w4, w5⟩, ⟨w0, w1, w6, w7⟩⟩
set_option maxRecDepth 100000 in
theorem open_event {H : Type} {enc : TypeId × Value → H} {W : World} {sp : Nat → Bool} {hd : Bool} {r : Reach} {b0 : Nat} {v : Value} {d : DataW H} {p : List MemPlace} (hv : Value.okWide Try.prog W r b0 36 v) (h : DataW.Trod enc Try.prog W 0 sp hd 36 v d p) :
    ∃ e : Ev, v = .agg e.row ∧ wideE e ∧ wfE e := by
  obtain ⟨cs, rfl, hsz⟩ := okWide_struct Try.underlying36 hv
  obtain ⟨fuel, hf⟩ := h
  obtain ⟨e, he, h1, h2⟩ := trod_event hf
  refine ⟨e, ?_, h1, h2⟩
  have : cs = e.row := by
    apply Array.ext'
    simpa [Value.cells] using he
  rw [this]
set_option maxRecDepth 100000 in
theorem open_events {H : Type} {enc : TypeId × Value → H} {W : World} {sp : Nat → Bool} {hd : Bool} {n : Nat} {V : Value} {y : DataW H × List MemPlace} (h : DataW.trod enc Try.prog W 0 sp hd n 22 [V] = some y) :
    ∃ es, SlE W V es ∧ wideEs es ∧ (∀ e ∈ es, wfE e) ∧ es.length ≤ 9223372036854775807 := by
  have ce : Try.prog.cellsOf 36 = 8 := by kernel_rfl
  rcases open_slice Try.underlying22 h with ⟨hcs, _⟩ | ⟨a, len, cap, m, n', D, Pl, hcs, _, hl, hm, hmm, _, hx⟩
  · obtain rfl : V = .slice none 0 0 := by simpa using hcs
    exact ⟨[], .inl ⟨rfl, _, _, rfl⟩, fun q hq => (by cases hq), fun q hq => (by cases hq), by simp⟩
  · obtain rfl : V = .slice (some a) len cap := by simpa using hcs
    have hlm : len ≤ m := by rw [hmm]; split <;> omega
    have one : ∀ i, i < len → ∃ e : Ev, wideE e ∧ wfE e ∧ ∀ j u, e.row[j]? = some u → W.cell? (a.add (i * 8 + j)) = some u := by
      intro i hi
      obtain ⟨cs', h1, h2⟩ := hx i (by omega)
      rw [ce] at h1
      obtain ⟨e, rfl, hw, hf⟩ := trod_event h2
      obtain ⟨_, _, hcell⟩ := World.cells?_some h1
      refine ⟨e, hw, hf, fun j u hu => ?_⟩
      have hj : j < 8 := (Array.getElem?_eq_some_iff.1 hu).1
      have := hcell j hj
      rw [add_add] at this
      rw [this, ← hu]
      simp
    have each : ∀ k, k ≤ len → ∃ es : List Ev, es.length = k ∧ wideEs es ∧ (∀ e ∈ es, wfE e) ∧ ∀ i e, es[i]? = some e → ∀ j u, e.row[j]? = some u → W.cell? (a.add (i * 8 + j)) = some u := by
      intro k
      induction k with
      | zero => exact fun _ => ⟨[], rfl, fun q hq => (by cases hq), fun q hq => (by cases hq), fun i p hp => (by simp at hp)⟩
      | succ k ih =>
        intro hk
        obtain ⟨es, hpl, hwd, hwf, hv⟩ := ih (by omega)
        obtain ⟨e, h1, h2, h3⟩ := one k (by omega)
        refine ⟨es ++ [e], by simp [hpl], ?_, ?_, ?_⟩
        · intro q hq
          rcases List.mem_append.1 hq with hq | hq
          · exact hwd q hq
          · obtain rfl : q = e := by simpa using hq
            exact h1
        · intro q hq
          rcases List.mem_append.1 hq with hq | hq
          · exact hwf q hq
          · obtain rfl : q = e := by simpa using hq
            exact h2
        · intro i p hp
          by_cases hi : i < k
          · rw [List.getElem?_append_left (by omega)] at hp
            exact hv i p hp
          · have hik : i = k := by
              have : i < (es ++ [e]).length := by
                rcases Nat.lt_or_ge i (es ++ [e]).length with h' | h'
                · exact h'
                · rw [List.getElem?_eq_none h'] at hp; cases hp
              simp at this; omega
            subst hik
            rw [List.getElem?_append_right (by omega), hpl] at hp
            obtain rfl : e = p := by simpa using hp
            exact h3
    obtain ⟨es, hpl, hwd, hwf, hv⟩ := each len (Nat.le_refl _)
    unfold maxLen at hm
    refine ⟨es, ?_, hwd, hwf, by omega⟩
    by_cases h0 : es = []
    · left
      subst h0
      simp at hpl
      subst hpl
      exact ⟨rfl, _, _, rfl⟩
    · right
      have hpos : 0 < es.length := List.length_pos_iff.2 h0
      obtain ⟨b, off, spot⟩ := a
      obtain ⟨e, he⟩ : ∃ e, es[0]? = some e := ⟨_, List.getElem?_eq_getElem hpos⟩
      have hc0 := hv 0 e he 0 _ rfl
      have hspot : spot = none := by simpa [Addr.add] using World.cell?_spot hc0
      subst hspot
      have hlt := World.block_lt_of_cell? W _ hc0
      refine ⟨h0, b, off, cap, by rw [hpl], by simpa [Addr.add] using hlt, by omega, fun i p hp j u hu => ?_⟩
      have := hv i p hp j u hu
      rw [add_plain] at this
      rw [← this]
      congr 2
      omega
end Go.Proofs.Ytmbbmibkjnlkkaa
