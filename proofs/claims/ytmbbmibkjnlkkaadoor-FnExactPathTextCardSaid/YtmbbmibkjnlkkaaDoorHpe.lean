/- Seg that comes in as an argument, and lists of it, opened. -/
import Derived.Test.YtmbbmibkjnlkkaaDoorHpa
import Derived.Test.YtmbbmibkjnlkkaaDoorProg
import Derived.OpenShut
import Derived.ShutString
import Derived.Deep.SlicePairs
import Derived.Lib.SmallJoins
namespace Go.Proofs.YtmbbmibkjnlkkaaDoor
open Go.ChangeShapes Go.WideShapes Go.ChangeAt Go.RowKit Go.Deep Go.Maps
theorem cell_intP {H : Type} {enc : TypeId × Value → H} {W : World} {base : Nat} {sp : Nat → Bool} {hd : Bool} {n : Nat} {v : Value} {y : DataW H × List MemPlace} (h : DataW.trod enc Tryd.prog W base sp hd n 3 [v] = some y) : ∃ i, v = .int .i64 i ∧ (Lit.int .i64 i).wf = true := by
  obtain ⟨i, e, _, hw⟩ := DataW.trod_int Tryd.underlying3 h
  exact ⟨i, by simpa using e, hw⟩
theorem cell_strP {H : Type} {enc : TypeId × Value → H} {W : World} {base : Nat} {sp : Nat → Bool} {hd : Bool} {n : Nat} {v : Value} {y : DataW H × List MemPlace} (h : DataW.trod enc Tryd.prog W base sp hd n 9 [v] = some y) : ∃ i : ByteArray, v = .string i ∧ i.size ≤ 9223372036854775807 := by
  obtain ⟨i, e, _, hw⟩ := DataW.trod_string Tryd.underlying9 h
  unfold maxLen at hw
  exact ⟨i, by simpa using e, by omega⟩
set_option maxRecDepth 100000 in
theorem trod_seg {H : Type} {enc : TypeId × Value → H} {W : World} {base : Nat} {sp : Nat → Bool} {hd : Bool} {n : Nat} {cs : List Value} {x : DataW H × List MemPlace} (h : DataW.trod enc Tryd.prog W base sp hd n 33 cs = some x) :
    ∃ e : Sg, cs = e.row.toList ∧ wideP e ∧ wfP e := by
  obtain ⟨xs, m, _, _, hl, hxl, hf⟩ := DataW.trod_struct Tryd.underlying33 h
  have ce : Tryd.prog.cellsOf 33 = 3 := by kernel_rfl
  have c1 : Tryd.prog.cellsOf 3 = 1 := by kernel_rfl
  have c3 : Tryd.prog.cellsOf 9 = 1 := by kernel_rfl
  rw [ce] at hl
  match xs, hxl, cs, hl with
  | [y0, y1, y2], _, [v0, v1, v2], _ =>
    have g0 := hf 0 _ rfl
    have g1 := hf 1 _ rfl
    have g2 := hf 2 _ rfl
    simp [c1, c3] at g0 g1 g2
    obtain ⟨a0, rfl, w0⟩ := cell_intP g0
    obtain ⟨a1, rfl, w1⟩ := cell_intP g1
    obtain ⟨a2, rfl, w2⟩ := cell_strP g2
    exact ⟨⟨a0, a1, a2⟩, rfl, w2, ⟨w0, w1⟩⟩
set_option maxRecDepth 100000 in
theorem open_seg {H : Type} {enc : TypeId × Value → H} {W : World} {sp : Nat → Bool} {hd : Bool} {r : Reach} {b0 : Nat} {v : Value} {d : DataW H} {p : List MemPlace} (hv : Value.okWide Tryd.prog W r b0 33 v) (h : DataW.Trod enc Tryd.prog W 0 sp hd 33 v d p) :
    ∃ e : Sg, v = .agg e.row ∧ wideP e ∧ wfP e := by
  obtain ⟨cs, rfl, hsz⟩ := okWide_struct Tryd.underlying33 hv
  obtain ⟨fuel, hf⟩ := h
  obtain ⟨e, he, h1, h2⟩ := trod_seg hf
  refine ⟨e, ?_, h1, h2⟩
  have : cs = e.row := by
    apply Array.ext'
    simpa [Value.cells] using he
  rw [this]
set_option maxRecDepth 100000 in
theorem open_segs {H : Type} {enc : TypeId × Value → H} {W : World} {sp : Nat → Bool} {hd : Bool} {n : Nat} {V : Value} {y : DataW H × List MemPlace} (h : DataW.trod enc Tryd.prog W 0 sp hd n 37 [V] = some y) :
    ∃ es, SgL W V es ∧ (∀ e ∈ es, wideP e) ∧ (∀ e ∈ es, wfP e) ∧ es.length ≤ 9223372036854775807 := by
  have ce : Tryd.prog.cellsOf 33 = 3 := by kernel_rfl
  rcases open_slice Tryd.underlying37 h with ⟨hcs, _⟩ | ⟨a, len, cap, m, n', D, Pl, hcs, _, hl, hm, hmm, _, hx⟩
  · obtain rfl : V = .slice none 0 0 := by simpa using hcs
    exact ⟨[], .inl ⟨rfl, _, _, rfl⟩, fun q hq => (by cases hq), fun q hq => (by cases hq), by simp⟩
  · obtain rfl : V = .slice (some a) len cap := by simpa using hcs
    have hlm : len ≤ m := by rw [hmm]; split <;> omega
    have one : ∀ i, i < len → ∃ e : Sg, wideP e ∧ wfP e ∧ ∀ j u, e.row[j]? = some u → W.cell? (a.add (i * 3 + j)) = some u := by
      intro i hi
      obtain ⟨cs', h1, h2⟩ := hx i (by omega)
      rw [ce] at h1
      obtain ⟨e, rfl, hw, hf⟩ := trod_seg h2
      obtain ⟨_, _, hcell⟩ := World.cells?_some h1
      refine ⟨e, hw, hf, fun j u hu => ?_⟩
      have hj : j < 3 := (Array.getElem?_eq_some_iff.1 hu).1
      have := hcell j hj
      rw [add_add] at this
      rw [this, ← hu]
      simp
    have each : ∀ k, k ≤ len → ∃ es : List Sg, es.length = k ∧ (∀ e ∈ es, wideP e) ∧ (∀ e ∈ es, wfP e) ∧ ∀ i e, es[i]? = some e → ∀ j u, e.row[j]? = some u → W.cell? (a.add (i * 3 + j)) = some u := by
      intro k
      induction k with
      | zero => exact fun _ => ⟨[], rfl, fun q hq => (by cases hq), fun q hq => (by cases hq), fun i p hp => (by simp at hp)⟩
      | succ k ih =>
        intro hk
        obtain ⟨es, hpl, hwd, hwf, hv⟩ := ih (by omega)
        obtain ⟨e, h1, h2, h3⟩ := one k (by omega)
        refine ⟨es ++ [e], by simp [hpl], ?_, ?_, ?_⟩
        · intro q hq
          rcases List.mem_append.1 hq with hq | hq
          · exact hwd q hq
          · obtain rfl : q = e := by simpa using hq
            exact h1
        · intro q hq
          rcases List.mem_append.1 hq with hq | hq
          · exact hwf q hq
          · obtain rfl : q = e := by simpa using hq
            exact h2
        · intro i p hp
          by_cases hi : i < k
          · rw [List.getElem?_append_left (by omega)] at hp
            exact hv i p hp
          · have hik : i = k := by
              have : i < (es ++ [e]).length := by
                rcases Nat.lt_or_ge i (es ++ [e]).length with h' | h'
                · exact h'
                · rw [List.getElem?_eq_none h'] at hp; cases hp
              simp at this; omega
            subst hik
            rw [List.getElem?_append_right (by omega), hpl] at hp
            obtain rfl : e = p := by simpa using hp
            exact h3
    obtain ⟨es, hpl, hwd, hwf, hv⟩ := each len (Nat.le_refl _)
    unfold maxLen at hm
    refine ⟨es, ?_, hwd, hwf, by omega⟩
    by_cases h0 : es = []
    · left
      subst h0
      simp at hpl
      subst hpl
      exact ⟨rfl, _, _, rfl⟩
    · right
      have hpos : 0 < es.length := List.length_pos_iff.2 h0
      obtain ⟨b, off, spot⟩ := a
      obtain ⟨e, he⟩ : ∃ e, es[0]? = some e := ⟨_, List.getElem?_eq_getElem hpos⟩
      have hc0 := hv 0 e he 0 _ rfl
      have hspot : spot = none := by simpa [Addr.add] using World.cell?_spot hc0
      subst hspot
      have hlt := World.block_lt_of_cell? W _ hc0
      refine ⟨h0, b, off, cap, by rw [hpl], by simpa [Addr.add] using hlt, by omega, fun i p hp j u hu => ?_⟩
      have := hv i p hp j u hu
      rw [add_plain] at this
      rw [← this]
      congr 2
      omega
end Go.Proofs.YtmbbmibkjnlkkaaDoor
