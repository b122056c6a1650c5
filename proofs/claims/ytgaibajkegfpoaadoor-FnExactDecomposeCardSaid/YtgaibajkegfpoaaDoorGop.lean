/- Graphs that come in as arguments, opened. -/
import Derived.Test.YtgaibajkegfpoaaDoorGpl
import Derived.Test.YtgaibajkegfpoaaDoorProg
import Derived.OpenShut
import Derived.ShutString
import Derived.Deep.SlicePairs
import Derived.Lib.SmallJoins
namespace Go.Proofs.YtgaibajkegfpoaaDoor
open Go.ChangeShapes Go.WideShapes Go.ChangeAt Go.RowKit Go.Deep Go.Maps
theorem add_none (b off i : Nat) : (⟨b, off, none⟩ : Addr).add i = ⟨b, off + i, none⟩ := by unfold Addr.add; split <;> simp_all
theorem gcell_int {H : Type} {enc : TypeId × Value → H} {W : World} {base : Nat} {sp : Nat → Bool} {hd : Bool} {n : Nat} {v : Value} {y : DataW H × List MemPlace} (h : DataW.trod enc Tryd.prog W base sp hd n 3 [v] = some y) : ∃ i, v = .int .i64 i ∧ (Lit.int .i64 i).wf = true := by
  obtain ⟨i, e, _, hw⟩ := DataW.trod_int Tryd.underlying3 h
  exact ⟨i, by simpa using e, hw⟩
theorem gcell_str {H : Type} {enc : TypeId × Value → H} {W : World} {base : Nat} {sp : Nat → Bool} {hd : Bool} {n : Nat} {v : Value} {y : DataW H × List MemPlace} (h : DataW.trod enc Tryd.prog W base sp hd n 9 [v] = some y) : ∃ i : ByteArray, v = .string i ∧ i.size ≤ 9223372036854775807 := by
  obtain ⟨i, e, _, hw⟩ := DataW.trod_string Tryd.underlying9 h
  unfold maxLen at hw
  exact ⟨i, by simpa using e, by omega⟩
theorem open_il {H : Type} {enc : TypeId × Value → H} {W : World} {sp : Nat → Bool} {hd : Bool} {n : Nat} {V : Value} {y : DataW H × List MemPlace} (h : DataW.trod enc Tryd.prog W 0 sp hd n 23 [V] = some y) : ∃ zs, IlAt W V zs ∧ (∀ z ∈ zs, (Lit.int .i64 z).wf = true) ∧ zs.length ≤ 9223372036854775807 := by
  rcases open_ints Tryd.underlying23 Tryd.underlying3 (by kernel_rfl) h with ⟨hcs, _⟩ | ⟨x, l, c, zs, hcs, _, hl, hm, hz, _, hcell, hwz⟩
  · obtain rfl : V = .slice none 0 0 := by simpa using hcs
    exact ⟨[], .inl ⟨rfl, _, _, rfl⟩, fun z hz => (by cases hz), by simp⟩
  · obtain rfl : V = .slice (some x) l c := by simpa using hcs
    have hlz : l ≤ zs.length := by rw [hz]; split <;> omega
    have hzl : (zs.take l).length = l := by rw [List.length_take]; omega
    refine ⟨zs.take l, ?_, fun z hz => hwz z (List.mem_of_mem_take hz), by rw [hzl]; unfold maxLen at hm; omega⟩
    by_cases h00 : l = 0
    · subst h00
      exact .inl ⟨by simp, _, _, rfl⟩
    · obtain ⟨b, off, spot⟩ := x
      have hc0 := hcell 0 (by omega)
      have hspot : spot = none := by simpa [Addr.add] using World.cell?_spot hc0
      subst hspot
      have hlt := World.block_lt_of_cell? W _ hc0
      refine .inr ⟨fun e => by rw [e] at hzl; simp at hzl; omega, b, off, c, by rw [hzl], by simpa [Addr.add] using hlt, fun i k hi => ?_⟩
      have hil : i < l := by
        rcases Nat.lt_or_ge i l with h' | h'
        · exact h'
        · rw [List.getElem?_eq_none (by omega)] at hi; cases hi
      have := hcell i (by omega)
      rw [add_none] at this
      rw [this]
      have e2 : zs.getD i 0 = k := by
        rw [List.getElem?_take] at hi
        rw [if_pos hil] at hi
        simp [List.getD, hi]
      rw [e2]
set_option maxRecDepth 100000 in
theorem trod_node {H : Type} {enc : TypeId × Value → H} {W : World} {sp : Nat → Bool} {hd : Bool} {n : Nat} {cs : List Value} {x : DataW H × List MemPlace} (h : DataW.trod enc Tryd.prog W 0 sp hd n 66 cs = some x) :
    ∃ (e : Nd) (kv : Value), cs = [.int .i64 e.kind, .string e.tag, .string e.text, kv] ∧ IlAt W kv e.kids ∧ wideN e ∧ wfN e := by
  obtain ⟨xs, m, _, _, hl, hxl, hf⟩ := DataW.trod_struct Tryd.underlying66 h
  have ce : Tryd.prog.cellsOf 66 = 4 := by kernel_rfl
  have c1 : Tryd.prog.cellsOf 3 = 1 := by kernel_rfl
  have c2 : Tryd.prog.cellsOf 23 = 1 := by kernel_rfl
  have c3 : Tryd.prog.cellsOf 9 = 1 := by kernel_rfl
  rw [ce] at hl
  match xs, hxl, cs, hl with
  | [y0, y1, y2, y3], _, [v0, v1, v2, v3], _ =>
    have g0 := hf 0 _ rfl
    have g1 := hf 1 _ rfl
    have g2 := hf 2 _ rfl
    have g3 := hf 3 _ rfl
    simp [c1, c2, c3] at g0 g1 g2 g3
    obtain ⟨a0, rfl, w0⟩ := gcell_int g0
    obtain ⟨a1, rfl, w1⟩ := gcell_str g1
    obtain ⟨a2, rfl, w2⟩ := gcell_str g2
    obtain ⟨zs, hI, hw, hz⟩ := open_il g3
    exact ⟨⟨a0, a1, a2, zs⟩, v3, rfl, hI, ⟨w1, w2, hz⟩, ⟨w0, hw⟩⟩
theorem gadd_add (a : Addr) (i j : Nat) : (a.add i).add j = a.add (i + j) := by
  unfold Addr.add
  split <;> split <;> simp_all <;> omega
set_option maxRecDepth 100000 in
theorem open_nl {H : Type} {enc : TypeId × Value → H} {W : World} {sp : Nat → Bool} {hd : Bool} {n : Nat} {V : Value} {y : DataW H × List MemPlace} (h : DataW.trod enc Tryd.prog W 0 sp hd n 22 [V] = some y) :
    ∃ ns, NlAt W V ns ∧ (∀ e ∈ ns, wideN e) ∧ (∀ e ∈ ns, wfN e) ∧ ns.length ≤ 9223372036854775807 := by
  have ce : Tryd.prog.cellsOf 66 = 4 := by kernel_rfl
  rcases open_slice Tryd.underlying22 h with ⟨hcs, _⟩ | ⟨a, len, cap, m, n', D, Pl, hcs, _, hl, hm, hmm, _, hx⟩
  · obtain rfl : V = .slice none 0 0 := by simpa using hcs
    exact ⟨[], .inl ⟨rfl, _, _, rfl⟩, fun q hq => (by cases hq), fun q hq => (by cases hq), by simp⟩
  · obtain rfl : V = .slice (some a) len cap := by simpa using hcs
    have hlm : len ≤ m := by rw [hmm]; split <;> omega
    have one : ∀ i, i < len → ∃ (e : Nd) (kv : Value), wideN e ∧ wfN e ∧ IlAt W kv e.kids ∧ ∀ j u, [Value.int .i64 e.kind, .string e.tag, .string e.text, kv][j]? = some u → W.cell? (a.add (i * 4 + j)) = some u := by
      intro i hi
      obtain ⟨cs', h1, h2⟩ := hx i (by omega)
      rw [ce] at h1
      obtain ⟨e, kv, rfl, hI, hw, hf⟩ := trod_node h2
      obtain ⟨_, _, hcell⟩ := World.cells?_some h1
      refine ⟨e, kv, hw, hf, hI, fun j u hu => ?_⟩
      have hj : j < 4 := (List.getElem?_eq_some_iff.1 hu).1
      have := hcell j hj
      rw [gadd_add] at this
      rw [this, ← hu]
    have each : ∀ k, k ≤ len → ∃ ns : List Nd, ns.length = k ∧ (∀ e ∈ ns, wideN e) ∧ (∀ e ∈ ns, wfN e) ∧ ∀ (i : Nat) (e : Nd), ns[i]? = some e → ∃ kv, IlAt W kv e.kids ∧ ∀ j u, [Value.int .i64 e.kind, .string e.tag, .string e.text, kv][j]? = some u → W.cell? (a.add (i * 4 + j)) = some u := by
      intro k
      induction k with
      | zero => exact fun _ => ⟨[], rfl, fun q hq => (by cases hq), fun q hq => (by cases hq), fun i p hp => (by simp at hp)⟩
      | succ k ih =>
        intro hk
        obtain ⟨ns, hpl, hwd, hwf, hv⟩ := ih (by omega)
        obtain ⟨e, kv, h1, h2, h3, h4⟩ := one k (by omega)
        refine ⟨ns ++ [e], by simp [hpl], ?_, ?_, ?_⟩
        · intro q hq
          rcases List.mem_append.1 hq with hq | hq
          · exact hwd q hq
          · obtain rfl : q = e := by simpa using hq
            exact h1
        · intro q hq
          rcases List.mem_append.1 hq with hq | hq
          · exact hwf q hq
          · obtain rfl : q = e := by simpa using hq
            exact h2
        · intro i p hp
          by_cases hi : i < k
          · rw [List.getElem?_append_left (by omega)] at hp
            exact hv i p hp
          · have hik : i = k := by
              have : i < (ns ++ [e]).length := by
                rcases Nat.lt_or_ge i (ns ++ [e]).length with h' | h'
                · exact h'
                · rw [List.getElem?_eq_none h'] at hp; cases hp
              simp at this; omega
            subst hik
            rw [List.getElem?_append_right (by omega), hpl] at hp
            obtain rfl : e = p := by simpa using hp
            exact ⟨kv, h3, h4⟩
    obtain ⟨ns, hpl, hwd, hwf, hv⟩ := each len (Nat.le_refl _)
    unfold maxLen at hm
    refine ⟨ns, ?_, hwd, hwf, by omega⟩
    by_cases h0 : ns = []
    · left
      subst h0
      simp at hpl
      subst hpl
      exact ⟨rfl, _, _, rfl⟩
    · right
      have hpos : 0 < ns.length := List.length_pos_iff.2 h0
      obtain ⟨b, off, spot⟩ := a
      obtain ⟨e, he⟩ : ∃ e, ns[0]? = some e := ⟨_, List.getElem?_eq_getElem hpos⟩
      obtain ⟨kv0, _, hc0'⟩ := hv 0 e he
      have hc0 := hc0' 0 _ rfl
      have hspot : spot = none := by simpa [Addr.add] using World.cell?_spot hc0
      subst hspot
      have hlt := World.block_lt_of_cell? W _ hc0
      refine ⟨h0, b, off, cap, by rw [hpl], by simpa [Addr.add] using hlt, fun i p hp => ?_⟩
      obtain ⟨kv, hI, hc⟩ := hv i p hp
      have hcc : ∀ j u, [Value.int .i64 p.kind, .string p.tag, .string p.text, kv][j]? = some u → W.cell? ⟨b, off + i * 4 + j, none⟩ = some u := fun j u hu => by
        have := hc j u hu
        rw [add_none] at this
        rw [← this]
        congr 2
        omega
      exact ⟨kv, ⟨hcc 0 _ rfl, hcc 1 _ rfl, hcc 2 _ rfl, hcc 3 _ rfl, hI⟩⟩
set_option maxRecDepth 100000 in
theorem trod_graph {H : Type} {enc : TypeId × Value → H} {W : World} {sp : Nat → Bool} {hd : Bool} {n : Nat} {cs : List Value} {x : DataW H × List MemPlace} (h : DataW.trod enc Tryd.prog W 0 sp hd n 25 cs = some x) :
    ∃ (g : Gr) (nv rv : Value), cs = [nv, rv] ∧ GrAt W nv rv g ∧ g.Wide ∧ g.Wf := by
  obtain ⟨xs, m, _, _, hl, hxl, hf⟩ := DataW.trod_struct Tryd.underlying25 h
  have ce : Tryd.prog.cellsOf 25 = 2 := by kernel_rfl
  have c1 : Tryd.prog.cellsOf 22 = 1 := by kernel_rfl
  have c2 : Tryd.prog.cellsOf 23 = 1 := by kernel_rfl
  rw [ce] at hl
  match xs, hxl, cs, hl with
  | [y0, y1], _, [v0, v1], _ =>
    have g0 := hf 0 _ rfl
    have g1 := hf 1 _ rfl
    simp [c1, c2] at g0 g1
    obtain ⟨ns, hN, h1, h2, h3⟩ := open_nl g0
    obtain ⟨zs, hI, hw, hz⟩ := open_il g1
    exact ⟨⟨ns, zs⟩, v0, v1, rfl, ⟨hN, hI⟩, ⟨h3, hz, h1⟩, ⟨hw, h2⟩⟩
set_option maxRecDepth 100000 in
theorem open_graph {H : Type} {enc : TypeId × Value → H} {W : World} {sp : Nat → Bool} {hd : Bool} {r : Reach} {b0 : Nat} {v : Value} {d : DataW H} {p : List MemPlace} (hv : Value.okWide Tryd.prog W r b0 25 v) (h : DataW.Trod enc Tryd.prog W 0 sp hd 25 v d p) :
    ∃ (g : Gr) (nv rv : Value), v = .agg #[nv, rv] ∧ GrAt W nv rv g ∧ g.Wide ∧ g.Wf := by
  obtain ⟨cs, rfl, hsz⟩ := okWide_struct Tryd.underlying25 hv
  obtain ⟨fuel, hf⟩ := h
  obtain ⟨g, nv, rv, he, h1, h2, h3⟩ := trod_graph hf
  refine ⟨g, nv, rv, ?_, h1, h2, h3⟩
  have : cs = #[nv, rv] := by
    apply Array.ext'
    simpa [Value.cells] using he
  rw [this]
end Go.Proofs.YtgaibajkegfpoaaDoor
