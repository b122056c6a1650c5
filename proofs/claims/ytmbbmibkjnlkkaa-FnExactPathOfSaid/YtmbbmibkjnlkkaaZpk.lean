/- Several texts in one: Tez Oev Lev Iev Iwb. -/
import Derived.Test.YtmbbmibkjnlkkaaZpb
import Derived.WalkLawsBesides
import Derived.WalkSpells
import Derived.WalkMore
import Derived.Handy
import Derived.Laws.ResultCell
import Derived.Test.YtmbbmibkjnlkkaaProg
import Derived.OpenShut
import Derived.ShutString
import Derived.Deep.SlicePairs
import Derived.Lib.SmallJoins
import Derived.Test.YtmbbmibkjnlkkaaZpd
import Derived.Test.YtmbbmibkjnlkkaaIfl
import Derived.Deep.RegionHeld3
import Derived.Test.YtmbbmibkjnlkkaaZph
import Derived.BigRegion
/- An event that came in: how large it is, and a copy of it. -/
namespace Go.Proofs.Ytmbbmibkjnlkkaa
open Go.ChangeShapes Go.WideShapes Go.ChangeAt Go.RowKit
def szE (e : Ev) (l : Int) : Int :=
  if l - e.text.size < 0 then -1 else if l - e.text.size - e.anchor.size < 0 then -1 else if l - e.text.size - e.anchor.size - e.tag.size < 0 then -1 else l - e.text.size - e.anchor.size - e.tag.size
theorem szE_cases (e : Ev) (l : Int) : szE e l = -1 ∨ (szE e l = l - e.text.size - e.anchor.size - e.tag.size ∧ 0 ≤ l - e.text.size - e.anchor.size - e.tag.size) := by
  unfold szE
  split
  · exact .inl rfl
  · split
    · exact .inl rfl
    · split
      · exact .inl rfl
      · exact .inr ⟨rfl, by omega⟩
set_option maxHeartbeats 4000000 in
theorem szE_any (e : Ev) (l : Int) (w : World) (l0 : 0 ≤ l) (l1 : l ≤ 1048576) (hw : wideE e) :
    Calls Try.prog 16 #[.agg e.row, .int .i64 l] w fun r w' => r = .returned (.int .i64 (szE e l)) ∧ Below w.heap.size w w' := by
  obtain ⟨kind, style, flag, text, anchor, tag, at_, code⟩ := e
  obtain ⟨z1, z2, z3⟩ : text.size ≤ 9223372036854775807 ∧ anchor.size ≤ 9223372036854775807 ∧ tag.size ≤ 9223372036854775807 := hw
  show Calls Try.prog 16 #[.agg #[.int .i64 kind, .int .i64 style, .bool flag, .string text, .string anchor, .string tag, .int .i64 at_, .int .i64 code], .int .i64 l] w fun r w' => r = .returned (.int .i64 (if l - text.size < 0 then -1 else if l - text.size - anchor.size < 0 then -1 else if l - text.size - anchor.size - tag.size < 0 then -1 else l - text.size - anchor.size - tag.size)) ∧ Below w.heap.size w w'
  have hal : Hid (Below w.heap.size w (w.alloc (.cells #[.int .i64 kind, .int .i64 style, .bool flag, .string text, .string anchor, .string tag, .int .i64 at_, .int .i64 code] 36))) := (Below.refl _ w).alloc (Nat.le_refl _) _
  by_cases h1 : l - (text.size : Int) < 0
  · rw [if_pos h1]
    go_enter Try.func16, Try.ntmps16
    go_wp2_with fail
    go_ret
    exact ⟨rfl, hal.out⟩
  · rw [if_neg h1]
    by_cases h2 : l - (text.size : Int) - (anchor.size : Int) < 0
    · rw [if_pos h2]
      go_enter Try.func16, Try.ntmps16
      go_wp2_with fail
      go_ret
      exact ⟨rfl, hal.out⟩
    · rw [if_neg h2]
      by_cases h3 : l - (text.size : Int) - (anchor.size : Int) - (tag.size : Int) < 0
      · rw [if_pos h3]
        go_enter Try.func16, Try.ntmps16
        go_wp2_with fail
        go_ret
        exact ⟨rfl, hal.out⟩
      · rw [if_neg h3]
        go_enter Try.func16, Try.ntmps16
        go_wp2_with fail
        go_ret
        exact ⟨rfl, hal.out⟩
set_option maxHeartbeats 4000000 in
theorem toE_any (e : Ev) (w : World) :
    Calls Try.prog 19 #[.agg e.row] w fun r w' => r = .returned (.agg e.row) ∧ Below w.heap.size w w' := by
  obtain ⟨kind, style, flag, text, anchor, tag, at_, code⟩ := e
  obtain ⟨R, hR⟩ : ∃ R, R = #[Value.int .i64 kind, .int .i64 style, .bool flag, .string text, .string anchor, .string tag, .int .i64 at_, .int .i64 code] := ⟨_, rfl⟩
  show Calls Try.prog 19 #[.agg #[.int .i64 kind, .int .i64 style, .bool flag, .string text, .string anchor, .string tag, .int .i64 at_, .int .i64 code]] w fun r w' => r = .returned (.agg #[.int .i64 kind, .int .i64 style, .bool flag, .string text, .string anchor, .string tag, .int .i64 at_, .int .i64 code]) ∧ Below w.heap.size w w'
  have hF : Hid ((((w.alloc (.cells R 36)).alloc (.cells R 38)).alloc (.cells R 38)).heap[w.heap.size + 1]? = some (.cells R 38 (0, 0))) := by
    show ((((w.heap.push _).push _).push _)[w.heap.size + 1]? = _)
    rw [Array.getElem?_push, if_neg (by simp), Array.getElem?_push, if_pos (by simp)]
  have hB : Hid (Below w.heap.size w (((w.alloc (.cells R 36)).alloc (.cells R 38)).alloc (.cells R 38))) := (((Below.refl _ w).alloc (Nat.le_refl _) _).alloc (by simp) _).alloc (by simp <;> omega) _
  rw [hR] at hF hB
  clear hR R
  go_enter Try.func19, Try.ntmps19
  go_wp2_with fail
  refine bodyPost_ret (results_cell_row rfl _ _ (w.heap.size + 1) 38 _ (0, 0) _ rfl hF.out Try.underlying38 rfl (by kernel_rfl)) rfl ?_
  exact ⟨rfl, hB.out⟩
end Go.Proofs.Ytmbbmibkjnlkkaa
/- Events that come in as arguments, opened. -/
namespace Go.Proofs.Ytmbbmibkjnlkkaa
open Go.ChangeShapes Go.WideShapes Go.ChangeAt Go.RowKit Go.Deep Go.Maps
def wfE (e : Ev) : Prop := (Lit.int .i64 e.kind).wf = true ∧ (Lit.int .i64 e.style).wf = true ∧ (Lit.int .i64 e.at_).wf = true ∧ (Lit.int .i64 e.code).wf = true
theorem cell_int {H : Type} {enc : TypeId × Value → H} {W : World} {base : Nat} {sp : Nat → Bool} {hd : Bool} {n : Nat} {v : Value} {y : DataW H × List MemPlace} (h : DataW.trod enc Try.prog W base sp hd n 3 [v] = some y) : ∃ i, v = .int .i64 i ∧ (Lit.int .i64 i).wf = true := by
  obtain ⟨i, e, _, hw⟩ := DataW.trod_int Try.underlying3 h
  exact ⟨i, by simpa using e, hw⟩
theorem cell_bool {H : Type} {enc : TypeId × Value → H} {W : World} {base : Nat} {sp : Nat → Bool} {hd : Bool} {n : Nat} {v : Value} {y : DataW H × List MemPlace} (h : DataW.trod enc Try.prog W base sp hd n 4 [v] = some y) : ∃ i, v = .bool i := by
  obtain ⟨i, e, _⟩ := DataW.trod_bool Try.underlying4 h
  exact ⟨i, by simpa using e⟩
theorem cell_str {H : Type} {enc : TypeId × Value → H} {W : World} {base : Nat} {sp : Nat → Bool} {hd : Bool} {n : Nat} {v : Value} {y : DataW H × List MemPlace} (h : DataW.trod enc Try.prog W base sp hd n 9 [v] = some y) : ∃ i : ByteArray, v = .string i ∧ i.size ≤ 9223372036854775807 := by
  obtain ⟨i, e, _, hw⟩ := DataW.trod_string Try.underlying9 h
  unfold maxLen at hw
  exact ⟨i, by simpa using e, by omega⟩
set_option maxRecDepth 100000 in
theorem trod_event {H : Type} {enc : TypeId × Value → H} {W : World} {base : Nat} {sp : Nat → Bool} {hd : Bool} {n : Nat} {cs : List Value} {x : DataW H × List MemPlace} (h : DataW.trod enc Try.prog W base sp hd n 36 cs = some x) :
    ∃ e : Ev, cs = e.row.toList ∧ wideE e ∧ wfE e := by
  obtain ⟨xs, m, _, _, hl, hxl, hf⟩ := DataW.trod_struct Try.underlying36 h
  have ce : Try.prog.cellsOf 36 = 8 := by kernel_rfl
  have c1 : Try.prog.cellsOf 3 = 1 := by kernel_rfl
  have c2 : Try.prog.cellsOf 4 = 1 := by kernel_rfl
  have c3 : Try.prog.cellsOf 9 = 1 := by kernel_rfl
  rw [ce] at hl
  match xs, hxl, cs, hl with
  | [y0, y1, y2, y3, y4, y5, y6, y7], _, [v0, v1, v2, v3, v4, v5, v6, v7], _ =>
    have g0 := hf 0 _ rfl
    have g1 := hf 1 _ rfl
    have g2 := hf 2 _ rfl
    have g3 := hf 3 _ rfl
    have g4 := hf 4 _ rfl
    have g5 := hf 5 _ rfl
    have g6 := hf 6 _ rfl
    have g7 := hf 7 _ rfl
    simp [c1, c2, c3] at g0 g1 g2 g3 g4 g5 g6 g7
    obtain ⟨a0, rfl, w0⟩ := cell_int g0
    obtain ⟨a1, rfl, w1⟩ := cell_int g1
    obtain ⟨a2, rfl⟩ := cell_bool g2
    obtain ⟨a3, rfl, w3⟩ := cell_str g3
    obtain ⟨a4, rfl, w4⟩ := cell_str g4
    obtain ⟨a5, rfl, w5⟩ := cell_str g5
    obtain ⟨a6, rfl, w6⟩ := cell_int g6
    obtain ⟨a7, rfl, w7⟩ := cell_int g7
    exact ⟨⟨a0, a1, a2, a3, a4, a5, a6, a7⟩, rfl, ⟨w3, w4, w5⟩, ⟨w0, w1, w6, w7⟩⟩
set_option maxRecDepth 100000 in
theorem open_event {H : Type} {enc : TypeId × Value → H} {W : World} {sp : Nat → Bool} {hd : Bool} {r : Reach} {b0 : Nat} {v : Value} {d : DataW H} {p : List MemPlace} (hv : Value.okWide Try.prog W r b0 36 v) (h : DataW.Trod enc Try.prog W 0 sp hd 36 v d p) :
    ∃ e : Ev, v = .agg e.row ∧ wideE e ∧ wfE e := by
  obtain ⟨cs, rfl, hsz⟩ := okWide_struct Try.underlying36 hv
  obtain ⟨fuel, hf⟩ := h
  obtain ⟨e, he, h1, h2⟩ := trod_event hf
  refine ⟨e, ?_, h1, h2⟩
  have : cs = e.row := by
    apply Array.ext'
    simpa [Value.cells] using he
  rw [this]
set_option maxRecDepth 100000 in
theorem open_events {H : Type} {enc : TypeId × Value → H} {W : World} {sp : Nat → Bool} {hd : Bool} {n : Nat} {V : Value} {y : DataW H × List MemPlace} (h : DataW.trod enc Try.prog W 0 sp hd n 22 [V] = some y) :
    ∃ es, SlE W V es ∧ wideEs es ∧ (∀ e ∈ es, wfE e) ∧ es.length ≤ 9223372036854775807 := by
  have ce : Try.prog.cellsOf 36 = 8 := by kernel_rfl
  rcases open_slice Try.underlying22 h with ⟨hcs, _⟩ | ⟨a, len, cap, m, n', D, Pl, hcs, _, hl, hm, hmm, _, hx⟩
  · obtain rfl : V = .slice none 0 0 := by simpa using hcs
    exact ⟨[], .inl ⟨rfl, _, _, rfl⟩, fun q hq => (by cases hq), fun q hq => (by cases hq), by simp⟩
  · obtain rfl : V = .slice (some a) len cap := by simpa using hcs
    have hlm : len ≤ m := by rw [hmm]; split <;> omega
    have one : ∀ i, i < len → ∃ e : Ev, wideE e ∧ wfE e ∧ ∀ j u, e.row[j]? = some u → W.cell? (a.add (i * 8 + j)) = some u := by
      intro i hi
      obtain ⟨cs', h1, h2⟩ := hx i (by omega)
      rw [ce] at h1
      obtain ⟨e, rfl, hw, hf⟩ := trod_event h2
      obtain ⟨_, _, hcell⟩ := World.cells?_some h1
      refine ⟨e, hw, hf, fun j u hu => ?_⟩
      have hj : j < 8 := (Array.getElem?_eq_some_iff.1 hu).1
      have := hcell j hj
      rw [add_add] at this
      rw [this, ← hu]
      simp
    have each : ∀ k, k ≤ len → ∃ es : List Ev, es.length = k ∧ wideEs es ∧ (∀ e ∈ es, wfE e) ∧ ∀ i e, es[i]? = some e → ∀ j u, e.row[j]? = some u → W.cell? (a.add (i * 8 + j)) = some u := by
      intro k
      induction k with
      | zero => exact fun _ => ⟨[], rfl, fun q hq => (by cases hq), fun q hq => (by cases hq), fun i p hp => (by simp at hp)⟩
      | succ k ih =>
        intro hk
        obtain ⟨es, hpl, hwd, hwf, hv⟩ := ih (by omega)
        obtain ⟨e, h1, h2, h3⟩ := one k (by omega)
        refine ⟨es ++ [e], by simp [hpl], ?_, ?_, ?_⟩
        · intro q hq
          rcases List.mem_append.1 hq with hq | hq
          · exact hwd q hq
          · obtain rfl : q = e := by simpa using hq
            exact h1
        · intro q hq
          rcases List.mem_append.1 hq with hq | hq
          · exact hwf q hq
          · obtain rfl : q = e := by simpa using hq
            exact h2
        · intro i p hp
          by_cases hi : i < k
          · rw [List.getElem?_append_left (by omega)] at hp
            exact hv i p hp
          · have hik : i = k := by
              have : i < (es ++ [e]).length := by
                rcases Nat.lt_or_ge i (es ++ [e]).length with h' | h'
                · exact h'
                · rw [List.getElem?_eq_none h'] at hp; cases hp
              simp at this; omega
            subst hik
            rw [List.getElem?_append_right (by omega), hpl] at hp
            obtain rfl : e = p := by simpa using hp
            exact h3
    obtain ⟨es, hpl, hwd, hwf, hv⟩ := each len (Nat.le_refl _)
    unfold maxLen at hm
    refine ⟨es, ?_, hwd, hwf, by omega⟩
    by_cases h0 : es = []
    · left
      subst h0
      simp at hpl
      subst hpl
      exact ⟨rfl, _, _, rfl⟩
    · right
      have hpos : 0 < es.length := List.length_pos_iff.2 h0
      obtain ⟨b, off, spot⟩ := a
      obtain ⟨e, he⟩ : ∃ e, es[0]? = some e := ⟨_, List.getElem?_eq_getElem hpos⟩
      have hc0 := hv 0 e he 0 _ rfl
      have hspot : spot = none := by simpa [Addr.add] using World.cell?_spot hc0
      subst hspot
      have hlt := World.block_lt_of_cell? W _ hc0
      refine ⟨h0, b, off, cap, by rw [hpl], by simpa [Addr.add] using hlt, by omega, fun i p hp j u hu => ?_⟩
      have := hv i p hp j u hu
      rw [add_plain] at this
      rw [← this]
      congr 2
      omega
end Go.Proofs.Ytmbbmibkjnlkkaa
/- The law on EventOk, walked, over impl's contract. -/
namespace Go.Proofs.Ytmbbmibkjnlkkaa
open Go.ChangeShapes Go.WideShapes Go.ChangeAt Go.RowKit
/-- What is asked of impl.EventOk. -/
def ImplEo : Prop := ∀ (e : Ev) (w : World), e.tot ≤ 1048576 → wfE e →
    Calls Try.prog 51 #[.agg e.row] w fun r w' => r = .returned (.bool (evOk e)) ∧ Below w.heap.size w w'
end Go.Proofs.Ytmbbmibkjnlkkaa
/- The contract of impl.EventOk: an event is compared, as a struct, with what its kind names of it. -/
namespace Go.Proofs.Ytmbbmibkjnlkkaa
open Go.ChangeShapes Go.WideShapes Go.ChangeAt Go.RowKit
theorem cst {w w' : World} {a : Addr} {v : Value} (hb : Below w.heap.size w w') (h : w.cell? a = some v) : w'.cell? a = some v := (hb.cell (World.block_lt_of_cell? _ _ h)).trans h
theorem equalIn_ev (a0 a1 : Int) (a2 : Bool) (a3 a4 a5 : ByteArray) (a6 a7 : Int) (b0 b1 : Int) (b2 : Bool) (b3 b4 b5 : ByteArray) (b6 b7 : Int) (w : World) :
    (Op.equalIn 10000 38 (.agg #[.int .i64 a0, .int .i64 a1, .bool a2, .string a3, .string a4, .string a5, .int .i64 a6, .int .i64 a7]) (.agg #[.int .i64 b0, .int .i64 b1, .bool b2, .string b3, .string b4, .string b5, .int .i64 b6, .int .i64 b7])).run Try.prog w
      = .ok (a0 == b0 && (a1 == b1 && (a2 == b2 && (a3.toList == b3.toList && (a4.toList == b4.toList && (a5.toList == b5.toList && (a6 == b6 && a7 == b7))))))) w := by
  have hS : Try.prog.underlying 38 = some (.struct (Try.prog.fieldsOf 38)) := by kernel_rfl
  have hp : Try.prog.stoodInHeld 38 = false := by kernel_rfl
  rw [show (10000 : Nat) = 9999 + 1 from rfl, run_equalIn_agg w 9999 38 _ _ hS hp]
  simp only [Program.fieldsOf, Try.underlying38]
  go_simp
  by_cases h0 : a0 = b0
  case neg => simp [h0]
  by_cases h1 : a1 = b1
  case neg => simp [h0, h1]
  by_cases h2 : a2 = b2
  case neg => simp [h0, h1, h2]
  by_cases h3 : a3.toList = b3.toList
  case neg => simp [h0, h1, h2, h3]
  by_cases h4 : a4.toList = b4.toList
  case neg => simp [h0, h1, h2, h3, h4]
  by_cases h5 : a5.toList = b5.toList
  case neg => simp [h0, h1, h2, h3, h4, h5]
  by_cases h6 : a6 = b6
  case neg => simp [h0, h1, h2, h3, h4, h5, h6]
  by_cases h7 : a7 = b7
  case neg => simp [h0, h1, h2, h3, h4, h5, h6, h7]
  simp [h0, h1, h2, h3, h4, h5, h6, h7]
set_option maxHeartbeats 4000000 in
theorem evOk_t (kind style : Int) (flag : Bool) (text anchor tag : ByteArray) (at_ code : Int) (b0 b1 : Int) (b2 : Bool) (b3 b4 b5 : ByteArray) (b6 b7 : Int) (f : Bool) (w : World)
    (cN : Hid (∀ w, Calls Try.prog 59 #[.agg #[.int .i64 kind, .int .i64 style, .bool flag, .string text, .string anchor, .string tag, .int .i64 at_, .int .i64 code]] w fun r w' => r = .returned (.agg #[.int .i64 b0, .int .i64 b1, .bool b2, .string b3, .string b4, .string b5, .int .i64 b6, .int .i64 b7]) ∧ Below w.heap.size w w'))
    (cF : Hid (∀ w, Calls Try.prog 60 #[.agg #[.int .i64 kind, .int .i64 style, .bool flag, .string text, .string anchor, .string tag, .int .i64 at_, .int .i64 code]] w fun r w' => r = .returned (.bool f) ∧ Below w.heap.size w w'))
    (hE : ∀ w, (Op.equalIn 10000 38 (.agg #[.int .i64 kind, .int .i64 style, .bool flag, .string text, .string anchor, .string tag, .int .i64 at_, .int .i64 code]) (.agg #[.int .i64 b0, .int .i64 b1, .bool b2, .string b3, .string b4, .string b5, .int .i64 b6, .int .i64 b7])).run Try.prog w = .ok true w) :
    Calls Try.prog 51 #[.agg #[.int .i64 kind, .int .i64 style, .bool flag, .string text, .string anchor, .string tag, .int .i64 at_, .int .i64 code]] w fun r w' => r = .returned (.bool f) ∧ Below w.heap.size w w' := by
  have HAL : Hid (Below w.heap.size w (w.alloc (.cells #[.int .i64 kind, .int .i64 style, .bool flag, .string text, .string anchor, .string tag, .int .i64 at_, .int .i64 code] 38)).drew) := ((Below.refl _ w).alloc (Nat.le_refl _) _).drew
  go_enter Try.func51, Try.ntmps51
  go_wp2_with fail
  obtain ⟨q0, q1, q2, q3, q4, q5, q6, q7⟩ := ev_at (heap_alloc_new w (.cells #[.int .i64 kind, .int .i64 style, .bool flag, .string text, .string anchor, .string tag, .int .i64 at_, .int .i64 code] 38))
  go_region_held3 (fun V => (V.cell? ⟨w.heap.size, 0, none⟩ = some (.int .i64 kind) ∧ V.cell? ⟨w.heap.size, 1, none⟩ = some (.int .i64 style) ∧ V.cell? ⟨w.heap.size, 2, none⟩ = some (.bool flag) ∧ V.cell? ⟨w.heap.size, 3, none⟩ = some (.string text)) ∧ (V.cell? ⟨w.heap.size, 4, none⟩ = some (.string anchor) ∧ V.cell? ⟨w.heap.size, 5, none⟩ = some (.string tag) ∧ V.cell? ⟨w.heap.size, 6, none⟩ = some (.int .i64 at_) ∧ V.cell? ⟨w.heap.size, 7, none⟩ = some (.int .i64 code)))
    (first | exact ⟨⟨q0, q1, q2, q3⟩, q4, q5, q6, q7⟩ | exact ⟨⟨cst hb1 (by assumption), cst hb1 (by assumption), cst hb1 (by assumption), cst hb1 (by assumption)⟩, cst hb1 (by assumption), cst hb1 (by assumption), cst hb1 (by assumption), cst hb1 (by assumption)⟩ | exact ⟨⟨cst hb2 (cst hb1 (by assumption)), cst hb2 (cst hb1 (by assumption)), cst hb2 (cst hb1 (by assumption)), cst hb2 (cst hb1 (by assumption))⟩, cst hb2 (cst hb1 (by assumption)), cst hb2 (cst hb1 (by assumption)), cst hb2 (cst hb1 (by assumption)), cst hb2 (cst hb1 (by assumption))⟩ | go_keep)
    (first | (go_at_call 59; refine (cN.out _).mono ?_; rintro e w1 ⟨rfl, hb1⟩) | (go_at_call 60; refine (cF.out _).mono ?_; rintro e w2 ⟨rfl, hb2⟩))
  clear q0 q1 q2 q3 q4 q5 q6 q7 cN cF hE
  have HB1 : Hid (Below w.heap.size w w1) := HAL.out.trans (hb1.mono HAL.out.size)
  clear hb1
  go_wp2_with fail
  go_ret
  exact ⟨rfl, HB1.out.trans (hb2.mono HB1.out.size)⟩
set_option maxHeartbeats 4000000 in
theorem evOk_f (kind style : Int) (flag : Bool) (text anchor tag : ByteArray) (at_ code : Int) (b0 b1 : Int) (b2 : Bool) (b3 b4 b5 : ByteArray) (b6 b7 : Int) (w : World)
    (cN : Hid (∀ w, Calls Try.prog 59 #[.agg #[.int .i64 kind, .int .i64 style, .bool flag, .string text, .string anchor, .string tag, .int .i64 at_, .int .i64 code]] w fun r w' => r = .returned (.agg #[.int .i64 b0, .int .i64 b1, .bool b2, .string b3, .string b4, .string b5, .int .i64 b6, .int .i64 b7]) ∧ Below w.heap.size w w'))
    (hE : ∀ w, (Op.equalIn 10000 38 (.agg #[.int .i64 kind, .int .i64 style, .bool flag, .string text, .string anchor, .string tag, .int .i64 at_, .int .i64 code]) (.agg #[.int .i64 b0, .int .i64 b1, .bool b2, .string b3, .string b4, .string b5, .int .i64 b6, .int .i64 b7])).run Try.prog w = .ok false w) :
    Calls Try.prog 51 #[.agg #[.int .i64 kind, .int .i64 style, .bool flag, .string text, .string anchor, .string tag, .int .i64 at_, .int .i64 code]] w fun r w' => r = .returned (.bool false) ∧ Below w.heap.size w w' := by
  have HAL : Hid (Below w.heap.size w (w.alloc (.cells #[.int .i64 kind, .int .i64 style, .bool flag, .string text, .string anchor, .string tag, .int .i64 at_, .int .i64 code] 38)).drew) := ((Below.refl _ w).alloc (Nat.le_refl _) _).drew
  go_enter Try.func51, Try.ntmps51
  go_wp2_with fail
  go_region_with (go_at_call 59; refine (cN.out _).mono ?_; rintro e w1 ⟨rfl, hb1⟩; obtain ⟨q0, q1, q2, q3, q4, q5, q6, q7⟩ := ev_at ((hb1.block w.heap.size (show w.heap.size < (w.heap.push _).size by simp)).trans (heap_alloc_new w (.cells #[.int .i64 kind, .int .i64 style, .bool flag, .string text, .string anchor, .string tag, .int .i64 at_, .int .i64 code] 38))))
  all_goals (
    clear q0 q1 q2 q3 q4 q5 q6 q7 cN hE
    have HB1 : Hid (Below w.heap.size w w1) := HAL.out.trans (hb1.mono HAL.out.size)
    clear hb1
    go_wp2_with fail
    go_ret
    exact ⟨rfl, HB1.out⟩)
theorem eventOk_any (e : Ev) (w : World) (hs : e.text.size ≤ mx ∧ e.anchor.size ≤ mx ∧ e.tag.size ≤ mx) :
    Calls Try.prog 51 #[.agg e.row] w fun r w' => r = .returned (.bool (evOk e)) ∧ Below w.heap.size w w' := by
  have cN := fun w => named_any e w
  have cF := fun w => fields_any e w hs
  rw [← evOk_impl e]
  generalize hn : namedE e = n at *
  obtain ⟨kind, style, flag, text, anchor, tag, at_, code⟩ := e
  obtain ⟨b0, b1, b2, b3, b4, b5, b6, b7⟩ := n
  have hE := fun w => equalIn_ev kind style flag text anchor tag at_ code b0 b1 b2 b3 b4 b5 b6 b7 w
  have hq : eqEv ⟨kind, style, flag, text, anchor, tag, at_, code⟩ ⟨b0, b1, b2, b3, b4, b5, b6, b7⟩ = (kind == b0 && (style == b1 && (flag == b2 && (text.toList == b3.toList && (anchor.toList == b4.toList && (tag.toList == b5.toList && (at_ == b6 && code == b7))))))) := rfl
  rw [hq]
  generalize (kind == b0 && (style == b1 && (flag == b2 && (text.toList == b3.toList && (anchor.toList == b4.toList && (tag.toList == b5.toList && (at_ == b6 && code == b7))))))) = g at *
  cases g with
  | true =>
    rw [Bool.true_and]
    exact evOk_t kind style flag text anchor tag at_ code b0 b1 b2 b3 b4 b5 b6 b7 _ w cN cF hE
  | false =>
    rw [Bool.false_and]
    exact evOk_f kind style flag text anchor tag at_ code b0 b1 b2 b3 b4 b5 b6 b7 w cN hE
theorem implEo : ImplEo := fun e w ht _ => by
  unfold Ev.tot at ht
  exact eventOk_any e w ⟨by unfold mx; omega, by unfold mx; omega, by unfold mx; omega⟩
end Go.Proofs.Ytmbbmibkjnlkkaa
/- impl's walk over a stream: leave. -/
namespace Go.Proofs.Ytmbbmibkjnlkkaa
open Go.ChangeShapes Go.WideShapes Go.ChangeAt Go.RowKit
set_option maxHeartbeats 2000000 in
theorem leave_no (b : Nat) (c : Int) (ar : List Int) (w : World) (hW : Wk b c ar w) (h4 : c ≠ 4) (h5 : c ≠ 5) :
    Calls Try.prog 64 #[.pointer (some ⟨b, 0, none⟩)] w fun e w' => e = .returned (.bool false) ∧ Below b w w' := by
  obtain ⟨a, n, cp, h1, _⟩ := hW
  have c0 := h1.c0
  have t4 : (c != 4) = true := by rw [bne_iff_ne]; exact h4
  have t5 : (c != 5) = true := by rw [bne_iff_ne]; exact h5
  clear h1 h4 h5
  go_enter Try.func64, Try.ntmps64
  go_wp2_with fail
  go_ret
  exact ⟨rfl, Below.refl _ _⟩
set_option maxHeartbeats 8000000 in
theorem leave_yes (b : Nat) (c x : Int) (ar : List Int) (w : World) (hW : Wk b c (x :: ar) w) (hc : c = 4 ∨ c = 5) (hl : ar.length ≤ 100000000) :
    Calls Try.prog 64 #[.pointer (some ⟨b, 0, none⟩)] w fun e w' => e = .returned (.bool true) ∧ Wk b x ar w' ∧ Below b w w' := by
  obtain ⟨a, n, cp, h1, h2⟩ := hW
  rw [List.reverse_cons, show intV (ar.reverse ++ [x]) = intV ar.reverse ++ [.int .i64 x] from List.map_append] at h2
  obtain ⟨g, cq, hv, hn, hg1, hg2, hcq, hcell, hfz, hset, hrow⟩ := row_top h2
  have hlen : (intV ar.reverse).length = ar.length := by unfold intV; rw [List.length_map, List.length_reverse]
  rw [hlen] at hv hcell hrow
  injection hv with ha hn' hcp
  subst ha
  subst hcp
  subst hn'
  have hcq' : ar.length + 1 ≤ cp := by simp at hcq; exact hcq
  have c0 := h1.c0
  have c1 := h1.c1
  have f0 := h1.fz 0
  have f1 := h1.fz 1
  have HQ : Hid (Wk b x ar ((w.setCell ⟨b, 0, none⟩ (.int .i64 x)).setCell ⟨b, 1, none⟩ (.slice (some ⟨g, 0, none⟩) ar.length cp)) ∧ Below b w ((w.setCell ⟨b, 0, none⟩ (.int .i64 x)).setCell ⟨b, 1, none⟩ (.slice (some ⟨g, 0, none⟩) ar.length cp))) :=
    ⟨⟨_, _, _, (h1.set0 x).set1 _, row_past' (row_past' hrow)⟩, (below_set w).trans (below_set _)⟩
  have k1 := (h1.set0 x).c1
  have kf := (h1.set0 x).fz 1
  have hgb : g ≠ b := by omega
  obtain ⟨m, hm⟩ : ∃ m, ar.length = m := ⟨_, rfl⟩
  rw [hm] at hcell c1 k1 HQ hl hcq'
  have hD : c = 4 ∨ c = 5 := hc
  clear h1 h2 hrow hlen hm hcq hn hg1 hg2 hc hfz hset
  rcases hD with rfl | rfl
  all_goals
    go_enter Try.func64, Try.ntmps64
    go_wp2_with fail
    go_region
    all_goals (
      clear hcell c1 c0 k1 kf f0 f1 hgb
      go_wp2_with fail
      go_ret
      exact ⟨rfl, HQ.out.1.stays (Below.refl _ _).drew, HQ.out.2.drew⟩)
end Go.Proofs.Ytmbbmibkjnlkkaa
