/- Several texts in one: Tez Tes Teq. -/
import Derived.Test.YtgaibajkegfpoaaDoorZqj
import Derived.WalkLawsBesides
import Derived.WalkSpells
import Derived.WalkMore
import Derived.Handy
import Derived.Laws.ResultCell
import Derived.Test.YtgaibajkegfpoaaDoorBwr
import Derived.Deep.OwnRows
import Derived.Laws.MakeOwn
import Derived.Deep.RegionWith
import Derived.Deep.QuietTactic
import Derived.OwnWalk
/- An event that came in: how large it is, and a copy of it. -/
namespace Go.Proofs.YtgaibajkegfpoaaDoor
open Go.ChangeShapes Go.WideShapes Go.ChangeAt Go.RowKit
def szE (e : Ev) (l : Int) : Int :=
  if l - e.text.size < 0 then -1 else if l - e.text.size - e.anchor.size < 0 then -1 else if l - e.text.size - e.anchor.size - e.tag.size < 0 then -1 else l - e.text.size - e.anchor.size - e.tag.size
theorem szE_cases (e : Ev) (l : Int) : szE e l = -1 ∨ (szE e l = l - e.text.size - e.anchor.size - e.tag.size ∧ 0 ≤ l - e.text.size - e.anchor.size - e.tag.size) := by
  unfold szE
  split
  · exact .inl rfl
  · split
    · exact .inl rfl
    · split
      · exact .inl rfl
      · exact .inr ⟨rfl, by omega⟩
end Go.Proofs.YtgaibajkegfpoaaDoor
/- A list of events that came in: how large it is, a copy of it in new memory, whether two are alike. -/
namespace Go.Proofs.YtgaibajkegfpoaaDoor
open Go.ChangeShapes Go.WideShapes Go.ChangeAt Go.RowKit Go.Deep Go.BigFrame
def SzEs (es : List Ev) (w : World) (e : Ending) (w' : World) : Prop :=
  (∃ r : Int, e = .returned (.int .i64 r) ∧ (r = -1 ∨ (0 ≤ r ∧ totE es + es.length ≤ 1048576))) ∧ Below w.heap.size w w'
/-- The cells of a list of events. -/
def cellsE (es : List Ev) : List Value := es.flatMap (fun e => e.row.toList)
theorem cellsE_len : ∀ es : List Ev, (cellsE es).length = es.length * 8
  | [] => rfl
  | h :: t => by
    have := cellsE_len t
    have h8 : h.row.toList.length = 8 := rfl
    unfold cellsE at *
    simp only [List.flatMap_cons, List.length_append, List.length_cons, this, h8]
    omega
theorem cellsE_at : ∀ {es : List Ev} {i : Nat} {e : Ev}, es[i]? = some e → ∀ j u, e.row[j]? = some u → (cellsE es)[i * 8 + j]? = some u
  | [], i, h, e => by simp at e
  | x :: t, 0, h, e => by
    obtain rfl : x = h := by simpa using e
    intro j u hu
    have hj : j < 8 := (Array.getElem?_eq_some_iff.1 hu).1
    show (x.row.toList ++ cellsE t)[0 * 8 + j]? = some u
    rw [List.getElem?_append_left (by show 0 * 8 + j < 8; omega)]
    simpa using hu
  | x :: t, i + 1, h, e => by
    intro j u hu
    have := cellsE_at (es := t) (i := i) (e := h) (by simpa using e) j u hu
    show (x.row.toList ++ cellsE t)[(i + 1) * 8 + j]? = some u
    have h8 : x.row.toList.length = 8 := rfl
    rw [List.getElem?_append_right (by rw [h8]; omega), h8, show (i + 1) * 8 + j - 8 = i * 8 + j by omega]
    exact this
theorem cellsE_snoc (rs : List Ev) (h : Ev) : cellsE (rs ++ [h]) = cellsE rs ++ h.row.toList := by simp [cellsE]
def zrow : Array Value := #[.int .i64 0, .int .i64 0, .bool false, .string ByteArray.empty, .string ByteArray.empty, .string ByteArray.empty, .int .i64 0, .int .i64 0]
def zE (j : Nat) : Value := zrow[j % 8]!
theorem cellsE_step {rs : List Ev} {k : Nat} (hk : rs.length = k) (h : Ev) (j : Nat) :
    (if j = k * 8 + 7 then Value.int .i64 h.code else if j = k * 8 + 6 then Value.int .i64 h.at_ else if j = k * 8 + 5 then Value.string h.tag else if j = k * 8 + 4 then Value.string h.anchor else if j = k * 8 + 3 then Value.string h.text else if j = k * 8 + 2 then Value.bool h.flag else if j = k * 8 + 1 then Value.int .i64 h.style else if j = k * 8 then Value.int .i64 h.kind else (cellsE rs)[j]?.getD (zE j)) = (cellsE (rs ++ [h]))[j]?.getD (zE j) := by
  have hl := cellsE_len rs
  rw [cellsE_snoc, List.getElem?_append]
  by_cases h1 : j < (cellsE rs).length
  · rw [if_pos h1]
    repeat rw [if_neg (by omega)]
  · rw [if_neg h1]
    by_cases h9 : j < k * 8 + 8
    · obtain ⟨d, hd, hd8⟩ : ∃ d, j = k * 8 + d ∧ d < 8 := ⟨j - k * 8, by omega, by omega⟩
      have e : j - (cellsE rs).length = d := by omega
      rw [e]
      subst hd
      clear e h1 h9 hl
      rcases (show d = 0 ∨ d = 1 ∨ d = 2 ∨ d = 3 ∨ d = 4 ∨ d = 5 ∨ d = 6 ∨ d = 7 by omega) with rfl | rfl | rfl | rfl | rfl | rfl | rfl | rfl
      all_goals
        (repeat (first | rw [if_pos (by omega)] | rw [if_neg (by omega)]))
        rfl
    · repeat rw [if_neg (by omega)]
      rw [List.getElem?_eq_none (l := cellsE rs) (by omega), List.getElem?_eq_none (l := h.row.toList) (by show 8 ≤ _; omega)]
theorem infoE : (Tryd.prog.info? 44).map (fun i => (i.zero, i.size, i.bytes)) = some (some (.agg zrow), 8, 88) := by kernel_rfl
theorem infoE_parts : ∃ ti, Tryd.prog.info? 44 = some ti ∧ ti.zero = some (.agg zrow) ∧ ti.size = 8 ∧ ti.bytes = 88 := by
  have h := infoE
  cases e : Tryd.prog.info? 44 with
  | none => rw [e] at h; cases h
  | some ti =>
    rw [e] at h
    simp at h
    exact ⟨ti, rfl, h.1, h.2.1, h.2.2⟩
end Go.Proofs.YtgaibajkegfpoaaDoor
/- Whether two events, or two lists of events, are alike: where they are the same. -/
namespace Go.Proofs.YtgaibajkegfpoaaDoor
open Go.ChangeShapes Go.WideShapes Go.ChangeAt Go.RowKit Go.Deep Go.BigFrame
set_option maxHeartbeats 4000000 in
theorem eqE_ (e : Ev) (w : World) :
    Calls Tryd.prog 24 #[.agg e.row, .agg e.row] w fun r w' => r = .returned (.bool true) ∧ Below w.heap.size w w' := by
  obtain ⟨kind, style, flag, text, anchor, tag, at_, code⟩ := e
  show Calls Tryd.prog 24 #[.agg #[.int .i64 kind, .int .i64 style, .bool flag, .string text, .string anchor, .string tag, .int .i64 at_, .int .i64 code], .agg #[.int .i64 kind, .int .i64 style, .bool flag, .string text, .string anchor, .string tag, .int .i64 at_, .int .i64 code]] w fun r w' => r = .returned (.bool true) ∧ Below w.heap.size w w'
  have h1 : (kind != kind) = false := by simp
  have h2 : (style != style) = false := by simp
  have h3 : (flag != flag) = false := by cases flag <;> rfl
  have h4 : (text.toList != text.toList) = false := by simp
  have h5 : (anchor.toList != anchor.toList) = false := by simp
  have h6 : (tag.toList != tag.toList) = false := by simp
  have h7 : (at_ != at_) = false := by simp
  have h8 : (code != code) = false := by simp
  go_enter Tryd.func24, Tryd.ntmps24
  go_wp2_with fail
  go_ret
  exact ⟨rfl, ((Below.refl _ w).alloc (Nat.le_refl _) _).alloc (by simp) _⟩
set_option maxHeartbeats 8000000 in
theorem eqEs_ (w : World) (v u : Value) (es : List Ev) (hV : SlE w v es) (hU : SlE w u es) (hl : es.length ≤ 16777216) :
    Calls Tryd.prog 8 #[v, u] w fun e w' => e = .returned (.bool true) ∧ Below w.heap.size w w' := by
  obtain ⟨a, c, rfl⟩ := hV.sl
  obtain ⟨a', c', rfl⟩ := hU.sl
  have HV : Hid (SlE w (.slice a es.length c) es) := hV
  have HU : Hid (SlE w (.slice a' es.length c') es) := hU
  clear hV hU
  go_enter Tryd.func8, Tryd.ntmps8
  go_wp2_with fail
  go_loopw [5] (fun i wr => ∃ k : Nat, k ≤ es.length ∧ i = .int .i64 k ∧ Below w.heap.size w wr) (fun i _ => es.length - (intOf i).toNat)
  case atStart => exact ⟨0, Nat.zero_le _, rfl, Below.refl _ _⟩
  case round =>
    obtain ⟨k, hk, rfl, hb⟩ := hrel
    by_cases hlt : k < es.length
    · obtain ⟨e, hx⟩ : ∃ h, es[k]? = some h := ⟨_, List.getElem?_eq_getElem hlt⟩
      obtain ⟨b, off, rfl, _, _⟩ := HV.out.at hb hx
      obtain ⟨b', off', rfl, _, _⟩ := HU.out.at hb hx
      have c1 : ∀ m : Bw wr, EvAt m.val b (off + k * 8) e := fun m => by
        obtain ⟨_, _, e1, _, h1⟩ := HV.out.at (hb.trans (m.ok.mono hb.size)) hx
        injection e1 with e1
        injection e1 with e1 e2
        subst e1
        subst e2
        exact h1
      have c2 : ∀ m : Bw wr, EvAt m.val b' (off' + k * 8) e := fun m => by
        obtain ⟨_, _, e1, _, h1⟩ := HU.out.at (hb.trans (m.ok.mono hb.size)) hx
        injection e1 with e1
        injection e1 with e1 e2
        subst e1
        subst e2
        exact h1
      have d0 := fun m => (c1 m).c0
      have d1 := fun m => (c1 m).c1
      have d2 := fun m => (c1 m).c2
      have d3 := fun m => (c1 m).c3
      have d4 := fun m => (c1 m).c4
      have d5 := fun m => (c1 m).c5
      have d6 := fun m => (c1 m).c6
      have d7 := fun m => (c1 m).c7
      have g0 := fun m => (c2 m).c0
      have g1 := fun m => (c2 m).c1
      have g2 := fun m => (c2 m).c2
      have g3 := fun m => (c2 m).c3
      have g4 := fun m => (c2 m).c4
      have g5 := fun m => (c2 m).c5
      have g6 := fun m => (c2 m).c6
      have g7 := fun m => (c2 m).c7
      have hE := Bw.calls (w := wr) (fun w' _ => eqE_ e w')
      have hne := Bw.some wr
      have hlt' : (k : Int) < (es.length : Int) := by omega
      clear hx c1 c2
      obtain ⟨kind, style, flag, text, anchor, tag, at_, code⟩ := e
      unfold Ev.row at hE
      go_wp2_with fail
      refine wp_region_bw (w0 := wr) (by kernel_rfl) (by kernel_rfl) (Below.refl _ _) ?_
      repeat (go_big_quiet_step ((go_at_call 24; exact hE _)))
      refine wpQuiet_nil ?_
      rintro _ ⟨m, rfl⟩
      have hB1 : Below w.heap.size w m.val := hb.trans (m.ok.mono hb.size)
      generalize m.val = w1 at *
      clear d0 d1 d2 d3 d4 d5 d6 d7 g0 g1 g2 g3 g4 g5 g6 g7 hE hne
      go_wp2_with fail
      go_roundw
      case rel => exact ⟨k + 1, hlt, by go_num, hB1⟩
      case measure => simp [intOf]; omega
    · go_wp2_with fail
      go_ret
      exact ⟨rfl, hb⟩
end Go.Proofs.YtgaibajkegfpoaaDoor
