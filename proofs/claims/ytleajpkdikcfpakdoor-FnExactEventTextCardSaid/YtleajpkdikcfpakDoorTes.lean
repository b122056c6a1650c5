/- A list of events that came in: how large it is, a copy of it in new memory, whether two are alike. -/
import Derived.Test.YtleajpkdikcfpakDoorTez
import Derived.Test.YtleajpkdikcfpakDoorBwr
import Derived.Deep.OwnRows
import Derived.Laws.MakeOwn
import Derived.Deep.RegionWith
import Derived.Deep.QuietTactic
import Derived.OwnWalk
namespace Go.Proofs.YtleajpkdikcfpakDoor
open Go.ChangeShapes Go.WideShapes Go.ChangeAt Go.RowKit Go.Deep Go.BigFrame
def SzEs (es : List Ev) (w : World) (e : Ending) (w' : World) : Prop :=
  (∃ r : Int, e = .returned (.int .i64 r) ∧ (r = -1 ∨ (0 ≤ r ∧ totE es + es.length ≤ 1048576))) ∧ Below w.heap.size w w'
/-- The cells of a list of events. -/
def cellsE (es : List Ev) : List Value := es.flatMap (fun e => e.row.toList)
theorem cellsE_len : ∀ es : List Ev, (cellsE es).length = es.length * 8
  | [] => rfl
  | h :: t => by
    have := cellsE_len t
    have h8 : h.row.toList.length = 8 := rfl
    unfold cellsE at *
    simp only [List.flatMap_cons, List.length_append, List.length_cons, this, h8]
    omega
theorem cellsE_at : ∀ {es : List Ev} {i : Nat} {e : Ev}, es[i]? = some e → ∀ j u, e.row[j]? = some u → (cellsE es)[i * 8 + j]? = some u
  | [], i, h, e => by simp at e
  | x :: t, 0, h, e => by
    obtain rfl : x = h := by simpa using e
    intro j u hu
    have hj : j < 8 := (Array.getElem?_eq_some_iff.1 hu).1
    show (x.row.toList ++ cellsE t)[0 * 8 + j]? = some u
    rw [List.getElem?_append_left (by show 0 * 8 + j < 8; omega)]
    simpa using hu
  | x :: t, i + 1, h, e => by
    intro j u hu
    have := cellsE_at (es := t) (i := i) (e := h) (by simpa using e) j u hu
    show (x.row.toList ++ cellsE t)[(i + 1) * 8 + j]? = some u
    have h8 : x.row.toList.length = 8 := rfl
    rw [List.getElem?_append_right (by rw [h8]; omega), h8, show (i + 1) * 8 + j - 8 = i * 8 + j by omega]
    exact this
theorem cellsE_snoc (rs : List Ev) (h : Ev) : cellsE (rs ++ [h]) = cellsE rs ++ h.row.toList := by simp [cellsE]
def zrow : Array Value := #[.int .i64 0, .int .i64 0, .bool false, .string ByteArray.empty, .string ByteArray.empty, .string ByteArray.empty, .int .i64 0, .int .i64 0]
def zE (j : Nat) : Value := zrow[j % 8]!
theorem cellsE_step {rs : List Ev} {k : Nat} (hk : rs.length = k) (h : Ev) (j : Nat) :
    (if j = k * 8 + 7 then Value.int .i64 h.code else if j = k * 8 + 6 then Value.int .i64 h.at_ else if j = k * 8 + 5 then Value.string h.tag else if j = k * 8 + 4 then Value.string h.anchor else if j = k * 8 + 3 then Value.string h.text else if j = k * 8 + 2 then Value.bool h.flag else if j = k * 8 + 1 then Value.int .i64 h.style else if j = k * 8 then Value.int .i64 h.kind else (cellsE rs)[j]?.getD (zE j)) = (cellsE (rs ++ [h]))[j]?.getD (zE j) := by
  have hl := cellsE_len rs
  rw [cellsE_snoc, List.getElem?_append]
  by_cases h1 : j < (cellsE rs).length
  · rw [if_pos h1]
    repeat rw [if_neg (by omega)]
  · rw [if_neg h1]
    by_cases h9 : j < k * 8 + 8
    · obtain ⟨d, hd, hd8⟩ : ∃ d, j = k * 8 + d ∧ d < 8 := ⟨j - k * 8, by omega, by omega⟩
      have e : j - (cellsE rs).length = d := by omega
      rw [e]
      subst hd
      clear e h1 h9 hl
      rcases (show d = 0 ∨ d = 1 ∨ d = 2 ∨ d = 3 ∨ d = 4 ∨ d = 5 ∨ d = 6 ∨ d = 7 by omega) with rfl | rfl | rfl | rfl | rfl | rfl | rfl | rfl
      all_goals
        (repeat (first | rw [if_pos (by omega)] | rw [if_neg (by omega)]))
        rfl
    · repeat rw [if_neg (by omega)]
      rw [List.getElem?_eq_none (l := cellsE rs) (by omega), List.getElem?_eq_none (l := h.row.toList) (by show 8 ≤ _; omega)]
theorem infoE : (Tryd.prog.info? 31).map (fun i => (i.zero, i.size, i.bytes)) = some (some (.agg zrow), 8, 88) := by kernel_rfl
theorem infoE_parts : ∃ ti, Tryd.prog.info? 31 = some ti ∧ ti.zero = some (.agg zrow) ∧ ti.size = 8 ∧ ti.bytes = 88 := by
  have h := infoE
  cases e : Tryd.prog.info? 31 with
  | none => rw [e] at h; cases h
  | some ti =>
    rw [e] at h
    simp at h
    exact ⟨ti, rfl, h.1, h.2.1, h.2.2⟩
end Go.Proofs.YtleajpkdikcfpakDoor
