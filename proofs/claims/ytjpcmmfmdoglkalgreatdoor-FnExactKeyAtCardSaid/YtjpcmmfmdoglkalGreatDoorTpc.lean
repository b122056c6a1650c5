/- A list of pieces that came in: how large it is, a copy of it in new memory, whether two are alike. -/
import Derived.Test.YtjpcmmfmdoglkalGreatDoorSls
import Derived.Test.YtjpcmmfmdoglkalGreatDoorBwr
import Derived.Test.YtjpcmmfmdoglkalGreatDoorProg
import Derived.WalkLawsBesides
import Derived.WalkSpells
import Derived.WalkMore
import Derived.Deep.OwnRows
import Derived.Laws.MakeOwn
import Derived.Deep.RegionWith
import Derived.Deep.QuietTactic
import Derived.OwnWalk
namespace Go.Proofs.YtjpcmmfmdoglkalGreatDoor
open Go.ChangeShapes Go.WideShapes Go.ChangeAt Go.RowKit Go.Deep Go.BigFrame
def SzC (ps : List Pc) (w : World) (e : Ending) (w' : World) : Prop :=
  (∃ r : Int, e = .returned (.int .i64 r) ∧ (r = -1 ∨ (0 ≤ r ∧ totC ps + ps.length ≤ 1048576))) ∧ Below w.heap.size w w'
/-- The cells of a list of pieces. -/
def cellsC (ps : List Pc) : List Value := ps.flatMap (fun h => [.string h.1, .bool h.2])
theorem cellsC_len : ∀ ps : List Pc, (cellsC ps).length = ps.length * 2
  | [] => rfl
  | h :: t => by
    have := cellsC_len t
    unfold cellsC at *
    simp only [List.flatMap_cons, List.length_append, List.length_cons, List.length_nil, this]
    omega
theorem cellsC_at : ∀ {ps : List Pc} {i : Nat} {h : Pc}, ps[i]? = some h → (cellsC ps)[i * 2]? = some (.string h.1) ∧ (cellsC ps)[i * 2 + 1]? = some (.bool h.2)
  | [], i, h, e => by simp at e
  | x :: t, 0, h, e => by
    obtain rfl : x = h := by simpa using e
    exact ⟨rfl, rfl⟩
  | x :: t, i + 1, h, e => by
    have := cellsC_at (ps := t) (i := i) (h := h) (by simpa using e)
    have e1 : cellsC (x :: t) = .string x.1 :: .bool x.2 :: cellsC t := rfl
    rw [e1]
    have e2 : (i + 1) * 2 = i * 2 + 1 + 1 := by omega
    rw [e2]
    simpa using this
theorem cellsC_snoc (rs : List Pc) (h : Pc) : cellsC (rs ++ [h]) = cellsC rs ++ [.string h.1, .bool h.2] := by simp [cellsC]
def zC (j : Nat) : Value := if j % 2 = 0 then .string ByteArray.empty else .bool false
theorem cellsC_step {rs : List Pc} {k : Nat} (hk : rs.length = k) (h : Pc) (j : Nat) :
    (if j = k * 2 + 1 then Value.bool h.2 else if j = k * 2 then Value.string h.1 else (cellsC rs)[j]?.getD (zC j)) = (cellsC (rs ++ [h]))[j]?.getD (zC j) := by
  have hl := cellsC_len rs
  rw [cellsC_snoc, List.getElem?_append]
  by_cases h1 : j < (cellsC rs).length
  · rw [if_pos h1, if_neg (by omega), if_neg (by omega)]
  · rw [if_neg h1]
    by_cases h2 : j = k * 2
    · rw [if_neg (by omega), if_pos h2]
      have : j - (cellsC rs).length = 0 := by omega
      rw [this]; rfl
    · by_cases h3 : j = k * 2 + 1
      · rw [if_pos h3]
        have : j - (cellsC rs).length = 1 := by omega
        rw [this]; rfl
      · rw [if_neg h3, if_neg h2]
        rw [List.getElem?_eq_none (l := cellsC rs) (by omega), List.getElem?_eq_none (l := [Value.string h.1, Value.bool h.2]) (by simp only [List.length_cons, List.length_nil]; omega)]
theorem infoC : (Tryz.prog.info? 92).map (fun i => (i.zero, i.size, i.bytes)) = some (some (.agg #[.string ByteArray.empty, .bool false]), 2, 24) := by kernel_rfl
theorem infoC_parts : ∃ ti, Tryz.prog.info? 92 = some ti ∧ ti.zero = some (.agg #[.string ByteArray.empty, .bool false]) ∧ ti.size = 2 ∧ ti.bytes = 24 := by
  have h := infoC
  cases e : Tryz.prog.info? 92 with
  | none => rw [e] at h; cases h
  | some ti =>
    rw [e] at h
    simp at h
    exact ⟨ti, rfl, h.1, h.2.1, h.2.2⟩
end Go.Proofs.YtjpcmmfmdoglkalGreatDoor
