/- Scalars in quotes: what SingleAt answers, as plain functions; rows of bytes that the call owns. -/
import Derived.Test.YtjpcmmfmdoglkalGreatDoorPap
import Derived.Test.YtjpcmmfmdoglkalGreatDoorPsh
import Derived.Lib.SlBytesRow
import Derived.Lib.AppendStr
namespace Go.Proofs.YtjpcmmfmdoglkalGreatDoor
open Go.RowKit
/-- How many bytes are left without the white at the end, of which keep must stay. -/
def cutN (b : ByteArray) (keep : Nat) : Nat → Nat
  | 0 => 0
  | k + 1 => if keep < k + 1 ∧ pW (bt b k) = true then cutN b keep k else k + 1
def cutB (b : ByteArray) (keep : Nat) : ByteArray := b.extract 0 (cutN b keep b.size)
theorem cutN_le (b : ByteArray) (keep : Nat) : ∀ k, cutN b keep k ≤ k
  | 0 => Nat.le_refl _
  | k + 1 => by
    rw [cutN]
    split
    · exact Nat.le_trans (cutN_le b keep k) (by omega)
    · exact Nat.le_refl _
theorem cutN_step {b : ByteArray} {keep k : Nat} (h0 : keep < k + 1) (h : pW (bt b k) = true) : cutN b keep (k + 1) = cutN b keep k := by rw [cutN, if_pos ⟨h0, h⟩]
theorem cutN_stop {b : ByteArray} {keep k : Nat} (h : ¬ (keep < k + 1 ∧ pW (bt b k) = true)) : cutN b keep (k + 1) = k + 1 := by rw [cutN, if_neg h]
theorem cutN_low {b : ByteArray} {keep k : Nat} (h : k ≤ keep) : cutN b keep k = k := by
  cases k with
  | zero => rfl
  | succ k => exact cutN_stop (by omega)
theorem cutB_size (b : ByteArray) (keep : Nat) : (cutB b keep).size ≤ b.size := by
  unfold cutB
  rw [ByteArray.size_extract]
  have := cutN_le b keep b.size
  omega
/-- One byte. -/
def b1 (x : Nat) : ByteArray := ⟨#[x.toUInt8]⟩
/-- SingleAt from i on, with the pieces l and the bytes cur. -/
def sgGo (s : ByteArray) : Nat → Nat → List Pc → ByteArray → ByteArray × Nat × Nat
  | 0, _, _, _ => (ByteArray.empty, s.size, 3)
  | f + 1, i, l, cur =>
    if s.size ≤ i then (ByteArray.empty, s.size, 3)
    else if bt s i = 39 then
      if i + 1 < s.size ∧ bt s (i + 1) = 39 then sgGo s f (i + 2) l (cur ++ b1 39)
      else (foldFlow (l ++ [(cur, false)]), i + 1, 0)
    else if bt s i = 10 then
      if 0 < markN s (i + 1) then (ByteArray.empty, i + 1, 4)
      else sgGo s f (wh s (i + 1)) (l ++ [(cutB cur 0, false)]) ByteArray.empty
    else sgGo s f (i + 1) l (cur ++ b1 (bt s i))
def sgAt (s : ByteArray) (k : Nat) : ByteArray × Nat × Nat :=
  if s.size ≤ k ∨ bt s k ≠ 39 then (ByteArray.empty, k, 10) else sgGo s (s.size + 1) (k + 1) [] ByteArray.empty
theorem b1_get (s : ByteArray) (i : Nat) (h : i < s.size) : Lib.strCells (b1 (bt s i)) = [.int .u8 ((s[i]'h).toNat : Int)] := by
  unfold Lib.strCells b1
  rw [← bt_get s i h]
  simp
theorem strCells_snoc (b c : ByteArray) : Lib.strCells (b ++ c) = Lib.strCells b ++ Lib.strCells c := by
  unfold Lib.strCells
  rw [ByteArray.data_append, Array.toList_append, List.map_append]
/-- A row of bytes that the call owns, as bytes. -/
theorem bytes_own {w : World} {lo g cap : Nat} {b : ByteArray} {e : TypeId} (h : w.ownsRow lo e 1 (.slice (some ⟨g, 0, none⟩) b.size cap) b.size (Lib.strCells b)) : Lib.Bytes w g 0 b := by
  intro i hi
  have hx : (Lib.strCells b)[i]? = some (.int .u8 ((b[i]'hi).toNat : Int)) := by
    unfold Lib.strCells
    have hl : i < b.data.toList.length := by simpa using hi
    rw [List.getElem?_map, List.getElem?_eq_getElem hl]
    rfl
  have h1 := h.cells (g := g) rfl i _ hx
  have e1 : (⟨g, 0, none⟩ : Addr).add i = ⟨g, 0 + i, none⟩ := by unfold Addr.add; split <;> simp_all
  rw [e1] at h1
  exact h1
/-- Two rows of different types lie apart. -/
theorem rows_apart {w : World} {lo lo' e e' sz sz' : Nat} {v v' : Value} {n n' : Nat} {xs xs' : List Value} (h : w.ownsRow lo e sz v n xs) (h' : w.ownsRow lo' e' sz' v' n' xs') (hne : e ≠ e') : ∀ b, v.ownBlock = some b → v'.ownBlock ≠ some b := by
  intro b hb hb'
  rcases h.2 with ⟨rfl, _⟩ | ⟨g, cap, cur, rfl, _, hg, _⟩
  · simp [Value.ownBlock] at hb
  · rcases h'.2 with ⟨rfl, _⟩ | ⟨g', cap', cur', rfl, _, hg', _⟩
    · simp [Value.ownBlock] at hb'
    · simp [Value.ownBlock] at hb hb'
      subst hb
      subst hb'
      rw [hg] at hg'
      simp at hg'
      exact hne hg'.2
/-- A row stays where another one, apart from it, is grown. -/
theorem row_beside {w w' : World} {lo e sz : Nat} {v v' : Value} {n : Nat} {xs : List Value} (h : w.ownsRow lo e sz v n xs) (hb : ∀ b, b < w.heap.size → v'.ownBlock ≠ some b → w'.heap[b]? = w.heap[b]?) (hap : ∀ b, v.ownBlock = some b → v'.ownBlock ≠ some b) : w'.ownsRow lo e sz v n xs := by
  refine ⟨h.1, ?_⟩
  rcases h.2 with hn | ⟨g, cap, cur, rfl, hlo, hg, rest⟩
  · exact .inl hn
  · exact .inr ⟨g, cap, cur, rfl, hlo, (hb g (Array.getElem?_eq_some_iff.1 hg).1 (hap g rfl)).trans hg, rest⟩
end Go.Proofs.YtjpcmmfmdoglkalGreatDoor
