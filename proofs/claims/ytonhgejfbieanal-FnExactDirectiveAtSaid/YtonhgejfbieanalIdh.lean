/- The first word that begins with a #: slices.IndexFunc over the words. -/
import Derived.Test.YtonhgejfbieanalDfw
import Derived.Test.YtonhgejfbieanalOvr
import Derived.Deep.LoopGhost
namespace Go.Proofs.Ytonhgejfbieanal
open Go.ChangeShapes Go.WideShapes Go.ChangeAt Go.RowKit Go.Shelf
set_option maxRecDepth 100000 in
set_option maxHeartbeats 4000000 in
theorem dirHash_any (x : ByteArray) (w : World) (h : 0 < x.size) (b : Bool) (hb : (bt x 0 == 35) = b) :
    Calls Try.prog 31 #[.string x] w fun e w' => e = .returned (.bool b) ∧ w' = w := by
  have hbt : bt x 0 = (x[0]'h).toNat := by
    unfold bt
    rw [getElem!_pos x.data 0 h]
    rfl
  have hxs : (0 : Int) < (x.size : Int) := by omega
  have hE : ((((x[0]'h).toNat : Nat) : Int) == 35) = b := by
    rw [← hb, hbt]
    by_cases e : (x[0]'h).toNat = 35
    · rw [e]; rfl
    · rw [show ((x[0]'h).toNat == 35) = false by simpa using e]
      simp
      omega
  clear hb hbt
  go_enter Try.func31, Try.ntmps31
  go_wp2_with fail
  go_ret
  refine ⟨?_, rfl⟩
  first
  | rw [hE]
  | (rw [← hE]; rfl)
  | (simp [hE])
/-- How many words stand ahead of one that begins with a #. -/
def cutN : List ByteArray → Nat
  | [] => 0
  | x :: r => if bt x 0 == 35 then 0 else cutN r + 1
theorem cutN_le : ∀ l : List ByteArray, cutN l ≤ l.length
  | [] => Nat.le_refl _
  | x :: r => by
    have := cutN_le r
    rw [cutN]
    split
    · exact Nat.zero_le _
    · show _ ≤ r.length + 1; omega
theorem cutN_no : ∀ (l : List ByteArray) (j : Nat) (x : ByteArray), j < cutN l → l[j]? = some x → (bt x 0 == 35) = false
  | [], j, x, hj, _ => by cases hj
  | y :: r, j, x, hj, hx => by
    rw [cutN] at hj
    split at hj
    · cases hj
    · rename_i h
      cases j with
      | zero => simp at hx; subst hx; simpa using h
      | succ j => exact cutN_no r j x (by omega) (by simpa using hx)
theorem cutN_at : ∀ (l : List ByteArray) (x : ByteArray), l[cutN l]? = some x → (bt x 0 == 35) = true
  | [], x, hx => by cases hx
  | y :: r, x, hx => by
    rw [cutN] at hx
    split at hx
    · rename_i h
      simp at hx
      subst hx
      exact h
    · exact cutN_at r x (by simpa using hx)
set_option maxRecDepth 100000 in
set_option maxHeartbeats 4000000 in
theorem idxHash_any (lo A : Nat) (l : List ByteArray) (w : World) (hO : w.ownsRow lo 9 1 (.slice (some ⟨A, 0, none⟩) l.length l.length) l.length (celS l)) (hl : l.length ≤ 2000000) (hne : ∀ x ∈ l, 0 < x.size) :
    Calls Try.prog 30 #[.slice (some ⟨A, 0, none⟩) l.length l.length, .func (.func 31) #[] #[]] w fun e w' => e = .returned (.int .i64 (if cutN l < l.length then ((cutN l : Nat) : Int) else -1)) ∧ w' = w := by
  have HC : Hid (∀ (j : Nat) (x : ByteArray), l[j]? = some x → w.cell? ⟨A, j, none⟩ = some (.string x)) := fun j x hx => by
    have hj : j < l.length := (List.getElem?_eq_some_iff.1 hx).1
    have := hO.cellAt j (by simpa using hj)
    rw [this]
    unfold celS
    rw [List.getElem?_map, hx]
    rfl
  have HN : Hid (∀ (j : Nat) (x : ByteArray), l[j]? = some x → 0 < x.size) := fun j x hx => hne x (List.mem_of_getElem? hx)
  obtain ⟨R, hR⟩ : ∃ R : Int, (if cutN l < l.length then ((cutN l : Nat) : Int) else -1) = R := ⟨_, rfl⟩
  have HR : Hid ((cutN l < l.length → ((cutN l : Nat) : Int) = R) ∧ (¬ cutN l < l.length → -1 = R) ∧ cutN l ≤ l.length) := ⟨fun h => by rw [← hR, if_pos h], fun h => by rw [← hR, if_neg h], cutN_le l⟩
  rw [hR]
  clear hO hne hR
  go_enter Try.func30, Try.ntmps30
  go_wp2_with fail
  go_loopw [5, 8] (fun _ i wr => ∃ j : Nat, Hid (j ≤ cutN l) ∧ j ≤ l.length ∧ i = .int .i64 (j : Int) ∧ wr = w) (fun _ i _ => l.length - (intOf i).toNat)
  case atStart => exact ⟨0, Nat.zero_le _, Nat.zero_le _, rfl, rfl⟩
  case round =>
    obtain ⟨j, HJ, hj, rfl, rfl⟩ := hrel
    by_cases hlt : j < l.length
    · have hlt' : (j : Int) < (l.length : Int) := by omega
      obtain ⟨x, hx⟩ : ∃ x, l[j]? = some x := ⟨_, List.getElem?_eq_getElem hlt⟩
      have hc := HC.out j x hx
      by_cases he : j = cutN l
      · have cH := dirHash_any x wr (HN.out j x hx) true (cutN_at l x (by rw [← he]; exact hx))
        have HE : Hid (((j : Nat) : Int) = R) := by show _ = _; rw [he]; exact HR.out.1 (by omega)
        clear he HJ hx
        go_wp2_with fail
        refine cH.mono ?_
        rintro e w1 ⟨rfl, rfl⟩
        go_wp2_with fail
        go_ret
        refine ⟨?_, rfl⟩
        rw [← HE.out]
        rfl
      · have cH := dirHash_any x wr (HN.out j x hx) false (cutN_no l j x (by have := HJ.out; omega) hx)
        have HJ2 : Hid (j + 1 ≤ cutN l) := by have := HJ.out; show _ ≤ _; omega
        clear he HJ hx
        go_wp2_with fail
        refine cH.mono ?_
        rintro e w1 ⟨rfl, rfl⟩
        go_wp2_with fail
        go_roundw
        case rel => exact ⟨j + 1, HJ2, hlt, by go_num, by first | rfl | trivial⟩
        case measure => simp [intOf]; omega
    · have hlt' : ¬ (j : Int) < (l.length : Int) := by omega
      go_wp2_with fail
      go_ret
      refine ⟨?_, rfl⟩
      rw [← HR.out.2.1 (by have := HJ.out; omega)]
      rfl
end Go.Proofs.Ytonhgejfbieanal
