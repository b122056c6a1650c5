/- The program asks of a graph what can be asked without going through it. -/
import Derived.Test.YtgaibajkegfpoaaDoorGvp
import Derived.Deep.LoopGhost
namespace Go.Proofs.YtgaibajkegfpoaaDoor
open Go.ChangeShapes Go.WideShapes Go.ChangeAt Go.RowKit Go.Deep
theorem al_belowG (w : World) (o : Obj) : Below w.heap.size w (w.alloc o) := (Below.refl _ w).alloc (Nat.le_refl _) _
theorem hidG {p : Prop} (h : p) : Hid p := h
/-- How many numbers stand ahead of one that is no place. -/
def badIx (m : Nat) : List Int → Nat
  | [] => 0
  | k :: t => if 0 ≤ k ∧ k < (m : Int) then badIx m t + 1 else 0
theorem badIx_le (m : Nat) : ∀ l : List Int, badIx m l ≤ l.length
  | [] => Nat.le_refl _
  | x :: r => by
    have := badIx_le m r
    rw [badIx]
    split
    · show _ ≤ r.length + 1; omega
    · exact Nat.zero_le _
theorem badIx_no (m : Nat) : ∀ (l : List Int) (j : Nat) (x : Int), j < badIx m l → l[j]? = some x → 0 ≤ x ∧ x < (m : Int)
  | [], j, x, hj, _ => by cases hj
  | y :: r, j, x, hj, hx => by
    rw [badIx] at hj
    split at hj
    · rename_i h
      cases j with
      | zero => simp at hx; subst hx; exact h
      | succ j => exact badIx_no m r j x (by omega) (by simpa using hx)
    · cases hj
theorem badIx_at (m : Nat) : ∀ (l : List Int) (x : Int), l[badIx m l]? = some x → ¬ (0 ≤ x ∧ x < (m : Int))
  | [], x, hx => by cases hx
  | y :: r, x, hx => by
    rw [badIx] at hx
    split at hx
    · exact badIx_at m r x (by simpa using hx)
    · rename_i h
      simp at hx
      subst hx
      exact h
theorem badIx_kids (m : Nat) (l : List Int) : kidsIn m l = !decide (badIx m l < l.length) := by
  by_cases h : badIx m l < l.length
  · rw [decide_eq_true h]
    exact kids_no (List.getElem?_eq_getElem h) (badIx_at m l _ (List.getElem?_eq_getElem h))
  · rw [decide_eq_false h]
    refine kids_yes fun k x hx => badIx_no m l k x ?_ hx
    have := (List.getElem?_eq_some_iff.1 hx).1
    have := badIx_le m l
    omega
set_option maxHeartbeats 4000000 in
theorem placeC_any (x : Int) (m : Nat) (B : Nat) (w : World) (hB : w.heap[B]? = some (.cells #[.int .i64 (m : Int)] 3 (0, 0))) (r : Bool) (hr : decide (0 ≤ x ∧ x < (m : Int)) = r) :
    Calls Tryd.prog 49 #[.int .i64 x, .pointer (some ⟨B, 0, none⟩)] w fun e w' => e = .returned (.bool (!r)) ∧ Below w.heap.size w w' := by
  have c0 : w.cell? ⟨B, 0, none⟩ = some (.int .i64 (m : Int)) := Lib.cell_of_heap hB 0
  have HB := hidG (Below.refl w.heap.size w)
  clear hB
  by_cases h0 : x < 0
  · obtain rfl : false = r := by rw [← hr]; exact (decide_eq_false (by omega)).symm
    clear hr
    go_enter Tryd.func49, Tryd.ntmps49
    go_wp2_with fail
    go_ret
    exact ⟨rfl, HB.out⟩
  by_cases h1 : x < (m : Int)
  · obtain rfl : true = r := by rw [← hr]; exact (decide_eq_true (by omega)).symm
    have h2 : ¬ x ≥ (m : Int) := by omega
    have h3 : ¬ (m : Int) ≤ x := by omega
    clear hr
    go_enter Tryd.func49, Tryd.ntmps49
    go_wp2_with fail
    go_ret
    exact ⟨rfl, HB.out⟩
  · obtain rfl : false = r := by rw [← hr]; exact (decide_eq_false (by omega)).symm
    have h3 : (m : Int) ≤ x := by omega
    clear hr
    go_enter Tryd.func49, Tryd.ntmps49
    go_wp2_with fail
    go_ret
    exact ⟨rfl, HB.out⟩
set_option maxRecDepth 100000 in
set_option maxHeartbeats 4000000 in
theorem idxI_any (m : Nat) (B : Nat) (w : World) (v : Value) (l : List Int) (hV : IlAt w v l) (hl : l.length ≤ 1048576) (hB : w.heap[B]? = some (.cells #[.int .i64 (m : Int)] 3 (0, 0))) :
    Calls Tryd.prog 52 #[v, .func (.func 49) #[] #[.pointer (some ⟨B, 0, none⟩)]] w fun e w' => e = .returned (.int .i64 (if badIx m l < l.length then ((badIx m l : Nat) : Int) else -1)) ∧ Below w.heap.size w w' := by
  obtain ⟨a, c, rfl⟩ := hV.sl
  have HV : Hid (IlAt w (.slice a l.length c) l ∧ w.heap[B]? = some (.cells #[.int .i64 (m : Int)] 3 (0, 0)) ∧ B < w.heap.size) := ⟨hV, hB, (Array.getElem?_eq_some_iff.1 hB).1⟩
  obtain ⟨R, hR⟩ : ∃ R : Int, (if badIx m l < l.length then ((badIx m l : Nat) : Int) else -1) = R := ⟨_, rfl⟩
  have HR : Hid ((badIx m l < l.length → ((badIx m l : Nat) : Int) = R) ∧ (¬ badIx m l < l.length → -1 = R) ∧ badIx m l ≤ l.length) := ⟨fun h => by rw [← hR, if_pos h], fun h => by rw [← hR, if_neg h], badIx_le m l⟩
  have hlI : (l.length : Int) ≤ 1048576 := by omega
  rw [hR]
  clear hV hB hR hl
  go_enter Tryd.func52, Tryd.ntmps52
  go_wp2_with fail
  go_loopw [5, 8] (fun _ i wr => ∃ j : Nat, Hid (j ≤ badIx m l) ∧ j ≤ l.length ∧ i = .int .i64 (j : Int) ∧ Hid (Below w.heap.size w wr)) (fun _ i _ => l.length - (intOf i).toNat)
  case atStart => exact ⟨0, Nat.zero_le _, Nat.zero_le _, rfl, Below.refl _ _⟩
  case round =>
    obtain ⟨j, HJ, hj, rfl, HB⟩ := hrel
    by_cases hlt : j < l.length
    · have hlt' : (j : Int) < (l.length : Int) := by omega
      obtain ⟨x, hx⟩ : ∃ x, l[j]? = some x := ⟨_, List.getElem?_eq_getElem hlt⟩
      obtain ⟨b, off, rfl, hbl, c1⟩ := HV.out.1.at hx
      rw [← HB.out.cell hbl] at c1
      have hBr := (HB.out.block B HV.out.2.2).trans HV.out.2.1
      by_cases he : j = badIx m l
      · have cH := placeC_any x m B wr hBr false (decide_eq_false (badIx_at m l x (by rw [← he]; exact hx)))
        have HE : Hid (((j : Nat) : Int) = R) := by show _ = _; rw [he]; exact HR.out.1 (by omega)
        clear he HJ hx hBr hbl
        go_wp2_with fail
        refine cH.mono ?_
        rintro e w1 ⟨rfl, hb1⟩
        have HB1 := hidG (HB.out.trans (hb1.mono HB.out.size))
        clear hb1
        go_wp2_with fail
        go_ret
        refine ⟨?_, HB1.out⟩
        rw [← HE.out]
        rfl
      · have cH := placeC_any x m B wr hBr true (decide_eq_true (badIx_no m l j x (by have := HJ.out; omega) hx))
        have HJ2 : Hid (j + 1 ≤ badIx m l) := by have := HJ.out; show _ ≤ _; omega
        clear he HJ hx hBr hbl
        go_wp2_with fail
        refine cH.mono ?_
        rintro e w1 ⟨rfl, hb1⟩
        have HB1 := hidG (HB.out.trans (hb1.mono HB.out.size))
        clear hb1
        go_wp2_with fail
        go_roundw
        case rel => exact ⟨j + 1, HJ2, hlt, by go_num, HB1⟩
        case measure => simp [intOf]; omega
    · have hlt' : ¬ (j : Int) < (l.length : Int) := by omega
      go_wp2_with fail
      go_ret
      refine ⟨?_, HB.out⟩
      rw [← HR.out.2.1 (by have := HJ.out; omega)]
      rfl
set_option maxHeartbeats 4000000 in
theorem contI_any (m : Nat) (B : Nat) (w : World) (v : Value) (l : List Int) (hV : IlAt w v l) (hl : l.length ≤ 1048576) (hB : w.heap[B]? = some (.cells #[.int .i64 (m : Int)] 3 (0, 0))) (r : Bool) (hr : kidsIn m l = r) :
    Calls Tryd.prog 48 #[v, .func (.func 49) #[] #[.pointer (some ⟨B, 0, none⟩)]] w fun e w' => e = .returned (.bool (!r)) ∧ Below w.heap.size w w' := by
  have cI := idxI_any m B w v l hV hl hB
  rw [badIx_kids] at hr
  clear hV hB
  by_cases h : badIx m l < l.length
  · rw [if_pos h] at cI
    obtain rfl : false = r := by rw [← hr, decide_eq_true h]; rfl
    have h0 : (0 : Int) ≤ ((badIx m l : Nat) : Int) := by omega
    clear h hr
    go_enter Tryd.func48, Tryd.ntmps48
    go_wp2_with fail
    refine cI.mono ?_
    rintro e w1 ⟨rfl, hb1⟩
    have HB1 := hidG hb1
    clear hb1
    go_wp2_with fail
    go_ret
    exact ⟨rfl, HB1.out⟩
  · rw [if_neg h] at cI
    obtain rfl : true = r := by rw [← hr, decide_eq_false h]; rfl
    clear h hr
    go_enter Tryd.func48, Tryd.ntmps48
    go_wp2_with fail
    refine cI.mono ?_
    rintro e w1 ⟨rfl, hb1⟩
    have HB1 := hidG hb1
    clear hb1
    go_wp2_with fail
    go_ret
    exact ⟨rfl, HB1.out⟩
set_option maxHeartbeats 4000000 in
theorem placesOk_any (m : Nat) (w : World) (v : Value) (l : List Int) (hV : IlAt w v l) (hl : l.length ≤ 1048576) (r : Bool) (hr : kidsIn m l = r) :
    Calls Tryd.prog 42 #[v, .int .i64 (m : Int)] w fun e w' => e = .returned (.bool r) ∧ Below w.heap.size w w' := by
  have HB := hidG (al_belowG w (.cells #[.int .i64 (m : Int)] 3))
  have cI := contI_any m w.heap.size (w.alloc (.cells #[.int .i64 (m : Int)] 3)) v l (hV.later HB.out) hl (heap_alloc_new w _) r hr
  obtain ⟨a, c, rfl⟩ := hV.sl
  clear hV hr
  go_enter Tryd.func42, Tryd.ntmps42
  go_wp2_with fail
  refine cI.mono ?_
  rintro e w1 ⟨rfl, hb1⟩
  have HB1 := hidG (HB.out.trans (hb1.mono HB.out.size))
  clear hb1 cI
  cases r
  all_goals
    go_wp2_with fail
    go_ret
    exact ⟨rfl, HB1.out⟩
end Go.Proofs.YtgaibajkegfpoaaDoor
