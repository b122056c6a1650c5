/- The program's names, and slices.BinarySearch over a list of rising numbers. -/
import Derived.Test.YtgaibajkegfpoaaDoorGtr
import Derived.Test.YtgaibajkegfpoaaDoorInu
import Derived.Lib.Walk
import Derived.Deep.LoopGhost
namespace Go.Proofs.YtgaibajkegfpoaaDoor
open Go.ChangeShapes Go.WideShapes Go.ChangeAt Go.RowKit Go.Deep Go.Lib
theorem nt_smallI (n : Int) : (nt n).size ≤ 10 := by
  unfold nt
  split
  · show 0 ≤ 10; omega
  · rename_i h
    have := dec_len n.toNat (by omega)
    simpa [ByteArray.size] using this
set_option maxHeartbeats 4000000 in
theorem nameOf_any (i : Nat) (w : World) (hV : TabV w) : Calls Tryd.prog 46 #[.int .i64 (i : Int)] w fun e w' => e = .returned (.string (nmN i)) ∧ Below w.heap.size w w' := by
  have cN := impl_nt (i : Int) w hV
  have hzn := nt_smallI (i : Int)
  have HNM : Hid (⟨#[110]⟩ ++ nt (i : Int) = nmN i) := rfl
  clear hV
  go_enter Tryd.func46, Tryd.ntmps46
  go_wp2_with fail
  refine cN.mono ?_
  rintro e w1 ⟨rfl, hb⟩
  have HB := hidG hb
  clear cN hb
  generalize hgn : nt (i : Int) = m at *
  have hzI : (m.size : Int) ≤ 10 := by omega
  go_wp2_with fail
  go_ret
  exact ⟨congrArg (fun s => Ending.returned (.string s)) HNM.out, HB.out⟩
set_option maxHeartbeats 1000000 in
theorem cNaN_any (x : Int) (w : World) : Calls Tryd.prog 57 #[.int .i64 x] w fun e w' => e = .returned (.bool false) ∧ w' = w := by
  go_enter Tryd.func57, Tryd.ntmps57
  go_wp2
  go_ret
  exact ⟨by simp, rfl⟩
set_option maxHeartbeats 1000000 in
theorem sNaN_any (x : Int) (w : World) : Calls Tryd.prog 55 #[.int .i64 x] w fun e w' => e = .returned (.bool false) ∧ w' = w := by
  go_enter Tryd.func55, Tryd.ntmps55
  go_wp2
  go_ret
  exact ⟨by simp, rfl⟩
set_option maxHeartbeats 1000000 in
theorem less_any (x y : Int) (w : World) : Calls Tryd.prog 54 #[.int .i64 x, .int .i64 y] w fun e w' => e = .returned (.bool (decide (x < y))) ∧ w' = w := by
  go_enter Tryd.func54, Tryd.ntmps54
  go_wp2_with (go_at_call 57; refine (cNaN_any _ _).mono ?_; rintro e w' ⟨rfl, rfl⟩)
  go_ret
  exact ⟨by simp, rfl⟩
theorem sharedTo_sorted (L : List Int) : ∀ N, (sharedTo L N).Pairwise (· ≤ ·)
  | 0 => List.Pairwise.nil
  | N + 1 => by
    rw [sharedTo]
    split
    · rw [List.pairwise_append]
      refine ⟨sharedTo_sorted L N, by simp, fun a ha b hb => ?_⟩
      rw [List.mem_singleton.1 hb]
      have : ∀ (N : Nat), ∀ x ∈ sharedTo L N, x < (N : Int) := fun N => by
        induction N with
        | zero => intro x h; cases h
        | succ N ih =>
          intro x h
          rw [sharedTo] at h
          split at h
          · rcases List.mem_append.1 h with h | h
            · have := ih x h
              omega
            · rw [List.mem_singleton.1 h]
              omega
          · have := ih x h
            omega
      have := this N a ha
      omega
    · exact sharedTo_sorted L N
set_option maxRecDepth 100000 in
set_option maxHeartbeats 8000000 in
theorem search_any (w : World) (v : Value) (l : List Int) (x : Int) (hV : IlAt w v l) (hl : l.length ≤ 1048576) (hs : l.Pairwise (· ≤ ·)) (r : Bool) (hr : decide (x ∈ l) = r) :
    Calls Tryd.prog 51 #[v, .int .i64 x] w fun e w' => (∃ p : Value, e = .returned (.tuple #[p, .bool r])) ∧ Below w.heap.size w w' := by
  obtain ⟨a, c, rfl⟩ := hV.sl
  have HV := hidG hV
  have HS : Hid (∀ s t, s ≤ t → t < l.length → l.getD s 0 ≤ l.getD t 0) := fun s t hst ht => by
    have e1 : l.getD s 0 = l[s] := by simp [List.getD, List.getElem?_eq_getElem (show s < l.length by omega)]
    have e2 : l.getD t 0 = l[t] := by simp [List.getD, List.getElem?_eq_getElem ht]
    rw [e1, e2]
    rcases Nat.lt_or_ge s t with h | h
    · exact List.pairwise_iff_getElem.1 hs s t (by omega) ht h
    · have : s = t := by omega
      subst this
      exact Int.le_refl _
  have HC : Hid (∀ t, t < l.length → ∃ b off, a = some ⟨b, off, none⟩ ∧ b < w.heap.size ∧ w.cell? ⟨b, off + t, none⟩ = some (.int .i64 (l.getD t 0))) := fun t ht => by
    have e : l[t]? = some (l.getD t 0) := by simp [List.getD, List.getElem?_eq_getElem ht]
    exact hV.at e
  have HR := hidG hr
  have hlI : (l.length : Int) ≤ 1048576 := by omega
  have HB0 := hidG (Below.refl w.heap.size w)
  clear hV hs hr hl
  go_enter Tryd.func51, Tryd.ntmps51
  go_wp2_with fail
  go_loopg [7, 8] l.length (fun g s7 s8 wr => ∃ lo hi : Nat, s7 = .int .i64 lo ∧ s8 = .int .i64 hi ∧ lo ≤ hi ∧ hi ≤ l.length ∧ hi - lo ≤ g ∧ Hid (Below w.heap.size w wr) ∧ Hid ((∀ t, t < lo → l.getD t 0 < x) ∧ (∀ t, hi ≤ t → t < l.length → x ≤ l.getD t 0)))
  case atStart => exact ⟨0, l.length, rfl, rfl, Nat.zero_le _, Nat.le_refl _, by omega, HB0, fun t ht => absurd ht (Nat.not_lt_zero _), fun t h1 h2 => by omega⟩
  case round =>
    obtain ⟨lo, hi, rfl, rfl, hlh, hin, hg, HB, I⟩ := hrel
    by_cases hlt : lo < hi
    · obtain ⟨b, off, ha, hbl, cm⟩ := HC.out ((lo + hi) / 2) (by omega)
      rw [← HB.out.cell hbl] at cm
      subst ha
      generalize hy : l.getD ((lo + hi) / 2) 0 = y at cm
      have Y := hidG hy
      clear hy hbl
      by_cases hyx : y < x
      · go_wp2_with (first | (go_at_call 54; refine (less_any _ _ _).mono ?_; rintro e w' ⟨rfl, rfl⟩) | (go_at_call 55; refine (sNaN_any _ _).mono ?_; rintro e w' ⟨rfl, rfl⟩))
        go_roundg (hi - ((lo + hi) / 2 + 1))
        case measure => omega
        case rel =>
          refine ⟨(lo + hi) / 2 + 1, hi, by rw [show ((lo : Int) + (hi : Int)) / 2 + 1 = (((lo + hi) / 2 + 1 : Nat) : Int) by omega], rfl, by omega, hin, Nat.le_refl _, HB, fun t ht => ?_, I.out.2⟩
          have := HS.out t ((lo + hi) / 2) (by omega) (by omega)
          rw [Y.out] at this
          omega
      · go_wp2_with (first | (go_at_call 54; refine (less_any _ _ _).mono ?_; rintro e w' ⟨rfl, rfl⟩) | (go_at_call 55; refine (sNaN_any _ _).mono ?_; rintro e w' ⟨rfl, rfl⟩))
        go_roundg ((lo + hi) / 2 - lo)
        case measure => omega
        case rel =>
          refine ⟨lo, (lo + hi) / 2, rfl, by rw [show ((lo : Int) + (hi : Int)) / 2 = (((lo + hi) / 2 : Nat) : Int) by omega], by omega, by omega, Nat.le_refl _, HB, I.out.1, fun t ht htn => ?_⟩
          have := HS.out ((lo + hi) / 2) t ht htn
          rw [Y.out] at this
          omega
    · have hh : hi = lo := by omega
      subst hh
      have HE : Hid ((x ∈ l ↔ hi < l.length ∧ l.getD hi 0 = x)) := by
        show _ ↔ _
        constructor
        · intro h
          obtain ⟨t, ht, e⟩ := List.getElem_of_mem h
          have e2 : l.getD t 0 = x := by simp [List.getD, List.getElem?_eq_getElem ht, e]
          have hti : hi ≤ t := by
            rcases Nat.lt_or_ge t hi with h3 | h3
            · have := I.out.1 t h3
              omega
            · exact h3
          refine ⟨by omega, ?_⟩
          have h4 := HS.out hi t hti ht
          have h5 := I.out.2 hi (Nat.le_refl _) (by omega)
          omega
        · rintro ⟨h1, h2⟩
          have e2 : l.getD hi 0 = l[hi] := by simp [List.getD, List.getElem?_eq_getElem h1]
          rw [← h2, e2]
          exact List.getElem_mem h1
      by_cases hn : hi < l.length
      · obtain ⟨b, off, ha, hbl, cl⟩ := HC.out hi hn
        rw [← HB.out.cell hbl] at cl
        subst ha
        generalize hy : l.getD hi 0 = y at cl
        have Y := hidG hy
        clear hy hbl
        by_cases hyx : y = x
        · have HO : Hid (true = r) := by show _ = _; rw [← HR.out]; exact (decide_eq_true (HE.out.2 ⟨hn, by rw [Y.out]; exact hyx⟩)).symm
          go_wp2_with (first | (go_at_call 54; refine (less_any _ _ _).mono ?_; rintro e w' ⟨rfl, rfl⟩) | (go_at_call 55; refine (sNaN_any _ _).mono ?_; rintro e w' ⟨rfl, rfl⟩))
          go_ret2
          refine ⟨⟨.int .i64 (hi : Int), ?_⟩, by first | exact HB.out | exact HB.out.drew⟩
          rw [← HO.out]
          first | rfl | simp [*]
        · have HO : Hid (false = r) := by show _ = _; rw [← HR.out]; exact (decide_eq_false (fun h => hyx (by rw [← Y.out]; exact (HE.out.1 h).2))).symm
          go_wp2_with (first | (go_at_call 54; refine (less_any _ _ _).mono ?_; rintro e w' ⟨rfl, rfl⟩) | (go_at_call 55; refine (sNaN_any _ _).mono ?_; rintro e w' ⟨rfl, rfl⟩))
          go_ret2
          refine ⟨⟨.int .i64 (hi : Int), ?_⟩, by first | exact HB.out | exact HB.out.drew⟩
          rw [← HO.out]
          first | rfl | simp [*]
      · have HO : Hid (false = r) := by show _ = _; rw [← HR.out]; exact (decide_eq_false (fun h => hn (HE.out.1 h).1)).symm
        go_wp2_with (first | (go_at_call 54; refine (less_any _ _ _).mono ?_; rintro e w' ⟨rfl, rfl⟩) | (go_at_call 55; refine (sNaN_any _ _).mono ?_; rintro e w' ⟨rfl, rfl⟩))
        go_ret2
        refine ⟨⟨.int .i64 (hi : Int), ?_⟩, by first | exact HB.out | exact HB.out.drew⟩
        rw [← HO.out]
        first | rfl | simp [*]
end Go.Proofs.YtgaibajkegfpoaaDoor
