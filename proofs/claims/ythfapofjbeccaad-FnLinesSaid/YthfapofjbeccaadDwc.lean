/- The draws of flow nodes: l10Draw answers some text of a bounded length, and changes the cursor alone. -/
import Derived.Test.YthfapofjbeccaadDwb
namespace Go.Proofs.Ythfapofjbeccaad
open Go.ChangeShapes Go.WideShapes Go.ChangeAt Go.RowKit
/-- A bound, shut away from the walk. -/
def Bd (U c k n : Nat) : Prop := ∀ z, z = U → k * z + n ≤ 3 * z + c
theorem Bd.out {U c k n : Nat} (h : Bd U c k n) : k * U + n ≤ 3 * U + c := h U rfl
theorem Bd.mk' {U c k n : Nat} (h : k * U + n ≤ 3 * U + c) : Bd U c k n := fun z hz => by rw [hz]; exact h
set_option maxHeartbeats 16000000 in
theorem flow_step (P : Nat) (deep : Int) (K : Nat) (w : World) (hC : Cu P w) (hK : 300 ≤ K) (hKm : K ≤ 1000000000000000) (hd0 : -5 ≤ deep) (hd1 : deep ≤ 10)
    (hrec : 0 < deep → ∀ (d' : Int) (w : World), Cu P w → (d' = deep - 1 ∨ d' = deep - 2 ∨ d' = 0) → Calls Try.prog 35 #[.pointer (some ⟨P, 0, none⟩), .int .i64 d'] w fun e w' => StrPost K P w e w') :
    Calls Try.prog 35 #[.pointer (some ⟨P, 0, none⟩), .int .i64 deep] w fun e w' => StrPost (20 * K) P w e w' := by
  go_enter Try.func35, Try.ntmps35
  go_wp2_with fail
  refine Calls.mono (of_lit P _ _ w _ _ rfl hC (by kernel_rfl) (by decide) (by decide) (by kernel_rfl)) ?_
  rintro e v1 ⟨t1, rfl, h1, S1⟩
  have T1 := hC.st.trans S1
  go_wp2_with fail
  refine (below_any P 10 v1 T1.1 (by decide) (by decide)).mono ?_
  rintro e v2 ⟨x2, rfl, a2, b2, S2⟩
  have T2 := T1.trans S2
  by_cases hd : deep ≤ 0
  · clear hrec
    by_cases hk : x2 < 5
    · go_wp2_with fail
      refine Calls.mono (of_lit P _ _ v2 _ _ rfl T2.1 (by kernel_rfl) (by decide) (by decide) (by kernel_rfl)) ?_
      rintro e v3 ⟨t3, rfl, h3, S3⟩
      have T3 := T2.trans S3
      go_wp2_with fail
      refine Calls.mono (of_lit P _ _ v3 _ _ rfl T3.1 (by kernel_rfl) (by decide) (by decide) (by kernel_rfl)) ?_
      rintro e v4 ⟨t4, rfl, h4, S4⟩
      have T4 := T3.trans S4
      go_wp2_with fail
      go_ret
      exact ⟨_, rfl, (by simp only [ByteArray.size_append, szmk, List.size_toArray, List.length_cons, List.length_nil]; omega), T4⟩
    · rcases (show x2 = 5 ∨ x2 = 6 ∨ x2 = 7 ∨ x2 = 8 ∨ x2 = 9 by omega) with rfl | rfl | rfl | rfl | rfl
      · go_wp2_with fail
        refine Calls.mono (of_lit P _ _ v2 _ _ rfl T2.1 (by kernel_rfl) (by decide) (by decide) (by kernel_rfl)) ?_
        rintro e v3 ⟨t3, rfl, h3, S3⟩
        have T3 := T2.trans S3
        go_wp2_with fail
        refine Calls.mono (of_lit P _ _ v3 _ _ rfl T3.1 (by kernel_rfl) (by decide) (by decide) (by kernel_rfl)) ?_
        rintro e v4 ⟨t4, rfl, h4, S4⟩
        have T4 := T3.trans S4
        go_wp2_with fail
        go_ret
        exact ⟨_, rfl, (by simp only [ByteArray.size_append, szmk, List.size_toArray, List.length_cons, List.length_nil]; omega), T4⟩
      · go_wp2_with fail
        refine Calls.mono (of_lit P _ _ v2 _ _ rfl T2.1 (by kernel_rfl) (by decide) (by decide) (by kernel_rfl)) ?_
        rintro e v3 ⟨t3, rfl, h3, S3⟩
        have T3 := T2.trans S3
        go_wp2_with fail
        refine Calls.mono (of_lit P _ _ v3 _ _ rfl T3.1 (by kernel_rfl) (by decide) (by decide) (by kernel_rfl)) ?_
        rintro e v4 ⟨t4, rfl, h4, S4⟩
        have T4 := T3.trans S4
        go_wp2_with fail
        go_ret
        exact ⟨_, rfl, (by simp only [ByteArray.size_append]; omega), T4⟩
      · go_wp2_with fail
        refine Calls.mono (of_lit P _ _ v2 _ _ rfl T2.1 (by kernel_rfl) (by decide) (by decide) (by kernel_rfl)) ?_
        rintro e v3 ⟨t3, rfl, h3, S3⟩
        have T3 := T2.trans S3
        go_wp2_with fail
        go_ret
        exact ⟨_, rfl, (by omega), T3⟩
      · go_wp2_with fail
        refine Calls.mono (of_lit P _ _ v2 _ _ rfl T2.1 (by kernel_rfl) (by decide) (by decide) (by kernel_rfl)) ?_
        rintro e v3 ⟨t3, rfl, h3, S3⟩
        have T3 := T2.trans S3
        go_wp2_with fail
        refine (word_any P v3 T3.1).mono ?_
        rintro e v4 ⟨t4, rfl, h4, S4⟩
        have T4 := T3.trans S4
        go_wp2_with fail
        go_ret
        exact ⟨_, rfl, (by simp only [ByteArray.size_append]; omega), T4⟩
      · go_wp2_with fail
        refine Calls.mono (of_lit P _ _ v2 _ _ rfl T2.1 (by kernel_rfl) (by decide) (by decide) (by kernel_rfl)) ?_
        rintro e v3 ⟨t3, rfl, h3, S3⟩
        have T3 := T2.trans S3
        go_wp2_with fail
        refine (word_any P v3 T3.1).mono ?_
        rintro e v4 ⟨t4, rfl, h4, S4⟩
        have T4 := T3.trans S4
        go_wp2_with fail
        go_ret
        exact ⟨_, rfl, (by simp only [ByteArray.size_append]; omega), T4⟩
  · have hd' : 0 < deep := by omega
    have hr := hrec hd'
    clear hrec hd
    by_cases hk : x2 < 3
    · go_wp2_with fail
      refine Calls.mono (of_lit P _ _ v2 _ _ rfl T2.1 (by kernel_rfl) (by decide) (by decide) (by kernel_rfl)) ?_
      rintro e v3 ⟨t3, rfl, h3, S3⟩
      have T3 := T2.trans S3
      go_wp2_with fail
      refine (below_any P 4 v3 T3.1 (by decide) (by decide)).mono ?_
      rintro e v4 ⟨x4, rfl, a4, b4, S4⟩
      have T4 := T3.trans S4
      go_wp2_with fail
      have HT : Hid (St P w v4) := T4
      clear T1 T2 T3 T4 S1 S2 S3 S4
      go_loopw [5, 8] (fun u t w' => ∃ (k : Nat) (s : ByteArray), t = .int .i64 k ∧ u = .string s ∧ k ≤ 3 ∧ Bd (K + 101) 201 k s.size ∧ St P w w') (fun _ t _ => (intOf t).toNat)
      case atStart =>
        refine ⟨x4.toNat, _, by rw [Int.toNat_of_nonneg a4], rfl, by omega, Bd.mk' ?_, HT.out⟩
        simp only [ByteArray.size_append, szmk, List.size_toArray, List.length_cons, List.length_nil]
        have hx : x4.toNat ≤ 3 := by omega
        have hy := Nat.mul_le_mul_right (K + 101) hx
        omega
      case round =>
        obtain ⟨k, s, rfl, rfl, hk3, hks, hS⟩ := hrel
        have hsz : s.size ≤ 10000000000000000 := by have h' := hks.out; omega
        by_cases hz : 0 < k
        · go_wp2_with fail
          refine (hr (deep - 1) wr hS.1 (.inl rfl)).mono ?_
          rintro e v5 ⟨t5, rfl, h5, S5⟩
          have T5 := hS.trans S5
          obtain ⟨j, rfl⟩ : ∃ j, k = j + 1 := ⟨k - 1, by omega⟩
          go_wp2_with fail
          go_roundw
          case rel =>
            refine ⟨j, _, by go_num, rfl, by omega, Bd.mk' ?_, T5⟩
            simp only [ByteArray.size_append, szmk, List.size_toArray, List.length_cons, List.length_nil]
            have hks' := hks.out
            rw [Nat.succ_mul] at hks'
            omega
          case measure => simp [intOf]
        · obtain rfl : k = 0 := by omega
          go_wp2_with fail
          refine (hr (deep - 2) wr hS.1 (.inr (.inl rfl))).mono ?_
          rintro e v5 ⟨t5, rfl, h5, S5⟩
          have T5 := hS.trans S5
          go_wp2_with fail
          go_ret
          refine ⟨_, rfl, ?_, T5⟩
          simp only [ByteArray.size_append, szmk, List.size_toArray, List.length_cons, List.length_nil]
          have hks' := hks.out
          omega
    · by_cases hk5 : x2 < 5
      · go_wp2_with fail
        refine Calls.mono (of_lit P _ _ v2 _ _ rfl T2.1 (by kernel_rfl) (by decide) (by decide) (by kernel_rfl)) ?_
        rintro e v3 ⟨t3, rfl, h3, S3⟩
        have T3 := T2.trans S3
        go_wp2_with fail
        refine (below_any P 4 v3 T3.1 (by decide) (by decide)).mono ?_
        rintro e v4 ⟨x4, rfl, a4, b4, S4⟩
        have T4 := T3.trans S4
        go_wp2_with fail
        have HT : Hid (St P w v4) := T4
        clear T1 T2 T3 T4 S1 S2 S3 S4
        go_loopw [5, 9] (fun u t w' => ∃ (k : Nat) (s : ByteArray), t = .int .i64 k ∧ u = .string s ∧ k ≤ 3 ∧ Bd (2 * K + 101) 201 k s.size ∧ St P w w') (fun _ t _ => (intOf t).toNat)
        case atStart =>
          refine ⟨x4.toNat, _, by rw [Int.toNat_of_nonneg a4], rfl, by omega, Bd.mk' ?_, HT.out⟩
          simp only [ByteArray.size_append, szmk, List.size_toArray, List.length_cons, List.length_nil]
          have hx : x4.toNat ≤ 3 := by omega
          have hy := Nat.mul_le_mul_right (2 * K + 101) hx
          omega
        case round =>
          obtain ⟨k, s, rfl, rfl, hk3, hks, hS⟩ := hrel
          have hsz : s.size ≤ 10000000000000000 := by have h' := hks.out; omega
          by_cases hz : 0 < k
          · go_wp2_with fail
            refine (hr 0 wr hS.1 (.inr (.inr rfl))).mono ?_
            rintro e v5 ⟨t5, rfl, h5, S5⟩
            have T5 := hS.trans S5
            go_wp2_with fail
            refine Calls.mono (of_lit P _ _ v5 _ _ rfl T5.1 (by kernel_rfl) (by decide) (by decide) (by kernel_rfl)) ?_
            rintro e v6 ⟨t6, rfl, h6, S6⟩
            have T6 := T5.trans S6
            go_wp2_with fail
            refine (hr (deep - 1) v6 T6.1 (.inl rfl)).mono ?_
            rintro e v7 ⟨t7, rfl, h7, S7⟩
            have T7 := T6.trans S7
            obtain ⟨j, rfl⟩ : ∃ j, k = j + 1 := ⟨k - 1, by omega⟩
            go_wp2_with fail
            go_roundw
            case rel =>
              refine ⟨j, _, by go_num, rfl, by omega, Bd.mk' ?_, T7⟩
              simp only [ByteArray.size_append, szmk, List.size_toArray, List.length_cons, List.length_nil]
              have hks' := hks.out
              rw [Nat.succ_mul] at hks'
              omega
            case measure => simp [intOf]
          · obtain rfl : k = 0 := by omega
            go_wp2_with fail
            go_ret
            refine ⟨_, rfl, ?_, hS⟩
            simp only [ByteArray.size_append, szmk, List.size_toArray, List.length_cons, List.length_nil]
            have hks' := hks.out
            omega
      · clear hr
        rcases (show x2 = 5 ∨ x2 = 6 ∨ x2 = 7 ∨ x2 = 8 ∨ x2 = 9 by omega) with rfl | rfl | rfl | rfl | rfl
        · go_wp2_with fail
          refine Calls.mono (of_lit P _ _ v2 _ _ rfl T2.1 (by kernel_rfl) (by decide) (by decide) (by kernel_rfl)) ?_
          rintro e v3 ⟨t3, rfl, h3, S3⟩
          have T3 := T2.trans S3
          go_wp2_with fail
          refine Calls.mono (of_lit P _ _ v3 _ _ rfl T3.1 (by kernel_rfl) (by decide) (by decide) (by kernel_rfl)) ?_
          rintro e v4 ⟨t4, rfl, h4, S4⟩
          have T4 := T3.trans S4
          go_wp2_with fail
          go_ret
          exact ⟨_, rfl, (by simp only [ByteArray.size_append, szmk, List.size_toArray, List.length_cons, List.length_nil]; omega), T4⟩
        · go_wp2_with fail
          refine Calls.mono (of_lit P _ _ v2 _ _ rfl T2.1 (by kernel_rfl) (by decide) (by decide) (by kernel_rfl)) ?_
          rintro e v3 ⟨t3, rfl, h3, S3⟩
          have T3 := T2.trans S3
          go_wp2_with fail
          refine Calls.mono (of_lit P _ _ v3 _ _ rfl T3.1 (by kernel_rfl) (by decide) (by decide) (by kernel_rfl)) ?_
          rintro e v4 ⟨t4, rfl, h4, S4⟩
          have T4 := T3.trans S4
          go_wp2_with fail
          go_ret
          exact ⟨_, rfl, (by simp only [ByteArray.size_append]; omega), T4⟩
        · go_wp2_with fail
          refine Calls.mono (of_lit P _ _ v2 _ _ rfl T2.1 (by kernel_rfl) (by decide) (by decide) (by kernel_rfl)) ?_
          rintro e v3 ⟨t3, rfl, h3, S3⟩
          have T3 := T2.trans S3
          go_wp2_with fail
          go_ret
          exact ⟨_, rfl, (by omega), T3⟩
        · go_wp2_with fail
          refine Calls.mono (of_lit P _ _ v2 _ _ rfl T2.1 (by kernel_rfl) (by decide) (by decide) (by kernel_rfl)) ?_
          rintro e v3 ⟨t3, rfl, h3, S3⟩
          have T3 := T2.trans S3
          go_wp2_with fail
          refine (word_any P v3 T3.1).mono ?_
          rintro e v4 ⟨t4, rfl, h4, S4⟩
          have T4 := T3.trans S4
          go_wp2_with fail
          go_ret
          exact ⟨_, rfl, (by simp only [ByteArray.size_append]; omega), T4⟩
        · go_wp2_with fail
          refine Calls.mono (of_lit P _ _ v2 _ _ rfl T2.1 (by kernel_rfl) (by decide) (by decide) (by kernel_rfl)) ?_
          rintro e v3 ⟨t3, rfl, h3, S3⟩
          have T3 := T2.trans S3
          go_wp2_with fail
          refine (word_any P v3 T3.1).mono ?_
          rintro e v4 ⟨t4, rfl, h4, S4⟩
          have T4 := T3.trans S4
          go_wp2_with fail
          go_ret
          exact ⟨_, rfl, (by simp only [ByteArray.size_append]; omega), T4⟩
theorem StrPost.le {K K' P : Nat} {w : World} {e : Ending} {w' : World} (h : StrPost K P w e w') (hK : K ≤ K') : StrPost K' P w e w' := by
  obtain ⟨t, rfl, ht, hS⟩ := h
  exact ⟨t, rfl, Nat.le_trans ht hK, hS⟩
def F10 : Nat → Nat
  | 0 => 6000
  | d + 1 => 20 * F10 d
theorem F10_ge (d : Nat) : 300 ≤ F10 d := by
  induction d with
  | zero => decide
  | succ d ih => unfold F10; omega
theorem F10_le (d : Nat) (h : d ≤ 4) : F10 d ≤ 1000000000000000 := by
  rcases (show d = 0 ∨ d = 1 ∨ d = 2 ∨ d = 3 ∨ d = 4 by omega) with rfl | rfl | rfl | rfl | rfl <;> decide
theorem flow_any (P : Nat) (d : Nat) : d ≤ 4 → ∀ (deep : Int) (w : World), Cu P w → deep.toNat ≤ d → -5 ≤ deep → deep ≤ 10 →
    Calls Try.prog 35 #[.pointer (some ⟨P, 0, none⟩), .int .i64 deep] w fun e w' => StrPost (F10 d) P w e w' := by
  induction d with
  | zero =>
    intro _ deep w hC hd h0 h1
    exact flow_step P deep 300 w hC (Nat.le_refl _) (by decide) h0 h1 (fun h => by omega)
  | succ d ih =>
    intro hd4 deep w hC hd h0 h1
    exact flow_step P deep (F10 d) w hC (F10_ge d) (F10_le d (by omega)) h0 h1 (fun h d' w' hC' hd' => ih (by omega) d' w' hC' (by omega) (by omega) (by omega))
end Go.Proofs.Ythfapofjbeccaad
