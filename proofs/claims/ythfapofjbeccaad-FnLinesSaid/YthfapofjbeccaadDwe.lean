/- The draws of streams: l12Draw, l10Spoil, l12Any, l16Text, MakeAnyText and MakeNum answer something of a bounded size. -/
import Derived.Test.YthfapofjbeccaadDwd
import Derived.Deep.RegionWith
namespace Go.Proofs.Ythfapofjbeccaad
open Go.ChangeShapes Go.WideShapes Go.ChangeAt Go.RowKit
theorem Cu.drew {P : Nat} {w : World} (h : Cu P w) : Cu P w.drew := h
theorem St.drew {P : Nat} {w w' : World} (h : St P w.drew w') : St P w w' := ⟨h.1, ⟨((Below.refl P w).drew).trans h.2.1, h.2.2⟩⟩
theorem block3 (P : Nat) (w : World) (hC : Cu P w) : Calls Try.prog 33 #[.pointer (some ⟨P, 0, none⟩), .int .i64 0, .int .i64 3] w fun e w' => StrPost 32000000000 P w e w' :=
  (block_any P 3 (by decide) 0 3 w hC (by decide) (by decide) (by decide) (by decide) (by decide)).mono fun _ _ h => h.le (by decide)
theorem block2 (P : Nat) (w : World) (hC : Cu P w) : Calls Try.prog 33 #[.pointer (some ⟨P, 0, none⟩), .int .i64 0, .int .i64 2] w fun e w' => StrPost 32000000000 P w e w' :=
  (block_any P 2 (by decide) 0 2 w hC (by decide) (by decide) (by decide) (by decide) (by decide)).mono fun _ _ h => h.le (by decide)
theorem flow2 (P : Nat) (w : World) (hC : Cu P w) : Calls Try.prog 35 #[.pointer (some ⟨P, 0, none⟩), .int .i64 2] w fun e w' => StrPost 2400000 P w e w' :=
  (flow_any P 2 (by decide) 2 w hC (by decide) (by decide) (by decide)).mono fun _ _ h => h.le (by decide)
set_option maxRecDepth 100000 in
set_option maxHeartbeats 8000000 in
theorem stream_any (P : Nat) (w : World) (hC : Cu P w) :
    Calls Try.prog 27 #[.pointer (some ⟨P, 0, none⟩)] w fun e w' => StrPost 200000000000 P w e w' := by
  go_enter Try.func27, Try.ntmps27
  go_wp2_with fail
  refine Calls.mono (of_lit P _ _ w _ _ rfl hC (by kernel_rfl) (by decide) (by decide) (by kernel_rfl)) ?_
  rintro e v1 ⟨t1, rfl, h1, S1⟩
  have T1 := hC.st.trans S1
  go_wp2_with fail
  refine (below_any P 3 v1 T1.1 (by decide) (by decide)).mono ?_
  rintro e v2 ⟨x2, rfl, a2, b2, S2⟩
  have T2 := T1.trans S2
  go_wp2_with fail
  have HT : Hid (St P w v2) := T2
  clear T1 T2 S1 S2
  go_loopw [3, 4] (fun u t w' => ∃ (k : Nat) (s : ByteArray), t = .int .i64 k ∧ u = .string s ∧ k ≤ 3 ∧ Bd 40000000000 100 k s.size ∧ St P w w') (fun _ t _ => (intOf t).toNat)
  case atStart => exact ⟨x2.toNat, t1, by rw [Int.toNat_of_nonneg a2], rfl, by omega, Bd.mk' (by omega), HT.out⟩
  case round =>
    obtain ⟨k, s, rfl, rfl, hk3, hks, hS⟩ := hrel
    have hsz : s.size ≤ 10000000000000000 := by have h' := hks.out; omega
    by_cases hz : 0 < k
    · obtain ⟨j, rfl⟩ : ∃ j, k = j + 1 := ⟨k - 1, by omega⟩
      go_wp2_with fail
      refine (below_any P 5 wr hS.1 (by decide) (by decide)).mono ?_
      rintro e v5 ⟨x5, rfl, a5, b5, S5⟩
      have T5 := hS.trans S5
      by_cases hk : x5 < 3
      · go_wp2_with fail
        refine (block3 P v5 T5.1).mono ?_
        rintro e v6 ⟨t6, rfl, h6, S6⟩
        have T6 := T5.trans S6
        go_wp2_with fail
        refine Calls.mono (of_lit P _ _ v6 _ _ rfl T6.1 (by kernel_rfl) (by decide) (by decide) (by kernel_rfl)) ?_
        rintro e v7 ⟨t7, rfl, h7, S7⟩
        have T7 := T6.trans S7
        go_wp2_with fail
        go_roundw
        case rel =>
          refine ⟨j, _, by go_num, rfl, by omega, Bd.step hks ?_, T7⟩
          clear hks hsz
          simp only [ByteArray.size_append]
          omega
        case measure => simp [intOf]
      · rcases (show x5 = 3 ∨ x5 = 4 by omega) with rfl | rfl
        · go_wp2_with fail
          refine (leaf_any P v5 T5.1).mono ?_
          rintro e v6 ⟨t6, rfl, h6, S6⟩
          have T6 := T5.trans S6
          go_wp2_with fail
          refine Calls.mono (of_lit P _ _ v6 _ _ rfl T6.1 (by kernel_rfl) (by decide) (by decide) (by kernel_rfl)) ?_
          rintro e v7 ⟨t7, rfl, h7, S7⟩
          have T7 := T6.trans S7
          go_wp2_with fail
          go_roundw
          case rel =>
            refine ⟨j, _, by go_num, rfl, by omega, Bd.step hks ?_, T7⟩
            clear hks hsz
            simp only [ByteArray.size_append, szmk, List.size_toArray, List.length_cons, List.length_nil]
            omega
          case measure => simp [intOf]
        · go_wp2_with fail
          refine (flow2 P v5 T5.1).mono ?_
          rintro e v6 ⟨t6, rfl, h6, S6⟩
          have T6 := T5.trans S6
          go_wp2_with fail
          refine Calls.mono (of_lit P _ _ v6 _ _ rfl T6.1 (by kernel_rfl) (by decide) (by decide) (by kernel_rfl)) ?_
          rintro e v7 ⟨t7, rfl, h7, S7⟩
          have T7 := T6.trans S7
          go_wp2_with fail
          go_roundw
          case rel =>
            refine ⟨j, _, by go_num, rfl, by omega, Bd.step hks ?_, T7⟩
            clear hks hsz
            simp only [ByteArray.size_append, szmk, List.size_toArray, List.length_cons, List.length_nil]
            omega
          case measure => simp [intOf]
    · obtain rfl : k = 0 := by omega
      go_wp2_with fail
      refine (block2 P wr hS.1).mono ?_
      rintro e v5 ⟨t5, rfl, h5, S5⟩
      have T5 := hS.trans S5
      go_wp2_with fail
      go_ret
      refine ⟨_, rfl, ?_, T5⟩
      simp only [ByteArray.size_append]
      have hks' := Bd.last hks
      clear hks hsz
      omega
set_option maxRecDepth 100000 in
set_option maxHeartbeats 8000000 in
theorem spoil_any (P : Nat) (s : ByteArray) (K : Nat) (w : World) (hC : Cu P w) (hs : s.size ≤ K) (hK : K ≤ 1000000000000) :
    Calls Try.prog 26 #[.pointer (some ⟨P, 0, none⟩), .string s] w fun e w' => StrPost (K + 20000) P w e w' := by
  go_enter Try.func26, Try.ntmps26
  go_wp2_with fail
  refine (below_any P _ w hC (by omega) (by omega)).mono ?_
  rintro e v1 ⟨x1, rfl, a1, b1, S1⟩
  have T1 := hC.st.trans S1
  go_wp2_with fail
  refine (below_any P 6 v1 T1.1 (by decide) (by decide)).mono ?_
  rintro e v2 ⟨x2, rfl, a2, b2, S2⟩
  have T2 := T1.trans S2
  obtain ⟨i, rfl⟩ : ∃ i : Nat, x1 = (i : Int) := ⟨x1.toNat, by omega⟩
  have hi : i ≤ s.size := by omega
  have hz0 : (s.extract 0 i).size ≤ K := by rw [ByteArray.size_extract]; omega
  have hz1 : (s.extract i s.size).size = s.size - i := by rw [ByteArray.size_extract]; omega
  have hz2 : (s.extract 0 i).size = i := by rw [ByteArray.size_extract]; omega
  by_cases h0 : x2 = 0
  · subst h0
    go_wp2_with fail
    go_ret
    exact ⟨_, rfl, by omega, T2⟩
  · by_cases h1 : x2 = 1
    · subst h1
      go_wp2_with fail
      go_region_with (first
        | (go_at_call 25; refine (mess_any P 1 _ (Cu.drew T2.1) (by decide) (by decide)).mono ?_; rintro e v3 ⟨t3, rfl, h3, S3⟩))
      all_goals
        go_wp2_with fail
        go_ret
        refine ⟨_, rfl, ?_, T2.trans (St.drew S3)⟩
        simp only [ByteArray.size_append]
        omega
    · have h0' : (x2 == 0) = false := by rw [beq_eq_false_iff_ne]; exact h0
      have h1' : (x2 == 1) = false := by rw [beq_eq_false_iff_ne]; exact h1
      clear h0 h1
      go_wp2_with fail
      go_ret
      exact ⟨_, rfl, by omega, T2⟩
theorem any_any (P : Nat) (w : World) (hC : Cu P w) :
    Calls Try.prog 15 #[.pointer (some ⟨P, 0, none⟩)] w fun e w' => StrPost 200000020000 P w e w' := by
  go_enter Try.func15, Try.ntmps15
  go_wp2_with fail
  refine (below_any P 6 w hC (by decide) (by decide)).mono ?_
  rintro e v1 ⟨x1, rfl, a1, b1, S1⟩
  have T1 := hC.st.trans S1
  by_cases h0 : x1 = 0
  · subst h0
    go_wp2_with fail
    refine (mess_any P 12 v1 T1.1 (by decide) (by decide)).mono ?_
    rintro e v2 ⟨t2, rfl, h2, S2⟩
    have T2 := T1.trans S2
    go_wp2_with fail
    go_ret
    exact ⟨_, rfl, (by omega), T2⟩
  · have h0' : (x1 == 0) = false := by rw [beq_eq_false_iff_ne]; exact h0
    clear h0
    go_wp2_with fail
    refine (stream_any P v1 T1.1).mono ?_
    rintro e v2 ⟨t2, rfl, h2, S2⟩
    have T2 := T1.trans S2
    go_wp2_with fail
    refine (spoil_any P t2 200000000000 v2 T2.1 h2 (by decide)).mono ?_
    rintro e v3 ⟨t3, rfl, h3, S3⟩
    have T3 := T2.trans S3
    go_wp2_with fail
    go_ret
    exact ⟨_, rfl, (by omega), T3⟩
theorem text_any (P : Nat) (w : World) (hC : Cu P w) :
    Calls Try.prog 17 #[.pointer (some ⟨P, 0, none⟩)] w fun e w' => StrPost 200000020000 P w e w' := by
  go_enter Try.func17, Try.ntmps17
  go_wp2_with fail
  refine (below_any P 6 w hC (by decide) (by decide)).mono ?_
  rintro e v1 ⟨x1, rfl, a1, b1, S1⟩
  have T1 := hC.st.trans S1
  by_cases h0 : x1 < 2
  · go_wp2_with fail
    refine (any_any P v1 T1.1).mono ?_
    rintro e v2 ⟨t2, rfl, h2, S2⟩
    have T2 := T1.trans S2
    go_wp2_with fail
    go_ret
    exact ⟨_, rfl, (by omega), T2⟩
  · go_wp2_with fail
    refine Calls.mono (of_lit P _ _ v1 _ _ rfl T1.1 (by kernel_rfl) (by decide) (by decide) (by kernel_rfl)) ?_
    rintro e v2 ⟨t2, rfl, h2, S2⟩
    have T2 := T1.trans S2
    by_cases h1 : x1 = 2
    · subst h1
      go_wp2_with fail
      refine (spoil_any P t2 100 v2 T2.1 h2 (by decide)).mono ?_
      rintro e v3 ⟨t3, rfl, h3, S3⟩
      have T3 := T2.trans S3
      go_wp2_with fail
      go_ret
      exact ⟨_, rfl, (by omega), T3⟩
    · have h1' : (x1 == 2) = false := by rw [beq_eq_false_iff_ne]; exact h1
      clear h1
      go_wp2_with fail
      go_ret
      exact ⟨_, rfl, (by omega), T2⟩
end Go.Proofs.Ythfapofjbeccaad
