/- The draws of block nodes: l11Leaf, l11Value0 and l11Draw answer some text of a bounded length, and change the cursor alone. -/
import Derived.Test.YthfapofjbeccaadDwc
namespace Go.Proofs.Ythfapofjbeccaad
open Go.ChangeShapes Go.WideShapes Go.ChangeAt Go.RowKit
theorem Bd.step {U c j n m : Nat} (h : Bd U c (j + 1) n) (hm : m ≤ n + U) : Bd U c j m := by
  intro z hz
  have h' := h z hz
  rw [Nat.succ_mul] at h'
  rw [← hz] at hm
  generalize j * z = a at *
  omega
theorem Bd.start {U c k n : Nat} (hk : k ≤ 3) (hn : n ≤ c) : Bd U c k n := by
  intro z hz
  have h := Nat.mul_le_mul_right z hk
  generalize k * z = a at *
  omega
theorem Bd.last {U c n : Nat} (h : Bd U c 0 n) : n ≤ 3 * U + c := by
  have h' := h.out
  rw [Nat.zero_mul] at h'
  omega
set_option maxHeartbeats 8000000 in
theorem leaf_any (P : Nat) (w : World) (hC : Cu P w) :
    Calls Try.prog 34 #[.pointer (some ⟨P, 0, none⟩)] w fun e w' => StrPost 120000 P w e w' := by
  have hflow : ∀ w, Cu P w → Calls Try.prog 35 #[.pointer (some ⟨P, 0, none⟩), .int .i64 1] w fun e w' => StrPost 120000 P w e w' := fun w h => flow_any P 1 (by decide) 1 w h (by decide) (by decide) (by decide)
  go_enter Try.func34, Try.ntmps34
  go_wp2_with fail
  refine Calls.mono (of_lit P _ _ w _ _ rfl hC (by kernel_rfl) (by decide) (by decide) (by kernel_rfl)) ?_
  rintro e v1 ⟨t1, rfl, h1, S1⟩
  have T1 := hC.st.trans S1
  go_wp2_with fail
  refine (below_any P 8 v1 T1.1 (by decide) (by decide)).mono ?_
  rintro e v2 ⟨x2, rfl, a2, b2, S2⟩
  have T2 := T1.trans S2
  by_cases hk : x2 < 4
  · go_wp2_with fail
    refine (word_any P v2 T2.1).mono ?_
    rintro e v3 ⟨t3, rfl, h3, S3⟩
    have T3 := T2.trans S3
    go_wp2_with fail
    go_ret
    exact ⟨_, rfl, (by simp only [ByteArray.size_append]; omega), T3⟩
  · rcases (show x2 = 4 ∨ x2 = 5 ∨ x2 = 6 ∨ x2 = 7 by omega) with rfl | rfl | rfl | rfl
    · go_wp2_with fail
      refine Calls.mono (of_lit P _ _ v2 _ _ rfl T2.1 (by kernel_rfl) (by decide) (by decide) (by kernel_rfl)) ?_
      rintro e v3 ⟨t3, rfl, h3, S3⟩
      have T3 := T2.trans S3
      go_wp2_with fail
      go_ret
      exact ⟨_, rfl, (by simp only [ByteArray.size_append]; omega), T3⟩
    · go_wp2_with fail
      refine Calls.mono (of_lit P _ _ v2 _ _ rfl T2.1 (by kernel_rfl) (by decide) (by decide) (by kernel_rfl)) ?_
      rintro e v3 ⟨t3, rfl, h3, S3⟩
      have T3 := T2.trans S3
      go_wp2_with fail
      go_ret
      exact ⟨_, rfl, (by omega), T3⟩
    · go_wp2_with fail
      refine (hflow v2 T2.1).mono ?_
      rintro e v3 ⟨t3, rfl, h3, S3⟩
      have T3 := T2.trans S3
      go_wp2_with fail
      go_ret
      exact ⟨_, rfl, (by omega), T3⟩
    · go_wp2_with fail
      go_ret
      exact ⟨_, rfl, (by omega), T2⟩
set_option maxHeartbeats 8000000 in
theorem value_step (P : Nat) (n deep : Int) (K : Nat) (w : World) (hC : Cu P w) (hK : 200000 ≤ K) (hKm : K ≤ 1000000000000000) (hn0 : 0 ≤ n) (hn1 : n ≤ 40) (hd0 : 0 < deep) (hd1 : deep ≤ 10)
    (hrec : ∀ (n' : Int) (w : World), Cu P w → 0 ≤ n' → n' ≤ n + 2 → Calls Try.prog 33 #[.pointer (some ⟨P, 0, none⟩), .int .i64 n', .int .i64 (deep - 1)] w fun e w' => StrPost K P w e w') :
    Calls Try.prog 38 #[.pointer (some ⟨P, 0, none⟩), .int .i64 n, .int .i64 deep] w fun e w' => StrPost (2 * K) P w e w' := by
  go_enter Try.func38, Try.ntmps38
  go_wp2_with fail
  refine (below_any P 6 w hC (by decide) (by decide)).mono ?_
  rintro e v1 ⟨x1, rfl, a1, b1, S1⟩
  have T1 := hC.st.trans S1
  by_cases hk : x1 < 2
  · clear hrec
    go_wp2_with fail
    refine (leaf_any P v1 T1.1).mono ?_
    rintro e v2 ⟨t2, rfl, h2, S2⟩
    have T2 := T1.trans S2
    go_wp2_with fail
    go_ret
    exact ⟨_, rfl, (by simp only [ByteArray.size_append, szmk, List.size_toArray, List.length_cons, List.length_nil]; omega), T2⟩
  · by_cases hk4 : x1 < 4
    · go_wp2_with fail
      refine (below_any P 2 v1 T1.1 (by decide) (by decide)).mono ?_
      rintro e v2 ⟨x2, rfl, a2, b2, S2⟩
      have T2 := T1.trans S2
      go_wp2_with fail
      refine Calls.mono (of_lit P _ _ v2 _ _ rfl T2.1 (by kernel_rfl) (by decide) (by decide) (by kernel_rfl)) ?_
      rintro e v3 ⟨t3, rfl, h3, S3⟩
      have T3 := T2.trans S3
      go_wp2_with fail
      refine (pad_any (n + 1 + x2) v3 (by omega) (by omega)).mono ?_
      rintro e v4 ⟨t4, rfl, h4, rfl⟩
      go_wp2_with fail
      refine (hrec (n + 1 + x2) v4 T3.1 (by omega) (by omega)).mono ?_
      rintro e v5 ⟨t5, rfl, h5, S5⟩
      have T5 := T3.trans S5
      go_wp2_with fail
      go_ret
      exact ⟨_, rfl, (by simp only [ByteArray.size_append]; omega), T5⟩
    · clear hrec
      rcases (show x1 = 4 ∨ x1 = 5 by omega) with rfl | rfl
      · go_wp2_with fail
        refine (pad_any n v1 hn0 (by omega)).mono ?_
        rintro e v2 ⟨t2, rfl, h2, rfl⟩
        go_wp2_with fail
        refine (pad_any n v2 hn0 (by omega)).mono ?_
        rintro e v3 ⟨t3, rfl, h3, rfl⟩
        go_wp2_with fail
        refine (leaf_any P v3 T1.1).mono ?_
        rintro e v4 ⟨t4, rfl, h4, S4⟩
        have T4 := T1.trans S4
        go_wp2_with fail
        go_ret
        exact ⟨_, rfl, (by simp only [ByteArray.size_append, szmk, List.size_toArray, List.length_cons, List.length_nil]; omega), T4⟩
      · go_wp2_with fail
        refine (pad_any n v1 hn0 (by omega)).mono ?_
        rintro e v2 ⟨t2, rfl, h2, rfl⟩
        go_wp2_with fail
        go_ret
        exact ⟨_, rfl, (by simp only [ByteArray.size_append, szmk, List.size_toArray, List.length_cons, List.length_nil]; omega), T1⟩
set_option maxRecDepth 100000 in
set_option maxHeartbeats 32000000 in
theorem block_step (P : Nat) (n deep : Int) (K : Nat) (w : World) (hC : Cu P w) (hK : 200000 ≤ K) (hKm : K ≤ 1000000000000000) (hn0 : 0 ≤ n) (hn1 : n ≤ 40) (hd0 : -5 ≤ deep) (hd1 : deep ≤ 10)
    (hrec : 0 < deep → ∀ (n' : Int) (w : World), Cu P w → 0 ≤ n' → n' ≤ n + 2 → Calls Try.prog 33 #[.pointer (some ⟨P, 0, none⟩), .int .i64 n', .int .i64 (deep - 1)] w fun e w' => StrPost K P w e w') :
    Calls Try.prog 33 #[.pointer (some ⟨P, 0, none⟩), .int .i64 n, .int .i64 deep] w fun e w' => StrPost (20 * K) P w e w' := by
  go_enter Try.func33, Try.ntmps33
  go_wp2_with fail
  refine (below_any P 9 w hC (by decide) (by decide)).mono ?_
  rintro e v1 ⟨x1, rfl, a1, b1, S1⟩
  have T1 := hC.st.trans S1
  by_cases hd : deep ≤ 0
  · clear hrec
    go_wp2_with fail
    refine (leaf_any P v1 T1.1).mono ?_
    rintro e v2 ⟨t2, rfl, h2, S2⟩
    have T2 := T1.trans S2
    go_wp2_with fail
    refine (pad_any n v2 hn0 (by omega)).mono ?_
    rintro e v3 ⟨t3, rfl, h3, rfl⟩
    go_wp2_with fail
    refine Calls.mono (of_lit P _ _ v3 _ _ rfl T2.1 (by kernel_rfl) (by decide) (by decide) (by simp [txt, ByteArray.size_append, szmk]; omega)) ?_
    rintro e v4 ⟨t4, rfl, h4, S4⟩
    have T4 := T2.trans S4
    go_wp2_with fail
    go_ret
    exact ⟨_, rfl, (by simp only [ByteArray.size_append]; omega), T4⟩
  · have hd' : 0 < deep := by omega
    have hr := hrec hd'
    clear hrec hd
    by_cases hk : x1 < 4
    · go_wp2_with fail
      refine (below_any P 3 v1 T1.1 (by decide) (by decide)).mono ?_
      rintro e v2 ⟨x2, rfl, a2, b2, S2⟩
      have T2 := T1.trans S2
      go_wp2_with fail
      have HT : Hid (St P w v2) := T2
      clear T1 T2 S1 S2
      go_loopw [8, 9] (fun u t w' => ∃ (k : Nat) (s : ByteArray), t = .int .i64 k ∧ u = .string s ∧ k ≤ 3 ∧ Bd (2 * K + 400) 0 k s.size ∧ St P w w') (fun _ t _ => (intOf t).toNat)
      case atStart =>
        have hx : (1 + x2).toNat ≤ 3 := by omega
        exact ⟨(1 + x2).toNat, ⟨#[]⟩, by rw [Int.toNat_of_nonneg (by omega)], rfl, hx, Bd.start hx (Nat.le_refl 0), HT.out⟩
      case round =>
        obtain ⟨k, s, rfl, rfl, hk3, hks, hS⟩ := hrel
        have hsz : s.size ≤ 10000000000000000 := by have h' := hks.out; omega
        by_cases hz : 0 < k
        · cases hemp : (s.toList == []) with
          | true =>
            have hemp' : (s.toList != []) = false := by show (!(s.toList == [])) = _; rw [hemp]; rfl
            go_wp2_with fail
            refine Calls.mono (of_lit P _ _ wr _ _ rfl hS.1 (by kernel_rfl) (by decide) (by decide) (by kernel_rfl)) ?_
            rintro e v5 ⟨t5, rfl, h5, S5⟩
            have T5 := hS.trans S5
            go_wp2_with fail
            refine Calls.mono (of_lit P _ _ v5 _ _ rfl T5.1 (by kernel_rfl) (by decide) (by decide) (by kernel_rfl)) ?_
            rintro e v6 ⟨t6, rfl, h6, S6⟩
            have T6 := T5.trans S6
            go_wp2_with fail
            refine Calls.mono (of_lit P _ _ v6 _ _ rfl T6.1 (by kernel_rfl) (by decide) (by decide) (by kernel_rfl)) ?_
            rintro e v7 ⟨t7, rfl, h7, S7⟩
            have T7 := T6.trans S7
            go_wp2_with fail
            refine (value_step P n deep K v7 T7.1 hK hKm hn0 hn1 hd' hd1 hr).mono ?_
            rintro e v8 ⟨t8, rfl, h8, S8⟩
            have T8 := T7.trans S8
            obtain ⟨j, rfl⟩ : ∃ j, k = j + 1 := ⟨k - 1, by omega⟩
            go_wp2_with fail
            go_roundw
            case rel =>
              refine ⟨j, _, by go_num, rfl, by omega, Bd.step hks ?_, T8⟩
              clear hks hsz
              simp only [ByteArray.size_append]
              omega
            case measure => simp [intOf]
          | false =>
            have hemp' : (s.toList != []) = true := by show (!(s.toList == [])) = _; rw [hemp]; rfl
            go_wp2_with fail
            refine (pad_any n wr hn0 (by omega)).mono ?_
            rintro e v5 ⟨t5, rfl, h5, rfl⟩
            go_wp2_with fail
            refine Calls.mono (of_lit P _ _ v5 _ _ rfl hS.1 (by kernel_rfl) (by decide) (by decide) (by kernel_rfl)) ?_
            rintro e v6 ⟨t6, rfl, h6, S6⟩
            have T6 := hS.trans S6
            go_wp2_with fail
            refine Calls.mono (of_lit P _ _ v6 _ _ rfl T6.1 (by kernel_rfl) (by decide) (by decide) (by kernel_rfl)) ?_
            rintro e v7 ⟨t7, rfl, h7, S7⟩
            have T7 := T6.trans S7
            go_wp2_with fail
            refine Calls.mono (of_lit P _ _ v7 _ _ rfl T7.1 (by kernel_rfl) (by decide) (by decide) (by kernel_rfl)) ?_
            rintro e v8 ⟨t8, rfl, h8, S8⟩
            have T8 := T7.trans S8
            go_wp2_with fail
            refine (value_step P n deep K v8 T8.1 hK hKm hn0 hn1 hd' hd1 hr).mono ?_
            rintro e v9 ⟨t9, rfl, h9, S9⟩
            have T9 := T8.trans S9
            obtain ⟨j, rfl⟩ : ∃ j, k = j + 1 := ⟨k - 1, by omega⟩
            go_wp2_with fail
            go_roundw
            case rel =>
              refine ⟨j, _, by go_num, rfl, by omega, Bd.step hks ?_, T9⟩
              clear hks hsz
              simp only [ByteArray.size_append]
              omega
            case measure => simp [intOf]
        · obtain rfl : k = 0 := by omega
          go_wp2_with fail
          go_ret
          refine ⟨_, rfl, ?_, hS⟩
          have hks' := Bd.last hks
          clear hks hsz
          omega
    · by_cases hk7 : x1 < 7
      · go_wp2_with fail
        refine (below_any P 3 v1 T1.1 (by decide) (by decide)).mono ?_
        rintro e v2 ⟨x2, rfl, a2, b2, S2⟩
        have T2 := T1.trans S2
        go_wp2_with fail
        have HT : Hid (St P w v2) := T2
        clear T1 T2 S1 S2
        go_loopw [8, 10] (fun u t w' => ∃ (k : Nat) (s : ByteArray), t = .int .i64 k ∧ u = .string s ∧ k ≤ 3 ∧ Bd (K + 120500) 0 k s.size ∧ St P w w') (fun _ t _ => (intOf t).toNat)
        case atStart =>
          have hx : (1 + x2).toNat ≤ 3 := by omega
          exact ⟨(1 + x2).toNat, ⟨#[]⟩, by rw [Int.toNat_of_nonneg (by omega)], rfl, hx, Bd.start hx (Nat.le_refl 0), HT.out⟩
        case round =>
          obtain ⟨k, s, rfl, rfl, hk3, hks, hS⟩ := hrel
          have hsz : s.size ≤ 10000000000000000 := by have h' := hks.out; omega
          by_cases hz : 0 < k
          · cases hemp : (s.toList == []) with
            | true =>
              have hemp' : (s.toList != []) = false := by show (!(s.toList == [])) = _; rw [hemp]; rfl
              go_wp2_with fail
              refine Calls.mono (of_lit P _ _ wr _ _ rfl hS.1 (by kernel_rfl) (by decide) (by decide) (by kernel_rfl)) ?_
              rintro e v5 ⟨t5, rfl, h5, S5⟩
              have T5 := hS.trans S5
              go_wp2_with fail
              refine (below_any P 2 v5 T5.1 (by decide) (by decide)).mono ?_
              rintro e v6 ⟨x6, rfl, a6, b6, S6⟩
              have T6 := T5.trans S6
              rcases (show x6 = 0 ∨ x6 = 1 by omega) with rfl | rfl
              · go_wp2_with fail
                refine (hr (n + 2) v6 T6.1 (by omega) (by omega)).mono ?_
                rintro e v7 ⟨t7, rfl, h7, S7⟩
                have T7 := T6.trans S7
                obtain ⟨j, rfl⟩ : ∃ j, k = j + 1 := ⟨k - 1, by omega⟩
                go_wp2_with fail
                go_roundw
                case rel =>
                  refine ⟨j, _, by go_num, rfl, by omega, Bd.step hks ?_, T7⟩
                  clear hks hsz
                  simp only [ByteArray.size_append, szmk, List.size_toArray, List.length_cons, List.length_nil]
                  omega
                case measure => simp [intOf]
              · go_wp2_with fail
                refine (leaf_any P v6 T6.1).mono ?_
                rintro e v7 ⟨t7, rfl, h7, S7⟩
                have T7 := T6.trans S7
                go_wp2_with fail
                refine Calls.mono (of_lit P _ _ v7 _ _ rfl T7.1 (by kernel_rfl) (by decide) (by decide) (by kernel_rfl)) ?_
                rintro e v8 ⟨t8, rfl, h8, S8⟩
                have T8 := T7.trans S8
                obtain ⟨j, rfl⟩ : ∃ j, k = j + 1 := ⟨k - 1, by omega⟩
                go_wp2_with fail
                go_roundw
                case rel =>
                  refine ⟨j, _, by go_num, rfl, by omega, Bd.step hks ?_, T8⟩
                  clear hks hsz
                  simp only [ByteArray.size_append, szmk, List.size_toArray, List.length_cons, List.length_nil]
                  omega
                case measure => simp [intOf]
            | false =>
              have hemp' : (s.toList != []) = true := by show (!(s.toList == [])) = _; rw [hemp]; rfl
              go_wp2_with fail
              refine (pad_any n wr hn0 (by omega)).mono ?_
              rintro e v5 ⟨t5, rfl, h5, rfl⟩
              go_wp2_with fail
              refine Calls.mono (of_lit P _ _ v5 _ _ rfl hS.1 (by kernel_rfl) (by decide) (by decide) (by kernel_rfl)) ?_
              rintro e v6 ⟨t6, rfl, h6, S6⟩
              have T6 := hS.trans S6
              go_wp2_with fail
              refine (below_any P 2 v6 T6.1 (by decide) (by decide)).mono ?_
              rintro e v7 ⟨x7, rfl, a7, b7, S7⟩
              have T7 := T6.trans S7
              rcases (show x7 = 0 ∨ x7 = 1 by omega) with rfl | rfl
              · go_wp2_with fail
                refine (hr (n + 2) v7 T7.1 (by omega) (by omega)).mono ?_
                rintro e v8 ⟨t8, rfl, h8, S8⟩
                have T8 := T7.trans S8
                obtain ⟨j, rfl⟩ : ∃ j, k = j + 1 := ⟨k - 1, by omega⟩
                go_wp2_with fail
                go_roundw
                case rel =>
                  refine ⟨j, _, by go_num, rfl, by omega, Bd.step hks ?_, T8⟩
                  clear hks hsz
                  simp only [ByteArray.size_append, szmk, List.size_toArray, List.length_cons, List.length_nil]
                  omega
                case measure => simp [intOf]
              · go_wp2_with fail
                refine (leaf_any P v7 T7.1).mono ?_
                rintro e v8 ⟨t8, rfl, h8, S8⟩
                have T8 := T7.trans S8
                go_wp2_with fail
                refine Calls.mono (of_lit P _ _ v8 _ _ rfl T8.1 (by kernel_rfl) (by decide) (by decide) (by kernel_rfl)) ?_
                rintro e v9 ⟨t9, rfl, h9, S9⟩
                have T9 := T8.trans S9
                obtain ⟨j, rfl⟩ : ∃ j, k = j + 1 := ⟨k - 1, by omega⟩
                go_wp2_with fail
                go_roundw
                case rel =>
                  refine ⟨j, _, by go_num, rfl, by omega, Bd.step hks ?_, T9⟩
                  clear hks hsz
                  simp only [ByteArray.size_append, szmk, List.size_toArray, List.length_cons, List.length_nil]
                  omega
                case measure => simp [intOf]
          · obtain rfl : k = 0 := by omega
            go_wp2_with fail
            go_ret
            refine ⟨_, rfl, ?_, hS⟩
            have hks' := Bd.last hks
            clear hks hsz
            omega
      · clear hr
        rcases (show x1 = 7 ∨ x1 = 8 by omega) with rfl | rfl
        · go_wp2_with fail
          refine Calls.mono (of_lit P _ _ v1 _ _ rfl T1.1 (by kernel_rfl) (by decide) (by decide) (by kernel_rfl)) ?_
          rintro e v2 ⟨t2, rfl, h2, S2⟩
          have T2 := T1.trans S2
          go_wp2_with fail
          refine (pad_any n v2 hn0 (by omega)).mono ?_
          rintro e v3 ⟨t3, rfl, h3, rfl⟩
          go_wp2_with fail
          refine (pad_any n v3 hn0 (by omega)).mono ?_
          rintro e v4 ⟨t4, rfl, h4, rfl⟩
          go_wp2_with fail
          go_ret
          exact ⟨_, rfl, (by simp only [ByteArray.size_append, szmk, List.size_toArray, List.length_cons, List.length_nil]; omega), T2⟩
        · go_wp2_with fail
          refine (leaf_any P v1 T1.1).mono ?_
          rintro e v2 ⟨t2, rfl, h2, S2⟩
          have T2 := T1.trans S2
          go_wp2_with fail
          refine (pad_any n v2 hn0 (by omega)).mono ?_
          rintro e v3 ⟨t3, rfl, h3, rfl⟩
          go_wp2_with fail
          refine Calls.mono (of_lit P _ _ v3 _ _ rfl T2.1 (by kernel_rfl) (by decide) (by decide) (by simp [txt, ByteArray.size_append, szmk]; omega)) ?_
          rintro e v4 ⟨t4, rfl, h4, S4⟩
          have T4 := T2.trans S4
          go_wp2_with fail
          go_ret
          exact ⟨_, rfl, (by simp only [ByteArray.size_append]; omega), T4⟩
def F11 : Nat → Nat
  | 0 => 4000000
  | d + 1 => 20 * F11 d
theorem F11_ge (d : Nat) : 200000 ≤ F11 d := by
  induction d with
  | zero => decide
  | succ d ih => unfold F11; omega
theorem F11_le (d : Nat) (h : d ≤ 4) : F11 d ≤ 1000000000000000 := by
  rcases (show d = 0 ∨ d = 1 ∨ d = 2 ∨ d = 3 ∨ d = 4 by omega) with rfl | rfl | rfl | rfl | rfl <;> decide
theorem block_any (P : Nat) (d : Nat) : d ≤ 4 → ∀ (n deep : Int) (w : World), Cu P w → deep.toNat ≤ d → -5 ≤ deep → deep ≤ 10 → 0 ≤ n → n + 2 * d ≤ 40 →
    Calls Try.prog 33 #[.pointer (some ⟨P, 0, none⟩), .int .i64 n, .int .i64 deep] w fun e w' => StrPost (F11 d) P w e w' := by
  induction d with
  | zero =>
    intro _ n deep w hC hd h0 h1 hn hn1
    exact block_step P n deep 200000 w hC (Nat.le_refl _) (by decide) hn (by omega) h0 h1 (fun h => by omega)
  | succ d ih =>
    intro hd4 n deep w hC hd h0 h1 hn hn1
    exact block_step P n deep (F11 d) w hC (F11_ge d) (F11_le d (by omega)) hn (by omega) h0 h1 (fun h n' w' hC' hn' hn2 => ih (by omega) n' (deep - 1) w' hC' (by omega) (by omega) (by omega) hn' (by omega))
end Go.Proofs.Ythfapofjbeccaad
