/- The contract of spec.HeadAt. -/
import Derived.Test.YtfpkcfedkjjjbakShl
namespace Go.Proofs.Ytfpkcfedkjjjbak
open Go.ChangeShapes Go.WideShapes Go.ChangeAt Go.RowKit
theorem results_tmp4 {fn : Func} {t u v x : Tmp} (h : fn.results = #[.tmp t, .tmp u, .tmp v, .tmp x]) (tmps : Array Value) (P : Program) (w : World) :
    (results fn tmps).run P w = .ok (.tuple #[tmps.getD t undef, tmps.getD u undef, tmps.getD v undef, tmps.getD x undef]) w := by
  simp [results, h]
set_option maxRecDepth 100000 in
set_option maxHeartbeats 8000000 in
theorem spec_headAt (s : ByteArray) (p : Int) (w : World) (hs : s.size ≤ 1048576) (D C R K : Nat) (hr : hdAt s (cl s.size p) = (D, C, R, K)) :
    Calls Try.prog 6 #[.string s, .int .i64 p] w fun e w' => e = .returned (.tuple #[.int .i64 (D : Int), .int .i64 (C : Int), .int .i64 (R : Int), .int .i64 (K : Int)]) ∧ w' = w := by
  have hcl := cl_le s.size p
  have hmx : s.size ≤ mx := by unfold mx; omega
  have HR0 : Hid (hdAt s (cl s.size p) = (D, C, R, K)) := hr
  clear hr
  go_enter Try.func6, Try.ntmps6
  go_wp2_with fail
  refine (l01P_any _ _ _ hmx).mono ?_
  rintro e w ⟨rfl, rfl⟩
  generalize cl s.size p = k at *
  by_cases hk : k < s.size
  · have hk' : ¬ (s.size : Int) ≤ (k : Int) := by omega
    have hkn : ¬ s.size ≤ k := by omega
    have hbk := bt_get s k hk
    by_cases hq0 : (s[k]'hk).toNat ≠ 124 ∧ (s[k]'hk).toNat ≠ 62
    · have a1 : (((s[k]'hk).toNat : Int) != 124) = true := by rw [bne_iff_ne]; omega
      have a2 : (((s[k]'hk).toNat : Int) != 62) = true := by rw [bne_iff_ne]; omega
      have HRES : Hid ((0, 0, k, 10) = (D, C, R, K)) := by
        show _ = (D, C, R, K)
        rw [← HR0.out]; unfold hdAt
        rw [if_pos (.inr (by rw [← hbk]; exact hq0))]
      clear hq0 HR0 hbk
      go_wp2_with fail
      (try simp only [Exit.inBlock, Exit.then])
      refine bodyPost_ret (results_tmp4 rfl _ _ _) rfl ?_
      have e0 := HRES.out
      injection e0 with e1 e2
      injection e2 with e2 e3
      injection e3 with e3 e4
      subst e1
      subst e2
      subst e3
      subst e4
      exact ⟨by first | rfl | simp, rfl⟩
    · obtain ⟨X, hX⟩ : ∃ X, hdGo s (s.size + 1) (k + 1) 0 0 = X := ⟨_, rfl⟩
      have HD : Hid (hdEnd s X = (D, C, R, K)) := by
        have h := HR0.out
        unfold hdAt at h
        rw [if_neg (by rw [← hbk]; omega), hX] at h
        exact h
      have HX : Hid (hdGo s (s.size + 1) (k + 1) 0 0 = X) := hX
      have hway : (s[k]'hk).toNat = 124 ∨ (s[k]'hk).toNat = 62 := by omega
      clear hX HR0 hq0 hbk
      rcases hway with hz | hz
      · have a1 : (((s[k]'hk).toNat : Int) != 124) = false := by rw [hz]; rfl
        clear hz
        go_wp2_with fail
        go_loop [8, 9, 10] (fun dv cv qv => ∃ (d c q f : Nat), dv = .int .i64 (d : Int) ∧ cv = .int .i64 (c : Int) ∧ qv = .int .i64 (q : Int) ∧ d ≤ 9 ∧ c ≤ 2 ∧ q ≤ s.size ∧ Hid (s.size < f + q) ∧ Hid (hdGo s f q d c = X)) (fun _ _ qv => s.size + 1 - (intOf qv).toNat)
        case atStart => exact ⟨0, 0, k + 1, s.size + 1, rfl, rfl, by go_num, by omega, by omega, hk, by show s.size < s.size + 1 + (k + 1); omega, HX⟩
        case round =>
          obtain ⟨d, c, q, f, rfl, rfl, rfl, hd9, hc2, hq, HF, HG⟩ := hrel
          by_cases hl : q < s.size
          · have hl' : (q : Int) < (s.size : Int) := by omega
            have hb := bt_get s q hl
            obtain ⟨y, hy⟩ : ∃ y, (s[q]'hl).toNat = y := ⟨_, rfl⟩
            have HY : Hid (bt s q = y) := by show bt s q = y; rw [← hb]; exact hy
            have hy256 : y < 256 := by rw [← HY.out]; exact bt_lt s q
            clear hb
            by_cases hdig : 49 ≤ y ∧ y ≤ 57
            · have b1' : (49 : Int) ≤ (y : Int) := by omega
              have b2' : (y : Int) ≤ 57 := by omega
              by_cases hd0 : d = 0
              · have b3 : ((d : Int) == 0) = true := by rw [hd0]; rfl
                subst hd0
                obtain ⟨f, rfl⟩ : ∃ f', f = f' + 1 := ⟨f - 1, by have := HF.out; omega⟩
                have HG2 : Hid (hdGo s f (q + 1) (y - 48) (c) = X) := by
                  show _ = X
                  rw [← HG.out, hd_digit hl (by rw [HY.out]; omega), HY.out]
                have HF2 : Hid (s.size < f + (q + 1)) := by have := HF.out; show s.size < f + (q + 1); omega
                clear HG HF HD
                go_wp2_with fail
                go_round
                case rel => exact ⟨y - 48, c, q + 1, f, by go_num, by go_num, by go_num, by omega, by omega, hl, HF2, HG2⟩
                case measure => simp [intOf]; omega
              · have b3 : ((d : Int) == 0) = false := by rw [beq_eq_false_iff_ne]; omega
                have b4 : ((y : Int) == 43) = false := by rw [beq_eq_false_iff_ne]; omega
                have b5 : ((y : Int) == 45) = false := by rw [beq_eq_false_iff_ne]; omega
                obtain ⟨f, rfl⟩ : ∃ f', f = f' + 1 := ⟨f - 1, by have := HF.out; omega⟩
                have HE : Hid (hdEnd s (d, c, q) = (D, C, R, K)) := by
                  show _ = (D, C, R, K)
                  rw [← HD.out]; congr 1; rw [← HG.out]; exact (hd_stop hl (by rw [HY.out]; omega) (by rw [HY.out]; omega) (by rw [HY.out]; omega)).symm
                clear HG HD HF
                have cR := spec_rest s (q : Int) w hmx
                rw [cl_nat _ _ hq] at cR
                cases hok : (rest s q).2 with
                | true =>
                  have HRES : Hid ((d, c, (rest s q).1, 0) = (D, C, R, K)) := by
                    have h := HE.out
                    unfold hdEnd at h
                    rw [if_pos hok] at h
                    exact h
                  rw [hok] at cR
                  obtain ⟨r, hr⟩ : ∃ r, (rest s q).1 = r := ⟨_, rfl⟩
                  rw [hr] at cR HRES
                  clear hr hok HE
                  go_wp2_with fail
                  refine cR.mono ?_
                  rintro e w1 ⟨rfl, rfl⟩
                  clear cR
                  go_wp2_with fail
                  (try simp only [Exit.inBlock, Exit.then])
                  refine bodyPost_ret (results_tmp4 rfl _ _ _) rfl ?_
                  have e0 := HRES.out
                  injection e0 with e1 e2
                  injection e2 with e2 e3
                  injection e3 with e3 e4
                  subst e1
                  subst e2
                  subst e3
                  subst e4
                  exact ⟨by first | rfl | simp, rfl⟩
                | false =>
                  have HRES : Hid ((0, 0, (rest s q).1, 6) = (D, C, R, K)) := by
                    have h := HE.out
                    unfold hdEnd at h
                    rw [if_neg (by rw [hok]; simp)] at h
                    exact h
                  rw [hok] at cR
                  obtain ⟨r, hr⟩ : ∃ r, (rest s q).1 = r := ⟨_, rfl⟩
                  rw [hr] at cR HRES
                  clear hr hok HE
                  go_wp2_with fail
                  refine cR.mono ?_
                  rintro e w1 ⟨rfl, rfl⟩
                  clear cR
                  go_wp2_with fail
                  (try simp only [Exit.inBlock, Exit.then])
                  refine bodyPost_ret (results_tmp4 rfl _ _ _) rfl ?_
                  have e0 := HRES.out
                  injection e0 with e1 e2
                  injection e2 with e2 e3
                  injection e3 with e3 e4
                  subst e1
                  subst e2
                  subst e3
                  subst e4
                  exact ⟨by first | rfl | simp, rfl⟩
            · by_cases h43 : y = 43
              · have b1' : ¬ (49 : Int) ≤ (y : Int) := by omega
                have b4 : ((y : Int) == 43) = true := by rw [h43]; rfl
                by_cases hc0 : c = 0
                · have b6 : ((c : Int) == 0) = true := by rw [hc0]; rfl
                  have hcc := hc0
                  clear hy256
                  obtain ⟨f, rfl⟩ : ∃ f', f = f' + 1 := ⟨f - 1, by have := HF.out; omega⟩
                  have HG2 : Hid (hdGo s f (q + 1) (d) (2) = X) := by
                    show _ = X
                    rw [← HG.out, hd_plus hl (by rw [HY.out]; omega) (by rw [HY.out]; omega)]
                  have HF2 : Hid (s.size < f + (q + 1)) := by have := HF.out; show s.size < f + (q + 1); omega
                  clear HG HF HD
                  go_wp2_with fail
                  go_round
                  case rel => exact ⟨d, 2, q + 1, f, by go_num, by go_num, by go_num, by omega, by omega, hl, HF2, HG2⟩
                  case measure => simp [intOf]; omega
                · have b6 : ((c : Int) == 0) = false := by rw [beq_eq_false_iff_ne]; omega
                  have b5 : ((y : Int) == 45) = false := by rw [beq_eq_false_iff_ne]; omega
                  obtain ⟨f, rfl⟩ : ∃ f', f = f' + 1 := ⟨f - 1, by have := HF.out; omega⟩
                  have HE : Hid (hdEnd s (d, c, q) = (D, C, R, K)) := by
                    show _ = (D, C, R, K)
                    rw [← HD.out]; congr 1; rw [← HG.out]; exact (hd_stop hl (by rw [HY.out]; omega) (by rw [HY.out]; omega) (by rw [HY.out]; omega)).symm
                  clear HG HD HF
                  have cR := spec_rest s (q : Int) w hmx
                  rw [cl_nat _ _ hq] at cR
                  cases hok : (rest s q).2 with
                  | true =>
                    have HRES : Hid ((d, c, (rest s q).1, 0) = (D, C, R, K)) := by
                      have h := HE.out
                      unfold hdEnd at h
                      rw [if_pos hok] at h
                      exact h
                    rw [hok] at cR
                    obtain ⟨r, hr⟩ : ∃ r, (rest s q).1 = r := ⟨_, rfl⟩
                    rw [hr] at cR HRES
                    clear hr hok HE
                    go_wp2_with fail
                    refine cR.mono ?_
                    rintro e w1 ⟨rfl, rfl⟩
                    clear cR
                    go_wp2_with fail
                    (try simp only [Exit.inBlock, Exit.then])
                    refine bodyPost_ret (results_tmp4 rfl _ _ _) rfl ?_
                    have e0 := HRES.out
                    injection e0 with e1 e2
                    injection e2 with e2 e3
                    injection e3 with e3 e4
                    subst e1
                    subst e2
                    subst e3
                    subst e4
                    exact ⟨by first | rfl | simp, rfl⟩
                  | false =>
                    have HRES : Hid ((0, 0, (rest s q).1, 6) = (D, C, R, K)) := by
                      have h := HE.out
                      unfold hdEnd at h
                      rw [if_neg (by rw [hok]; simp)] at h
                      exact h
                    rw [hok] at cR
                    obtain ⟨r, hr⟩ : ∃ r, (rest s q).1 = r := ⟨_, rfl⟩
                    rw [hr] at cR HRES
                    clear hr hok HE
                    go_wp2_with fail
                    refine cR.mono ?_
                    rintro e w1 ⟨rfl, rfl⟩
                    clear cR
                    go_wp2_with fail
                    (try simp only [Exit.inBlock, Exit.then])
                    refine bodyPost_ret (results_tmp4 rfl _ _ _) rfl ?_
                    have e0 := HRES.out
                    injection e0 with e1 e2
                    injection e2 with e2 e3
                    injection e3 with e3 e4
                    subst e1
                    subst e2
                    subst e3
                    subst e4
                    exact ⟨by first | rfl | simp, rfl⟩
              · have b4 : ((y : Int) == 43) = false := by rw [beq_eq_false_iff_ne]; omega
                by_cases h45 : y = 45
                · have b1' : ¬ (49 : Int) ≤ (y : Int) := by omega
                  have b5 : ((y : Int) == 45) = true := by rw [h45]; rfl
                  by_cases hc0 : c = 0
                  · have b6 : ((c : Int) == 0) = true := by rw [hc0]; rfl
                    have hcc := hc0
                    clear hy256
                    obtain ⟨f, rfl⟩ : ∃ f', f = f' + 1 := ⟨f - 1, by have := HF.out; omega⟩
                    have HG2 : Hid (hdGo s f (q + 1) (d) (1) = X) := by
                      show _ = X
                      rw [← HG.out, hd_minus hl (by rw [HY.out]; omega) (by rw [HY.out]; omega)]
                    have HF2 : Hid (s.size < f + (q + 1)) := by have := HF.out; show s.size < f + (q + 1); omega
                    clear HG HF HD
                    go_wp2_with fail
                    go_round
                    case rel => exact ⟨d, 1, q + 1, f, by go_num, by go_num, by go_num, by omega, by omega, hl, HF2, HG2⟩
                    case measure => simp [intOf]; omega
                  · have b6 : ((c : Int) == 0) = false := by rw [beq_eq_false_iff_ne]; omega
                    obtain ⟨f, rfl⟩ : ∃ f', f = f' + 1 := ⟨f - 1, by have := HF.out; omega⟩
                    have HE : Hid (hdEnd s (d, c, q) = (D, C, R, K)) := by
                      show _ = (D, C, R, K)
                      rw [← HD.out]; congr 1; rw [← HG.out]; exact (hd_stop hl (by rw [HY.out]; omega) (by rw [HY.out]; omega) (by rw [HY.out]; omega)).symm
                    clear HG HD HF
                    have cR := spec_rest s (q : Int) w hmx
                    rw [cl_nat _ _ hq] at cR
                    cases hok : (rest s q).2 with
                    | true =>
                      have HRES : Hid ((d, c, (rest s q).1, 0) = (D, C, R, K)) := by
                        have h := HE.out
                        unfold hdEnd at h
                        rw [if_pos hok] at h
                        exact h
                      rw [hok] at cR
                      obtain ⟨r, hr⟩ : ∃ r, (rest s q).1 = r := ⟨_, rfl⟩
                      rw [hr] at cR HRES
                      clear hr hok HE
                      go_wp2_with fail
                      refine cR.mono ?_
                      rintro e w1 ⟨rfl, rfl⟩
                      clear cR
                      go_wp2_with fail
                      (try simp only [Exit.inBlock, Exit.then])
                      refine bodyPost_ret (results_tmp4 rfl _ _ _) rfl ?_
                      have e0 := HRES.out
                      injection e0 with e1 e2
                      injection e2 with e2 e3
                      injection e3 with e3 e4
                      subst e1
                      subst e2
                      subst e3
                      subst e4
                      exact ⟨by first | rfl | simp, rfl⟩
                    | false =>
                      have HRES : Hid ((0, 0, (rest s q).1, 6) = (D, C, R, K)) := by
                        have h := HE.out
                        unfold hdEnd at h
                        rw [if_neg (by rw [hok]; simp)] at h
                        exact h
                      rw [hok] at cR
                      obtain ⟨r, hr⟩ : ∃ r, (rest s q).1 = r := ⟨_, rfl⟩
                      rw [hr] at cR HRES
                      clear hr hok HE
                      go_wp2_with fail
                      refine cR.mono ?_
                      rintro e w1 ⟨rfl, rfl⟩
                      clear cR
                      go_wp2_with fail
                      (try simp only [Exit.inBlock, Exit.then])
                      refine bodyPost_ret (results_tmp4 rfl _ _ _) rfl ?_
                      have e0 := HRES.out
                      injection e0 with e1 e2
                      injection e2 with e2 e3
                      injection e3 with e3 e4
                      subst e1
                      subst e2
                      subst e3
                      subst e4
                      exact ⟨by first | rfl | simp, rfl⟩
                · have b5 : ((y : Int) == 45) = false := by rw [beq_eq_false_iff_ne]; omega
                  obtain ⟨f, rfl⟩ : ∃ f', f = f' + 1 := ⟨f - 1, by have := HF.out; omega⟩
                  by_cases h49 : 49 ≤ y
                  · have b1' : (49 : Int) ≤ (y : Int) := by omega
                    have b2' : ¬ (y : Int) ≤ 57 := by omega
                    have HE : Hid (hdEnd s (d, c, q) = (D, C, R, K)) := by
                      show _ = (D, C, R, K)
                      rw [← HD.out]; congr 1; rw [← HG.out]; exact (hd_stop hl (by rw [HY.out]; omega) (by rw [HY.out]; omega) (by rw [HY.out]; omega)).symm
                    clear HG HD HF
                    have cR := spec_rest s (q : Int) w hmx
                    rw [cl_nat _ _ hq] at cR
                    cases hok : (rest s q).2 with
                    | true =>
                      have HRES : Hid ((d, c, (rest s q).1, 0) = (D, C, R, K)) := by
                        have h := HE.out
                        unfold hdEnd at h
                        rw [if_pos hok] at h
                        exact h
                      rw [hok] at cR
                      obtain ⟨r, hr⟩ : ∃ r, (rest s q).1 = r := ⟨_, rfl⟩
                      rw [hr] at cR HRES
                      clear hr hok HE
                      go_wp2_with fail
                      refine cR.mono ?_
                      rintro e w1 ⟨rfl, rfl⟩
                      clear cR
                      go_wp2_with fail
                      (try simp only [Exit.inBlock, Exit.then])
                      refine bodyPost_ret (results_tmp4 rfl _ _ _) rfl ?_
                      have e0 := HRES.out
                      injection e0 with e1 e2
                      injection e2 with e2 e3
                      injection e3 with e3 e4
                      subst e1
                      subst e2
                      subst e3
                      subst e4
                      exact ⟨by first | rfl | simp, rfl⟩
                    | false =>
                      have HRES : Hid ((0, 0, (rest s q).1, 6) = (D, C, R, K)) := by
                        have h := HE.out
                        unfold hdEnd at h
                        rw [if_neg (by rw [hok]; simp)] at h
                        exact h
                      rw [hok] at cR
                      obtain ⟨r, hr⟩ : ∃ r, (rest s q).1 = r := ⟨_, rfl⟩
                      rw [hr] at cR HRES
                      clear hr hok HE
                      go_wp2_with fail
                      refine cR.mono ?_
                      rintro e w1 ⟨rfl, rfl⟩
                      clear cR
                      go_wp2_with fail
                      (try simp only [Exit.inBlock, Exit.then])
                      refine bodyPost_ret (results_tmp4 rfl _ _ _) rfl ?_
                      have e0 := HRES.out
                      injection e0 with e1 e2
                      injection e2 with e2 e3
                      injection e3 with e3 e4
                      subst e1
                      subst e2
                      subst e3
                      subst e4
                      exact ⟨by first | rfl | simp, rfl⟩
                  · have b1' : ¬ (49 : Int) ≤ (y : Int) := by omega
                    have HE : Hid (hdEnd s (d, c, q) = (D, C, R, K)) := by
                      show _ = (D, C, R, K)
                      rw [← HD.out]; congr 1; rw [← HG.out]; exact (hd_stop hl (by rw [HY.out]; omega) (by rw [HY.out]; omega) (by rw [HY.out]; omega)).symm
                    clear HG HD HF
                    have cR := spec_rest s (q : Int) w hmx
                    rw [cl_nat _ _ hq] at cR
                    cases hok : (rest s q).2 with
                    | true =>
                      have HRES : Hid ((d, c, (rest s q).1, 0) = (D, C, R, K)) := by
                        have h := HE.out
                        unfold hdEnd at h
                        rw [if_pos hok] at h
                        exact h
                      rw [hok] at cR
                      obtain ⟨r, hr⟩ : ∃ r, (rest s q).1 = r := ⟨_, rfl⟩
                      rw [hr] at cR HRES
                      clear hr hok HE
                      go_wp2_with fail
                      refine cR.mono ?_
                      rintro e w1 ⟨rfl, rfl⟩
                      clear cR
                      go_wp2_with fail
                      (try simp only [Exit.inBlock, Exit.then])
                      refine bodyPost_ret (results_tmp4 rfl _ _ _) rfl ?_
                      have e0 := HRES.out
                      injection e0 with e1 e2
                      injection e2 with e2 e3
                      injection e3 with e3 e4
                      subst e1
                      subst e2
                      subst e3
                      subst e4
                      exact ⟨by first | rfl | simp, rfl⟩
                    | false =>
                      have HRES : Hid ((0, 0, (rest s q).1, 6) = (D, C, R, K)) := by
                        have h := HE.out
                        unfold hdEnd at h
                        rw [if_neg (by rw [hok]; simp)] at h
                        exact h
                      rw [hok] at cR
                      obtain ⟨r, hr⟩ : ∃ r, (rest s q).1 = r := ⟨_, rfl⟩
                      rw [hr] at cR HRES
                      clear hr hok HE
                      go_wp2_with fail
                      refine cR.mono ?_
                      rintro e w1 ⟨rfl, rfl⟩
                      clear cR
                      go_wp2_with fail
                      (try simp only [Exit.inBlock, Exit.then])
                      refine bodyPost_ret (results_tmp4 rfl _ _ _) rfl ?_
                      have e0 := HRES.out
                      injection e0 with e1 e2
                      injection e2 with e2 e3
                      injection e3 with e3 e4
                      subst e1
                      subst e2
                      subst e3
                      subst e4
                      exact ⟨by first | rfl | simp, rfl⟩
          · have hl' : ¬ (q : Int) < (s.size : Int) := by omega
            have HE : Hid (hdEnd s (d, c, q) = (D, C, R, K)) := by
              show _ = (D, C, R, K)
              rw [← HD.out]; congr 1; rw [← HG.out]; exact (hd_end (by omega)).symm
            clear HG HD HF
            have cR := spec_rest s (q : Int) w hmx
            rw [cl_nat _ _ hq] at cR
            cases hok : (rest s q).2 with
            | true =>
              have HRES : Hid ((d, c, (rest s q).1, 0) = (D, C, R, K)) := by
                have h := HE.out
                unfold hdEnd at h
                rw [if_pos hok] at h
                exact h
              rw [hok] at cR
              obtain ⟨r, hr⟩ : ∃ r, (rest s q).1 = r := ⟨_, rfl⟩
              rw [hr] at cR HRES
              clear hr hok HE
              go_wp2_with fail
              refine cR.mono ?_
              rintro e w1 ⟨rfl, rfl⟩
              clear cR
              go_wp2_with fail
              (try simp only [Exit.inBlock, Exit.then])
              refine bodyPost_ret (results_tmp4 rfl _ _ _) rfl ?_
              have e0 := HRES.out
              injection e0 with e1 e2
              injection e2 with e2 e3
              injection e3 with e3 e4
              subst e1
              subst e2
              subst e3
              subst e4
              exact ⟨by first | rfl | simp, rfl⟩
            | false =>
              have HRES : Hid ((0, 0, (rest s q).1, 6) = (D, C, R, K)) := by
                have h := HE.out
                unfold hdEnd at h
                rw [if_neg (by rw [hok]; simp)] at h
                exact h
              rw [hok] at cR
              obtain ⟨r, hr⟩ : ∃ r, (rest s q).1 = r := ⟨_, rfl⟩
              rw [hr] at cR HRES
              clear hr hok HE
              go_wp2_with fail
              refine cR.mono ?_
              rintro e w1 ⟨rfl, rfl⟩
              clear cR
              go_wp2_with fail
              (try simp only [Exit.inBlock, Exit.then])
              refine bodyPost_ret (results_tmp4 rfl _ _ _) rfl ?_
              have e0 := HRES.out
              injection e0 with e1 e2
              injection e2 with e2 e3
              injection e3 with e3 e4
              subst e1
              subst e2
              subst e3
              subst e4
              exact ⟨by first | rfl | simp, rfl⟩
      · have a1 : (((s[k]'hk).toNat : Int) != 124) = true := by rw [hz]; rfl
        have a2 : (((s[k]'hk).toNat : Int) != 62) = false := by rw [hz]; rfl
        clear hz
        go_wp2_with fail
        go_loop [8, 9, 10] (fun dv cv qv => ∃ (d c q f : Nat), dv = .int .i64 (d : Int) ∧ cv = .int .i64 (c : Int) ∧ qv = .int .i64 (q : Int) ∧ d ≤ 9 ∧ c ≤ 2 ∧ q ≤ s.size ∧ Hid (s.size < f + q) ∧ Hid (hdGo s f q d c = X)) (fun _ _ qv => s.size + 1 - (intOf qv).toNat)
        case atStart => exact ⟨0, 0, k + 1, s.size + 1, rfl, rfl, by go_num, by omega, by omega, hk, by show s.size < s.size + 1 + (k + 1); omega, HX⟩
        case round =>
          obtain ⟨d, c, q, f, rfl, rfl, rfl, hd9, hc2, hq, HF, HG⟩ := hrel
          by_cases hl : q < s.size
          · have hl' : (q : Int) < (s.size : Int) := by omega
            have hb := bt_get s q hl
            obtain ⟨y, hy⟩ : ∃ y, (s[q]'hl).toNat = y := ⟨_, rfl⟩
            have HY : Hid (bt s q = y) := by show bt s q = y; rw [← hb]; exact hy
            have hy256 : y < 256 := by rw [← HY.out]; exact bt_lt s q
            clear hb
            by_cases hdig : 49 ≤ y ∧ y ≤ 57
            · have b1' : (49 : Int) ≤ (y : Int) := by omega
              have b2' : (y : Int) ≤ 57 := by omega
              by_cases hd0 : d = 0
              · have b3 : ((d : Int) == 0) = true := by rw [hd0]; rfl
                subst hd0
                obtain ⟨f, rfl⟩ : ∃ f', f = f' + 1 := ⟨f - 1, by have := HF.out; omega⟩
                have HG2 : Hid (hdGo s f (q + 1) (y - 48) (c) = X) := by
                  show _ = X
                  rw [← HG.out, hd_digit hl (by rw [HY.out]; omega), HY.out]
                have HF2 : Hid (s.size < f + (q + 1)) := by have := HF.out; show s.size < f + (q + 1); omega
                clear HG HF HD
                go_wp2_with fail
                go_round
                case rel => exact ⟨y - 48, c, q + 1, f, by go_num, by go_num, by go_num, by omega, by omega, hl, HF2, HG2⟩
                case measure => simp [intOf]; omega
              · have b3 : ((d : Int) == 0) = false := by rw [beq_eq_false_iff_ne]; omega
                have b4 : ((y : Int) == 43) = false := by rw [beq_eq_false_iff_ne]; omega
                have b5 : ((y : Int) == 45) = false := by rw [beq_eq_false_iff_ne]; omega
                obtain ⟨f, rfl⟩ : ∃ f', f = f' + 1 := ⟨f - 1, by have := HF.out; omega⟩
                have HE : Hid (hdEnd s (d, c, q) = (D, C, R, K)) := by
                  show _ = (D, C, R, K)
                  rw [← HD.out]; congr 1; rw [← HG.out]; exact (hd_stop hl (by rw [HY.out]; omega) (by rw [HY.out]; omega) (by rw [HY.out]; omega)).symm
                clear HG HD HF
                have cR := spec_rest s (q : Int) w hmx
                rw [cl_nat _ _ hq] at cR
                cases hok : (rest s q).2 with
                | true =>
                  have HRES : Hid ((d, c, (rest s q).1, 0) = (D, C, R, K)) := by
                    have h := HE.out
                    unfold hdEnd at h
                    rw [if_pos hok] at h
                    exact h
                  rw [hok] at cR
                  obtain ⟨r, hr⟩ : ∃ r, (rest s q).1 = r := ⟨_, rfl⟩
                  rw [hr] at cR HRES
                  clear hr hok HE
                  go_wp2_with fail
                  refine cR.mono ?_
                  rintro e w1 ⟨rfl, rfl⟩
                  clear cR
                  go_wp2_with fail
                  (try simp only [Exit.inBlock, Exit.then])
                  refine bodyPost_ret (results_tmp4 rfl _ _ _) rfl ?_
                  have e0 := HRES.out
                  injection e0 with e1 e2
                  injection e2 with e2 e3
                  injection e3 with e3 e4
                  subst e1
                  subst e2
                  subst e3
                  subst e4
                  exact ⟨by first | rfl | simp, rfl⟩
                | false =>
                  have HRES : Hid ((0, 0, (rest s q).1, 6) = (D, C, R, K)) := by
                    have h := HE.out
                    unfold hdEnd at h
                    rw [if_neg (by rw [hok]; simp)] at h
                    exact h
                  rw [hok] at cR
                  obtain ⟨r, hr⟩ : ∃ r, (rest s q).1 = r := ⟨_, rfl⟩
                  rw [hr] at cR HRES
                  clear hr hok HE
                  go_wp2_with fail
                  refine cR.mono ?_
                  rintro e w1 ⟨rfl, rfl⟩
                  clear cR
                  go_wp2_with fail
                  (try simp only [Exit.inBlock, Exit.then])
                  refine bodyPost_ret (results_tmp4 rfl _ _ _) rfl ?_
                  have e0 := HRES.out
                  injection e0 with e1 e2
                  injection e2 with e2 e3
                  injection e3 with e3 e4
                  subst e1
                  subst e2
                  subst e3
                  subst e4
                  exact ⟨by first | rfl | simp, rfl⟩
            · by_cases h43 : y = 43
              · have b1' : ¬ (49 : Int) ≤ (y : Int) := by omega
                have b4 : ((y : Int) == 43) = true := by rw [h43]; rfl
                by_cases hc0 : c = 0
                · have b6 : ((c : Int) == 0) = true := by rw [hc0]; rfl
                  have hcc := hc0
                  clear hy256
                  obtain ⟨f, rfl⟩ : ∃ f', f = f' + 1 := ⟨f - 1, by have := HF.out; omega⟩
                  have HG2 : Hid (hdGo s f (q + 1) (d) (2) = X) := by
                    show _ = X
                    rw [← HG.out, hd_plus hl (by rw [HY.out]; omega) (by rw [HY.out]; omega)]
                  have HF2 : Hid (s.size < f + (q + 1)) := by have := HF.out; show s.size < f + (q + 1); omega
                  clear HG HF HD
                  go_wp2_with fail
                  go_round
                  case rel => exact ⟨d, 2, q + 1, f, by go_num, by go_num, by go_num, by omega, by omega, hl, HF2, HG2⟩
                  case measure => simp [intOf]; omega
                · have b6 : ((c : Int) == 0) = false := by rw [beq_eq_false_iff_ne]; omega
                  have b5 : ((y : Int) == 45) = false := by rw [beq_eq_false_iff_ne]; omega
                  obtain ⟨f, rfl⟩ : ∃ f', f = f' + 1 := ⟨f - 1, by have := HF.out; omega⟩
                  have HE : Hid (hdEnd s (d, c, q) = (D, C, R, K)) := by
                    show _ = (D, C, R, K)
                    rw [← HD.out]; congr 1; rw [← HG.out]; exact (hd_stop hl (by rw [HY.out]; omega) (by rw [HY.out]; omega) (by rw [HY.out]; omega)).symm
                  clear HG HD HF
                  have cR := spec_rest s (q : Int) w hmx
                  rw [cl_nat _ _ hq] at cR
                  cases hok : (rest s q).2 with
                  | true =>
                    have HRES : Hid ((d, c, (rest s q).1, 0) = (D, C, R, K)) := by
                      have h := HE.out
                      unfold hdEnd at h
                      rw [if_pos hok] at h
                      exact h
                    rw [hok] at cR
                    obtain ⟨r, hr⟩ : ∃ r, (rest s q).1 = r := ⟨_, rfl⟩
                    rw [hr] at cR HRES
                    clear hr hok HE
                    go_wp2_with fail
                    refine cR.mono ?_
                    rintro e w1 ⟨rfl, rfl⟩
                    clear cR
                    go_wp2_with fail
                    (try simp only [Exit.inBlock, Exit.then])
                    refine bodyPost_ret (results_tmp4 rfl _ _ _) rfl ?_
                    have e0 := HRES.out
                    injection e0 with e1 e2
                    injection e2 with e2 e3
                    injection e3 with e3 e4
                    subst e1
                    subst e2
                    subst e3
                    subst e4
                    exact ⟨by first | rfl | simp, rfl⟩
                  | false =>
                    have HRES : Hid ((0, 0, (rest s q).1, 6) = (D, C, R, K)) := by
                      have h := HE.out
                      unfold hdEnd at h
                      rw [if_neg (by rw [hok]; simp)] at h
                      exact h
                    rw [hok] at cR
                    obtain ⟨r, hr⟩ : ∃ r, (rest s q).1 = r := ⟨_, rfl⟩
                    rw [hr] at cR HRES
                    clear hr hok HE
                    go_wp2_with fail
                    refine cR.mono ?_
                    rintro e w1 ⟨rfl, rfl⟩
                    clear cR
                    go_wp2_with fail
                    (try simp only [Exit.inBlock, Exit.then])
                    refine bodyPost_ret (results_tmp4 rfl _ _ _) rfl ?_
                    have e0 := HRES.out
                    injection e0 with e1 e2
                    injection e2 with e2 e3
                    injection e3 with e3 e4
                    subst e1
                    subst e2
                    subst e3
                    subst e4
                    exact ⟨by first | rfl | simp, rfl⟩
              · have b4 : ((y : Int) == 43) = false := by rw [beq_eq_false_iff_ne]; omega
                by_cases h45 : y = 45
                · have b1' : ¬ (49 : Int) ≤ (y : Int) := by omega
                  have b5 : ((y : Int) == 45) = true := by rw [h45]; rfl
                  by_cases hc0 : c = 0
                  · have b6 : ((c : Int) == 0) = true := by rw [hc0]; rfl
                    have hcc := hc0
                    clear hy256
                    obtain ⟨f, rfl⟩ : ∃ f', f = f' + 1 := ⟨f - 1, by have := HF.out; omega⟩
                    have HG2 : Hid (hdGo s f (q + 1) (d) (1) = X) := by
                      show _ = X
                      rw [← HG.out, hd_minus hl (by rw [HY.out]; omega) (by rw [HY.out]; omega)]
                    have HF2 : Hid (s.size < f + (q + 1)) := by have := HF.out; show s.size < f + (q + 1); omega
                    clear HG HF HD
                    go_wp2_with fail
                    go_round
                    case rel => exact ⟨d, 1, q + 1, f, by go_num, by go_num, by go_num, by omega, by omega, hl, HF2, HG2⟩
                    case measure => simp [intOf]; omega
                  · have b6 : ((c : Int) == 0) = false := by rw [beq_eq_false_iff_ne]; omega
                    obtain ⟨f, rfl⟩ : ∃ f', f = f' + 1 := ⟨f - 1, by have := HF.out; omega⟩
                    have HE : Hid (hdEnd s (d, c, q) = (D, C, R, K)) := by
                      show _ = (D, C, R, K)
                      rw [← HD.out]; congr 1; rw [← HG.out]; exact (hd_stop hl (by rw [HY.out]; omega) (by rw [HY.out]; omega) (by rw [HY.out]; omega)).symm
                    clear HG HD HF
                    have cR := spec_rest s (q : Int) w hmx
                    rw [cl_nat _ _ hq] at cR
                    cases hok : (rest s q).2 with
                    | true =>
                      have HRES : Hid ((d, c, (rest s q).1, 0) = (D, C, R, K)) := by
                        have h := HE.out
                        unfold hdEnd at h
                        rw [if_pos hok] at h
                        exact h
                      rw [hok] at cR
                      obtain ⟨r, hr⟩ : ∃ r, (rest s q).1 = r := ⟨_, rfl⟩
                      rw [hr] at cR HRES
                      clear hr hok HE
                      go_wp2_with fail
                      refine cR.mono ?_
                      rintro e w1 ⟨rfl, rfl⟩
                      clear cR
                      go_wp2_with fail
                      (try simp only [Exit.inBlock, Exit.then])
                      refine bodyPost_ret (results_tmp4 rfl _ _ _) rfl ?_
                      have e0 := HRES.out
                      injection e0 with e1 e2
                      injection e2 with e2 e3
                      injection e3 with e3 e4
                      subst e1
                      subst e2
                      subst e3
                      subst e4
                      exact ⟨by first | rfl | simp, rfl⟩
                    | false =>
                      have HRES : Hid ((0, 0, (rest s q).1, 6) = (D, C, R, K)) := by
                        have h := HE.out
                        unfold hdEnd at h
                        rw [if_neg (by rw [hok]; simp)] at h
                        exact h
                      rw [hok] at cR
                      obtain ⟨r, hr⟩ : ∃ r, (rest s q).1 = r := ⟨_, rfl⟩
                      rw [hr] at cR HRES
                      clear hr hok HE
                      go_wp2_with fail
                      refine cR.mono ?_
                      rintro e w1 ⟨rfl, rfl⟩
                      clear cR
                      go_wp2_with fail
                      (try simp only [Exit.inBlock, Exit.then])
                      refine bodyPost_ret (results_tmp4 rfl _ _ _) rfl ?_
                      have e0 := HRES.out
                      injection e0 with e1 e2
                      injection e2 with e2 e3
                      injection e3 with e3 e4
                      subst e1
                      subst e2
                      subst e3
                      subst e4
                      exact ⟨by first | rfl | simp, rfl⟩
                · have b5 : ((y : Int) == 45) = false := by rw [beq_eq_false_iff_ne]; omega
                  obtain ⟨f, rfl⟩ : ∃ f', f = f' + 1 := ⟨f - 1, by have := HF.out; omega⟩
                  by_cases h49 : 49 ≤ y
                  · have b1' : (49 : Int) ≤ (y : Int) := by omega
                    have b2' : ¬ (y : Int) ≤ 57 := by omega
                    have HE : Hid (hdEnd s (d, c, q) = (D, C, R, K)) := by
                      show _ = (D, C, R, K)
                      rw [← HD.out]; congr 1; rw [← HG.out]; exact (hd_stop hl (by rw [HY.out]; omega) (by rw [HY.out]; omega) (by rw [HY.out]; omega)).symm
                    clear HG HD HF
                    have cR := spec_rest s (q : Int) w hmx
                    rw [cl_nat _ _ hq] at cR
                    cases hok : (rest s q).2 with
                    | true =>
                      have HRES : Hid ((d, c, (rest s q).1, 0) = (D, C, R, K)) := by
                        have h := HE.out
                        unfold hdEnd at h
                        rw [if_pos hok] at h
                        exact h
                      rw [hok] at cR
                      obtain ⟨r, hr⟩ : ∃ r, (rest s q).1 = r := ⟨_, rfl⟩
                      rw [hr] at cR HRES
                      clear hr hok HE
                      go_wp2_with fail
                      refine cR.mono ?_
                      rintro e w1 ⟨rfl, rfl⟩
                      clear cR
                      go_wp2_with fail
                      (try simp only [Exit.inBlock, Exit.then])
                      refine bodyPost_ret (results_tmp4 rfl _ _ _) rfl ?_
                      have e0 := HRES.out
                      injection e0 with e1 e2
                      injection e2 with e2 e3
                      injection e3 with e3 e4
                      subst e1
                      subst e2
                      subst e3
                      subst e4
                      exact ⟨by first | rfl | simp, rfl⟩
                    | false =>
                      have HRES : Hid ((0, 0, (rest s q).1, 6) = (D, C, R, K)) := by
                        have h := HE.out
                        unfold hdEnd at h
                        rw [if_neg (by rw [hok]; simp)] at h
                        exact h
                      rw [hok] at cR
                      obtain ⟨r, hr⟩ : ∃ r, (rest s q).1 = r := ⟨_, rfl⟩
                      rw [hr] at cR HRES
                      clear hr hok HE
                      go_wp2_with fail
                      refine cR.mono ?_
                      rintro e w1 ⟨rfl, rfl⟩
                      clear cR
                      go_wp2_with fail
                      (try simp only [Exit.inBlock, Exit.then])
                      refine bodyPost_ret (results_tmp4 rfl _ _ _) rfl ?_
                      have e0 := HRES.out
                      injection e0 with e1 e2
                      injection e2 with e2 e3
                      injection e3 with e3 e4
                      subst e1
                      subst e2
                      subst e3
                      subst e4
                      exact ⟨by first | rfl | simp, rfl⟩
                  · have b1' : ¬ (49 : Int) ≤ (y : Int) := by omega
                    have HE : Hid (hdEnd s (d, c, q) = (D, C, R, K)) := by
                      show _ = (D, C, R, K)
                      rw [← HD.out]; congr 1; rw [← HG.out]; exact (hd_stop hl (by rw [HY.out]; omega) (by rw [HY.out]; omega) (by rw [HY.out]; omega)).symm
                    clear HG HD HF
                    have cR := spec_rest s (q : Int) w hmx
                    rw [cl_nat _ _ hq] at cR
                    cases hok : (rest s q).2 with
                    | true =>
                      have HRES : Hid ((d, c, (rest s q).1, 0) = (D, C, R, K)) := by
                        have h := HE.out
                        unfold hdEnd at h
                        rw [if_pos hok] at h
                        exact h
                      rw [hok] at cR
                      obtain ⟨r, hr⟩ : ∃ r, (rest s q).1 = r := ⟨_, rfl⟩
                      rw [hr] at cR HRES
                      clear hr hok HE
                      go_wp2_with fail
                      refine cR.mono ?_
                      rintro e w1 ⟨rfl, rfl⟩
                      clear cR
                      go_wp2_with fail
                      (try simp only [Exit.inBlock, Exit.then])
                      refine bodyPost_ret (results_tmp4 rfl _ _ _) rfl ?_
                      have e0 := HRES.out
                      injection e0 with e1 e2
                      injection e2 with e2 e3
                      injection e3 with e3 e4
                      subst e1
                      subst e2
                      subst e3
                      subst e4
                      exact ⟨by first | rfl | simp, rfl⟩
                    | false =>
                      have HRES : Hid ((0, 0, (rest s q).1, 6) = (D, C, R, K)) := by
                        have h := HE.out
                        unfold hdEnd at h
                        rw [if_neg (by rw [hok]; simp)] at h
                        exact h
                      rw [hok] at cR
                      obtain ⟨r, hr⟩ : ∃ r, (rest s q).1 = r := ⟨_, rfl⟩
                      rw [hr] at cR HRES
                      clear hr hok HE
                      go_wp2_with fail
                      refine cR.mono ?_
                      rintro e w1 ⟨rfl, rfl⟩
                      clear cR
                      go_wp2_with fail
                      (try simp only [Exit.inBlock, Exit.then])
                      refine bodyPost_ret (results_tmp4 rfl _ _ _) rfl ?_
                      have e0 := HRES.out
                      injection e0 with e1 e2
                      injection e2 with e2 e3
                      injection e3 with e3 e4
                      subst e1
                      subst e2
                      subst e3
                      subst e4
                      exact ⟨by first | rfl | simp, rfl⟩
          · have hl' : ¬ (q : Int) < (s.size : Int) := by omega
            have HE : Hid (hdEnd s (d, c, q) = (D, C, R, K)) := by
              show _ = (D, C, R, K)
              rw [← HD.out]; congr 1; rw [← HG.out]; exact (hd_end (by omega)).symm
            clear HG HD HF
            have cR := spec_rest s (q : Int) w hmx
            rw [cl_nat _ _ hq] at cR
            cases hok : (rest s q).2 with
            | true =>
              have HRES : Hid ((d, c, (rest s q).1, 0) = (D, C, R, K)) := by
                have h := HE.out
                unfold hdEnd at h
                rw [if_pos hok] at h
                exact h
              rw [hok] at cR
              obtain ⟨r, hr⟩ : ∃ r, (rest s q).1 = r := ⟨_, rfl⟩
              rw [hr] at cR HRES
              clear hr hok HE
              go_wp2_with fail
              refine cR.mono ?_
              rintro e w1 ⟨rfl, rfl⟩
              clear cR
              go_wp2_with fail
              (try simp only [Exit.inBlock, Exit.then])
              refine bodyPost_ret (results_tmp4 rfl _ _ _) rfl ?_
              have e0 := HRES.out
              injection e0 with e1 e2
              injection e2 with e2 e3
              injection e3 with e3 e4
              subst e1
              subst e2
              subst e3
              subst e4
              exact ⟨by first | rfl | simp, rfl⟩
            | false =>
              have HRES : Hid ((0, 0, (rest s q).1, 6) = (D, C, R, K)) := by
                have h := HE.out
                unfold hdEnd at h
                rw [if_neg (by rw [hok]; simp)] at h
                exact h
              rw [hok] at cR
              obtain ⟨r, hr⟩ : ∃ r, (rest s q).1 = r := ⟨_, rfl⟩
              rw [hr] at cR HRES
              clear hr hok HE
              go_wp2_with fail
              refine cR.mono ?_
              rintro e w1 ⟨rfl, rfl⟩
              clear cR
              go_wp2_with fail
              (try simp only [Exit.inBlock, Exit.then])
              refine bodyPost_ret (results_tmp4 rfl _ _ _) rfl ?_
              have e0 := HRES.out
              injection e0 with e1 e2
              injection e2 with e2 e3
              injection e3 with e3 e4
              subst e1
              subst e2
              subst e3
              subst e4
              exact ⟨by first | rfl | simp, rfl⟩
  · have hk' : (s.size : Int) ≤ (k : Int) := by omega
    have HRES : Hid ((0, 0, k, 10) = (D, C, R, K)) := by
      show _ = (D, C, R, K)
      rw [← HR0.out]; unfold hdAt
      rw [if_pos (.inl (by omega))]
    clear HR0
    go_wp2_with fail
    (try simp only [Exit.inBlock, Exit.then])
    refine bodyPost_ret (results_tmp4 rfl _ _ _) rfl ?_
    have e0 := HRES.out
    injection e0 with e1 e2
    injection e2 with e2 e3
    injection e3 with e3 e4
    subst e1
    subst e2
    subst e3
    subst e4
    exact ⟨by first | rfl | simp, rfl⟩
end Go.Proofs.Ytfpkcfedkjjjbak
