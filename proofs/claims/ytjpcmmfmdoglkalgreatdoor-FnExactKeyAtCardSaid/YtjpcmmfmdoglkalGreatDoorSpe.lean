/- The contract of spec.PlainEnd. -/
import Derived.Test.YtjpcmmfmdoglkalGreatDoorSpf
namespace Go.Proofs.YtjpcmmfmdoglkalGreatDoor
open Go.ChangeShapes Go.WideShapes Go.ChangeAt Go.RowKit
theorem brk_lt {s : ByteArray} {q : Nat} (h : brk s q = false) : q < s.size := by
  unfold brk at h
  rcases Nat.lt_or_ge q s.size with h' | h'
  · exact h'
  · rw [decide_eq_true h'] at h; cases h
theorem pe_brk {s : ByteArray} {p : Nat} {fl : Bool} {f q : Nat} (h : brk s q = true) : pe1 s p fl f q = q := by
  cases f with
  | zero => rfl
  | succ f => rw [pe1, if_pos h]
theorem pe_stop {s : ByteArray} {p : Nat} {fl : Bool} {q : Nat} (hq : q < s.size) (h : brk s q = false) (hst : stopP s p q fl = true) : pe1 s p fl (s.size - q) q = q := by
  rw [show s.size - q = s.size - (q + 1) + 1 by omega, pe1, if_neg (by rw [h]; simp), if_pos hst]
theorem pe_go {s : ByteArray} {p : Nat} {fl : Bool} {q : Nat} (hq : q < s.size) (h : brk s q = false) (hst : stopP s p q fl = false) : pe1 s p fl (s.size - q) q = pe1 s p fl (s.size - (q + 1)) (q + 1) := by
  rw [show s.size - q = s.size - (q + 1) + 1 by omega, pe1, if_neg (by rw [h]; simp), if_neg (by rw [hst]; simp)]
theorem stop_hash {s : ByteArray} {p q : Nat} {fl : Bool} (h1 : bt s q = 35) (h2 : p < q) (h3 : pW (bt s (q - 1)) = true) : stopP s p q fl = true := by
  unfold stopP; rw [h1, decide_eq_true h2, h3]; rfl
theorem stop_flow {s : ByteArray} {p q : Nat} {fl : Bool} (h : (fl && pF6 (bt s q)) = true) : stopP s p q fl = true := by
  unfold stopP; rw [h]; simp
theorem stop_colon {s : ByteArray} {p q : Nat} {fl : Bool} (h1 : bt s q = 58) (h : (gapP s (q + 1) || (fl && pF6 (bt s (q + 1)))) = true) : stopP s p q fl = true := by
  unfold stopP; rw [h1, h]; simp
theorem stop_none {s : ByteArray} {p q : Nat} {fl : Bool} (h1 : (bt s q == 35 && (decide (p < q) && pW (bt s (q - 1)))) = false) (h2 : (fl && pF6 (bt s q)) = false) (h3 : bt s q ≠ 58 ∨ (gapP s (q + 1) || (fl && pF6 (bt s (q + 1)))) = false) : stopP s p q fl = false := by
  unfold stopP
  rw [h1, h2]
  rcases h3 with h | h
  · rw [show (bt s q == 58) = false from by rw [beq_eq_false_iff_ne]; exact h]; rfl
  · rw [h]; simp
set_option maxHeartbeats 16000000 in
theorem spec_plainEnd_false (s : ByteArray) (p : Int) (w : World) (hs : s.size ≤ mx) (v : Nat) (hv : plE s (cl s.size p) false = v) :
    Calls Tryz.prog 31 #[.string s, .int .i64 p, .bool false] w fun e w' => e = .returned (.int .i64 (v : Int)) ∧ w' = w := by
  have hcl := cl_le s.size p
  have hs' := hs
  unfold mx at hs'
  unfold plE at hv
  have HV : Hid (pe2 s (cl s.size p) (pe1 s (cl s.size p) false (s.size - cl s.size p) (cl s.size p)) = v) := hv
  clear hv
  go_enter Tryz.func31, Tryz.ntmps31
  go_wp2_with fail
  refine (l01P_any _ _ _ hs).mono ?_
  rintro e w ⟨rfl, rfl⟩
  generalize cl s.size p = k at *
  go_wp2_with fail
  go_loop [7] (fun qv => ∃ q : Nat, qv = .int .i64 q ∧ k ≤ q ∧ q ≤ s.size ∧ Hid (pe2 s k (pe1 s k false (s.size - q) q) = v)) (fun qv => s.size - (intOf qv).toNat)
  case atStart => exact ⟨k, rfl, Nat.le_refl _, hcl, HV⟩
  case round =>
    obtain ⟨q, rfl, hkq, hqs, HQ0⟩ := hrel
    cases hbk : brk s q with
    | true =>
      have cB := spec_break s q w true hbk.symm
      have HQ : Hid (pe2 s k q = v) := by
        show pe2 s k q = v
        rw [← HQ0.out, pe_brk hbk]
      clear HQ0 hbk
      go_wp2_with fail
      refine cB.mono ?_
      rintro e w ⟨rfl, rfl⟩
      clear cB
      go_wp2_with fail
      go_loop [7] (fun qv => ∃ r : Nat, qv = .int .i64 r ∧ k ≤ r ∧ r ≤ s.size ∧ Hid (pe2 s k r = v)) (fun qv => (intOf qv).toNat)
      case atStart => exact ⟨q, rfl, hkq, hqs, HQ⟩
      case round =>
        obtain ⟨r, rfl, hkr, hrs, HR⟩ := hrel
        by_cases h : k < r
        · have h' : (k : Int) < (r : Int) := by omega
          obtain ⟨j, hj⟩ : ∃ j, r = j + 1 := ⟨r - 1, by omega⟩
          have hjr : (r : Int) - 1 = (j : Int) := by omega
          cases hw : pW (bt s j) with
          | true =>
            have cW := spec_white1 s j w true (by rw [decide_eq_true (show j < s.size by omega), hw]; rfl)
            have HR2 : Hid (pe2 s k j = v) := by
              show pe2 s k j = v
              rw [← HR.out, hj, pe2, if_pos ⟨by omega, hw⟩]
            have hkj : k ≤ j := by omega
            have hjs : j ≤ s.size := by omega
            have hjlt : j < r := by omega
            clear hj hw HR
            go_wp2_with fail
            refine cW.mono ?_
            rintro e w ⟨rfl, rfl⟩
            clear cW
            go_wp2_with fail
            go_round
            case rel => exact ⟨j, by go_num, hkj, hjs, HR2⟩
            case measure => simp [intOf]; omega
          | false =>
            have cW := spec_white1 s j w false (by rw [hw]; simp)
            have HR2 : Hid (r = v) := by
              show r = v
              rw [← HR.out, hj, pe2, if_neg (by rw [hw]; simp)]
            clear hj hw HR
            go_wp2_with fail
            refine cW.mono ?_
            rintro e w ⟨rfl, rfl⟩
            clear cW
            go_wp2_with fail
            go_ret
            rw [HR2.out]
            exact ⟨rfl, rfl⟩
        · have h' : ¬ (k : Int) < (r : Int) := by omega
          have HR2 : Hid (r = v) := by
            show r = v
            rw [← HR.out]
            cases r with
            | zero => rfl
            | succ r => rw [pe2, if_neg (by omega)]
          clear HR h
          go_wp2_with fail
          go_ret
          rw [HR2.out]
          exact ⟨rfl, rfl⟩
    | false =>
      have cB := spec_break s q w false hbk.symm
      have hq := brk_lt hbk
      have hq' : (q : Int) < (s.size : Int) := by omega
      have HBK : Hid (brk s q = false) := hbk
      clear hbk
      go_wp2_with fail
      refine cB.mono ?_
      rintro e w ⟨rfl, rfl⟩
      clear cB
      by_cases h35 : (s[q]'hq).toNat = 35
      · have h35' : (((s[q]'hq).toNat : Int) == 35) = true := by rw [h35]; rfl
        by_cases hpq : k < q
        · have hpq' : (k : Int) < (q : Int) := by omega
          obtain ⟨j, hj⟩ : ∃ j, q = j + 1 := ⟨q - 1, by omega⟩
          have hjq : (q : Int) - 1 = (j : Int) := by omega
          have hjs : j < s.size := by omega
          have ej : q - 1 = j := by omega
          cases hw : pW (bt s j) with
          | true =>
            have cW := spec_white1 s j w true (by rw [decide_eq_true hjs, hw]; rfl)
            have HST : Hid (stopP s k q false = true) := stop_hash (by rw [← bt_get s q hq]; exact h35) hpq (by rw [ej]; exact hw)
            clear hj hw ej h35
            go_wp2_with fail
            refine cW.mono ?_
            rintro e w ⟨rfl, rfl⟩
            clear cW
            have HQ : Hid (pe2 s k q = v) := by
              show pe2 s k q = v
              rw [← HQ0.out, pe_stop hq HBK.out (HST.out)]
            clear HQ0
            go_wp2_with fail
            go_loop [7] (fun qv => ∃ r : Nat, qv = .int .i64 r ∧ k ≤ r ∧ r ≤ s.size ∧ Hid (pe2 s k r = v)) (fun qv => (intOf qv).toNat)
            case atStart => exact ⟨q, rfl, hkq, hqs, HQ⟩
            case round =>
              obtain ⟨r, rfl, hkr, hrs, HR⟩ := hrel
              by_cases h : k < r
              · have h' : (k : Int) < (r : Int) := by omega
                obtain ⟨j, hj⟩ : ∃ j, r = j + 1 := ⟨r - 1, by omega⟩
                have hjr : (r : Int) - 1 = (j : Int) := by omega
                cases hw : pW (bt s j) with
                | true =>
                  have cW := spec_white1 s j w true (by rw [decide_eq_true (show j < s.size by omega), hw]; rfl)
                  have HR2 : Hid (pe2 s k j = v) := by
                    show pe2 s k j = v
                    rw [← HR.out, hj, pe2, if_pos ⟨by omega, hw⟩]
                  have hkj : k ≤ j := by omega
                  have hjs : j ≤ s.size := by omega
                  have hjlt : j < r := by omega
                  clear hj hw HR
                  go_wp2_with fail
                  refine cW.mono ?_
                  rintro e w ⟨rfl, rfl⟩
                  clear cW
                  go_wp2_with fail
                  go_round
                  case rel => exact ⟨j, by go_num, hkj, hjs, HR2⟩
                  case measure => simp [intOf]; omega
                | false =>
                  have cW := spec_white1 s j w false (by rw [hw]; simp)
                  have HR2 : Hid (r = v) := by
                    show r = v
                    rw [← HR.out, hj, pe2, if_neg (by rw [hw]; simp)]
                  clear hj hw HR
                  go_wp2_with fail
                  refine cW.mono ?_
                  rintro e w ⟨rfl, rfl⟩
                  clear cW
                  go_wp2_with fail
                  go_ret
                  rw [HR2.out]
                  exact ⟨rfl, rfl⟩
              · have h' : ¬ (k : Int) < (r : Int) := by omega
                have HR2 : Hid (r = v) := by
                  show r = v
                  rw [← HR.out]
                  cases r with
                  | zero => rfl
                  | succ r => rw [pe2, if_neg (by omega)]
                clear HR h
                go_wp2_with fail
                go_ret
                rw [HR2.out]
                exact ⟨rfl, rfl⟩
          | false =>
            have cW := spec_white1 s j w false (by rw [hw]; simp)
            have HH : Hid ((bt s q == 35 && (decide (k < q) && pW (bt s (q - 1)))) = false) := by
              show (bt s q == 35 && (decide (k < q) && pW (bt s (q - 1)))) = false
              rw [ej, hw]; simp
            clear hj hw ej h35
            go_wp2_with fail
            refine cW.mono ?_
            rintro e w ⟨rfl, rfl⟩
            clear cW
            have HF : Hid ((false && pF6 (bt s q)) = false) := rfl
            by_cases h58 : (s[q]'hq).toNat = 58
            · have h58' : (((s[q]'hq).toNat : Int) == 58) = true := by rw [h58]; rfl
              cases hg : gapP s (q + 1) with
              | true =>
                have cG := spec_gap1 s (q + 1) w true hg.symm
                rw [show ((q + 1 : Nat) : Int) = (q : Int) + 1 from rfl] at cG
                have HST : Hid (stopP s k q false = true) := stop_colon (by rw [← bt_get s q hq]; exact h58) (by rw [hg]; rfl)
                clear h58 hg
                go_wp2_with fail
                refine cG.mono ?_
                rintro e w ⟨rfl, rfl⟩
                clear cG
                have HQ : Hid (pe2 s k q = v) := by
                  show pe2 s k q = v
                  rw [← HQ0.out, pe_stop hq HBK.out (HST.out)]
                clear HQ0
                go_wp2_with fail
                go_loop [7] (fun qv => ∃ r : Nat, qv = .int .i64 r ∧ k ≤ r ∧ r ≤ s.size ∧ Hid (pe2 s k r = v)) (fun qv => (intOf qv).toNat)
                case atStart => exact ⟨q, rfl, hkq, hqs, HQ⟩
                case round =>
                  obtain ⟨r, rfl, hkr, hrs, HR⟩ := hrel
                  by_cases h : k < r
                  · have h' : (k : Int) < (r : Int) := by omega
                    obtain ⟨j, hj⟩ : ∃ j, r = j + 1 := ⟨r - 1, by omega⟩
                    have hjr : (r : Int) - 1 = (j : Int) := by omega
                    cases hw : pW (bt s j) with
                    | true =>
                      have cW := spec_white1 s j w true (by rw [decide_eq_true (show j < s.size by omega), hw]; rfl)
                      have HR2 : Hid (pe2 s k j = v) := by
                        show pe2 s k j = v
                        rw [← HR.out, hj, pe2, if_pos ⟨by omega, hw⟩]
                      have hkj : k ≤ j := by omega
                      have hjs : j ≤ s.size := by omega
                      have hjlt : j < r := by omega
                      clear hj hw HR
                      go_wp2_with fail
                      refine cW.mono ?_
                      rintro e w ⟨rfl, rfl⟩
                      clear cW
                      go_wp2_with fail
                      go_round
                      case rel => exact ⟨j, by go_num, hkj, hjs, HR2⟩
                      case measure => simp [intOf]; omega
                    | false =>
                      have cW := spec_white1 s j w false (by rw [hw]; simp)
                      have HR2 : Hid (r = v) := by
                        show r = v
                        rw [← HR.out, hj, pe2, if_neg (by rw [hw]; simp)]
                      clear hj hw HR
                      go_wp2_with fail
                      refine cW.mono ?_
                      rintro e w ⟨rfl, rfl⟩
                      clear cW
                      go_wp2_with fail
                      go_ret
                      rw [HR2.out]
                      exact ⟨rfl, rfl⟩
                  · have h' : ¬ (k : Int) < (r : Int) := by omega
                    have HR2 : Hid (r = v) := by
                      show r = v
                      rw [← HR.out]
                      cases r with
                      | zero => rfl
                      | succ r => rw [pe2, if_neg (by omega)]
                    clear HR h
                    go_wp2_with fail
                    go_ret
                    rw [HR2.out]
                    exact ⟨rfl, rfl⟩
              | false =>
                have cG := spec_gap1 s (q + 1) w false hg.symm
                rw [show ((q + 1 : Nat) : Int) = (q : Int) + 1 from rfl] at cG
                have HST : Hid (stopP s k q false = false) := stop_none HH.out HF.out (.inr (by rw [hg]; rfl))
                clear h58 hg
                go_wp2_with fail
                refine cG.mono ?_
                rintro e w ⟨rfl, rfl⟩
                clear cG
                have HQ2 : Hid (pe2 s k (pe1 s k false (s.size - (q + 1)) (q + 1)) = v) := by
                  show pe2 s k (pe1 s k false (s.size - (q + 1)) (q + 1)) = v
                  rw [← HQ0.out, pe_go hq HBK.out (HST.out)]
                clear HQ0
                go_wp2_with fail
                go_round
                case rel => exact ⟨q + 1, by go_num, by omega, by omega, HQ2⟩
                case measure => simp [intOf]; omega
            · have h58' : (((s[q]'hq).toNat : Int) == 58) = false := by rw [beq_eq_false_iff_ne]; omega
              have HST : Hid (stopP s k q false = false) := stop_none HH.out HF.out (.inl (by rw [← bt_get s q hq]; exact h58))
              clear h58
              have HQ2 : Hid (pe2 s k (pe1 s k false (s.size - (q + 1)) (q + 1)) = v) := by
                show pe2 s k (pe1 s k false (s.size - (q + 1)) (q + 1)) = v
                rw [← HQ0.out, pe_go hq HBK.out (HST.out)]
              clear HQ0
              go_wp2_with fail
              go_round
              case rel => exact ⟨q + 1, by go_num, by omega, by omega, HQ2⟩
              case measure => simp [intOf]; omega
        · have hpq' : ¬ (k : Int) < (q : Int) := by omega
          have HH : Hid ((bt s q == 35 && (decide (k < q) && pW (bt s (q - 1)))) = false) := by
            show (bt s q == 35 && (decide (k < q) && pW (bt s (q - 1)))) = false
            rw [decide_eq_false hpq]; simp
          clear h35
          have HF : Hid ((false && pF6 (bt s q)) = false) := rfl
          by_cases h58 : (s[q]'hq).toNat = 58
          · have h58' : (((s[q]'hq).toNat : Int) == 58) = true := by rw [h58]; rfl
            cases hg : gapP s (q + 1) with
            | true =>
              have cG := spec_gap1 s (q + 1) w true hg.symm
              rw [show ((q + 1 : Nat) : Int) = (q : Int) + 1 from rfl] at cG
              have HST : Hid (stopP s k q false = true) := stop_colon (by rw [← bt_get s q hq]; exact h58) (by rw [hg]; rfl)
              clear h58 hg
              go_wp2_with fail
              refine cG.mono ?_
              rintro e w ⟨rfl, rfl⟩
              clear cG
              have HQ : Hid (pe2 s k q = v) := by
                show pe2 s k q = v
                rw [← HQ0.out, pe_stop hq HBK.out (HST.out)]
              clear HQ0
              go_wp2_with fail
              go_loop [7] (fun qv => ∃ r : Nat, qv = .int .i64 r ∧ k ≤ r ∧ r ≤ s.size ∧ Hid (pe2 s k r = v)) (fun qv => (intOf qv).toNat)
              case atStart => exact ⟨q, rfl, hkq, hqs, HQ⟩
              case round =>
                obtain ⟨r, rfl, hkr, hrs, HR⟩ := hrel
                by_cases h : k < r
                · have h' : (k : Int) < (r : Int) := by omega
                  obtain ⟨j, hj⟩ : ∃ j, r = j + 1 := ⟨r - 1, by omega⟩
                  have hjr : (r : Int) - 1 = (j : Int) := by omega
                  cases hw : pW (bt s j) with
                  | true =>
                    have cW := spec_white1 s j w true (by rw [decide_eq_true (show j < s.size by omega), hw]; rfl)
                    have HR2 : Hid (pe2 s k j = v) := by
                      show pe2 s k j = v
                      rw [← HR.out, hj, pe2, if_pos ⟨by omega, hw⟩]
                    have hkj : k ≤ j := by omega
                    have hjs : j ≤ s.size := by omega
                    have hjlt : j < r := by omega
                    clear hj hw HR
                    go_wp2_with fail
                    refine cW.mono ?_
                    rintro e w ⟨rfl, rfl⟩
                    clear cW
                    go_wp2_with fail
                    go_round
                    case rel => exact ⟨j, by go_num, hkj, hjs, HR2⟩
                    case measure => simp [intOf]; omega
                  | false =>
                    have cW := spec_white1 s j w false (by rw [hw]; simp)
                    have HR2 : Hid (r = v) := by
                      show r = v
                      rw [← HR.out, hj, pe2, if_neg (by rw [hw]; simp)]
                    clear hj hw HR
                    go_wp2_with fail
                    refine cW.mono ?_
                    rintro e w ⟨rfl, rfl⟩
                    clear cW
                    go_wp2_with fail
                    go_ret
                    rw [HR2.out]
                    exact ⟨rfl, rfl⟩
                · have h' : ¬ (k : Int) < (r : Int) := by omega
                  have HR2 : Hid (r = v) := by
                    show r = v
                    rw [← HR.out]
                    cases r with
                    | zero => rfl
                    | succ r => rw [pe2, if_neg (by omega)]
                  clear HR h
                  go_wp2_with fail
                  go_ret
                  rw [HR2.out]
                  exact ⟨rfl, rfl⟩
            | false =>
              have cG := spec_gap1 s (q + 1) w false hg.symm
              rw [show ((q + 1 : Nat) : Int) = (q : Int) + 1 from rfl] at cG
              have HST : Hid (stopP s k q false = false) := stop_none HH.out HF.out (.inr (by rw [hg]; rfl))
              clear h58 hg
              go_wp2_with fail
              refine cG.mono ?_
              rintro e w ⟨rfl, rfl⟩
              clear cG
              have HQ2 : Hid (pe2 s k (pe1 s k false (s.size - (q + 1)) (q + 1)) = v) := by
                show pe2 s k (pe1 s k false (s.size - (q + 1)) (q + 1)) = v
                rw [← HQ0.out, pe_go hq HBK.out (HST.out)]
              clear HQ0
              go_wp2_with fail
              go_round
              case rel => exact ⟨q + 1, by go_num, by omega, by omega, HQ2⟩
              case measure => simp [intOf]; omega
          · have h58' : (((s[q]'hq).toNat : Int) == 58) = false := by rw [beq_eq_false_iff_ne]; omega
            have HST : Hid (stopP s k q false = false) := stop_none HH.out HF.out (.inl (by rw [← bt_get s q hq]; exact h58))
            clear h58
            have HQ2 : Hid (pe2 s k (pe1 s k false (s.size - (q + 1)) (q + 1)) = v) := by
              show pe2 s k (pe1 s k false (s.size - (q + 1)) (q + 1)) = v
              rw [← HQ0.out, pe_go hq HBK.out (HST.out)]
            clear HQ0
            go_wp2_with fail
            go_round
            case rel => exact ⟨q + 1, by go_num, by omega, by omega, HQ2⟩
            case measure => simp [intOf]; omega
      · have h35' : (((s[q]'hq).toNat : Int) == 35) = false := by rw [beq_eq_false_iff_ne]; omega
        have HH : Hid ((bt s q == 35 && (decide (k < q) && pW (bt s (q - 1)))) = false) := by
          show (bt s q == 35 && (decide (k < q) && pW (bt s (q - 1)))) = false
          rw [show (bt s q == 35) = false from by rw [beq_eq_false_iff_ne, ← bt_get s q hq]; exact h35]; rfl
        clear h35
        have HF : Hid ((false && pF6 (bt s q)) = false) := rfl
        by_cases h58 : (s[q]'hq).toNat = 58
        · have h58' : (((s[q]'hq).toNat : Int) == 58) = true := by rw [h58]; rfl
          cases hg : gapP s (q + 1) with
          | true =>
            have cG := spec_gap1 s (q + 1) w true hg.symm
            rw [show ((q + 1 : Nat) : Int) = (q : Int) + 1 from rfl] at cG
            have HST : Hid (stopP s k q false = true) := stop_colon (by rw [← bt_get s q hq]; exact h58) (by rw [hg]; rfl)
            clear h58 hg
            go_wp2_with fail
            refine cG.mono ?_
            rintro e w ⟨rfl, rfl⟩
            clear cG
            have HQ : Hid (pe2 s k q = v) := by
              show pe2 s k q = v
              rw [← HQ0.out, pe_stop hq HBK.out (HST.out)]
            clear HQ0
            go_wp2_with fail
            go_loop [7] (fun qv => ∃ r : Nat, qv = .int .i64 r ∧ k ≤ r ∧ r ≤ s.size ∧ Hid (pe2 s k r = v)) (fun qv => (intOf qv).toNat)
            case atStart => exact ⟨q, rfl, hkq, hqs, HQ⟩
            case round =>
              obtain ⟨r, rfl, hkr, hrs, HR⟩ := hrel
              by_cases h : k < r
              · have h' : (k : Int) < (r : Int) := by omega
                obtain ⟨j, hj⟩ : ∃ j, r = j + 1 := ⟨r - 1, by omega⟩
                have hjr : (r : Int) - 1 = (j : Int) := by omega
                cases hw : pW (bt s j) with
                | true =>
                  have cW := spec_white1 s j w true (by rw [decide_eq_true (show j < s.size by omega), hw]; rfl)
                  have HR2 : Hid (pe2 s k j = v) := by
                    show pe2 s k j = v
                    rw [← HR.out, hj, pe2, if_pos ⟨by omega, hw⟩]
                  have hkj : k ≤ j := by omega
                  have hjs : j ≤ s.size := by omega
                  have hjlt : j < r := by omega
                  clear hj hw HR
                  go_wp2_with fail
                  refine cW.mono ?_
                  rintro e w ⟨rfl, rfl⟩
                  clear cW
                  go_wp2_with fail
                  go_round
                  case rel => exact ⟨j, by go_num, hkj, hjs, HR2⟩
                  case measure => simp [intOf]; omega
                | false =>
                  have cW := spec_white1 s j w false (by rw [hw]; simp)
                  have HR2 : Hid (r = v) := by
                    show r = v
                    rw [← HR.out, hj, pe2, if_neg (by rw [hw]; simp)]
                  clear hj hw HR
                  go_wp2_with fail
                  refine cW.mono ?_
                  rintro e w ⟨rfl, rfl⟩
                  clear cW
                  go_wp2_with fail
                  go_ret
                  rw [HR2.out]
                  exact ⟨rfl, rfl⟩
              · have h' : ¬ (k : Int) < (r : Int) := by omega
                have HR2 : Hid (r = v) := by
                  show r = v
                  rw [← HR.out]
                  cases r with
                  | zero => rfl
                  | succ r => rw [pe2, if_neg (by omega)]
                clear HR h
                go_wp2_with fail
                go_ret
                rw [HR2.out]
                exact ⟨rfl, rfl⟩
          | false =>
            have cG := spec_gap1 s (q + 1) w false hg.symm
            rw [show ((q + 1 : Nat) : Int) = (q : Int) + 1 from rfl] at cG
            have HST : Hid (stopP s k q false = false) := stop_none HH.out HF.out (.inr (by rw [hg]; rfl))
            clear h58 hg
            go_wp2_with fail
            refine cG.mono ?_
            rintro e w ⟨rfl, rfl⟩
            clear cG
            have HQ2 : Hid (pe2 s k (pe1 s k false (s.size - (q + 1)) (q + 1)) = v) := by
              show pe2 s k (pe1 s k false (s.size - (q + 1)) (q + 1)) = v
              rw [← HQ0.out, pe_go hq HBK.out (HST.out)]
            clear HQ0
            go_wp2_with fail
            go_round
            case rel => exact ⟨q + 1, by go_num, by omega, by omega, HQ2⟩
            case measure => simp [intOf]; omega
        · have h58' : (((s[q]'hq).toNat : Int) == 58) = false := by rw [beq_eq_false_iff_ne]; omega
          have HST : Hid (stopP s k q false = false) := stop_none HH.out HF.out (.inl (by rw [← bt_get s q hq]; exact h58))
          clear h58
          have HQ2 : Hid (pe2 s k (pe1 s k false (s.size - (q + 1)) (q + 1)) = v) := by
            show pe2 s k (pe1 s k false (s.size - (q + 1)) (q + 1)) = v
            rw [← HQ0.out, pe_go hq HBK.out (HST.out)]
          clear HQ0
          go_wp2_with fail
          go_round
          case rel => exact ⟨q + 1, by go_num, by omega, by omega, HQ2⟩
          case measure => simp [intOf]; omega
set_option maxHeartbeats 16000000 in
theorem spec_plainEnd_true (s : ByteArray) (p : Int) (w : World) (hs : s.size ≤ mx) (v : Nat) (hv : plE s (cl s.size p) true = v) :
    Calls Tryz.prog 31 #[.string s, .int .i64 p, .bool true] w fun e w' => e = .returned (.int .i64 (v : Int)) ∧ w' = w := by
  have hcl := cl_le s.size p
  have hs' := hs
  unfold mx at hs'
  unfold plE at hv
  have HV : Hid (pe2 s (cl s.size p) (pe1 s (cl s.size p) true (s.size - cl s.size p) (cl s.size p)) = v) := hv
  clear hv
  go_enter Tryz.func31, Tryz.ntmps31
  go_wp2_with fail
  refine (l01P_any _ _ _ hs).mono ?_
  rintro e w ⟨rfl, rfl⟩
  generalize cl s.size p = k at *
  go_wp2_with fail
  go_loop [7] (fun qv => ∃ q : Nat, qv = .int .i64 q ∧ k ≤ q ∧ q ≤ s.size ∧ Hid (pe2 s k (pe1 s k true (s.size - q) q) = v)) (fun qv => s.size - (intOf qv).toNat)
  case atStart => exact ⟨k, rfl, Nat.le_refl _, hcl, HV⟩
  case round =>
    obtain ⟨q, rfl, hkq, hqs, HQ0⟩ := hrel
    cases hbk : brk s q with
    | true =>
      have cB := spec_break s q w true hbk.symm
      have HQ : Hid (pe2 s k q = v) := by
        show pe2 s k q = v
        rw [← HQ0.out, pe_brk hbk]
      clear HQ0 hbk
      go_wp2_with fail
      refine cB.mono ?_
      rintro e w ⟨rfl, rfl⟩
      clear cB
      go_wp2_with fail
      go_loop [7] (fun qv => ∃ r : Nat, qv = .int .i64 r ∧ k ≤ r ∧ r ≤ s.size ∧ Hid (pe2 s k r = v)) (fun qv => (intOf qv).toNat)
      case atStart => exact ⟨q, rfl, hkq, hqs, HQ⟩
      case round =>
        obtain ⟨r, rfl, hkr, hrs, HR⟩ := hrel
        by_cases h : k < r
        · have h' : (k : Int) < (r : Int) := by omega
          obtain ⟨j, hj⟩ : ∃ j, r = j + 1 := ⟨r - 1, by omega⟩
          have hjr : (r : Int) - 1 = (j : Int) := by omega
          cases hw : pW (bt s j) with
          | true =>
            have cW := spec_white1 s j w true (by rw [decide_eq_true (show j < s.size by omega), hw]; rfl)
            have HR2 : Hid (pe2 s k j = v) := by
              show pe2 s k j = v
              rw [← HR.out, hj, pe2, if_pos ⟨by omega, hw⟩]
            have hkj : k ≤ j := by omega
            have hjs : j ≤ s.size := by omega
            have hjlt : j < r := by omega
            clear hj hw HR
            go_wp2_with fail
            refine cW.mono ?_
            rintro e w ⟨rfl, rfl⟩
            clear cW
            go_wp2_with fail
            go_round
            case rel => exact ⟨j, by go_num, hkj, hjs, HR2⟩
            case measure => simp [intOf]; omega
          | false =>
            have cW := spec_white1 s j w false (by rw [hw]; simp)
            have HR2 : Hid (r = v) := by
              show r = v
              rw [← HR.out, hj, pe2, if_neg (by rw [hw]; simp)]
            clear hj hw HR
            go_wp2_with fail
            refine cW.mono ?_
            rintro e w ⟨rfl, rfl⟩
            clear cW
            go_wp2_with fail
            go_ret
            rw [HR2.out]
            exact ⟨rfl, rfl⟩
        · have h' : ¬ (k : Int) < (r : Int) := by omega
          have HR2 : Hid (r = v) := by
            show r = v
            rw [← HR.out]
            cases r with
            | zero => rfl
            | succ r => rw [pe2, if_neg (by omega)]
          clear HR h
          go_wp2_with fail
          go_ret
          rw [HR2.out]
          exact ⟨rfl, rfl⟩
    | false =>
      have cB := spec_break s q w false hbk.symm
      have hq := brk_lt hbk
      have hq' : (q : Int) < (s.size : Int) := by omega
      have HBK : Hid (brk s q = false) := hbk
      clear hbk
      go_wp2_with fail
      refine cB.mono ?_
      rintro e w ⟨rfl, rfl⟩
      clear cB
      by_cases h35 : (s[q]'hq).toNat = 35
      · have h35' : (((s[q]'hq).toNat : Int) == 35) = true := by rw [h35]; rfl
        by_cases hpq : k < q
        · have hpq' : (k : Int) < (q : Int) := by omega
          obtain ⟨j, hj⟩ : ∃ j, q = j + 1 := ⟨q - 1, by omega⟩
          have hjq : (q : Int) - 1 = (j : Int) := by omega
          have hjs : j < s.size := by omega
          have ej : q - 1 = j := by omega
          cases hw : pW (bt s j) with
          | true =>
            have cW := spec_white1 s j w true (by rw [decide_eq_true hjs, hw]; rfl)
            have HST : Hid (stopP s k q true = true) := stop_hash (by rw [← bt_get s q hq]; exact h35) hpq (by rw [ej]; exact hw)
            clear hj hw ej h35
            go_wp2_with fail
            refine cW.mono ?_
            rintro e w ⟨rfl, rfl⟩
            clear cW
            have HQ : Hid (pe2 s k q = v) := by
              show pe2 s k q = v
              rw [← HQ0.out, pe_stop hq HBK.out (HST.out)]
            clear HQ0
            go_wp2_with fail
            go_loop [7] (fun qv => ∃ r : Nat, qv = .int .i64 r ∧ k ≤ r ∧ r ≤ s.size ∧ Hid (pe2 s k r = v)) (fun qv => (intOf qv).toNat)
            case atStart => exact ⟨q, rfl, hkq, hqs, HQ⟩
            case round =>
              obtain ⟨r, rfl, hkr, hrs, HR⟩ := hrel
              by_cases h : k < r
              · have h' : (k : Int) < (r : Int) := by omega
                obtain ⟨j, hj⟩ : ∃ j, r = j + 1 := ⟨r - 1, by omega⟩
                have hjr : (r : Int) - 1 = (j : Int) := by omega
                cases hw : pW (bt s j) with
                | true =>
                  have cW := spec_white1 s j w true (by rw [decide_eq_true (show j < s.size by omega), hw]; rfl)
                  have HR2 : Hid (pe2 s k j = v) := by
                    show pe2 s k j = v
                    rw [← HR.out, hj, pe2, if_pos ⟨by omega, hw⟩]
                  have hkj : k ≤ j := by omega
                  have hjs : j ≤ s.size := by omega
                  have hjlt : j < r := by omega
                  clear hj hw HR
                  go_wp2_with fail
                  refine cW.mono ?_
                  rintro e w ⟨rfl, rfl⟩
                  clear cW
                  go_wp2_with fail
                  go_round
                  case rel => exact ⟨j, by go_num, hkj, hjs, HR2⟩
                  case measure => simp [intOf]; omega
                | false =>
                  have cW := spec_white1 s j w false (by rw [hw]; simp)
                  have HR2 : Hid (r = v) := by
                    show r = v
                    rw [← HR.out, hj, pe2, if_neg (by rw [hw]; simp)]
                  clear hj hw HR
                  go_wp2_with fail
                  refine cW.mono ?_
                  rintro e w ⟨rfl, rfl⟩
                  clear cW
                  go_wp2_with fail
                  go_ret
                  rw [HR2.out]
                  exact ⟨rfl, rfl⟩
              · have h' : ¬ (k : Int) < (r : Int) := by omega
                have HR2 : Hid (r = v) := by
                  show r = v
                  rw [← HR.out]
                  cases r with
                  | zero => rfl
                  | succ r => rw [pe2, if_neg (by omega)]
                clear HR h
                go_wp2_with fail
                go_ret
                rw [HR2.out]
                exact ⟨rfl, rfl⟩
          | false =>
            have cW := spec_white1 s j w false (by rw [hw]; simp)
            have HH : Hid ((bt s q == 35 && (decide (k < q) && pW (bt s (q - 1)))) = false) := by
              show (bt s q == 35 && (decide (k < q) && pW (bt s (q - 1)))) = false
              rw [ej, hw]; simp
            clear hj hw ej h35
            go_wp2_with fail
            refine cW.mono ?_
            rintro e w ⟨rfl, rfl⟩
            clear cW
            cases hf : pF6 (bt s q) with
            | true =>
              have cF := flow6 ((s[q]'hq).toNat) w true (by rw [bt_get s q hq, hf])
              have HST : Hid (stopP s k q true = true) := stop_flow (by rw [hf]; rfl)
              clear hf
              go_wp2_with fail
              refine cF.mono ?_
              rintro e w ⟨rfl, rfl⟩
              clear cF
              have HQ : Hid (pe2 s k q = v) := by
                show pe2 s k q = v
                rw [← HQ0.out, pe_stop hq HBK.out (HST.out)]
              clear HQ0
              go_wp2_with fail
              go_loop [7] (fun qv => ∃ r : Nat, qv = .int .i64 r ∧ k ≤ r ∧ r ≤ s.size ∧ Hid (pe2 s k r = v)) (fun qv => (intOf qv).toNat)
              case atStart => exact ⟨q, rfl, hkq, hqs, HQ⟩
              case round =>
                obtain ⟨r, rfl, hkr, hrs, HR⟩ := hrel
                by_cases h : k < r
                · have h' : (k : Int) < (r : Int) := by omega
                  obtain ⟨j, hj⟩ : ∃ j, r = j + 1 := ⟨r - 1, by omega⟩
                  have hjr : (r : Int) - 1 = (j : Int) := by omega
                  cases hw : pW (bt s j) with
                  | true =>
                    have cW := spec_white1 s j w true (by rw [decide_eq_true (show j < s.size by omega), hw]; rfl)
                    have HR2 : Hid (pe2 s k j = v) := by
                      show pe2 s k j = v
                      rw [← HR.out, hj, pe2, if_pos ⟨by omega, hw⟩]
                    have hkj : k ≤ j := by omega
                    have hjs : j ≤ s.size := by omega
                    have hjlt : j < r := by omega
                    clear hj hw HR
                    go_wp2_with fail
                    refine cW.mono ?_
                    rintro e w ⟨rfl, rfl⟩
                    clear cW
                    go_wp2_with fail
                    go_round
                    case rel => exact ⟨j, by go_num, hkj, hjs, HR2⟩
                    case measure => simp [intOf]; omega
                  | false =>
                    have cW := spec_white1 s j w false (by rw [hw]; simp)
                    have HR2 : Hid (r = v) := by
                      show r = v
                      rw [← HR.out, hj, pe2, if_neg (by rw [hw]; simp)]
                    clear hj hw HR
                    go_wp2_with fail
                    refine cW.mono ?_
                    rintro e w ⟨rfl, rfl⟩
                    clear cW
                    go_wp2_with fail
                    go_ret
                    rw [HR2.out]
                    exact ⟨rfl, rfl⟩
                · have h' : ¬ (k : Int) < (r : Int) := by omega
                  have HR2 : Hid (r = v) := by
                    show r = v
                    rw [← HR.out]
                    cases r with
                    | zero => rfl
                    | succ r => rw [pe2, if_neg (by omega)]
                  clear HR h
                  go_wp2_with fail
                  go_ret
                  rw [HR2.out]
                  exact ⟨rfl, rfl⟩
            | false =>
              have cF := flow6 ((s[q]'hq).toNat) w false (by rw [bt_get s q hq, hf])
              have HF : Hid ((true && pF6 (bt s q)) = false) := by show (true && pF6 (bt s q)) = false; rw [hf]; rfl
              clear hf
              go_wp2_with fail
              refine cF.mono ?_
              rintro e w ⟨rfl, rfl⟩
              clear cF
              by_cases h58 : (s[q]'hq).toNat = 58
              · have h58' : (((s[q]'hq).toNat : Int) == 58) = true := by rw [h58]; rfl
                cases hg : gapP s (q + 1) with
                | true =>
                  have cG := spec_gap1 s (q + 1) w true hg.symm
                  rw [show ((q + 1 : Nat) : Int) = (q : Int) + 1 from rfl] at cG
                  have HST : Hid (stopP s k q true = true) := stop_colon (by rw [← bt_get s q hq]; exact h58) (by rw [hg]; rfl)
                  clear h58 hg
                  go_wp2_with fail
                  refine cG.mono ?_
                  rintro e w ⟨rfl, rfl⟩
                  clear cG
                  have HQ : Hid (pe2 s k q = v) := by
                    show pe2 s k q = v
                    rw [← HQ0.out, pe_stop hq HBK.out (HST.out)]
                  clear HQ0
                  go_wp2_with fail
                  go_loop [7] (fun qv => ∃ r : Nat, qv = .int .i64 r ∧ k ≤ r ∧ r ≤ s.size ∧ Hid (pe2 s k r = v)) (fun qv => (intOf qv).toNat)
                  case atStart => exact ⟨q, rfl, hkq, hqs, HQ⟩
                  case round =>
                    obtain ⟨r, rfl, hkr, hrs, HR⟩ := hrel
                    by_cases h : k < r
                    · have h' : (k : Int) < (r : Int) := by omega
                      obtain ⟨j, hj⟩ : ∃ j, r = j + 1 := ⟨r - 1, by omega⟩
                      have hjr : (r : Int) - 1 = (j : Int) := by omega
                      cases hw : pW (bt s j) with
                      | true =>
                        have cW := spec_white1 s j w true (by rw [decide_eq_true (show j < s.size by omega), hw]; rfl)
                        have HR2 : Hid (pe2 s k j = v) := by
                          show pe2 s k j = v
                          rw [← HR.out, hj, pe2, if_pos ⟨by omega, hw⟩]
                        have hkj : k ≤ j := by omega
                        have hjs : j ≤ s.size := by omega
                        have hjlt : j < r := by omega
                        clear hj hw HR
                        go_wp2_with fail
                        refine cW.mono ?_
                        rintro e w ⟨rfl, rfl⟩
                        clear cW
                        go_wp2_with fail
                        go_round
                        case rel => exact ⟨j, by go_num, hkj, hjs, HR2⟩
                        case measure => simp [intOf]; omega
                      | false =>
                        have cW := spec_white1 s j w false (by rw [hw]; simp)
                        have HR2 : Hid (r = v) := by
                          show r = v
                          rw [← HR.out, hj, pe2, if_neg (by rw [hw]; simp)]
                        clear hj hw HR
                        go_wp2_with fail
                        refine cW.mono ?_
                        rintro e w ⟨rfl, rfl⟩
                        clear cW
                        go_wp2_with fail
                        go_ret
                        rw [HR2.out]
                        exact ⟨rfl, rfl⟩
                    · have h' : ¬ (k : Int) < (r : Int) := by omega
                      have HR2 : Hid (r = v) := by
                        show r = v
                        rw [← HR.out]
                        cases r with
                        | zero => rfl
                        | succ r => rw [pe2, if_neg (by omega)]
                      clear HR h
                      go_wp2_with fail
                      go_ret
                      rw [HR2.out]
                      exact ⟨rfl, rfl⟩
                | false =>
                  have cG := spec_gap1 s (q + 1) w false hg.symm
                  rw [show ((q + 1 : Nat) : Int) = (q : Int) + 1 from rfl] at cG
                  have hq1 := gapP_lt hg
                  have hq1' : (q : Int) + 1 < (s.size : Int) := by omega
                  cases hf1 : pF6 (bt s (q + 1)) with
                  | true =>
                    have cF := flow6 ((s[q + 1]'hq1).toNat) w true (by rw [bt_get s (q + 1) hq1, hf1])
                    have HST : Hid (stopP s k q true = true) := stop_colon (by rw [← bt_get s q hq]; exact h58) (by rw [hg, hf1]; rfl)
                    clear h58 hg hf1
                    go_wp2_with fail
                    refine cG.mono ?_
                    rintro e w ⟨rfl, rfl⟩
                    clear cG
                    go_wp2_with fail
                    refine cF.mono ?_
                    rintro e w ⟨rfl, rfl⟩
                    clear cF
                    have HQ : Hid (pe2 s k q = v) := by
                      show pe2 s k q = v
                      rw [← HQ0.out, pe_stop hq HBK.out (HST.out)]
                    clear HQ0
                    go_wp2_with fail
                    go_loop [7] (fun qv => ∃ r : Nat, qv = .int .i64 r ∧ k ≤ r ∧ r ≤ s.size ∧ Hid (pe2 s k r = v)) (fun qv => (intOf qv).toNat)
                    case atStart => exact ⟨q, rfl, hkq, hqs, HQ⟩
                    case round =>
                      obtain ⟨r, rfl, hkr, hrs, HR⟩ := hrel
                      by_cases h : k < r
                      · have h' : (k : Int) < (r : Int) := by omega
                        obtain ⟨j, hj⟩ : ∃ j, r = j + 1 := ⟨r - 1, by omega⟩
                        have hjr : (r : Int) - 1 = (j : Int) := by omega
                        cases hw : pW (bt s j) with
                        | true =>
                          have cW := spec_white1 s j w true (by rw [decide_eq_true (show j < s.size by omega), hw]; rfl)
                          have HR2 : Hid (pe2 s k j = v) := by
                            show pe2 s k j = v
                            rw [← HR.out, hj, pe2, if_pos ⟨by omega, hw⟩]
                          have hkj : k ≤ j := by omega
                          have hjs : j ≤ s.size := by omega
                          have hjlt : j < r := by omega
                          clear hj hw HR
                          go_wp2_with fail
                          refine cW.mono ?_
                          rintro e w ⟨rfl, rfl⟩
                          clear cW
                          go_wp2_with fail
                          go_round
                          case rel => exact ⟨j, by go_num, hkj, hjs, HR2⟩
                          case measure => simp [intOf]; omega
                        | false =>
                          have cW := spec_white1 s j w false (by rw [hw]; simp)
                          have HR2 : Hid (r = v) := by
                            show r = v
                            rw [← HR.out, hj, pe2, if_neg (by rw [hw]; simp)]
                          clear hj hw HR
                          go_wp2_with fail
                          refine cW.mono ?_
                          rintro e w ⟨rfl, rfl⟩
                          clear cW
                          go_wp2_with fail
                          go_ret
                          rw [HR2.out]
                          exact ⟨rfl, rfl⟩
                      · have h' : ¬ (k : Int) < (r : Int) := by omega
                        have HR2 : Hid (r = v) := by
                          show r = v
                          rw [← HR.out]
                          cases r with
                          | zero => rfl
                          | succ r => rw [pe2, if_neg (by omega)]
                        clear HR h
                        go_wp2_with fail
                        go_ret
                        rw [HR2.out]
                        exact ⟨rfl, rfl⟩
                  | false =>
                    have cF := flow6 ((s[q + 1]'hq1).toNat) w false (by rw [bt_get s (q + 1) hq1, hf1])
                    have HST : Hid (stopP s k q true = false) := stop_none HH.out HF.out (.inr (by rw [hg, hf1]; rfl))
                    clear h58 hg hf1
                    go_wp2_with fail
                    refine cG.mono ?_
                    rintro e w ⟨rfl, rfl⟩
                    clear cG
                    go_wp2_with fail
                    refine cF.mono ?_
                    rintro e w ⟨rfl, rfl⟩
                    clear cF
                    have HQ2 : Hid (pe2 s k (pe1 s k true (s.size - (q + 1)) (q + 1)) = v) := by
                      show pe2 s k (pe1 s k true (s.size - (q + 1)) (q + 1)) = v
                      rw [← HQ0.out, pe_go hq HBK.out (HST.out)]
                    clear HQ0
                    go_wp2_with fail
                    go_round
                    case rel => exact ⟨q + 1, by go_num, by omega, by omega, HQ2⟩
                    case measure => simp [intOf]; omega
              · have h58' : (((s[q]'hq).toNat : Int) == 58) = false := by rw [beq_eq_false_iff_ne]; omega
                have HST : Hid (stopP s k q true = false) := stop_none HH.out HF.out (.inl (by rw [← bt_get s q hq]; exact h58))
                clear h58
                have HQ2 : Hid (pe2 s k (pe1 s k true (s.size - (q + 1)) (q + 1)) = v) := by
                  show pe2 s k (pe1 s k true (s.size - (q + 1)) (q + 1)) = v
                  rw [← HQ0.out, pe_go hq HBK.out (HST.out)]
                clear HQ0
                go_wp2_with fail
                go_round
                case rel => exact ⟨q + 1, by go_num, by omega, by omega, HQ2⟩
                case measure => simp [intOf]; omega
        · have hpq' : ¬ (k : Int) < (q : Int) := by omega
          have HH : Hid ((bt s q == 35 && (decide (k < q) && pW (bt s (q - 1)))) = false) := by
            show (bt s q == 35 && (decide (k < q) && pW (bt s (q - 1)))) = false
            rw [decide_eq_false hpq]; simp
          clear h35
          cases hf : pF6 (bt s q) with
          | true =>
            have cF := flow6 ((s[q]'hq).toNat) w true (by rw [bt_get s q hq, hf])
            have HST : Hid (stopP s k q true = true) := stop_flow (by rw [hf]; rfl)
            clear hf
            go_wp2_with fail
            refine cF.mono ?_
            rintro e w ⟨rfl, rfl⟩
            clear cF
            have HQ : Hid (pe2 s k q = v) := by
              show pe2 s k q = v
              rw [← HQ0.out, pe_stop hq HBK.out (HST.out)]
            clear HQ0
            go_wp2_with fail
            go_loop [7] (fun qv => ∃ r : Nat, qv = .int .i64 r ∧ k ≤ r ∧ r ≤ s.size ∧ Hid (pe2 s k r = v)) (fun qv => (intOf qv).toNat)
            case atStart => exact ⟨q, rfl, hkq, hqs, HQ⟩
            case round =>
              obtain ⟨r, rfl, hkr, hrs, HR⟩ := hrel
              by_cases h : k < r
              · have h' : (k : Int) < (r : Int) := by omega
                obtain ⟨j, hj⟩ : ∃ j, r = j + 1 := ⟨r - 1, by omega⟩
                have hjr : (r : Int) - 1 = (j : Int) := by omega
                cases hw : pW (bt s j) with
                | true =>
                  have cW := spec_white1 s j w true (by rw [decide_eq_true (show j < s.size by omega), hw]; rfl)
                  have HR2 : Hid (pe2 s k j = v) := by
                    show pe2 s k j = v
                    rw [← HR.out, hj, pe2, if_pos ⟨by omega, hw⟩]
                  have hkj : k ≤ j := by omega
                  have hjs : j ≤ s.size := by omega
                  have hjlt : j < r := by omega
                  clear hj hw HR
                  go_wp2_with fail
                  refine cW.mono ?_
                  rintro e w ⟨rfl, rfl⟩
                  clear cW
                  go_wp2_with fail
                  go_round
                  case rel => exact ⟨j, by go_num, hkj, hjs, HR2⟩
                  case measure => simp [intOf]; omega
                | false =>
                  have cW := spec_white1 s j w false (by rw [hw]; simp)
                  have HR2 : Hid (r = v) := by
                    show r = v
                    rw [← HR.out, hj, pe2, if_neg (by rw [hw]; simp)]
                  clear hj hw HR
                  go_wp2_with fail
                  refine cW.mono ?_
                  rintro e w ⟨rfl, rfl⟩
                  clear cW
                  go_wp2_with fail
                  go_ret
                  rw [HR2.out]
                  exact ⟨rfl, rfl⟩
              · have h' : ¬ (k : Int) < (r : Int) := by omega
                have HR2 : Hid (r = v) := by
                  show r = v
                  rw [← HR.out]
                  cases r with
                  | zero => rfl
                  | succ r => rw [pe2, if_neg (by omega)]
                clear HR h
                go_wp2_with fail
                go_ret
                rw [HR2.out]
                exact ⟨rfl, rfl⟩
          | false =>
            have cF := flow6 ((s[q]'hq).toNat) w false (by rw [bt_get s q hq, hf])
            have HF : Hid ((true && pF6 (bt s q)) = false) := by show (true && pF6 (bt s q)) = false; rw [hf]; rfl
            clear hf
            go_wp2_with fail
            refine cF.mono ?_
            rintro e w ⟨rfl, rfl⟩
            clear cF
            by_cases h58 : (s[q]'hq).toNat = 58
            · have h58' : (((s[q]'hq).toNat : Int) == 58) = true := by rw [h58]; rfl
              cases hg : gapP s (q + 1) with
              | true =>
                have cG := spec_gap1 s (q + 1) w true hg.symm
                rw [show ((q + 1 : Nat) : Int) = (q : Int) + 1 from rfl] at cG
                have HST : Hid (stopP s k q true = true) := stop_colon (by rw [← bt_get s q hq]; exact h58) (by rw [hg]; rfl)
                clear h58 hg
                go_wp2_with fail
                refine cG.mono ?_
                rintro e w ⟨rfl, rfl⟩
                clear cG
                have HQ : Hid (pe2 s k q = v) := by
                  show pe2 s k q = v
                  rw [← HQ0.out, pe_stop hq HBK.out (HST.out)]
                clear HQ0
                go_wp2_with fail
                go_loop [7] (fun qv => ∃ r : Nat, qv = .int .i64 r ∧ k ≤ r ∧ r ≤ s.size ∧ Hid (pe2 s k r = v)) (fun qv => (intOf qv).toNat)
                case atStart => exact ⟨q, rfl, hkq, hqs, HQ⟩
                case round =>
                  obtain ⟨r, rfl, hkr, hrs, HR⟩ := hrel
                  by_cases h : k < r
                  · have h' : (k : Int) < (r : Int) := by omega
                    obtain ⟨j, hj⟩ : ∃ j, r = j + 1 := ⟨r - 1, by omega⟩
                    have hjr : (r : Int) - 1 = (j : Int) := by omega
                    cases hw : pW (bt s j) with
                    | true =>
                      have cW := spec_white1 s j w true (by rw [decide_eq_true (show j < s.size by omega), hw]; rfl)
                      have HR2 : Hid (pe2 s k j = v) := by
                        show pe2 s k j = v
                        rw [← HR.out, hj, pe2, if_pos ⟨by omega, hw⟩]
                      have hkj : k ≤ j := by omega
                      have hjs : j ≤ s.size := by omega
                      have hjlt : j < r := by omega
                      clear hj hw HR
                      go_wp2_with fail
                      refine cW.mono ?_
                      rintro e w ⟨rfl, rfl⟩
                      clear cW
                      go_wp2_with fail
                      go_round
                      case rel => exact ⟨j, by go_num, hkj, hjs, HR2⟩
                      case measure => simp [intOf]; omega
                    | false =>
                      have cW := spec_white1 s j w false (by rw [hw]; simp)
                      have HR2 : Hid (r = v) := by
                        show r = v
                        rw [← HR.out, hj, pe2, if_neg (by rw [hw]; simp)]
                      clear hj hw HR
                      go_wp2_with fail
                      refine cW.mono ?_
                      rintro e w ⟨rfl, rfl⟩
                      clear cW
                      go_wp2_with fail
                      go_ret
                      rw [HR2.out]
                      exact ⟨rfl, rfl⟩
                  · have h' : ¬ (k : Int) < (r : Int) := by omega
                    have HR2 : Hid (r = v) := by
                      show r = v
                      rw [← HR.out]
                      cases r with
                      | zero => rfl
                      | succ r => rw [pe2, if_neg (by omega)]
                    clear HR h
                    go_wp2_with fail
                    go_ret
                    rw [HR2.out]
                    exact ⟨rfl, rfl⟩
              | false =>
                have cG := spec_gap1 s (q + 1) w false hg.symm
                rw [show ((q + 1 : Nat) : Int) = (q : Int) + 1 from rfl] at cG
                have hq1 := gapP_lt hg
                have hq1' : (q : Int) + 1 < (s.size : Int) := by omega
                cases hf1 : pF6 (bt s (q + 1)) with
                | true =>
                  have cF := flow6 ((s[q + 1]'hq1).toNat) w true (by rw [bt_get s (q + 1) hq1, hf1])
                  have HST : Hid (stopP s k q true = true) := stop_colon (by rw [← bt_get s q hq]; exact h58) (by rw [hg, hf1]; rfl)
                  clear h58 hg hf1
                  go_wp2_with fail
                  refine cG.mono ?_
                  rintro e w ⟨rfl, rfl⟩
                  clear cG
                  go_wp2_with fail
                  refine cF.mono ?_
                  rintro e w ⟨rfl, rfl⟩
                  clear cF
                  have HQ : Hid (pe2 s k q = v) := by
                    show pe2 s k q = v
                    rw [← HQ0.out, pe_stop hq HBK.out (HST.out)]
                  clear HQ0
                  go_wp2_with fail
                  go_loop [7] (fun qv => ∃ r : Nat, qv = .int .i64 r ∧ k ≤ r ∧ r ≤ s.size ∧ Hid (pe2 s k r = v)) (fun qv => (intOf qv).toNat)
                  case atStart => exact ⟨q, rfl, hkq, hqs, HQ⟩
                  case round =>
                    obtain ⟨r, rfl, hkr, hrs, HR⟩ := hrel
                    by_cases h : k < r
                    · have h' : (k : Int) < (r : Int) := by omega
                      obtain ⟨j, hj⟩ : ∃ j, r = j + 1 := ⟨r - 1, by omega⟩
                      have hjr : (r : Int) - 1 = (j : Int) := by omega
                      cases hw : pW (bt s j) with
                      | true =>
                        have cW := spec_white1 s j w true (by rw [decide_eq_true (show j < s.size by omega), hw]; rfl)
                        have HR2 : Hid (pe2 s k j = v) := by
                          show pe2 s k j = v
                          rw [← HR.out, hj, pe2, if_pos ⟨by omega, hw⟩]
                        have hkj : k ≤ j := by omega
                        have hjs : j ≤ s.size := by omega
                        have hjlt : j < r := by omega
                        clear hj hw HR
                        go_wp2_with fail
                        refine cW.mono ?_
                        rintro e w ⟨rfl, rfl⟩
                        clear cW
                        go_wp2_with fail
                        go_round
                        case rel => exact ⟨j, by go_num, hkj, hjs, HR2⟩
                        case measure => simp [intOf]; omega
                      | false =>
                        have cW := spec_white1 s j w false (by rw [hw]; simp)
                        have HR2 : Hid (r = v) := by
                          show r = v
                          rw [← HR.out, hj, pe2, if_neg (by rw [hw]; simp)]
                        clear hj hw HR
                        go_wp2_with fail
                        refine cW.mono ?_
                        rintro e w ⟨rfl, rfl⟩
                        clear cW
                        go_wp2_with fail
                        go_ret
                        rw [HR2.out]
                        exact ⟨rfl, rfl⟩
                    · have h' : ¬ (k : Int) < (r : Int) := by omega
                      have HR2 : Hid (r = v) := by
                        show r = v
                        rw [← HR.out]
                        cases r with
                        | zero => rfl
                        | succ r => rw [pe2, if_neg (by omega)]
                      clear HR h
                      go_wp2_with fail
                      go_ret
                      rw [HR2.out]
                      exact ⟨rfl, rfl⟩
                | false =>
                  have cF := flow6 ((s[q + 1]'hq1).toNat) w false (by rw [bt_get s (q + 1) hq1, hf1])
                  have HST : Hid (stopP s k q true = false) := stop_none HH.out HF.out (.inr (by rw [hg, hf1]; rfl))
                  clear h58 hg hf1
                  go_wp2_with fail
                  refine cG.mono ?_
                  rintro e w ⟨rfl, rfl⟩
                  clear cG
                  go_wp2_with fail
                  refine cF.mono ?_
                  rintro e w ⟨rfl, rfl⟩
                  clear cF
                  have HQ2 : Hid (pe2 s k (pe1 s k true (s.size - (q + 1)) (q + 1)) = v) := by
                    show pe2 s k (pe1 s k true (s.size - (q + 1)) (q + 1)) = v
                    rw [← HQ0.out, pe_go hq HBK.out (HST.out)]
                  clear HQ0
                  go_wp2_with fail
                  go_round
                  case rel => exact ⟨q + 1, by go_num, by omega, by omega, HQ2⟩
                  case measure => simp [intOf]; omega
            · have h58' : (((s[q]'hq).toNat : Int) == 58) = false := by rw [beq_eq_false_iff_ne]; omega
              have HST : Hid (stopP s k q true = false) := stop_none HH.out HF.out (.inl (by rw [← bt_get s q hq]; exact h58))
              clear h58
              have HQ2 : Hid (pe2 s k (pe1 s k true (s.size - (q + 1)) (q + 1)) = v) := by
                show pe2 s k (pe1 s k true (s.size - (q + 1)) (q + 1)) = v
                rw [← HQ0.out, pe_go hq HBK.out (HST.out)]
              clear HQ0
              go_wp2_with fail
              go_round
              case rel => exact ⟨q + 1, by go_num, by omega, by omega, HQ2⟩
              case measure => simp [intOf]; omega
      · have h35' : (((s[q]'hq).toNat : Int) == 35) = false := by rw [beq_eq_false_iff_ne]; omega
        have HH : Hid ((bt s q == 35 && (decide (k < q) && pW (bt s (q - 1)))) = false) := by
          show (bt s q == 35 && (decide (k < q) && pW (bt s (q - 1)))) = false
          rw [show (bt s q == 35) = false from by rw [beq_eq_false_iff_ne, ← bt_get s q hq]; exact h35]; rfl
        clear h35
        cases hf : pF6 (bt s q) with
        | true =>
          have cF := flow6 ((s[q]'hq).toNat) w true (by rw [bt_get s q hq, hf])
          have HST : Hid (stopP s k q true = true) := stop_flow (by rw [hf]; rfl)
          clear hf
          go_wp2_with fail
          refine cF.mono ?_
          rintro e w ⟨rfl, rfl⟩
          clear cF
          have HQ : Hid (pe2 s k q = v) := by
            show pe2 s k q = v
            rw [← HQ0.out, pe_stop hq HBK.out (HST.out)]
          clear HQ0
          go_wp2_with fail
          go_loop [7] (fun qv => ∃ r : Nat, qv = .int .i64 r ∧ k ≤ r ∧ r ≤ s.size ∧ Hid (pe2 s k r = v)) (fun qv => (intOf qv).toNat)
          case atStart => exact ⟨q, rfl, hkq, hqs, HQ⟩
          case round =>
            obtain ⟨r, rfl, hkr, hrs, HR⟩ := hrel
            by_cases h : k < r
            · have h' : (k : Int) < (r : Int) := by omega
              obtain ⟨j, hj⟩ : ∃ j, r = j + 1 := ⟨r - 1, by omega⟩
              have hjr : (r : Int) - 1 = (j : Int) := by omega
              cases hw : pW (bt s j) with
              | true =>
                have cW := spec_white1 s j w true (by rw [decide_eq_true (show j < s.size by omega), hw]; rfl)
                have HR2 : Hid (pe2 s k j = v) := by
                  show pe2 s k j = v
                  rw [← HR.out, hj, pe2, if_pos ⟨by omega, hw⟩]
                have hkj : k ≤ j := by omega
                have hjs : j ≤ s.size := by omega
                have hjlt : j < r := by omega
                clear hj hw HR
                go_wp2_with fail
                refine cW.mono ?_
                rintro e w ⟨rfl, rfl⟩
                clear cW
                go_wp2_with fail
                go_round
                case rel => exact ⟨j, by go_num, hkj, hjs, HR2⟩
                case measure => simp [intOf]; omega
              | false =>
                have cW := spec_white1 s j w false (by rw [hw]; simp)
                have HR2 : Hid (r = v) := by
                  show r = v
                  rw [← HR.out, hj, pe2, if_neg (by rw [hw]; simp)]
                clear hj hw HR
                go_wp2_with fail
                refine cW.mono ?_
                rintro e w ⟨rfl, rfl⟩
                clear cW
                go_wp2_with fail
                go_ret
                rw [HR2.out]
                exact ⟨rfl, rfl⟩
            · have h' : ¬ (k : Int) < (r : Int) := by omega
              have HR2 : Hid (r = v) := by
                show r = v
                rw [← HR.out]
                cases r with
                | zero => rfl
                | succ r => rw [pe2, if_neg (by omega)]
              clear HR h
              go_wp2_with fail
              go_ret
              rw [HR2.out]
              exact ⟨rfl, rfl⟩
        | false =>
          have cF := flow6 ((s[q]'hq).toNat) w false (by rw [bt_get s q hq, hf])
          have HF : Hid ((true && pF6 (bt s q)) = false) := by show (true && pF6 (bt s q)) = false; rw [hf]; rfl
          clear hf
          go_wp2_with fail
          refine cF.mono ?_
          rintro e w ⟨rfl, rfl⟩
          clear cF
          by_cases h58 : (s[q]'hq).toNat = 58
          · have h58' : (((s[q]'hq).toNat : Int) == 58) = true := by rw [h58]; rfl
            cases hg : gapP s (q + 1) with
            | true =>
              have cG := spec_gap1 s (q + 1) w true hg.symm
              rw [show ((q + 1 : Nat) : Int) = (q : Int) + 1 from rfl] at cG
              have HST : Hid (stopP s k q true = true) := stop_colon (by rw [← bt_get s q hq]; exact h58) (by rw [hg]; rfl)
              clear h58 hg
              go_wp2_with fail
              refine cG.mono ?_
              rintro e w ⟨rfl, rfl⟩
              clear cG
              have HQ : Hid (pe2 s k q = v) := by
                show pe2 s k q = v
                rw [← HQ0.out, pe_stop hq HBK.out (HST.out)]
              clear HQ0
              go_wp2_with fail
              go_loop [7] (fun qv => ∃ r : Nat, qv = .int .i64 r ∧ k ≤ r ∧ r ≤ s.size ∧ Hid (pe2 s k r = v)) (fun qv => (intOf qv).toNat)
              case atStart => exact ⟨q, rfl, hkq, hqs, HQ⟩
              case round =>
                obtain ⟨r, rfl, hkr, hrs, HR⟩ := hrel
                by_cases h : k < r
                · have h' : (k : Int) < (r : Int) := by omega
                  obtain ⟨j, hj⟩ : ∃ j, r = j + 1 := ⟨r - 1, by omega⟩
                  have hjr : (r : Int) - 1 = (j : Int) := by omega
                  cases hw : pW (bt s j) with
                  | true =>
                    have cW := spec_white1 s j w true (by rw [decide_eq_true (show j < s.size by omega), hw]; rfl)
                    have HR2 : Hid (pe2 s k j = v) := by
                      show pe2 s k j = v
                      rw [← HR.out, hj, pe2, if_pos ⟨by omega, hw⟩]
                    have hkj : k ≤ j := by omega
                    have hjs : j ≤ s.size := by omega
                    have hjlt : j < r := by omega
                    clear hj hw HR
                    go_wp2_with fail
                    refine cW.mono ?_
                    rintro e w ⟨rfl, rfl⟩
                    clear cW
                    go_wp2_with fail
                    go_round
                    case rel => exact ⟨j, by go_num, hkj, hjs, HR2⟩
                    case measure => simp [intOf]; omega
                  | false =>
                    have cW := spec_white1 s j w false (by rw [hw]; simp)
                    have HR2 : Hid (r = v) := by
                      show r = v
                      rw [← HR.out, hj, pe2, if_neg (by rw [hw]; simp)]
                    clear hj hw HR
                    go_wp2_with fail
                    refine cW.mono ?_
                    rintro e w ⟨rfl, rfl⟩
                    clear cW
                    go_wp2_with fail
                    go_ret
                    rw [HR2.out]
                    exact ⟨rfl, rfl⟩
                · have h' : ¬ (k : Int) < (r : Int) := by omega
                  have HR2 : Hid (r = v) := by
                    show r = v
                    rw [← HR.out]
                    cases r with
                    | zero => rfl
                    | succ r => rw [pe2, if_neg (by omega)]
                  clear HR h
                  go_wp2_with fail
                  go_ret
                  rw [HR2.out]
                  exact ⟨rfl, rfl⟩
            | false =>
              have cG := spec_gap1 s (q + 1) w false hg.symm
              rw [show ((q + 1 : Nat) : Int) = (q : Int) + 1 from rfl] at cG
              have hq1 := gapP_lt hg
              have hq1' : (q : Int) + 1 < (s.size : Int) := by omega
              cases hf1 : pF6 (bt s (q + 1)) with
              | true =>
                have cF := flow6 ((s[q + 1]'hq1).toNat) w true (by rw [bt_get s (q + 1) hq1, hf1])
                have HST : Hid (stopP s k q true = true) := stop_colon (by rw [← bt_get s q hq]; exact h58) (by rw [hg, hf1]; rfl)
                clear h58 hg hf1
                go_wp2_with fail
                refine cG.mono ?_
                rintro e w ⟨rfl, rfl⟩
                clear cG
                go_wp2_with fail
                refine cF.mono ?_
                rintro e w ⟨rfl, rfl⟩
                clear cF
                have HQ : Hid (pe2 s k q = v) := by
                  show pe2 s k q = v
                  rw [← HQ0.out, pe_stop hq HBK.out (HST.out)]
                clear HQ0
                go_wp2_with fail
                go_loop [7] (fun qv => ∃ r : Nat, qv = .int .i64 r ∧ k ≤ r ∧ r ≤ s.size ∧ Hid (pe2 s k r = v)) (fun qv => (intOf qv).toNat)
                case atStart => exact ⟨q, rfl, hkq, hqs, HQ⟩
                case round =>
                  obtain ⟨r, rfl, hkr, hrs, HR⟩ := hrel
                  by_cases h : k < r
                  · have h' : (k : Int) < (r : Int) := by omega
                    obtain ⟨j, hj⟩ : ∃ j, r = j + 1 := ⟨r - 1, by omega⟩
                    have hjr : (r : Int) - 1 = (j : Int) := by omega
                    cases hw : pW (bt s j) with
                    | true =>
                      have cW := spec_white1 s j w true (by rw [decide_eq_true (show j < s.size by omega), hw]; rfl)
                      have HR2 : Hid (pe2 s k j = v) := by
                        show pe2 s k j = v
                        rw [← HR.out, hj, pe2, if_pos ⟨by omega, hw⟩]
                      have hkj : k ≤ j := by omega
                      have hjs : j ≤ s.size := by omega
                      have hjlt : j < r := by omega
                      clear hj hw HR
                      go_wp2_with fail
                      refine cW.mono ?_
                      rintro e w ⟨rfl, rfl⟩
                      clear cW
                      go_wp2_with fail
                      go_round
                      case rel => exact ⟨j, by go_num, hkj, hjs, HR2⟩
                      case measure => simp [intOf]; omega
                    | false =>
                      have cW := spec_white1 s j w false (by rw [hw]; simp)
                      have HR2 : Hid (r = v) := by
                        show r = v
                        rw [← HR.out, hj, pe2, if_neg (by rw [hw]; simp)]
                      clear hj hw HR
                      go_wp2_with fail
                      refine cW.mono ?_
                      rintro e w ⟨rfl, rfl⟩
                      clear cW
                      go_wp2_with fail
                      go_ret
                      rw [HR2.out]
                      exact ⟨rfl, rfl⟩
                  · have h' : ¬ (k : Int) < (r : Int) := by omega
                    have HR2 : Hid (r = v) := by
                      show r = v
                      rw [← HR.out]
                      cases r with
                      | zero => rfl
                      | succ r => rw [pe2, if_neg (by omega)]
                    clear HR h
                    go_wp2_with fail
                    go_ret
                    rw [HR2.out]
                    exact ⟨rfl, rfl⟩
              | false =>
                have cF := flow6 ((s[q + 1]'hq1).toNat) w false (by rw [bt_get s (q + 1) hq1, hf1])
                have HST : Hid (stopP s k q true = false) := stop_none HH.out HF.out (.inr (by rw [hg, hf1]; rfl))
                clear h58 hg hf1
                go_wp2_with fail
                refine cG.mono ?_
                rintro e w ⟨rfl, rfl⟩
                clear cG
                go_wp2_with fail
                refine cF.mono ?_
                rintro e w ⟨rfl, rfl⟩
                clear cF
                have HQ2 : Hid (pe2 s k (pe1 s k true (s.size - (q + 1)) (q + 1)) = v) := by
                  show pe2 s k (pe1 s k true (s.size - (q + 1)) (q + 1)) = v
                  rw [← HQ0.out, pe_go hq HBK.out (HST.out)]
                clear HQ0
                go_wp2_with fail
                go_round
                case rel => exact ⟨q + 1, by go_num, by omega, by omega, HQ2⟩
                case measure => simp [intOf]; omega
          · have h58' : (((s[q]'hq).toNat : Int) == 58) = false := by rw [beq_eq_false_iff_ne]; omega
            have HST : Hid (stopP s k q true = false) := stop_none HH.out HF.out (.inl (by rw [← bt_get s q hq]; exact h58))
            clear h58
            have HQ2 : Hid (pe2 s k (pe1 s k true (s.size - (q + 1)) (q + 1)) = v) := by
              show pe2 s k (pe1 s k true (s.size - (q + 1)) (q + 1)) = v
              rw [← HQ0.out, pe_go hq HBK.out (HST.out)]
            clear HQ0
            go_wp2_with fail
            go_round
            case rel => exact ⟨q + 1, by go_num, by omega, by omega, HQ2⟩
            case measure => simp [intOf]; omega
theorem spec_plainEnd (s : ByteArray) (p : Int) (fl : Bool) (w : World) (hs : s.size ≤ mx) (v : Nat) (hv : plE s (cl s.size p) fl = v) :
    Calls Tryz.prog 31 #[.string s, .int .i64 p, .bool fl] w fun e w' => e = .returned (.int .i64 (v : Int)) ∧ w' = w := by
  cases fl with
  | true => exact spec_plainEnd_true s p w hs v hv
  | false => exact spec_plainEnd_false s p w hs v hv
end Go.Proofs.YtjpcmmfmdoglkalGreatDoor
