/- The contracts of spec.HeadAt, l08Next and l08Depth. -/
import Derived.Test.YtfpkcfedkjjjbakLit
import Derived.Test.YtfpkcfedkjjjbakRst
import Derived.Test.YtfpkcfedkjjjbakSmk
namespace Go.Proofs.Ytfpkcfedkjjjbak
open Go.ChangeShapes Go.WideShapes Go.ChangeAt Go.RowKit
theorem spec_next (s : ByteArray) (k : Nat) (w : World) (hs : s.size ≤ 1048576) (hk : k ≤ s.size) :
    Calls Try.prog 20 #[.string s, .int .i64 (k : Int)] w fun e w' => e = .returned (.int .i64 (nx s k : Nat)) ∧ w' = w := by
  have hmx : s.size ≤ mx := by unfold mx; omega
  have cE := spec_end_nat s k (endL s k) w hmx hk rfl
  have hle := fwd_le pN s k hk
  obtain ⟨y, hy⟩ : ∃ y, endL s k = y := ⟨_, rfl⟩
  have hys : y ≤ s.size := by rw [← hy]; exact hle
  rw [hy] at cE
  by_cases h : y < s.size
  · have h' : (y : Int) < (s.size : Int) := by omega
    have HO : Hid (((y : Int) + 1) = (nx s k : Nat)) := by
      show ((y : Int) + 1) = (nx s k : Nat)
      unfold nx; rw [hy, if_pos h]; omega
    clear hle hy h
    go_enter Try.func20, Try.ntmps20
    go_wp2_with fail
    refine cE.mono ?_
    rintro e w1 ⟨rfl, rfl⟩
    clear cE
    go_wp2_with fail
    go_ret
    exact ⟨ret_int HO.out, rfl⟩
  · have h' : ¬ (y : Int) < (s.size : Int) := by omega
    have HO : Hid ((y : Int) = (nx s k : Nat)) := by
      show (y : Int) = (nx s k : Nat)
      unfold nx; rw [hy, if_neg h]
    clear hle hy h
    go_enter Try.func20, Try.ntmps20
    go_wp2_with fail
    refine cE.mono ?_
    rintro e w1 ⟨rfl, rfl⟩
    clear cE
    go_wp2_with fail
    go_ret
    exact ⟨ret_int HO.out, rfl⟩
theorem dp_step {s : ByteArray} {f p : Nat} (h : p < s.size ∧ lone s p = true ∧ endL s p < s.size) : dpGo s (f + 1) p = dpGo s f (nx s p) := by rw [dpGo, if_pos h]
theorem dp_stop {s : ByteArray} {f p : Nat} (h : ¬ (p < s.size ∧ lone s p = true ∧ endL s p < s.size)) : dpGo s f p = p := by
  cases f with
  | zero => rfl
  | succ f => rw [dpGo, if_neg h]
set_option maxHeartbeats 4000000 in
theorem spec_depth (s : ByteArray) (p : Nat) (n : Int) (w : World) (hs : s.size ≤ 1048576) (hp : p ≤ s.size) :
    Calls Try.prog 21 #[.string s, .int .i64 (p : Int), .int .i64 n] w fun e w' => e = .returned (.int .i64 (dp s p n : Nat)) ∧ w' = w := by
  have hmx : s.size ≤ mx := by unfold mx; omega
  obtain ⟨P, hP⟩ : ∃ P, dpP s p = P := ⟨_, rfl⟩
  obtain ⟨D, hD⟩ : ∃ D, dp s p n = D := ⟨_, rfl⟩
  have HD : Hid ((if s.size ≤ P ∨ lone s P = true ∨ 0 < markN s P ∨ (ind s P : Int) ≤ n then 60000 else ind s P) = D) := by
    show _ = D
    rw [← hD]; unfold dp; rw [hP]
  have HP : Hid (dpGo s (s.size + 1) p = P) := hP
  rw [hD]
  clear hD hP
  go_enter Try.func21, Try.ntmps21
  go_wp2_with fail
  go_loop [1] (fun pv => ∃ (q f : Nat), pv = .int .i64 (q : Int) ∧ q ≤ s.size ∧ Hid (s.size < f + q) ∧ Hid (dpGo s f q = P)) (fun pv => s.size + 1 - (intOf pv).toNat)
  case atStart => exact ⟨p, s.size + 1, rfl, hp, by show s.size < s.size + 1 + p; omega, HP⟩
  case round =>
    obtain ⟨q, f, rfl, hq, HF, HG⟩ := hrel
    have cL := spec_lone s (q : Int) w hmx
    rw [cl_nat _ _ hq] at cL
    have cE := spec_end_nat s q (endL s q) w hmx hq rfl
    obtain ⟨y, hy⟩ : ∃ y, endL s q = y := ⟨_, rfl⟩
    rw [hy] at cE
    have HY : Hid (endL s q = y) := hy
    clear hy
    have cM := spec_mark s (q : Int) w hmx
    rw [cl_nat _ _ hq] at cM
    obtain ⟨mk, hmk⟩ : ∃ mk, markN s q = mk := ⟨_, rfl⟩
    rw [hmk] at cM
    have HM : Hid (markN s q = mk) := hmk
    clear hmk
    have cI := spec_indent s (q : Int) w hmx
    rw [cl_nat _ _ hq] at cI
    obtain ⟨nd, hnd⟩ : ∃ nd, ind s q = nd := ⟨_, rfl⟩
    rw [hnd] at cI
    have HN : Hid (ind s q = nd) := hnd
    clear hnd
    have fin : ¬ (q < s.size ∧ lone s q = true ∧ endL s q < s.size) → Hid ((if s.size ≤ q ∨ lone s q = true ∨ 0 < mk ∨ (nd : Int) ≤ n then 60000 else nd) = D) := by
      intro h
      have e : q = P := by rw [← HG.out, dp_stop h]
      have h1 := HD.out
      rw [← e, HM.out, HN.out] at h1
      exact h1
    have FIN : Hid (¬ (q < s.size ∧ lone s q = true ∧ endL s q < s.size) → Hid ((if s.size ≤ q ∨ lone s q = true ∨ 0 < mk ∨ (nd : Int) ≤ n then 60000 else nd) = D)) := fin
    clear fin
    by_cases hl : q < s.size
    · have hl' : (q : Int) < (s.size : Int) := by omega
      have hl2 : ¬ (s.size : Int) ≤ (q : Int) := by omega
      cases hlo : lone s q with
      | true =>
        rw [hlo] at cL
        by_cases hyl : y < s.size
        · have hyl' : (y : Int) < (s.size : Int) := by omega
          have cN := spec_next s q w hs hq
          obtain ⟨f, rfl⟩ : ∃ f', f = f' + 1 := ⟨f - 1, by have := HF.out; omega⟩
          have HG2 : Hid (dpGo s f (nx s q) = P) := by
            show _ = P
            rw [← HG.out, dp_step ⟨hl, hlo, by rw [HY.out]; exact hyl⟩]
          have h1 := nx_gt s q hl
          have h2 := nx_le s q hq
          obtain ⟨z, hz⟩ : ∃ z, nx s q = z := ⟨_, rfl⟩
          rw [hz] at cN HG2 h1 h2
          have HF2 : Hid (s.size < f + z) := by have := HF.out; show s.size < f + z; omega
          clear hlo hz FIN HG HF cM cI
          go_wp2_with fail
          refine cL.mono ?_
          rintro e w1 ⟨rfl, rfl⟩
          clear cL
          go_wp2_with fail
          refine cE.mono ?_
          rintro e w1 ⟨rfl, rfl⟩
          clear cE
          go_wp2_with fail
          refine cN.mono ?_
          rintro e w1 ⟨rfl, rfl⟩
          clear cN
          go_wp2_with fail
          go_round
          case rel => exact ⟨z, f, by go_num, h2, HF2, HG2⟩
          case measure => simp [intOf]; omega
        · have hyl' : ¬ (y : Int) < (s.size : Int) := by omega
          have HO : Hid ((60000 : Int) = (D : Nat)) := by
            have h1 := (FIN.out (fun h => by have := h.2.2; rw [HY.out] at this; exact hyl this)).out
            rw [if_pos (.inr (.inl hlo))] at h1
            show (60000 : Int) = (D : Nat)
            omega
          clear FIN HG HF hlo cM cI
          have cL2 := cL
          go_wp2_with fail
          refine cL.mono ?_
          rintro e w1 ⟨rfl, rfl⟩
          go_wp2_with fail
          refine cE.mono ?_
          rintro e w1 ⟨rfl, rfl⟩
          clear cE
          go_wp2_with fail
          refine cL2.mono ?_
          rintro e w1 ⟨rfl, rfl⟩
          clear cL cL2
          go_wp2_with fail
          go_ret
          exact ⟨ret_int HO.out, rfl⟩
      | false =>
        rw [hlo] at cL
        have h0 := (FIN.out (fun h => by rw [hlo] at h; cases h.2.1)).out
        have HH : Hid ((if 0 < mk ∨ (nd : Int) ≤ n then 60000 else nd) = D) := by
          show _ = D
          rw [← h0]
          by_cases hc : 0 < mk ∨ (nd : Int) ≤ n
          · rw [if_pos hc, if_pos (.inr (.inr hc))]
          · rw [if_neg hc, if_neg (by rw [hlo]; simp; omega)]
        have cL2 := cL
        clear FIN HG HF hlo h0 cE
        by_cases hm : 0 < mk
        · have hm' : (0 : Int) < (mk : Int) := by omega
          have HO : Hid ((60000 : Int) = (D : Nat)) := by
            have h1 := HH.out
            rw [if_pos (.inl hm)] at h1
            show (60000 : Int) = (D : Nat)
            omega
          clear HH hm cI
          go_wp2_with fail
          refine cL.mono ?_
          rintro e w1 ⟨rfl, rfl⟩
          go_wp2_with fail
          refine cL2.mono ?_
          rintro e w1 ⟨rfl, rfl⟩
          clear cL cL2
          go_wp2_with fail
          refine cM.mono ?_
          rintro e w1 ⟨rfl, rfl⟩
          clear cM
          go_wp2_with fail
          go_ret
          exact ⟨ret_int HO.out, rfl⟩
        · have hm' : ¬ (0 : Int) < (mk : Int) := by omega
          have cI2 := cI
          by_cases hn : (nd : Int) ≤ n
          · have HO : Hid ((60000 : Int) = (D : Nat)) := by
              have h1 := HH.out
              rw [if_pos (.inr hn)] at h1
              show (60000 : Int) = (D : Nat)
              omega
            clear HH hm
            go_wp2_with fail
            refine cL.mono ?_
            rintro e w1 ⟨rfl, rfl⟩
            go_wp2_with fail
            refine cL2.mono ?_
            rintro e w1 ⟨rfl, rfl⟩
            clear cL cL2
            go_wp2_with fail
            refine cM.mono ?_
            rintro e w1 ⟨rfl, rfl⟩
            clear cM
            go_wp2_with fail
            refine cI.mono ?_
            rintro e w1 ⟨rfl, rfl⟩
            clear cI cI2
            go_wp2_with fail
            go_ret
            exact ⟨ret_int HO.out, rfl⟩
          · have HO : Hid ((nd : Int) = (D : Nat)) := by
              have h1 := HH.out
              rw [if_neg (by omega)] at h1
              show (nd : Int) = (D : Nat)
              omega
            clear HH hm
            go_wp2_with fail
            refine cL.mono ?_
            rintro e w1 ⟨rfl, rfl⟩
            go_wp2_with fail
            refine cL2.mono ?_
            rintro e w1 ⟨rfl, rfl⟩
            clear cL cL2
            go_wp2_with fail
            refine cM.mono ?_
            rintro e w1 ⟨rfl, rfl⟩
            clear cM
            go_wp2_with fail
            refine cI.mono ?_
            rintro e w1 ⟨rfl, rfl⟩
            clear cI
            go_wp2_with fail
            refine cI2.mono ?_
            rintro e w1 ⟨rfl, rfl⟩
            clear cI2
            go_wp2_with fail
            go_ret
            exact ⟨ret_int HO.out, rfl⟩
    · have hl' : ¬ (q : Int) < (s.size : Int) := by omega
      have hl2 : (s.size : Int) ≤ (q : Int) := by omega
      have HO : Hid ((60000 : Int) = (D : Nat)) := by
        have h1 := (FIN.out (fun h => hl h.1)).out
        rw [if_pos (.inl (by omega))] at h1
        show (60000 : Int) = (D : Nat)
        omega
      clear FIN HG HF cL cE cM cI
      go_wp2_with fail
      go_ret
      exact ⟨ret_int HO.out, rfl⟩
end Go.Proofs.Ytfpkcfedkjjjbak
