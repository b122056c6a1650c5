/- Plain facts for FnLines, and the law itself: at every text and place the questions of the law are answered so that it returns true. -/
import Derived.Test.YthfapofjbeccaadDwf
import Derived.Test.YthfapofjbeccaadCol
import Derived.Test.YthfapofjbeccaadInd
import Derived.Test.YthfapofjbeccaadRst
import Derived.Test.YthfapofjbeccaadIgp
import Derived.Test.YthfapofjbeccaadLon
namespace Go.Proofs.Ythfapofjbeccaad
open Go.ChangeShapes Go.WideShapes Go.ChangeAt Go.RowKit
theorem pW_pN {c : Nat} (h : pW c = true) : pN c = true := by
  simp only [pW, Bool.or_eq_true, beq_iff_eq] at h
  simp only [pN, bne_iff_ne]
  omega
theorem pB_pN {c : Nat} (h : pB c = true) : pN c = true := by
  simp only [pB, beq_iff_eq] at h
  simp only [pN, bne_iff_ne]
  omega
theorem end_wh (s : ByteArray) (k : Nat) (hk : k ≤ s.size) : endL s k = endL s (wh s k) :=
  fwd_skip _ (fwd_ge _ _ _) (fwd_le _ _ _ hk) fun i h1 h2 => pW_pN (fwd_in _ _ _ i h1 h2)
theorem end_ln (s : ByteArray) (k : Nat) (hk : k ≤ s.size) : endL s (lnb s k) = endL s k :=
  fwd_skip _ (lnb_le s k) hk fun i h1 h2 => by simp only [pN, bne_iff_ne]; exact lnb_in s k i h1 h2
theorem ind_le (s : ByteArray) (k : Nat) (hk : k ≤ s.size) : ind s k + lnb s k ≤ endL s k := by
  have hl := lnb_le s k
  have hge := fwd_ge pB s (lnb s k)
  have e : endL s (lnb s k) = endL s (fwd pB s (lnb s k)) :=
    fwd_skip _ hge (fwd_le _ _ _ (by omega)) fun i h1 h2 => pB_pN (fwd_in _ _ _ i h1 h2)
  have h2 := fwd_ge pN s (fwd pB s (lnb s k))
  have e2 := end_ln s k hk
  unfold ind
  have h3 : endL s (fwd pB s (lnb s k)) = fwd pN s (fwd pB s (lnb s k)) := rfl
  omega
theorem gap_fix (s : ByteArray) : ∀ (f k : Nat), s.size - k ≤ f → k ≤ s.size → gap s (gap s k) = gap s k := by
  intro f
  induction f with
  | zero =>
    intro k h hk
    rw [gap_end (k := k) (by omega), gap_end (by omega)]
  | succ f ih =>
    intro k h hk
    by_cases hlt : k < s.size
    · cases hg : pG (bt s k) with
      | true => rw [gap_g hlt hg]; exact ih (k + 1) (by omega) (by omega)
      | false =>
        cases hr : rem s k with
        | true =>
          have h1 := rem_end hlt hr
          rw [gap_r hlt hg hr]; exact ih _ (by omega) h1.2
        | false => rw [gap_no hg hr, gap_no hg hr]
    · rw [gap_end (k := k) (by omega), gap_end (by omega)]
theorem wh_gap (s : ByteArray) (k : Nat) (hk : k ≤ s.size) : wh s k ≤ gap s k := by
  rw [gap_wh s k hk]; exact (gap_ge s _ (fwd_le _ _ _ hk)).1
theorem rest_fst (s : ByteArray) (k : Nat) (hk : k ≤ s.size) : k ≤ (rest s k).1 ∧ ((rest s k).2 = true → (rest s k).1 = endL s k) := by
  have h1 := fwd_ge pW s k
  have h2 := fwd_ge pN s (wh s k)
  have e := end_wh s k hk
  have h3 : endL s (wh s k) = fwd pN s (wh s k) := rfl
  have h4 : wh s k = fwd pW s k := rfl
  unfold rest
  split
  · exact ⟨by show k ≤ endL s (wh s k); omega, fun _ => e.symm⟩
  · exact ⟨by show k ≤ wh s k; omega, fun h => by cases h⟩
theorem lone_wh (s : ByteArray) (k : Nat) (hk : k ≤ s.size) (h : lone s k = true) : wh s (lnb s k) = endL s k := by
  have hl := lnb_le s k
  have hq : wh s (lnb s k) ≤ s.size := fwd_le _ _ _ (by omega)
  have hb := brk_end hq
  have h' : brk s (wh s (lnb s k)) = true := h
  rw [h'] at hb
  have e : wh s (lnb s k) = endL s (wh s (lnb s k)) := of_decide_eq_true hb.symm
  rw [e, ← end_wh s (lnb s k) (by omega), end_ln s k hk]
theorem nat_of {F : Nat} {s : ByteArray} {k : Nat} {w : World} {R : Nat → Ending → World → Prop} (hk : k ≤ s.size) (h : Calls Try.prog F #[.string s, .int .i64 (k : Int)] w (R (cl s.size (k : Int)))) : Calls Try.prog F #[.string s, .int .i64 (k : Int)] w (R k) := by
  rw [cl_nat _ _ hk] at h; exact h
set_option maxRecDepth 100000 in
set_option maxHeartbeats 8000000 in
theorem law_lines (a : Option Addr) (len cap : Nat) (w : World) (hc : ∀ (_ : len ≤ 1048576), Bs w.heap.size a len w) :
    Calls Try.prog 3 #[.slice a len cap] w fun e w' => e = .returned (.bool true) ∧ Below w.heap.size w w' := by
  by_cases hbig : (1048576 : Int) < (len : Int)
  · go_enter Try.func3, Try.ntmps3
    go_wp2_with fail
    go_ret
    exact ⟨rfl, Below.refl _ _⟩
  · have hb := hc (by omega)
    clear hc
    go_enter Try.func3, Try.ntmps3
    go_wp2_with fail
    refine (makeText_any a len cap w hb).mono ?_
    rintro e w1 ⟨⟨s, rfl, hsz⟩, hB1⟩
    have hs : s.size ≤ mx := by unfold mx; omega
    have hb1 : Bs w1.heap.size a len w1 := by
      have h1 := hb.later hB1
      refine ⟨h1.1, fun h => ?_⟩
      obtain ⟨b, off, ha, hlt, hcc⟩ := h1.2 h
      exact ⟨b, off, ha, Nat.lt_of_lt_of_le hlt hB1.size, hcc⟩
    go_wp2_with fail
    refine (makeNum_any a len cap _ w1 hb1 (by omega) (by omega)).mono ?_
    rintro e w2 ⟨⟨v, rfl, hv0, hv1⟩, hB2⟩
    have hB12 := hB1.trans (hB2.mono hB1.size)
    obtain ⟨k, rfl⟩ : ∃ k : Nat, v = (k : Int) := ⟨v.toNat, by omega⟩
    have hk : k ≤ s.size := by omega
    clear hB1 hB2 hb1 hb
    obtain ⟨A, hA⟩ : ∃ A, lnb s k = A := ⟨_, rfl⟩
    obtain ⟨E, hE⟩ : ∃ E, endL s k = E := ⟨_, rfl⟩
    obtain ⟨G, hG⟩ : ∃ G, gap s k = G := ⟨_, rfl⟩
    obtain ⟨V, hV⟩ : ∃ V, wh s k = V := ⟨_, rfl⟩
    obtain ⟨I, hI⟩ : ∃ I, ind s k = I := ⟨_, rfl⟩
    have hAk : A ≤ k := by rw [← hA]; exact lnb_le s k
    have hkE : k ≤ E := by rw [← hE]; exact fwd_ge _ _ _
    have hVG : V ≤ G := by rw [← hV, ← hG]; exact wh_gap s k hk
    have hkV : k ≤ V := by rw [← hV]; exact fwd_ge _ _ _
    have hGs : G ≤ s.size := by rw [← hG]; exact (gap_ge s k hk).2
    have hGG : Hid (gap s G = G) := by show gap s G = G; rw [← hG]; exact gap_fix s _ k (Nat.le_refl _) hk
    have hIE : I + A ≤ E := by rw [← hI, ← hA, ← hE]; exact ind_le s k hk
    have hEs : E ≤ s.size := by rw [← hE]; exact fwd_le _ _ _ hk
    have HA : Hid (lnb s k = A) := hA
    have HE : Hid (endL s k = E) := hE
    have HG : Hid (gap s k = G) := hG
    have HV : Hid (wh s k = V) := hV
    have HI : Hid (ind s k = I) := hI
    clear hA hE hG hV hI
    go_wp2_with fail
    refine (line_any_nat s k A _ hs hk HA.out).mono ?_
    rintro e w3 ⟨rfl, rfl⟩
    go_wp2_with fail
    refine (endAt_any_nat s k E _ hs hk HE.out).mono ?_
    rintro e w4 ⟨rfl, hB4⟩
    go_wp2_with fail
    have cG : Calls Try.prog 8 #[.string s, .int .i64 (k : Int)] w4 fun e w' => e = .returned (.int .i64 (G : Int)) ∧ Below w4.heap.size w4 w' := by
      have h := gap_any s (k : Int) w4 hs
      rw [cl_nat _ _ hk, HG.out] at h
      exact h
    refine cG.mono ?_
    rintro e w5 ⟨rfl, hB5⟩
    clear cG
    go_wp2_with fail
    refine (white_any_nat s k V _ hs hk HV.out).mono ?_
    rintro e w6 ⟨rfl, hB6⟩
    go_wp2_with fail
    have cC : Calls Try.prog 10 #[.string s, .int .i64 (k : Int)] w6 fun e w' => e = .returned (.int .i64 ((k : Int) - (A : Int))) ∧ w' = w6 := by
      have h := col_any s (k : Int) w6 hs
      rw [cl_nat _ _ hk, HA.out] at h
      exact h
    refine cC.mono ?_
    rintro e w7 ⟨rfl, hw7⟩
    subst hw7
    clear cC
    go_wp2_with fail
    have cGG : Calls Try.prog 8 #[.string s, .int .i64 (G : Int)] w7 fun e w' => e = .returned (.int .i64 (G : Int)) ∧ Below w7.heap.size w7 w' := by
      have h := gap_any s (G : Int) w7 hs
      rw [cl_nat _ _ hGs, hGG.out] at h
      exact h
    refine cGG.mono ?_
    rintro e w8 ⟨rfl, hB8⟩
    clear cGG
    go_wp2_with fail
    have cI : Calls Try.prog 11 #[.string s, .int .i64 (k : Int)] w8 fun e w' => e = .returned (.int .i64 (I : Int)) ∧ Below w8.heap.size w8 w' := by
      have h := indent_any s (k : Int) w8 hs
      rw [cl_nat _ _ hk, HI.out] at h
      exact h
    refine cI.mono ?_
    rintro e w9 ⟨rfl, hB9⟩
    clear cI
    have hB9' : Below w.heap.size w w9 := by
      have h4 := hB12.trans (hB4.mono hB12.size)
      have h5 := h4.trans (hB5.mono h4.size)
      have h6 := h5.trans (hB6.mono h5.size)
      have h8 := h6.trans (hB8.mono h6.size)
      exact h8.trans (hB9.mono h8.size)
    clear hB12 hB4 hB5 hB6 hB8 hB9
    go_wp2_with fail
    obtain ⟨R, b, hR⟩ : ∃ R b, rest s k = (R, b) := ⟨_, _, rfl⟩
    have hRf := rest_fst s k hk
    rw [hR, HE.out] at hRf
    obtain ⟨hR1, hR2⟩ := hRf
    have hR1 : k ≤ R := hR1
    have hR2 : b = true → R = E := hR2
    have cR : Calls Try.prog 12 #[.string s, .int .i64 (k : Int)] w9 fun e w' => e = .returned (.tuple #[.int .i64 (R : Int), .bool b]) ∧ Below w9.heap.size w9 w' := by
      have h := rest_any s (k : Int) w9 hs
      rw [cl_nat _ _ hk, hR] at h
      exact h
    clear hR
    refine cR.mono ?_
    rintro e w10 ⟨rfl, hB10⟩
    clear cR
    have hB10' := hB9'.trans (hB10.mono hB9'.size)
    clear hB9' hB10
    obtain ⟨l, hl⟩ : ∃ l, lone s k = l := ⟨_, rfl⟩
    have hl2 : l = true → wh s A = E := by
      intro h
      rw [← HA.out, ← HE.out]; exact lone_wh s k hk (hl.trans h)
    have cL : ∀ w, Calls Try.prog 13 #[.string s, .int .i64 (k : Int)] w fun e w' => e = .returned (.bool l) ∧ Below w.heap.size w w' := by
      intro w
      have h := lone_any s (k : Int) w hs
      rw [cl_nat _ _ hk, hl] at h
      exact h
    have hGe : ¬ k < s.size → G = s.size := by
      intro h
      rw [← HG.out, gap_end (by omega)]; omega
    have hAs : A ≤ s.size := by omega
    clear hl
    cases b with
    | true =>
      cases l with
      | true =>
        have hW : Hid (wh s A = E) := hl2 rfl
        have hRE : ((R : Int) == (E : Int)) = true := by rw [hR2 rfl]; exact beq_self_eq_true _
        clear hR2
        go_wp2_with fail
        refine (cL _).mono ?_
        rintro e w11 ⟨rfl, hB11⟩
        have hB11' := hB10'.trans (hB11.mono hB10'.size)
        clear cL hB10' hB11
        go_wp2_with fail
        refine (white_any_nat s A E _ hs hAs hW.out).mono ?_
        rintro e w12 ⟨rfl, hB12⟩
        have hB12' := hB11'.trans (hB12.mono hB11'.size)
        by_cases hks : k < s.size
        · clear hGe
          go_wp2_with fail
          go_ret
          exact ⟨rfl, hB12'⟩
        · have hGs' : ((G : Int) == (s.size : Int)) = true := by rw [hGe hks]; exact beq_self_eq_true _
          clear hGe
          go_wp2_with fail
          go_ret
          exact ⟨rfl, hB12'⟩
      | false =>
        clear hl2
        have hRE : ((R : Int) == (E : Int)) = true := by rw [hR2 rfl]; exact beq_self_eq_true _
        clear hR2
        go_wp2_with fail
        refine (cL _).mono ?_
        rintro e w11 ⟨rfl, hB11⟩
        have hB11' := hB10'.trans (hB11.mono hB10'.size)
        clear cL hB10' hB11
        by_cases hks : k < s.size
        · clear hGe
          go_wp2_with fail
          go_ret
          exact ⟨rfl, hB11'⟩
        · have hGs' : ((G : Int) == (s.size : Int)) = true := by rw [hGe hks]; exact beq_self_eq_true _
          clear hGe
          go_wp2_with fail
          go_ret
          exact ⟨rfl, hB11'⟩
    | false =>
      cases l with
      | true =>
        have hW : Hid (wh s A = E) := hl2 rfl
        clear hR2
        go_wp2_with fail
        refine (cL _).mono ?_
        rintro e w11 ⟨rfl, hB11⟩
        have hB11' := hB10'.trans (hB11.mono hB10'.size)
        clear cL hB10' hB11
        go_wp2_with fail
        refine (white_any_nat s A E _ hs hAs hW.out).mono ?_
        rintro e w12 ⟨rfl, hB12⟩
        have hB12' := hB11'.trans (hB12.mono hB11'.size)
        by_cases hks : k < s.size
        · clear hGe
          go_wp2_with fail
          go_ret
          exact ⟨rfl, hB12'⟩
        · have hGs' : ((G : Int) == (s.size : Int)) = true := by rw [hGe hks]; exact beq_self_eq_true _
          clear hGe
          go_wp2_with fail
          go_ret
          exact ⟨rfl, hB12'⟩
      | false =>
        clear hl2
        clear hR2
        go_wp2_with fail
        refine (cL _).mono ?_
        rintro e w11 ⟨rfl, hB11⟩
        have hB11' := hB10'.trans (hB11.mono hB10'.size)
        clear cL hB10' hB11
        by_cases hks : k < s.size
        · clear hGe
          go_wp2_with fail
          go_ret
          exact ⟨rfl, hB11'⟩
        · have hGs' : ((G : Int) == (s.size : Int)) = true := by rw [hGe hks]; exact beq_self_eq_true _
          clear hGe
          go_wp2_with fail
          go_ret
          exact ⟨rfl, hB11'⟩
end Go.Proofs.Ythfapofjbeccaad
