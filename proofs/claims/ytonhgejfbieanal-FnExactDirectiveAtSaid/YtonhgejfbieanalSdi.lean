/- What DirectiveAt answers, as a plain function; the contract of spec.DirectiveAt. -/
import Derived.Test.YtonhgejfbieanalPsh
import Derived.Test.YtonhgejfbieanalSmk
import Derived.LoopN
import Derived.OwnWalk
namespace Go.Proofs.Ytonhgejfbieanal
open Go.ChangeShapes Go.WideShapes Go.ChangeAt Go.RowKit
/-- A byte that is no gap. -/
def pNg (c : Nat) : Bool := !pG c
/-- The words of a line from p on; e: the line's end. -/
def dirGo (s : ByteArray) (e : Nat) : Nat → Nat → List ByteArray → List ByteArray
  | 0, _, l => l
  | f + 1, p, l => if e ≤ wh s p ∨ bt s (wh s p) = 35 then l else dirGo s e f (fwd pNg s (wh s p)) (l ++ [s.extract (wh s p) (fwd pNg s (wh s p))])
def dirAt (s : ByteArray) (k : Nat) : List ByteArray × Nat := (dirGo s (endL s k) (s.size + 1) k [], endL s k)
theorem dir_stop {s : ByteArray} {e f p v : Nat} {l : List ByteArray} (hv : wh s p = v) (h : e ≤ v ∨ bt s v = 35) : dirGo s e f p l = l := by
  cases f with
  | zero => rfl
  | succ f => rw [dirGo, hv, if_pos h]
theorem dir_on {s : ByteArray} {e f p v x : Nat} {l : List ByteArray} (hv : wh s p = v) (h : ¬ (e ≤ v ∨ bt s v = 35)) (hx : fwd pNg s v = x) : dirGo s e (f + 1) p l = dirGo s e f x (l ++ [s.extract v x]) := by rw [dirGo, hv, if_neg h, hx]
theorem dwh_ge (s : ByteArray) (k : Nat) : k ≤ wh s k := fwd_ge pW s k
theorem wh_lt (s : ByteArray) (k : Nat) (h : k ≤ s.size) : wh s k ≤ s.size := fwd_le pW s k h
/-- A word isn't empty. -/
theorem word_lt {s : ByteArray} {k p v e : Nat} (he : endL s k = e) (hk : k ≤ s.size) (hkp : k ≤ p) (hv : wh s p = v) (h : v < e) : v < fwd pNg s v := by
  have hes : e ≤ s.size := by rw [← he]; exact fwd_le pN s k hk
  have hvp : p ≤ v := by rw [← hv]; exact dwh_ge s p
  have h1 : pN (bt s v) = true := fwd_in pN s k v (by omega) (by show v < endL s k; omega)
  have h2 : pW (bt s v) = false := by
    have := fwd_at pW s p
    rw [show fwd pW s p = v from hv] at this
    exact this (by omega)
  have h3 : pNg (bt s v) = true := by
    unfold pNg pG
    unfold pW at h2
    unfold pN at h1
    simp at h1 h2 ⊢
    omega
  rw [fwd_step (by omega) h3]
  have := fwd_ge pNg s (v + 1)
  omega
theorem infoD : (Try.prog.info? 9).map (fun i => (i.zero, i.size, i.bytes)) = some (some (.string ⟨#[]⟩), 1, 16) := by kernel_rfl
def celS (l : List ByteArray) : List Value := l.map fun x => Value.string x
theorem celS_snoc (l : List ByteArray) (x : ByteArray) : celS (l ++ [x]) = celS l ++ [.string x] := by unfold celS; rw [List.map_append]; rfl
set_option maxRecDepth 100000 in
set_option maxHeartbeats 8000000 in
theorem spec_directiveAt (s : ByteArray) (p : Int) (w : World) (hs : s.size ≤ 1048576) (R : List ByteArray) (e : Nat) (hr : dirAt s (cl s.size p) = (R, e)) :
    Calls Try.prog 10 #[.string s, .int .i64 p] w fun r w' => ∃ v, r = .returned (.tuple #[v, .int .i64 (e : Int)]) ∧ w'.ownsRow w.heap.size 9 1 v R.length (celS R) ∧ Below w.heap.size w w' := by
  have hcl := cl_le s.size p
  have hmx : s.size ≤ mx := by unfold mx; omega
  have cP := fun w => l01P_any s p w hmx
  generalize cl s.size p = k0 at *
  have he : endL s k0 = e := by unfold dirAt at hr; injection hr
  have hR : dirGo s e (s.size + 1) k0 [] = R := by unfold dirAt at hr; rw [he] at hr; injection hr
  have HE : Hid (endL s k0 = e) := he
  have HX : Hid (dirGo s e (s.size + 1) k0 [] = R) := hR
  have HES : Hid (e ≤ s.size) := by show e ≤ s.size; rw [← he]; exact fwd_le pN s k0 hcl
  have HA0 : Hid (Below w.heap.size w (w.alloc (.cells #[] 9))) := (Below.refl _ w).alloc (Nat.le_refl _) _
  have HO0 : Hid ((w.alloc (.cells #[] 9)).ownsRow w.heap.size 9 1 (.slice (some ⟨w.heap.size, 0, none⟩) 0 0) ([] : List ByteArray).length (celS [])) := World.ownsRow_made w #[] 0 (Nat.le_refl _) (Nat.zero_le _) rfl
  clear hr he hR
  go_enter Try.func10, Try.ntmps10
  go_wp2_with fail
  refine (cP _).mono ?_
  rintro e9 w1 ⟨rfl, hw1⟩
  obtain rfl := hw1.symm
  clear cP hw1
  go_wp2_with fail
  refine (spec_end_nat s k0 e _ hmx hcl HE.out).mono ?_
  rintro e9 w1 ⟨rfl, hw1⟩
  obtain rfl := hw1.symm
  clear hw1
  go_wp2_with fail
  go_loopw [1, 7] (fun pv lv wr => ∃ (k f : Nat) (l : List ByteArray) (l0 : Option Addr) (l1 l2 : Nat), pv = .int .i64 (k : Int) ∧ lv = .slice l0 l1 l2 ∧ k ≤ s.size ∧ k0 ≤ k ∧ l.length ≤ k ∧ Hid (s.size < f + k) ∧ Hid (dirGo s e f k l = R) ∧ Hid (wr.ownsRow w.heap.size 9 1 (.slice l0 l1 l2) l.length (celS l)) ∧ Hid (Below w.heap.size w wr)) (fun pv _ _ => s.size + 1 - (intOf pv).toNat)
  case atStart => exact ⟨k0, s.size + 1, [], _, _, _, rfl, rfl, hcl, Nat.le_refl _, Nat.zero_le _, (by show s.size < s.size + 1 + k0; omega), HX, HO0, HA0⟩
  case round =>
    clear HX HO0 HA0
    obtain ⟨k, f, l, oa, on, oc, rfl, rfl, hk, hk0, hlk, HF, HX, HO, HB⟩ := hrel
    obtain ⟨v, hv⟩ : ∃ v, wh s k = v := ⟨_, rfl⟩
    have HV : Hid (wh s k = v) := hv
    have hvs : v ≤ s.size := by rw [← hv]; exact wh_lt s k hk
    have hkv : k ≤ v := by rw [← hv]; exact dwh_ge s k
    clear hv
    go_wp2_with fail
    refine (spec_white_nat s k v _ hmx hk HV.out).mono ?_
    rintro e9 w2 ⟨rfl, hw2⟩
    obtain rfl := hw2.symm
    clear hw2
    by_cases hev : e ≤ v
    · have hev' : (v : Int) ≥ (e : Int) := by omega
      have HRR : Hid (l = R) := by show l = R; rw [← HX.out, dir_stop HV.out (.inl hev)]
      go_wp2_with fail
      go_ret2
      exact ⟨_, rfl, by rw [← HRR.out]; exact HO.out, HB.out⟩
    have hev' : ¬ (v : Int) ≥ (e : Int) := by omega
    have hvl : v < s.size := by have := HES.out; omega
    have hbt := bt_get s v hvl
    by_cases h35 : bt s v = 35
    · have HRR : Hid (l = R) := by show l = R; rw [← HX.out, dir_stop HV.out (.inr h35)]
      have t35 : (((s[v]'hvl).toNat : Int) == 35) = true := by rw [hbt, h35]; rfl
      clear hbt h35
      go_wp2_with fail
      go_ret2
      exact ⟨_, rfl, by rw [← HRR.out]; exact HO.out, HB.out⟩
    have t35 : (((s[v]'hvl).toNat : Int) == 35) = false := by rw [hbt, beq_eq_false_iff_ne]; omega
    obtain ⟨x, hx⟩ : ∃ x, fwd pNg s v = x := ⟨_, rfl⟩
    have HXX : Hid (fwd pNg s v = x) := hx
    have hvx : v < x := by rw [← hx]; exact word_lt HE.out hcl hk0 HV.out (by omega)
    have hxs : x ≤ s.size := by rw [← hx]; exact fwd_le pNg s v hvs
    obtain ⟨g, rfl⟩ : ∃ g, f = g + 1 := ⟨f - 1, by have := HF.out; omega⟩
    have HX2 : Hid (dirGo s e g x (l ++ [s.extract v x]) = R) := by show _ = R; rw [← HX.out, dir_on HV.out (by omega) hx]
    clear hx hbt h35
    go_wp2_with fail
    go_loop [8] (fun qv => ∃ q : Nat, qv = .int .i64 (q : Int) ∧ v ≤ q ∧ q ≤ x ∧ Hid (fwd pNg s q = x)) (fun qv => s.size - (intOf qv).toNat)
    case atStart => exact ⟨v, rfl, Nat.le_refl _, Nat.le_of_lt hvx, HXX⟩
    case round =>
      obtain ⟨q, rfl, hvq, hqx, HQ⟩ := hrel
      by_cases hqe : q = x
      · subst hqe
        have hgp : gapP s q = true := by
          unfold gapP
          by_cases h : s.size ≤ q
          · rw [decide_eq_true h]; rfl
          · have := fwd_at pNg s q
            rw [HQ.out] at this
            have h2 := this (by omega)
            unfold pNg at h2
            rw [show pG (bt s q) = true by simpa using h2]
            simp
        obtain ⟨v5, w5, hrun5, hsl5, hown5, hbel5, hot5⟩ := push_own (P := Try.prog) Try.underlying29 infoD rfl (by decide) wr w.heap.size _ _ _ HO.out #[.string (s.extract v q)] rfl (by intro u hu; simp at hu; subst hu; rfl) (by omega) (by omega) HB.out.size 29
        obtain ⟨a5, n5, c5, rfl⟩ := hsl5
        have HO5 : Hid (w5.ownsRow w.heap.size 9 1 (.slice a5 n5 c5) (l ++ [s.extract v q]).length (celS (l ++ [s.extract v q]))) := by
          show w5.ownsRow _ _ _ _ _ _
          rw [List.length_append, celS_snoc]
          exact hown5
        have HB5 : Hid (Below w.heap.size w w5) := HB.out.trans hbel5
        have hq1 : (v : Int) ≤ (q : Int) := by omega
        have hq2 : (q : Int) ≤ (s.size : Int) := by omega
        have HLL : Hid ((l ++ [s.extract v q]).length ≤ q) := by show _ ≤ _; rw [List.length_append]; show l.length + 1 ≤ q; omega
        have HFF : Hid (s.size < g + q) := by have := HF.out; show s.size < g + q; omega
        have cG := spec_gap1 s q wr true hgp.symm
        clear hgp hown5 hbel5 hot5 HO
        go_wp2_with fail
        refine cG.mono ?_
        rintro e9 w3 ⟨rfl, hw3⟩
        obtain rfl := hw3.symm
        clear hw3
        clear cG
        go_wp2_with (at_builtin; refine append_run rfl _ _ 29 rfl _ _ rfl rfl _ w5 hrun5 ?_)
        go_roundw
        case rel => exact ⟨q, g, l ++ [s.extract v q], _, _, _, rfl, rfl, hxs, by omega, HLL.out, HFF, HX2, HO5, HB5⟩
        case measure => simp [intOf]; omega
      · have hql : q < s.size := by omega
        have hst : pNg (bt s q) = true := by
          cases h : pNg (bt s q) with
          | true => rfl
          | false =>
            have := fwd_stop (s := s) (k := q) h
            rw [HQ.out] at this
            exact absurd this.symm hqe
        have hgp : gapP s q = false := by
          unfold gapP
          rw [decide_eq_false (by omega)]
          unfold pNg at hst
          simp at hst
          simp [hst]
        have HQ1 : Hid (fwd pNg s (q + 1) = x) := by show _ = x; rw [← HQ.out, fwd_step hql hst]
        have cG := spec_gap1 s q wr false hgp.symm
        clear hgp hst
        go_wp2_with fail
        refine cG.mono ?_
        rintro e9 w3 ⟨rfl, hw3⟩
        obtain rfl := hw3.symm
        clear hw3
        clear cG
        go_wp2_with fail
        go_round
        case rel => exact ⟨q + 1, by go_num, by omega, by omega, HQ1⟩
        case measure => simp [intOf]; omega
end Go.Proofs.Ytonhgejfbieanal
