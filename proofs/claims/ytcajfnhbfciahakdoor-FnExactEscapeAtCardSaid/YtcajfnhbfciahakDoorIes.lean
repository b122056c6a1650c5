/- The contract of impl.EscapeAt. -/
import Derived.Test.YtcajfnhbfciahakDoorSgn
import Derived.Test.YtcajfnhbfciahakDoorSdb
namespace Go.Proofs.YtcajfnhbfciahakDoor
open Go.ChangeShapes Go.WideShapes Go.ChangeAt Go.RowKit
theorem impl_rb_is (r : Int) (t : ByteArray) (w : World) (h : rb r = t) : Calls Tryd.prog 16 #[.int .i64 r] w fun e w' => e = .returned (.string t) ∧ w' = w := by
  subst h; exact impl_rb r w
theorem rb_some (r : Int) (h0 : 0 ≤ r) (h1 : r < 55296) : rb r ≠ ByteArray.empty := by
  intro e
  have hz : (rb r).size = 0 := by rw [e]; rfl
  by_cases a : r < 128
  · rw [rb_1 r h0 a] at hz; exact absurd hz (by show ¬ 1 = 0; omega)
  · by_cases b : r < 2048
    · rw [rb_2 r (by omega) b] at hz; exact absurd hz (by show ¬ 2 = 0; omega)
    · rw [rb_3 r (by omega) (by omega) (.inl h1)] at hz; exact absurd hz (by show ¬ 3 = 0; omega)
theorem escT_up {x r : Nat} (h : escT x = some r) : r < 55296 := by
  rcases escT_has (by rw [h]; simp) with rfl | rfl | rfl | rfl | rfl | rfl | rfl | rfl | rfl | rfl | rfl | rfl | rfl | rfl | rfl | rfl | rfl | rfl <;> (injection h with h; omega)
theorem escN_T {x : Nat} (h : escN x ≠ 0) : escT x = none := by
  have hw : x = 120 ∨ x = 117 ∨ x = 85 := by
    refine Classical.byContradiction fun hc => h ?_
    unfold escN
    rw [if_neg (by omega), if_neg (by omega), if_neg (by omega)]
  rcases hw with rfl | rfl | rfl <;> rfl
theorem escN_8 (x : Nat) : escN x ≤ 8 := by unfold escN; split <;> (try split) <;> (try split) <;> omega
/-- EscapeAt by the number that the signs stand for. -/
theorem esc_by {s : ByteArray} {k : Nat} (hl : k + 1 < s.size) (hq : bt s k = 92) (r : Int) (hr : r = if escN (bt s (k + 1)) = 0 then snN (bt s (k + 1)) else hexGo s (escN (bt s (k + 1))) (k + 2) 0) :
    escAt s k = if rb r = ByteArray.empty then (ByteArray.empty, 0) else (rb r, k + 2 + escN (bt s (k + 1))) := by
  unfold escAt
  rw [if_neg (by omega)]
  by_cases hn : escN (bt s (k + 1)) = 0
  · rw [if_pos hn] at hr
    cases ht : escT (bt s (k + 1)) with
    | some x =>
      have hx : r = (x : Int) := by rw [hr]; unfold snN; rw [ht]
      have hz := rb_some r (by omega) (by have := escT_up ht; omega)
      rw [if_neg hz, hn, hx]
    | none =>
      have hx : r = -1 := by rw [hr]; unfold snN; rw [ht]
      have hz : rb r = ByteArray.empty := rb_bad r (.inl (by omega))
      simp only [hn, if_true]
      rw [if_pos hz]
  · rw [if_neg hn] at hr
    rw [escN_T hn]
    simp only []
    rw [if_neg hn, hr]
set_option maxHeartbeats 4000000 in
theorem impl_escapeAt (s : ByteArray) (p : Int) (w : World) (hs : s.size ≤ 1048576) (hv : ErrVar w) (T : ByteArray) (E : Nat) (hr : escAt s (cl s.size p) = (T, E)) :
    Calls Tryd.prog 6 #[.string s, .int .i64 p] w fun e w' => e = .returned (.tuple #[.string T, .int .i64 (E : Int)]) ∧ Below w.heap.size w w' := by
  have hcl := cl_le s.size p
  have hmx : s.size ≤ mx := by unfold mx; omega
  have HR : Hid (escAt s (cl s.size p) = (T, E)) := hr
  have HV : Hid (ErrVar w) := hv
  clear hr hv
  go_enter Tryd.func6, Tryd.ntmps6
  go_wp2_with fail
  refine (bring_any _ _ _ hmx).mono ?_
  rintro e w ⟨rfl, rfl⟩
  generalize cl s.size p = k at *
  by_cases hlt : k + 1 < s.size
  · have hl1 : ¬ (s.size : Int) ≤ (k : Int) + 1 := by omega
    have hk : k < s.size := by omega
    by_cases hq : (s[k]'hk).toNat = 92
    · have hq' : (((s[k]'hk).toNat : Int) != 92) = false := by rw [hq]; rfl
      have hQ : bt s k = 92 := by rw [← bt_get s k hk]; exact hq
      have hbt : (s[k + 1]'hlt).toNat = bt s (k + 1) := bt_get s (k + 1) hlt
      obtain ⟨r, hr⟩ : ∃ r, r = if escN (bt s (k + 1)) = 0 then snN (bt s (k + 1)) else hexGo s (escN (bt s (k + 1))) (k + 2) 0 := ⟨_, rfl⟩
      have HE : Hid (escAt s k = if rb r = ByteArray.empty then (ByteArray.empty, 0) else (rb r, k + 2 + escN (bt s (k + 1)))) := esc_by hlt hQ r hr
      obtain ⟨y, hy⟩ : ∃ y, (s[k + 1]'hlt).toNat = y := ⟨_, rfl⟩
      have hby : bt s (k + 1) = y := by rw [← hbt]; exact hy
      rw [hby] at hr
      have HBY : Hid (bt s (k + 1) = y) := hby
      clear hq hQ hbt hby
      obtain ⟨t, ht⟩ : ∃ t, rb r = t := ⟨_, rfl⟩
      have HT : Hid (rb r = t) := ht
      clear ht
      obtain ⟨n0, hn0⟩ : ∃ n0, snN y = n0 := ⟨_, rfl⟩
      have HN0 : Hid (snN y = n0) := hn0
      obtain ⟨m, hm⟩ : ∃ m, escN y = m := ⟨_, rfl⟩
      have HM : Hid (escN y = m) := hm
      have hm8 : m ≤ 8 := by rw [← hm]; exact escN_8 y
      rw [hm] at hr
      have HRR : Hid (r = if m = 0 then snN y else hexGo s m (k + 2) 0) := hr
      clear hn0 hm hr
      by_cases h0 : m = 0
      · subst h0
        have HRN : Hid (n0 = r) := by show n0 = r; have h := HRR.out; rw [if_pos rfl, HN0.out] at h; exact h.symm
        go_wp2_with fail
        refine (signNumber_any y _ n0 HN0.out).mono ?_
        rintro e w1 ⟨rfl, rfl⟩
        go_wp2_with fail
        refine (digits_any y _ 0 HM.out).mono ?_
        rintro e w1 ⟨rfl, rfl⟩
        go_wp2_with fail
        refine (impl_rb_is n0 t _ (by rw [HRN.out]; exact HT.out)).mono ?_
        rintro e w1 ⟨rfl, rfl⟩
        by_cases hz : t = ByteArray.empty
        · subst hz
          have HO : Hid ((ByteArray.empty, 0) = (T, E)) := by show _ = (T, E); rw [← HR.out, HE.out, if_pos HT.out]
          have he := empty_l
          go_wp2_with fail
          go_ret2
          have e0 := HO.out
          injection e0 with e1 e2
          subst e1
          subst e2
          exact ⟨rfl, Below.refl _ _⟩
        · have he := nonempty_l hz
          have HO : Hid ((t, k + 2) = (T, E)) := by show _ = (T, E); rw [← HR.out, HE.out, if_neg (by rw [HT.out]; exact hz), HT.out, HBY.out, HM.out]
          clear hz
          go_wp2_with fail
          go_ret2
          have e0 := HO.out
          injection e0 with e1 e2
          subst e1
          subst e2
          exact ⟨by first | rfl | simp, Below.refl _ _⟩
      · have h0' : (0 : Int) < (m : Int) := by omega
        have HRN : Hid (hexGo s m (k + 2) 0 = r) := by show _ = r; have h := HRR.out; rw [if_neg h0] at h; exact h.symm
        have HM0 : Hid (0 < m) := by show 0 < m; omega
        have EQ : Hid ((k : Int) + 2 + (m : Int) = ((k + 2 + m : Nat) : Int)) := by show _ = _; omega
        have EP : Hid ((k : Int) + 2 = ((k + 2 : Nat) : Int)) := by show _ = _; omega
        have cH : Calls Tryd.prog 15 #[.string s, .int .i64 ((k : Int) + 2), .int .i64 ((k : Int) + 2 + (m : Int))] w fun e w' => e = .returned (.int .i64 r) ∧ Below w.heap.size w w' := by
          rw [EQ.out, EP.out]
          exact hexAt_any s (k + 2) m w r hs (by omega) HM0.out hm8 HV.out HRN.out
        clear h0 EQ EP
        go_wp2_with fail
        refine (signNumber_any y _ n0 HN0.out).mono ?_
        rintro e w1 ⟨rfl, rfl⟩
        go_wp2_with fail
        refine (digits_any y _ m HM.out).mono ?_
        rintro e w1 ⟨rfl, rfl⟩
        go_wp2_with fail
        refine cH.mono ?_
        rintro e w1 ⟨rfl, hb1⟩
        clear cH
        go_wp2_with fail
        refine (impl_rb_is r t _ HT.out).mono ?_
        rintro e w2 ⟨rfl, rfl⟩
        by_cases hz : t = ByteArray.empty
        · subst hz
          have HO : Hid ((ByteArray.empty, 0) = (T, E)) := by show _ = (T, E); rw [← HR.out, HE.out, if_pos HT.out]
          have he := empty_l
          go_wp2_with fail
          go_ret2
          have e0 := HO.out
          injection e0 with e1 e2
          subst e1
          subst e2
          exact ⟨rfl, hb1⟩
        · have he := nonempty_l hz
          have HO : Hid ((t, k + 2 + m) = (T, E)) := by show _ = (T, E); rw [← HR.out, HE.out, if_neg (by rw [HT.out]; exact hz), HT.out, HBY.out, HM.out]
          clear hz
          go_wp2_with fail
          go_ret2
          have e0 := HO.out
          injection e0 with e1 e2
          subst e1
          subst e2
          exact ⟨by first | rfl | simp | (simp; omega), hb1⟩
    · have hq' : (((s[k]'hk).toNat : Int) != 92) = true := by rw [bne_iff_ne]; omega
      have HO : Hid ((ByteArray.empty, 0) = (T, E)) := by
        show _ = (T, E)
        rw [← HR.out]; unfold escAt
        rw [if_pos (.inr (by rw [← bt_get s k hk]; exact hq))]
      clear hq
      go_wp2_with fail
      go_ret2
      have e0 := HO.out
      injection e0 with e1 e2
      subst e1
      subst e2
      exact ⟨rfl, Below.refl _ _⟩
  · have hl1 : (s.size : Int) ≤ (k : Int) + 1 := by omega
    have HO : Hid ((ByteArray.empty, 0) = (T, E)) := by
      show _ = (T, E)
      rw [← HR.out]; unfold escAt
      rw [if_pos (.inl (by omega))]
    clear hlt
    go_wp2_with fail
    go_ret2
    have e0 := HO.out
    injection e0 with e1 e2
    subst e1
    subst e2
    exact ⟨rfl, Below.refl _ _⟩
end Go.Proofs.YtcajfnhbfciahakDoor
