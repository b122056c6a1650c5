/- spec.RuneAt answers what ra says, and changes nothing that was there. -/
import Derived.Test.YtgknoaabppmmiafDoorImplAt
namespace Go.Proofs.YtgknoaabppmmiafDoor
open Go.ChangeShapes Go.WideShapes Go.ChangeAt Go.RowKit
theorem bt_get (s : ByteArray) (i : Nat) (h : i < s.size) : ((s[i]'h).toNat : Int) = bt s i := by
  unfold bt
  have : s.get! i = s[i]'h := by
    have := get_at s i h
    simpa using this
  rw [this]
theorem spec_rbB (r : Int) (w : World) :
    Calls Tryd.prog 31 #[.int .i64 r] w fun e w' => e = .returned (.string (rb r)) ∧ Below w.heap.size w w' := by
  refine (spec_rb r w).mono ?_
  rintro e w' ⟨rfl, rfl | ⟨xs, rfl⟩⟩
  · exact ⟨rfl, Below.refl _ _⟩
  · exact ⟨rfl, (Below.refl _ _).alloc (Nat.le_refl _) _⟩
theorem below_step {w1 wr w2 : World} {o : Obj} (h : Below w1.heap.size w1 wr) (h2 : Below ((wr.alloc o).drew).heap.size (wr.alloc o).drew w2) : Below w1.heap.size w1 w2 :=
  ((h.alloc h.size o).drew).trans (h2.mono (by have := h.size; simp; omega))
theorem no_step {s : ByteArray} {q k : Nat} {z : Int} (h : ∀ j : Nat, 1 ≤ j → (j : Int) < z → ¬ fits s q j) (hk : ¬ fits s q k) (hz : z = k := by rfl) : ∀ j : Nat, 1 ≤ j → (j : Int) < z + 1 → ¬ fits s q j := by
  intro j h1 h2
  by_cases e : j = k
  · rw [e]; exact hk
  · exact h j h1 (by omega)
set_option maxHeartbeats 4000000 in
theorem spec_ra (s : ByteArray) (p : Int) (w : World) (hs : s.size ≤ maxLen) :
    Calls Tryd.prog 21 #[.string s, .int .i64 p] w fun e w' => e = .returned (.tuple #[.int .i64 (ra s (cl s.size p)).1, .int .i64 (ra s (cl s.size p)).2]) ∧ Below w.heap.size w w' := by
  have hcl := cl_le s.size p
  unfold maxLen at hs
  go_enter Tryd.func21, Tryd.ntmps21
  go_wp2_with (first | (go_at_call 30; refine (l01P_any _ _ _ hs).mono ?_; rintro e w1 ⟨rfl, rfl⟩))
  generalize hq : cl s.size p = q at *
  have HQ : Hid (cl s.size p = q) := hq
  clear hq
  go_loopw [6] (fun t w' => ∃ z : Int, 1 ≤ z ∧ z ≤ 5 ∧ t = .int .i64 z ∧ (∀ j : Nat, 1 ≤ j → (j : Int) < z → ¬ fits s q j) ∧ Below w1.heap.size w1 w') (fun t _ => 5 - (intOf t).toNat)
  case atStart => exact ⟨1, by omega, by omega, rfl, fun j h1 h2 => by omega, Below.refl _ _⟩
  case round =>
    obtain ⟨k, hk1, hk5, rfl, hno, hbel⟩ := hrel
    have HN : Hid (∀ j : Nat, 1 ≤ j → (j : Int) < k → ¬ fits s q j) := hno
    clear hno
    rcases (show k = 1 ∨ k = 2 ∨ k = 3 ∨ k = 4 ∨ k = 5 by omega) with rfl | rfl | rfl | rfl | rfl
    · by_cases hlt : q + 1 ≤ s.size
      · have hq0 : q < s.size := by omega
        have hg0 : Hid (((s[q]'hq0).toNat : Int) = bt s q) := bt_get s q hq0
        have gl0 : (s[q]'hq0).toNat < 256 := (s[q]'hq0).toNat_lt
        go_wp2_with fail
        go_region
        go_wp2_with fail
        refine wp_loop_rounds 1 ?_
        rw [rounds_succ]
        go_wp2_with fail
        have HC : Hid (((s[q]'hq0).toNat : Int) = cand s q 1) := by
          show ((s[q]'hq0).toNat : Int) = cand s q 1
          rw [hg0.out]; rfl
        refine (spec_rbB _ _).mono ?_
        rintro e w2 ⟨rfl, hb2⟩
        have hbw := below_step hbel hb2
        clear hb2 hbel
        generalize hv : rb ((s[q]'hq0).toNat : Int) = v
        have HV : Hid (rb ((s[q]'hq0).toNat : Int) = v) := hv
        clear hv
        have hez : (s.extract q (q + 1)).size = 1 := by rw [ByteArray.size_extract]; omega
        by_cases hve : v = s.extract q (q + 1)
        · subst hve
          have hf : fits s q 1 := ⟨hlt, by rw [← HC.out]; exact HV.out⟩
          have HF : Hid (ra s q = (cand s q 1, ((1 : Nat) : Int))) := ra_fit s q 1 (by omega) (by omega) hf
          clear hf
          go_wp2_with fail
          go_ret2
          exact ⟨ret2 (by rw [HQ.out, HF.out]; exact HC.out) (by rw [HQ.out, HF.out]; rfl), hbw⟩
        · have HNF : Hid (¬ fits s q 1) := fun hf => hve (by rw [← HV.out, HC.out]; exact hf.2)
          have hbe : (v.toList == (s.extract q (q + 1)).toList) = false := by rw [toList_beq]; simpa using hve
          clear hve
          by_cases hz : v.size = 1
          · have hz' : ((v.size : Int) == 1) = true := by rw [hz]; rfl
            clear hz
            go_wp2_with fail
            go_roundw
            case rel => exact ⟨2, by omega, by omega, rfl, no_step HN.out HNF.out, hbw⟩
            case measure => simp [intOf]
          · have hz' : ((v.size : Int) == 1) = false := by rw [beq_eq_false_iff_ne]; omega
            clear hz
            go_wp2_with fail
            go_roundw
            case rel => exact ⟨2, by omega, by omega, rfl, no_step HN.out HNF.out, hbw⟩
            case measure => simp [intOf]
      · have HE : Hid (ra s q = (0, 0)) := ra_none s q fun j j1 j4 hf => by
          by_cases hj : (j : Int) < 1
          · exact HN.out j j1 hj hf
          · have := hf.1; omega
        go_wp2_with fail
        go_ret2
        exact ⟨ret2 (by rw [HQ.out, HE.out]) (by rw [HQ.out, HE.out]), hbel⟩
    · by_cases hlt : q + 2 ≤ s.size
      · have hq0 : q < s.size := by omega
        have hg0 : Hid (((s[q]'hq0).toNat : Int) = bt s q) := bt_get s q hq0
        have gl0 : (s[q]'hq0).toNat < 256 := (s[q]'hq0).toNat_lt
        have hq1 : q + 1 < s.size := by omega
        have hg1 : Hid (((s[q + 1]'hq1).toNat : Int) = bt s (q + 1)) := bt_get s (q + 1) hq1
        have gl1 : (s[q + 1]'hq1).toNat < 256 := (s[q + 1]'hq1).toNat_lt
        go_wp2_with fail
        go_region
        go_wp2_with fail
        refine wp_loop_rounds 2 ?_
        rw [rounds_succ]
        go_wp2_with fail
        rw [rounds_succ]
        go_wp2_with fail
        have HC : Hid (((((s[q]'hq0).toNat : Int) - 192) * 64 + ((s[q + 1]'hq1).toNat : Int) - 128) = cand s q 2) := by
          show ((((s[q]'hq0).toNat : Int) - 192) * 64 + ((s[q + 1]'hq1).toNat : Int) - 128) = cand s q 2
          rw [hg0.out, hg1.out]; rfl
        refine (spec_rbB _ _).mono ?_
        rintro e w2 ⟨rfl, hb2⟩
        have hbw := below_step hbel hb2
        clear hb2 hbel
        generalize hv : rb ((((s[q]'hq0).toNat : Int) - 192) * 64 + ((s[q + 1]'hq1).toNat : Int) - 128) = v
        have HV : Hid (rb ((((s[q]'hq0).toNat : Int) - 192) * 64 + ((s[q + 1]'hq1).toNat : Int) - 128) = v) := hv
        clear hv
        have hez : (s.extract q (q + 2)).size = 2 := by rw [ByteArray.size_extract]; omega
        by_cases hve : v = s.extract q (q + 2)
        · subst hve
          have hf : fits s q 2 := ⟨hlt, by rw [← HC.out]; exact HV.out⟩
          have HF : Hid (ra s q = (cand s q 2, ((2 : Nat) : Int))) := ra_fit s q 2 (by omega) (by omega) hf
          clear hf
          go_wp2_with fail
          go_ret2
          exact ⟨ret2 (by rw [HQ.out, HF.out]; exact HC.out) (by rw [HQ.out, HF.out]; rfl), hbw⟩
        · have HNF : Hid (¬ fits s q 2) := fun hf => hve (by rw [← HV.out, HC.out]; exact hf.2)
          have hbe : (v.toList == (s.extract q (q + 2)).toList) = false := by rw [toList_beq]; simpa using hve
          clear hve
          by_cases hz : v.size = 2
          · have hz' : ((v.size : Int) == 2) = true := by rw [hz]; rfl
            clear hz
            go_wp2_with fail
            go_roundw
            case rel => exact ⟨3, by omega, by omega, rfl, no_step HN.out HNF.out, hbw⟩
            case measure => simp [intOf]
          · have hz' : ((v.size : Int) == 2) = false := by rw [beq_eq_false_iff_ne]; omega
            clear hz
            go_wp2_with fail
            go_roundw
            case rel => exact ⟨3, by omega, by omega, rfl, no_step HN.out HNF.out, hbw⟩
            case measure => simp [intOf]
      · have HE : Hid (ra s q = (0, 0)) := ra_none s q fun j j1 j4 hf => by
          by_cases hj : (j : Int) < 2
          · exact HN.out j j1 hj hf
          · have := hf.1; omega
        go_wp2_with fail
        go_ret2
        exact ⟨ret2 (by rw [HQ.out, HE.out]) (by rw [HQ.out, HE.out]), hbel⟩
    · by_cases hlt : q + 3 ≤ s.size
      · have hq0 : q < s.size := by omega
        have hg0 : Hid (((s[q]'hq0).toNat : Int) = bt s q) := bt_get s q hq0
        have gl0 : (s[q]'hq0).toNat < 256 := (s[q]'hq0).toNat_lt
        have hq1 : q + 1 < s.size := by omega
        have hg1 : Hid (((s[q + 1]'hq1).toNat : Int) = bt s (q + 1)) := bt_get s (q + 1) hq1
        have gl1 : (s[q + 1]'hq1).toNat < 256 := (s[q + 1]'hq1).toNat_lt
        have hq2 : q + 2 < s.size := by omega
        have hg2 : Hid (((s[q + 2]'hq2).toNat : Int) = bt s (q + 2)) := bt_get s (q + 2) hq2
        have gl2 : (s[q + 2]'hq2).toNat < 256 := (s[q + 2]'hq2).toNat_lt
        go_wp2_with fail
        go_region
        go_wp2_with fail
        refine wp_loop_rounds 3 ?_
        rw [rounds_succ]
        go_wp2_with fail
        rw [rounds_succ]
        go_wp2_with fail
        rw [rounds_succ]
        go_wp2_with fail
        have HC : Hid ((((((s[q]'hq0).toNat : Int) - 224) * 64 + ((s[q + 1]'hq1).toNat : Int) - 128) * 64 + ((s[q + 2]'hq2).toNat : Int) - 128) = cand s q 3) := by
          show (((((s[q]'hq0).toNat : Int) - 224) * 64 + ((s[q + 1]'hq1).toNat : Int) - 128) * 64 + ((s[q + 2]'hq2).toNat : Int) - 128) = cand s q 3
          rw [hg0.out, hg1.out, hg2.out]; rfl
        refine (spec_rbB _ _).mono ?_
        rintro e w2 ⟨rfl, hb2⟩
        have hbw := below_step hbel hb2
        clear hb2 hbel
        generalize hv : rb (((((s[q]'hq0).toNat : Int) - 224) * 64 + ((s[q + 1]'hq1).toNat : Int) - 128) * 64 + ((s[q + 2]'hq2).toNat : Int) - 128) = v
        have HV : Hid (rb (((((s[q]'hq0).toNat : Int) - 224) * 64 + ((s[q + 1]'hq1).toNat : Int) - 128) * 64 + ((s[q + 2]'hq2).toNat : Int) - 128) = v) := hv
        clear hv
        have hez : (s.extract q (q + 3)).size = 3 := by rw [ByteArray.size_extract]; omega
        by_cases hve : v = s.extract q (q + 3)
        · subst hve
          have hf : fits s q 3 := ⟨hlt, by rw [← HC.out]; exact HV.out⟩
          have HF : Hid (ra s q = (cand s q 3, ((3 : Nat) : Int))) := ra_fit s q 3 (by omega) (by omega) hf
          clear hf
          go_wp2_with fail
          go_ret2
          exact ⟨ret2 (by rw [HQ.out, HF.out]; exact HC.out) (by rw [HQ.out, HF.out]; rfl), hbw⟩
        · have HNF : Hid (¬ fits s q 3) := fun hf => hve (by rw [← HV.out, HC.out]; exact hf.2)
          have hbe : (v.toList == (s.extract q (q + 3)).toList) = false := by rw [toList_beq]; simpa using hve
          clear hve
          by_cases hz : v.size = 3
          · have hz' : ((v.size : Int) == 3) = true := by rw [hz]; rfl
            clear hz
            go_wp2_with fail
            go_roundw
            case rel => exact ⟨4, by omega, by omega, rfl, no_step HN.out HNF.out, hbw⟩
            case measure => simp [intOf]
          · have hz' : ((v.size : Int) == 3) = false := by rw [beq_eq_false_iff_ne]; omega
            clear hz
            go_wp2_with fail
            go_roundw
            case rel => exact ⟨4, by omega, by omega, rfl, no_step HN.out HNF.out, hbw⟩
            case measure => simp [intOf]
      · have HE : Hid (ra s q = (0, 0)) := ra_none s q fun j j1 j4 hf => by
          by_cases hj : (j : Int) < 3
          · exact HN.out j j1 hj hf
          · have := hf.1; omega
        go_wp2_with fail
        go_ret2
        exact ⟨ret2 (by rw [HQ.out, HE.out]) (by rw [HQ.out, HE.out]), hbel⟩
    · by_cases hlt : q + 4 ≤ s.size
      · have hq0 : q < s.size := by omega
        have hg0 : Hid (((s[q]'hq0).toNat : Int) = bt s q) := bt_get s q hq0
        have gl0 : (s[q]'hq0).toNat < 256 := (s[q]'hq0).toNat_lt
        have hq1 : q + 1 < s.size := by omega
        have hg1 : Hid (((s[q + 1]'hq1).toNat : Int) = bt s (q + 1)) := bt_get s (q + 1) hq1
        have gl1 : (s[q + 1]'hq1).toNat < 256 := (s[q + 1]'hq1).toNat_lt
        have hq2 : q + 2 < s.size := by omega
        have hg2 : Hid (((s[q + 2]'hq2).toNat : Int) = bt s (q + 2)) := bt_get s (q + 2) hq2
        have gl2 : (s[q + 2]'hq2).toNat < 256 := (s[q + 2]'hq2).toNat_lt
        have hq3 : q + 3 < s.size := by omega
        have hg3 : Hid (((s[q + 3]'hq3).toNat : Int) = bt s (q + 3)) := bt_get s (q + 3) hq3
        have gl3 : (s[q + 3]'hq3).toNat < 256 := (s[q + 3]'hq3).toNat_lt
        go_wp2_with fail
        go_region
        go_wp2_with fail
        refine wp_loop_rounds 4 ?_
        rw [rounds_succ]
        go_wp2_with fail
        rw [rounds_succ]
        go_wp2_with fail
        rw [rounds_succ]
        go_wp2_with fail
        rw [rounds_succ]
        go_wp2_with fail
        have HC : Hid (((((((s[q]'hq0).toNat : Int) - 240) * 64 + ((s[q + 1]'hq1).toNat : Int) - 128) * 64 + ((s[q + 2]'hq2).toNat : Int) - 128) * 64 + ((s[q + 3]'hq3).toNat : Int) - 128) = cand s q 4) := by
          show ((((((s[q]'hq0).toNat : Int) - 240) * 64 + ((s[q + 1]'hq1).toNat : Int) - 128) * 64 + ((s[q + 2]'hq2).toNat : Int) - 128) * 64 + ((s[q + 3]'hq3).toNat : Int) - 128) = cand s q 4
          rw [hg0.out, hg1.out, hg2.out, hg3.out]; rfl
        refine (spec_rbB _ _).mono ?_
        rintro e w2 ⟨rfl, hb2⟩
        have hbw := below_step hbel hb2
        clear hb2 hbel
        generalize hv : rb ((((((s[q]'hq0).toNat : Int) - 240) * 64 + ((s[q + 1]'hq1).toNat : Int) - 128) * 64 + ((s[q + 2]'hq2).toNat : Int) - 128) * 64 + ((s[q + 3]'hq3).toNat : Int) - 128) = v
        have HV : Hid (rb ((((((s[q]'hq0).toNat : Int) - 240) * 64 + ((s[q + 1]'hq1).toNat : Int) - 128) * 64 + ((s[q + 2]'hq2).toNat : Int) - 128) * 64 + ((s[q + 3]'hq3).toNat : Int) - 128) = v) := hv
        clear hv
        have hez : (s.extract q (q + 4)).size = 4 := by rw [ByteArray.size_extract]; omega
        by_cases hve : v = s.extract q (q + 4)
        · subst hve
          have hf : fits s q 4 := ⟨hlt, by rw [← HC.out]; exact HV.out⟩
          have HF : Hid (ra s q = (cand s q 4, ((4 : Nat) : Int))) := ra_fit s q 4 (by omega) (by omega) hf
          clear hf
          go_wp2_with fail
          go_ret2
          exact ⟨ret2 (by rw [HQ.out, HF.out]; exact HC.out) (by rw [HQ.out, HF.out]; rfl), hbw⟩
        · have HNF : Hid (¬ fits s q 4) := fun hf => hve (by rw [← HV.out, HC.out]; exact hf.2)
          have hbe : (v.toList == (s.extract q (q + 4)).toList) = false := by rw [toList_beq]; simpa using hve
          clear hve
          by_cases hz : v.size = 4
          · have hz' : ((v.size : Int) == 4) = true := by rw [hz]; rfl
            clear hz
            go_wp2_with fail
            go_roundw
            case rel => exact ⟨5, by omega, by omega, rfl, no_step HN.out HNF.out, hbw⟩
            case measure => simp [intOf]
          · have hz' : ((v.size : Int) == 4) = false := by rw [beq_eq_false_iff_ne]; omega
            clear hz
            go_wp2_with fail
            go_roundw
            case rel => exact ⟨5, by omega, by omega, rfl, no_step HN.out HNF.out, hbw⟩
            case measure => simp [intOf]
      · have HE : Hid (ra s q = (0, 0)) := ra_none s q fun j j1 j4 hf => by
          by_cases hj : (j : Int) < 4
          · exact HN.out j j1 hj hf
          · have := hf.1; omega
        go_wp2_with fail
        go_ret2
        exact ⟨ret2 (by rw [HQ.out, HE.out]) (by rw [HQ.out, HE.out]), hbel⟩
    · have HE : Hid (ra s q = (0, 0)) := ra_none s q fun j j1 j4 hf => HN.out j j1 (by omega) hf
      go_wp2_with fail
      go_ret2
      exact ⟨ret2 (by rw [HQ.out, HE.out]) (by rw [HQ.out, HE.out]), hbel⟩
end Go.Proofs.YtgknoaabppmmiafDoor
