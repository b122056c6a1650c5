/- Several texts in one: Ipf Ipe. -/
import Derived.Test.YtjpcmmfmdoglkalGreatDoorIsg
import Derived.Test.YtjpcmmfmdoglkalGreatDoorSpf
import Derived.Test.YtjpcmmfmdoglkalGreatDoorSpe
/- The contract of impl.PlainFirst. -/
namespace Go.Proofs.YtjpcmmfmdoglkalGreatDoor
open Go.ChangeShapes Go.WideShapes Go.ChangeAt Go.RowKit Go.Shelf
theorem plF_alone {s : ByteArray} {k : Nat} {fl : Bool} (hg : gapP s k = false) (hb : pBad (bt s k) = false) (h3 : p3q (bt s k) = true) : plF s k fl = !alo s (k + 1) fl := by
  have hb' : bt s k ∉ badL := by
    intro h
    have : badL.contains (bt s k) = true := List.contains_iff_mem.2 h
    rw [show badL.contains (bt s k) = false from hb] at this
    cases this
  rw [plF_ask hg hb' ?_]
  · unfold alo
    cases gapP s (k + 1) <;> cases fl <;> cases pF6 (bt s (k + 1)) <;> rfl
  · unfold p3q at h3
    simp only [Bool.or_eq_true, beq_iff_eq] at h3
    omega
theorem plF_other {s : ByteArray} {k : Nat} {fl : Bool} (hg : gapP s k = false) (hb : pBad (bt s k) = false) (h3 : p3q (bt s k) = false) : plF s k fl = true := by
  have hb' : bt s k ∉ badL := by
    intro h
    have : badL.contains (bt s k) = true := List.contains_iff_mem.2 h
    rw [show badL.contains (bt s k) = false from hb] at this
    cases this
  refine plF_yes hg hb' ?_
  unfold p3q at h3
  simp only [Bool.or_eq_false_iff, beq_eq_false_iff_ne] at h3
  omega
set_option maxHeartbeats 2000000 in
theorem plainFirst_any (s : ByteArray) (p : Int) (fl : Bool) (w : World) (hs : s.size ≤ mx) (b : Bool) (hb : plF s (cl s.size p) fl = b) :
    Calls Tryz.prog 77 #[.string s, .int .i64 p, .bool fl] w fun e w' => e = .returned (.bool b) ∧ Below w.heap.size w w' := by
  have hcl := cl_le s.size p
  have cB := bring_any s p w hs
  have hs' : s.size ≤ 9223372036854775807 := by unfold mx at hs; omega
  generalize cl s.size p = k at *
  cases hg : gapP s k with
  | true =>
    have cG := gapAt_any s k w true hcl hg.symm
    obtain rfl : false = b := by rw [← hb]; exact (plF_gap hg).symm
    clear hb hg hcl hs hs'
    go_enter Tryz.func77, Tryz.ntmps77
    go_wp2_with fail
    refine cB.mono ?_
    rintro e w ⟨rfl, rfl⟩
    clear cB
    go_wp2_with fail
    refine cG.mono ?_
    rintro e w1 ⟨rfl, hb1⟩
    clear cG
    go_wp2_with fail
    go_ret
    exact ⟨rfl, hb1⟩
  | false =>
    have hlt := gapP_lt hg
    have cG := gapAt_any s k w false hcl hg.symm
    have cF : Hid (∀ w, Calls Tryz.prog 37 #[.string s, .int .i64 (k : Int), .string ⟨#[44, 91, 93, 123, 125, 35, 38, 42, 33, 124, 62, 39, 34, 37, 64, 96]⟩] w fun e w' => e = .returned (.bool (pBad (bt s k))) ∧ Below w.heap.size w w') := fun w => signQ s _ k pBad w _ pBad_signs (sgq_lt hlt).symm
    have c3 : Hid (∀ w, Calls Tryz.prog 37 #[.string s, .int .i64 (k : Int), .string ⟨#[45, 63, 58]⟩] w fun e w' => e = .returned (.bool (p3q (bt s k))) ∧ Below w.heap.size w w') := fun w => signQ s _ k p3q w _ p3q_signs (sgq_lt hlt).symm
    have cA : Hid (∀ w, Calls Tryz.prog 125 #[.string s, .int .i64 ((k : Int) + 1), .bool fl] w fun e w' => e = .returned (.bool (alo s (k + 1) fl)) ∧ Below w.heap.size w w') := fun w => alone_any s (k + 1) fl w _ (by omega) rfl
    have HA : Hid (pBad (bt s k) = false → p3q (bt s k) = true → b = !alo s (k + 1) fl) := fun h1 h2 => by rw [← hb]; exact plF_alone hg h1 h2
    have HO : Hid (pBad (bt s k) = false → p3q (bt s k) = false → b = true) := fun h1 h2 => by rw [← hb]; exact plF_other hg h1 h2
    have HB : Hid (pBad (bt s k) = true → b = false) := fun h1 => by rw [← hb]; exact plF_bad hg (List.contains_iff_mem.1 h1)
    have hk' : (k : Int) < 9223372036854775807 := by omega
    generalize alo s (k + 1) fl = al at *
    cases hpb : pBad (bt s k) with
    | true =>
      obtain rfl := HB.out hpb
      rw [hpb] at cF
      clear hb hg hcl hs HA HO HB cA c3 hpb hlt hs'
      go_enter Tryz.func77, Tryz.ntmps77
      go_wp2_with fail
      refine cB.mono ?_
      rintro e w ⟨rfl, rfl⟩
      clear cB
      go_wp2_with fail
      refine cG.mono ?_
      rintro e w1 ⟨rfl, hb1⟩
      clear cG
      go_wp2_with fail
      refine (cF.out w1).mono ?_
      rintro e w2 ⟨rfl, hb2⟩
      clear cF
      go_wp2_with fail
      go_ret
      exact ⟨rfl, hb1.trans (hb2.mono hb1.size)⟩
    | false =>
      rw [hpb] at cF
      cases hp3 : p3q (bt s k) with
      | false =>
        obtain rfl := HO.out hpb hp3
        rw [hp3] at c3
        clear hb hg hcl hs HA HO HB cA hpb hlt hp3 hs'
        go_enter Tryz.func77, Tryz.ntmps77
        go_wp2_with fail
        refine cB.mono ?_
        rintro e w ⟨rfl, rfl⟩
        clear cB
        go_wp2_with fail
        refine cG.mono ?_
        rintro e w1 ⟨rfl, hb1⟩
        clear cG
        go_wp2_with fail
        refine (cF.out w1).mono ?_
        rintro e w2 ⟨rfl, hb2⟩
        clear cF
        go_wp2_with fail
        refine (c3.out w2).mono ?_
        rintro e w3 ⟨rfl, hb3⟩
        clear c3
        go_wp2_with fail
        go_ret
        have h12 := hb1.trans (hb2.mono hb1.size)
        exact ⟨rfl, h12.trans (hb3.mono h12.size)⟩
      | true =>
        obtain rfl := HA.out hpb hp3
        rw [hp3] at c3
        clear hb hg hcl hs HA HO HB hpb hlt hp3 hs'
        go_enter Tryz.func77, Tryz.ntmps77
        go_wp2_with fail
        refine cB.mono ?_
        rintro e w ⟨rfl, rfl⟩
        clear cB
        go_wp2_with fail
        refine cG.mono ?_
        rintro e w1 ⟨rfl, hb1⟩
        clear cG
        go_wp2_with fail
        refine (cF.out w1).mono ?_
        rintro e w2 ⟨rfl, hb2⟩
        clear cF
        go_wp2_with fail
        refine (c3.out w2).mono ?_
        rintro e w3 ⟨rfl, hb3⟩
        clear c3
        go_wp2_with fail
        refine (cA.out w3).mono ?_
        rintro e w4 ⟨rfl, hb4⟩
        clear cA
        go_wp2_with fail
        go_ret
        have h12 := hb1.trans (hb2.mono hb1.size)
        have h13 := h12.trans (hb3.mono h12.size)
        exact ⟨rfl, h13.trans (hb4.mono h13.size)⟩
end Go.Proofs.YtjpcmmfmdoglkalGreatDoor
/- The contracts of impl.stopsAt and impl.PlainEnd. -/
namespace Go.Proofs.YtjpcmmfmdoglkalGreatDoor
open Go.ChangeShapes Go.WideShapes Go.ChangeAt Go.RowKit Go.Shelf
/-- A stretch from p on can't take what is at q. -/
def stq (s : ByteArray) (p q : Nat) (fl : Bool) : Bool := brk s q || stopP s p q fl
theorem stq_end {s : ByteArray} {p q : Nat} {fl : Bool} (h : s.size ≤ q) : stq s p q fl = true := by unfold stq brk; rw [decide_eq_true h]; rfl
theorem stq_brk {s : ByteArray} {p q : Nat} {fl : Bool} (h : bt s q = 10) : stq s p q fl = true := by unfold stq brk; rw [h]; simp
theorem stq_35 {s : ByteArray} {p q : Nat} {fl : Bool} (hq : q < s.size) (h : bt s q = 35) : stq s p q fl = (decide (p < q) && pW (bt s (q - 1))) := by
  unfold stq brk stopP; rw [h, decide_eq_false (by omega)]
  cases fl <;> cases decide (p < q) <;> cases pW (bt s (q - 1)) <;> rfl
theorem stq_58 {s : ByteArray} {p q : Nat} {fl : Bool} (hq : q < s.size) (h : bt s q = 58) : stq s p q fl = alo s (q + 1) fl := by
  unfold stq brk stopP alo; rw [h, decide_eq_false (by omega)]
  cases fl <;> cases gapP s (q + 1) <;> cases pF6 (bt s (q + 1)) <;> rfl
theorem stq_else {s : ByteArray} {p q : Nat} {fl : Bool} (hq : q < s.size) (h1 : bt s q ≠ 10) (h2 : bt s q ≠ 35) (h3 : bt s q ≠ 58) : stq s p q fl = (fl && pF6 (bt s q)) := by
  unfold stq brk stopP
  rw [decide_eq_false (by omega), show (bt s q == 10) = false from by rw [beq_eq_false_iff_ne]; exact h1, show (bt s q == 35) = false from by rw [beq_eq_false_iff_ne]; exact h2, show (bt s q == 58) = false from by rw [beq_eq_false_iff_ne]; exact h3]
  cases fl <;> cases pF6 (bt s q) <;> rfl
theorem pe1_stop {s : ByteArray} {p q : Nat} {fl : Bool} (h : stq s p q fl = true) : pe1 s p fl (s.size - q) q = q := by
  unfold stq at h
  cases hb : brk s q with
  | true => exact pe_brk hb
  | false =>
    rw [hb] at h
    exact pe_stop (brk_lt hb) hb h
theorem pe1_go {s : ByteArray} {p q : Nat} {fl : Bool} (h : stq s p q fl = false) : q < s.size ∧ pe1 s p fl (s.size - q) q = pe1 s p fl (s.size - (q + 1)) (q + 1) := by
  unfold stq at h
  rw [Bool.or_eq_false_iff] at h
  exact ⟨brk_lt h.1, pe_go (brk_lt h.1) h.1 h.2⟩
set_option maxHeartbeats 2000000 in
theorem stops_any (s : ByteArray) (p q : Nat) (fl : Bool) (w : World) (hs : s.size ≤ mx) (hp : p ≤ q) (hq : q ≤ s.size) (b : Bool) (hb : stq s p q fl = b) :
    Calls Tryz.prog 126 #[.string s, .int .i64 (p : Int), .int .i64 (q : Int), .bool fl] w fun e w' => e = .returned (.bool b) ∧ Below w.heap.size w w' := by
  have hs' : s.size < 9223372036854775807 := by unfold mx at hs; omega
  by_cases hz : q = s.size
  · obtain rfl : true = b := by rw [← hb]; exact (stq_end (by omega)).symm
    have hz' : ((q : Int) == (s.size : Int)) = true := by rw [beq_iff_eq]; omega
    clear hb hp hq hs hz hs'
    go_enter Tryz.func126, Tryz.ntmps126
    go_wp2_with fail
    go_ret
    exact ⟨rfl, Below.refl _ _⟩
  · have hlt : q < s.size := by omega
    have hlt' : (q : Int) < (s.size : Int) := by omega
    have hz' : ((q : Int) == (s.size : Int)) = false := by rw [beq_eq_false_iff_ne]; omega
    have hbt := bt_get s q hlt
    by_cases h10 : bt s q = 10
    · obtain rfl : true = b := by rw [← hb]; exact (stq_brk h10).symm
      have h10' : ((s[q]'hlt).toNat : Int) = 10 := by rw [hbt, h10]; rfl
      clear hb hp hq hs hz hbt h10 hs'
      go_enter Tryz.func126, Tryz.ntmps126
      go_wp2_with fail
      go_ret
      exact ⟨rfl, Below.refl _ _⟩
    · have n10 : (((s[q]'hlt).toNat : Int) == 10) = false := by rw [beq_eq_false_iff_ne, hbt]; omega
      by_cases h35 : bt s q = 35
      · have h35' : ((s[q]'hlt).toNat : Int) = 35 := by rw [hbt, h35]; rfl
        have hv := hb
        rw [stq_35 hlt h35] at hv
        by_cases hpq : p < q
        · have hd : (p : Int) < (q : Int) := by omega
          have c1 : Hid (∀ w, Calls Tryz.prog 37 #[.string s, .int .i64 ((q : Int) - 1), .string ⟨#[32, 9]⟩] w fun e w' => e = .returned (.bool (pW (bt s (q - 1)))) ∧ Below w.heap.size w w') := fun w => by
            have := signQ s ⟨#[32, 9]⟩ (q - 1) pW w _ pW_signs (sgq_lt (by omega)).symm
            rw [show ((q - 1 : Nat) : Int) = (q : Int) - 1 by omega] at this
            exact this
          obtain rfl : pW (bt s (q - 1)) = b := by rw [← hv, decide_eq_true hpq]; rfl
          generalize pW (bt s (q - 1)) = r at *
          clear hb hp hq hs hz hbt h10 h35 hv hpq n10
          go_enter Tryz.func126, Tryz.ntmps126
          go_wp2_with fail
          refine (c1.out _).mono ?_
          rintro e w1 ⟨rfl, hb1⟩
          clear c1
          go_wp2_with fail
          go_ret
          exact ⟨rfl, hb1⟩
        · have hd : ¬ (p : Int) < (q : Int) := by omega
          obtain rfl : false = b := by rw [← hv, decide_eq_false hpq]; rfl
          clear hb hp hq hs hz hbt h10 h35 hv hpq n10
          go_enter Tryz.func126, Tryz.ntmps126
          go_wp2_with fail
          go_ret
          exact ⟨rfl, Below.refl _ _⟩
      · have n35 : (((s[q]'hlt).toNat : Int) == 35) = false := by rw [beq_eq_false_iff_ne, hbt]; omega
        by_cases h58 : bt s q = 58
        · have h58' : ((s[q]'hlt).toNat : Int) = 58 := by rw [hbt, h58]; rfl
          have hv := hb
          rw [stq_58 hlt h58] at hv
          have cA := alone_any s (q + 1) fl w b (by omega) hv
          rw [show ((q + 1 : Nat) : Int) = (q : Int) + 1 from rfl] at cA
          have hq' : (q : Int) < 9223372036854775807 := by omega
          clear hb hp hq hs hz hbt h10 h35 hv h58 n10 n35
          go_enter Tryz.func126, Tryz.ntmps126
          go_wp2_with fail
          refine cA.mono ?_
          rintro e w1 ⟨rfl, hb1⟩
          clear cA
          go_wp2_with fail
          go_ret
          exact ⟨rfl, hb1⟩
        · have n58 : (((s[q]'hlt).toNat : Int) == 58) = false := by rw [beq_eq_false_iff_ne, hbt]; omega
          have hv := hb
          rw [stq_else hlt h10 h35 h58] at hv
          have cS := signQ s ⟨#[44, 91, 93, 123, 125]⟩ q pF6 w (pF6 (bt s q)) F6_signs (sgq_lt hlt).symm
          generalize pF6 (bt s q) = f6 at *
          cases fl with
          | false =>
            obtain rfl : false = b := hv
            clear hb hp hq hs hz hbt h10 h35 h58 cS hs'
            go_enter Tryz.func126, Tryz.ntmps126
            go_wp2_with fail
            go_ret
            exact ⟨rfl, Below.refl _ _⟩
          | true =>
            obtain rfl : f6 = b := hv
            clear hb hp hq hs hz hbt h10 h35 h58 hs'
            go_enter Tryz.func126, Tryz.ntmps126
            go_wp2_with fail
            refine cS.mono ?_
            rintro e w1 ⟨rfl, hb1⟩
            clear cS
            go_wp2_with fail
            go_ret
            exact ⟨rfl, hb1⟩
theorem pe1_ge' (s : ByteArray) (p : Nat) (fl : Bool) : ∀ (f q : Nat), q ≤ pe1 s p fl f q
  | 0, q => Nat.le_refl _
  | f + 1, q => by
    rw [pe1]
    split
    · exact Nat.le_refl _
    · split
      · exact Nat.le_refl _
      · exact Nat.le_trans (by omega) (pe1_ge' s p fl f (q + 1))
set_option maxHeartbeats 2000000 in
theorem plainEnd_any (s : ByteArray) (p : Int) (fl : Bool) (w : World) (hs : s.size ≤ mx) (v : Nat) (hv : plE s (cl s.size p) fl = v) :
    Calls Tryz.prog 78 #[.string s, .int .i64 p, .bool fl] w fun e w' => e = .returned (.int .i64 (v : Int)) ∧ Below w.heap.size w w' := by
  have hcl := cl_le s.size p
  have cB := bring_any s p w hs
  have hs' : s.size < 9223372036854775807 := by unfold mx at hs; omega
  generalize cl s.size p = k at *
  have HS : Hid (s.size ≤ mx) := hs
  have HV : Hid (plE s k fl = v) := hv
  clear hs hv
  go_enter Tryz.func78, Tryz.ntmps78
  go_wp2_with fail
  refine cB.mono ?_
  rintro e w ⟨rfl, rfl⟩
  clear cB
  go_wp2_with fail
  go_loopw [7] (fun qv wr => ∃ q : Nat, qv = .int .i64 (q : Int) ∧ k ≤ q ∧ q ≤ s.size ∧ Hid (pe1 s k fl (s.size - q) q = pe1 s k fl (s.size - k) k) ∧ Hid (Below w.heap.size w wr)) (fun qv _ => s.size - (intOf qv).toNat)
  case atStart => exact ⟨k, rfl, Nat.le_refl _, hcl, rfl, Below.refl _ _⟩
  case round =>
    obtain ⟨q, rfl, hkq, hqs, HE, HBl⟩ := hrel
    cases hst : stq s k q fl with
    | false =>
      have cS := stops_any s k q fl wr HS.out hkq hqs false hst
      obtain ⟨hlt, hgo⟩ := pe1_go hst
      have HGO : Hid (pe1 s k fl (s.size - (q + 1)) (q + 1) = pe1 s k fl (s.size - k) k) := hgo.symm.trans HE.out
      have hq' : (q : Int) < 9223372036854775807 := by omega
      clear hst hgo
      go_wp2_with fail
      refine cS.mono ?_
      rintro e w1 ⟨rfl, hb1⟩
      clear cS
      go_wp2_with fail
      go_roundw
      case rel => exact ⟨q + 1, by go_num, by omega, hlt, HGO, HBl.out.trans (hb1.mono HBl.out.size)⟩
      case measure => simp [intOf]; omega
    | true =>
      have cS := stops_any s k q fl wr HS.out hkq hqs true hst
      have HP : Hid (pe2 s k q = v) := by
        show pe2 s k q = v
        have h := HE.out
        rw [pe1_stop hst] at h
        rw [h]
        exact HV.out
      clear hst HE HV
      go_wp2_with fail
      refine cS.mono ?_
      rintro e w1 ⟨rfl, hb1⟩
      clear cS
      have HB2 : Hid (Below w.heap.size w w1) := HBl.out.trans (hb1.mono HBl.out.size)
      clear hb1 HBl
      go_wp2_with fail
      go_loopw [7] (fun qv wr => ∃ q : Nat, qv = .int .i64 (q : Int) ∧ k ≤ q ∧ q ≤ s.size ∧ Hid (pe2 s k q = v) ∧ Hid (Below w.heap.size w wr)) (fun qv _ => (intOf qv).toNat)
      case atStart => exact ⟨q, rfl, hkq, hqs, HP, HB2⟩
      case round =>
        clear HP HB2 hkq hqs
        obtain ⟨q, rfl, hkq, hqs, HP, HBl⟩ := hrel
        by_cases hgt : k < q
        · have hgt' : (k : Int) < (q : Int) := by omega
          have c1 := signQ s ⟨#[32, 9]⟩ (q - 1) pW wr _ pW_signs (sgq_lt (by omega)).symm
          have e1 : ((q - 1 : Nat) : Int) = (q : Int) - 1 := by omega
          have HE1 : Hid (((q - 1 : Nat) : Int) = (q : Int) - 1) := e1
          rw [e1] at c1
          have hq' : (q : Int) ≤ 9223372036854775807 := by omega
          have hp2 : pe2 s k q = if pW (bt s (q - 1)) = true then pe2 s k (q - 1) else q := by
            obtain ⟨j, rfl⟩ : ∃ j, q = j + 1 := ⟨q - 1, by omega⟩
            rw [pe2, Nat.add_sub_cancel]
            cases pW (bt s j) with
            | true => rw [if_pos ⟨hgt, rfl⟩, if_pos rfl]
            | false => rw [if_neg (by simp), if_neg (by simp)]
          cases hW : pW (bt s (q - 1)) with
          | true =>
            rw [hW] at c1
            have HP2 : Hid (pe2 s k (q - 1) = v) := by
              show pe2 s k (q - 1) = v
              rw [← HP.out, hp2, if_pos hW]
            clear hW HP hp2 e1
            go_wp2_with fail
            refine c1.mono ?_
            rintro e w2 ⟨rfl, hb2⟩
            clear c1
            have HB3 : Hid (Below w.heap.size w w2) := HBl.out.trans (hb2.mono HBl.out.size)
            clear hb2
            go_wp2_with fail
            go_roundw
            case rel => exact ⟨q - 1, by rw [HE1.out], by omega, by omega, HP2, HB3⟩
            case measure => simp [intOf]; omega
          | false =>
            rw [hW] at c1
            have HP2 : Hid (q = v) := by
              show q = v
              rw [← HP.out, hp2, if_neg (by rw [hW]; simp)]
            clear hW HP hp2 e1
            go_wp2_with fail
            refine c1.mono ?_
            rintro e w2 ⟨rfl, hb2⟩
            clear c1
            have HB3 : Hid (Below w.heap.size w w2) := HBl.out.trans (hb2.mono HBl.out.size)
            clear hb2
            go_wp2_with fail
            go_ret
            exact ⟨by rw [← HP2.out]; rfl, HB3.out⟩
        · have hgt' : ¬ (k : Int) < (q : Int) := by omega
          have HP2 : Hid (q = v) := by
            show q = v
            rw [← HP.out]
            cases q with
            | zero => rfl
            | succ q => rw [pe2, if_neg (by omega)]
          clear HP hgt
          go_wp2_with fail
          go_ret
          exact ⟨by rw [← HP2.out]; rfl, HBl.out⟩
end Go.Proofs.YtjpcmmfmdoglkalGreatDoor
