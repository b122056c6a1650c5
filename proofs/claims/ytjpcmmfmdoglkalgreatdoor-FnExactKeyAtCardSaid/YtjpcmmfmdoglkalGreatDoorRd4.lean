/- The reader's method common. -/
import Derived.Test.YtjpcmmfmdoglkalGreatDoorRd3
import Derived.Test.YtjpcmmfmdoglkalGreatDoorUnq
namespace Go.Proofs.YtjpcmmfmdoglkalGreatDoor
open Go.ChangeShapes Go.WideShapes Go.ChangeAt Go.RowKit Go.Deep
theorem take1 (s : ByteArray) (p : Nat) (h : p < s.size) : (s.extract p s.size).extract 0 1 = b1 (bt s p) := by
  have e : (s.extract p s.size).extract 0 1 = s.extract p (p + 1) := by
    apply ba_ext
    simp only [ByteArray.data_extract, Array.toList_extract, List.extract_eq_take_drop, List.drop_zero]
    rw [List.take_take]
    congr 1
    omega
  rw [e, extract_snoc s p p (Nat.le_refl _) h, extract_same]
  apply ba_ext
  rw [ByteArray.data_append, Array.toList_append]
  rfl
theorem b1_inj {x y : Nat} (hx : x < 256) (hy : y < 256) (h : b1 x = b1 y) : x = y := by
  unfold b1 at h
  injection h with h
  have h2 : x.toUInt8 = y.toUInt8 := by simpa using h
  have h3 := congrArg UInt8.toNat h2
  have ex : (x.toUInt8).toNat = x := by show (UInt8.ofNat x).toNat = x; rw [UInt8.toNat_ofNat']; omega
  have ey : (y.toUInt8).toNat = y := by show (UInt8.ofNat y).toNat = y; rw [UInt8.toNat_ofNat']; omega
  rw [ex, ey] at h3
  exact h3
theorem pre1 (s : ByteArray) (p c : Nat) (hp : p ≤ s.size) (hc : c < 256) : pre (s.extract p s.size) (b1 c) = (decide (p < s.size) && (bt s p == c)) := by
  have hz : (s.extract p s.size).size = s.size - p := by rw [ByteArray.size_extract]; omega
  unfold pre
  rw [hz, b1_size]
  by_cases h : p < s.size
  · rw [decide_eq_true h, Bool.true_and, take1 s p h, Bool.eq_iff_iff, decide_eq_true_eq, beq_iff_eq]
    constructor
    · intro h'; exact b1_inj (bt_lt s p) hc h'.2
    · intro h'; exact ⟨by omega, by rw [h']⟩
  · rw [decide_eq_false h, Bool.false_and, decide_eq_false_iff_not]
    intro h'; omega
set_option maxHeartbeats 2000000 in
theorem common_end (b : Nat) (s q : ByteArray) (l : List Pc) (cur : ByteArray) (fm : Nat) (w : World) (hR : RdM b s s.size l cur fm w) :
    Calls Tryz.prog 168 #[.pointer (some ⟨b, 0, none⟩), .string q] w fun e w' => e = faultE 3 s.size ∧ Fq b w w' := by
  have hlt := hR.lt
  obtain ⟨la, ln, lc, ca, cn, cc, h1, _, _⟩ := hR
  have c0 := h1.c0
  have c1 := h1.c1
  clear h1
  go_enter Tryz.func168, Tryz.ntmps168
  go_wp2_with fail
  go_quiet (fail)
  go_wp2_with fail
  exact ⟨rfl, rfl, Fq.of (below_drewN w _) hlt⟩
set_option maxHeartbeats 4000000 in
theorem common_turn (b : Nat) (s q : ByteArray) (i : Nat) (l : List Pc) (cur : ByteArray) (fm : Nat) (w : World) (hR : RdM b s i l cur fm w) (hs : s.size ≤ 1048576) (hi : i < s.size) (h10 : bt s i = 10) (hn : l.length ≤ 100000000) (hf : fm ≤ cur.size) (hcz : cur.size ≤ 100000000) :
    Calls Tryz.prog 168 #[.pointer (some ⟨b, 0, none⟩), .string q] w fun e w' => TurnPost b s i l (cutB cur fm) false w e w' := by
  have hlt := hR.lt
  have HR : Hid (RdM b s i l cur fm w) := hR
  have HP : Hid (pre (s.extract i s.size) ⟨#[10]⟩ = true) := by
    show pre _ (b1 10) = true
    rw [pre1 s i 10 (by omega) (by decide), decide_eq_true hi, h10]
    rfl
  have HH : Hid (s.size ≤ 1048576 ∧ i < s.size ∧ l.length ≤ 100000000 ∧ fm ≤ cur.size ∧ cur.size ≤ 100000000) := ⟨hs, hi, hn, hf, hcz⟩
  obtain ⟨la, ln, lc, ca, cn, cc, h1, _, _⟩ := hR
  have c0 := h1.c0
  have c1 := h1.c1
  have t1 : ((i : Int) == (s.size : Int)) = false := by rw [beq_eq_false_iff_ne]; omega
  have HLT : Hid (b < w.heap.size) := hlt
  clear h1 h10 hn hf hcz hi hlt
  go_enter Tryz.func168, Tryz.ntmps168
  go_wp2_with fail
  go_quiet (fail)
  have HB0 : Hid (Below w.heap.size w (w.drewN nq)) := below_drewN w nq
  generalize w.drewN nq = w0 at *
  have HR0 := HR.out.stays HB0.out
  clear c0 c1
  go_wp2_with fail
  refine (sees_any b s ⟨#[10]⟩ i l cur fm w0 HR0 (Nat.le_of_lt HH.out.2.1) true HP.out.symm).mono ?_
  rintro e w1 ⟨rfl, hb1⟩
  have HR1 : Hid (RdM b s i l cur fm w1) := HR0.stays hb1
  have HB1 : Hid (Below w.heap.size w w1) := HB0.out.trans (hb1.mono HB0.out.size)
  clear HR0 hb1
  go_wp2_with fail
  refine (turn_plain b s i l cur fm w1 HR1.out HH.out.1 HH.out.2.1 HH.out.2.2.1 HH.out.2.2.2.1 HH.out.2.2.2.2).mono ?_
  intro e w2 hT
  have HB1b : Hid (Fq b w w1) := Fq.of HB1.out HLT.out
  unfold TurnPost at hT
  by_cases hm : 0 < markN s (i + 1)
  · rw [if_pos hm] at hT
    obtain ⟨rfl, hb2⟩ := hT
    have HO : Hid (TurnPost b s i l (cutB cur fm) false w (faultE 4 (i + 1)) w2) := by
      show TurnPost _ _ _ _ _ _ _ _ _
      unfold TurnPost
      rw [if_pos hm]
      exact ⟨rfl, HB1b.out.trans hb2⟩
    clear hb2 hm
    unfold faultE
    exact ⟨rfl, HO.out⟩
  · rw [if_neg hm] at hT
    obtain ⟨rfl, hR2, hb2⟩ := hT
    have HO : Hid (TurnPost b s i l (cutB cur fm) false w (.returned (.tuple #[])) w2) := by
      show TurnPost _ _ _ _ _ _ _ _ _
      unfold TurnPost
      rw [if_neg hm]
      exact ⟨rfl, hR2, HB1b.out.trans hb2⟩
    clear hb2 hm hR2
    go_wp2_with fail
    go_end0
    exact HO.out
set_option maxHeartbeats 4000000 in
theorem common_put (b : Nat) (s q : ByteArray) (i j : Nat) (l : List Pc) (cur : ByteArray) (fm : Nat) (w : World) (P Q : Nat → Bool) (hP : SignsQ P (q ++ ByteArray.mk #[10])) (hQ : ∀ x, Q x = !P x) (hj : fwd Q s i = j) (hR : RdM b s i l cur fm w) (hs : s.size ≤ 1048576) (hi : i < s.size) (h10 : bt s i ≠ 10) (hcz : cur.size ≤ 10000000) (hq : q.size ≤ 2) :
    Calls Tryz.prog 168 #[.pointer (some ⟨b, 0, none⟩), .string q] w fun e w' => e = .returned (.tuple #[]) ∧ RdM b s j l (cur ++ s.extract i j) fm w' ∧ Fq b w w' := by
  have hmx : s.size ≤ mx := by unfold mx; omega
  have hlt := hR.lt
  have HR : Hid (RdM b s i l cur fm w) := hR
  have HP : Hid (pre (s.extract i s.size) ⟨#[10]⟩ = false) := by
    show pre _ (b1 10) = false
    rw [pre1 s i 10 (by omega) (by decide), decide_eq_true hi, Bool.true_and, beq_eq_false_iff_ne]
    exact h10
  have hge : i ≤ j := by rw [← hj]; exact fwd_ge _ _ _
  have hle : j ≤ s.size := by rw [← hj]; exact fwd_le _ _ _ (Nat.le_of_lt hi)
  have f1 : (i : Int) ≤ (j : Int) := by omega
  have f2 : (j : Int) ≤ (s.size : Int) := by omega
  have HI : Hid (i < s.size) := hi
  have hq' : (q.size : Int) ≤ 2 := by omega
  have HU : Hid (∀ w', Calls Tryz.prog 162 #[.string s, .int .i64 (i : Int), .string (q ++ ByteArray.mk #[10])] w' fun e w'' => e = .returned (.int .i64 (j : Int)) ∧ Below w'.heap.size w' w'') := by
    intro w'
    exact until_nat s (q ++ ByteArray.mk #[10]) i j P Q w' hmx (Nat.le_of_lt hi) hP hQ hj
  have HC : Hid (cur.size + (s.extract i j).size ≤ 100000000) := by show _ ≤ _; rw [ByteArray.size_extract]; omega
  obtain ⟨la, ln, lc, ca, cn, cc, h1, _, _⟩ := hR
  have c0 := h1.c0
  have c1 := h1.c1
  have t1 : ((i : Int) == (s.size : Int)) = false := by rw [beq_eq_false_iff_ne]; omega
  have HLT : Hid (b < w.heap.size) := hlt
  clear h1 h10 hcz hi hlt hge hle hj hP hQ
  go_enter Tryz.func168, Tryz.ntmps168
  go_wp2_with fail
  go_quiet (fail)
  have HB0 : Hid (Below w.heap.size w (w.drewN nq)) := below_drewN w nq
  generalize w.drewN nq = w0 at *
  have HR0 := HR.out.stays HB0.out
  clear c0 c1
  go_wp2_with fail
  refine (sees_any b s ⟨#[10]⟩ i l cur fm w0 HR0 (Nat.le_of_lt HI.out) false HP.out.symm).mono ?_
  rintro e w1 ⟨rfl, hb1⟩
  have HR1 : Hid (RdM b s i l cur fm w1) := HR0.stays hb1
  have HB1 : Hid (Below w.heap.size w w1) := HB0.out.trans (hb1.mono HB0.out.size)
  clear HR0 hb1
  obtain ⟨la1, ln1, lc1, ca1, cn1, cc1, k1, _, _⟩ := HR1.out
  have d0 := k1.c0
  have d1 := k1.c1
  clear k1
  go_wp2_with fail
  go_region_with (go_at_call 162; refine (HU.out _).mono ?_; rintro e w2 ⟨rfl, hb2⟩)
  all_goals (
    have hb2' : Below w1.heap.size w1 w2 := ((Below.refl _ w1).drew).trans hb2
    have HR2 : Hid (RdM b s i l cur fm w2) := HR1.out.stays hb2'
    have HB2 : Hid (Below w.heap.size w w2) := HB1.out.trans (hb2'.mono HB1.out.size)
    obtain ⟨la2, ln2, lc2, ca2, cn2, cc2, m1, m2, m3⟩ := HR2.out
    have g0 := m1.c0
    have g1 := m1.c1
    have cP := put_any b s (s.extract i j) i j l cur fm w2.drew ⟨la2, ln2, lc2, ca2, cn2, cc2, m1, m2.drew, m3.drew⟩ HC.out
    clear hb2 hb2' m1 m2 m3 d0 d1
    go_wp2_with fail
    go_region_with (go_at_call 167; refine cP.mono ?_; rintro e w3 ⟨rfl, hR3, hb3⟩)
    all_goals (
      have HO : Hid (RdM b s j l (cur ++ s.extract i j) fm w3 ∧ Fq b w w3) := ⟨hR3, ((Fq.of HB2.out HLT.out).drew).trans hb3⟩
      clear hR3 hb3 cP
      go_wp2_with fail
      go_end0
      exact ⟨rfl, HO.out.1, HO.out.2⟩))
end Go.Proofs.YtjpcmmfmdoglkalGreatDoor
