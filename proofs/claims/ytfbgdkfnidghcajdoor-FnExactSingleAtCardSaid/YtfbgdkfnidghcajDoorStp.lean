/- A step of the reader within single quotes. -/
import Derived.Test.YtfbgdkfnidghcajDoorRd4
namespace Go.Proofs.YtfbgdkfnidghcajDoor
open Go.ChangeShapes Go.WideShapes Go.ChangeAt Go.RowKit Go.Deep
def Rd (b : Nat) (s : ByteArray) (i : Nat) (l : List Pc) (cur : ByteArray) (fm : Nat) (w : World) : Prop :=
  RdM b s i l cur fm w ∧ s.size ≤ 1048576 ∧ i ≤ s.size ∧ fm ≤ cur.size ∧ totC l + l.length + cur.size ≤ 2 * i
/-- What a step leaves: it goes on, it was the closing quote, or there is a fault. -/
def SPost (G : Nat → List Pc → ByteArray → Nat → ByteArray × Nat × Nat) (J : Nat → Prop) (b : Nat) (s : ByteArray) (i : Nat) (l : List Pc) (cur : ByteArray) (fm : Nat) (w : World) (e : Ending) (w' : World) : Prop :=
  Fq b w w' ∧ ((e = .returned (.bool true) ∧ ∃ i' l' cur' fm', Rd b s i' l' cur' fm' w' ∧ i < i' ∧ J fm' ∧ G i' l' cur' fm' = G i l cur fm) ∨
    (e = .returned (.bool false) ∧ ∃ i', Rd b s i' l cur fm w' ∧ G i l cur fm = (foldFlow (l ++ [(cur, false)]), i', 0)) ∨
    (∃ c p, e = faultE c p ∧ c ≠ 0 ∧ G i l cur fm = (ByteArray.empty, p, c)))
def StepC (g : Nat) (V : World → Prop) (G : Nat → List Pc → ByteArray → Nat → ByteArray × Nat × Nat) (J : Nat → Prop) (s : ByteArray) : Prop :=
  ∀ (b i : Nat) (l : List Pc) (cur : ByteArray) (fm : Nat) (w : World), Rd b s i l cur fm w → J fm → V w →
    Calls Tryd.prog g #[.pointer (some ⟨b, 0, none⟩)] w fun e w' => SPost G J b s i l cur fm w e w'
def b2 (c d : Nat) : ByteArray := ⟨#[c.toUInt8, d.toUInt8]⟩
theorem b2_app (c d : Nat) : b1 c ++ b1 d = b2 c d := by
  apply ba_ext
  rw [ByteArray.data_append, Array.toList_append]
  rfl
theorem take2 (s : ByteArray) (p : Nat) (h : p + 1 < s.size) : (s.extract p s.size).extract 0 2 = b2 (bt s p) (bt s (p + 1)) := by
  have e : (s.extract p s.size).extract 0 2 = s.extract p (p + 1 + 1) := by
    apply ba_ext
    simp only [ByteArray.data_extract, Array.toList_extract, List.extract_eq_take_drop, List.drop_zero]
    rw [List.take_take]
    congr 1
    omega
  rw [e, extract_snoc s p (p + 1) (by omega) h, extract_snoc s p p (Nat.le_refl _) (by omega), extract_same]
  have h0 : ByteArray.empty ++ b1 (bt s p) = b1 (bt s p) := by
    apply ba_ext
    rw [ByteArray.data_append, Array.toList_append]
    rfl
  rw [h0, b2_app]
theorem b2_inj {x y c d : Nat} (hx : x < 256) (hy : y < 256) (hc : c < 256) (hd : d < 256) (h : b2 x y = b2 c d) : x = c ∧ y = d := by
  unfold b2 at h
  injection h with h
  have h2 : x.toUInt8 = c.toUInt8 ∧ y.toUInt8 = d.toUInt8 := by simpa using h
  have e : ∀ z, z < 256 → (z.toUInt8).toNat = z := fun z hz => by show (UInt8.ofNat z).toNat = z; rw [UInt8.toNat_ofNat']; omega
  have h3 := congrArg UInt8.toNat h2.1
  have h4 := congrArg UInt8.toNat h2.2
  rw [e _ hx, e _ hc] at h3
  rw [e _ hy, e _ hd] at h4
  exact ⟨h3, h4⟩
theorem pre2 (s : ByteArray) (p c d : Nat) (hp : p ≤ s.size) (hc : c < 256) (hd : d < 256) : pre (s.extract p s.size) (b2 c d) = decide (p + 1 < s.size ∧ bt s p = c ∧ bt s (p + 1) = d) := by
  have hz : (s.extract p s.size).size = s.size - p := by rw [ByteArray.size_extract]; omega
  have h2 : (b2 c d).size = 2 := rfl
  unfold pre
  rw [hz, h2, Bool.eq_iff_iff, decide_eq_true_eq, decide_eq_true_eq]
  constructor
  · intro h
    have hl : p + 1 < s.size := by omega
    rw [take2 s p hl] at h
    exact ⟨hl, b2_inj (bt_lt _ _) (bt_lt _ _) hc hd h.2⟩
  · intro h
    exact ⟨by omega, by rw [take2 s p h.1, h.2.1, h.2.2]⟩
theorem pre1_yes {s : ByteArray} {p c : Nat} (h : p < s.size) (hc : c < 256) (e : bt s p = c) : pre (s.extract p s.size) (b1 c) = true := by
  rw [pre1 s p c (Nat.le_of_lt h) hc, decide_eq_true h, e]
  simp
theorem pre1_no {s : ByteArray} {p c : Nat} (hp : p ≤ s.size) (hc : c < 256) (h : ¬ (p < s.size ∧ bt s p = c)) : pre (s.extract p s.size) (b1 c) = false := by
  rw [pre1 s p c hp hc]
  by_cases h' : p < s.size
  · rw [decide_eq_true h', Bool.true_and, beq_eq_false_iff_ne]
    exact fun e => h ⟨h', e⟩
  · rw [decide_eq_false h', Bool.false_and]
theorem pre2_yes {s : ByteArray} {p c d : Nat} (h : p + 1 < s.size) (hc : c < 256) (hd : d < 256) (e : bt s p = c) (e2 : bt s (p + 1) = d) : pre (s.extract p s.size) (b2 c d) = true := by
  rw [pre2 s p c d (by omega) hc hd, decide_eq_true_eq]
  exact ⟨h, e, e2⟩
theorem pre2_no {s : ByteArray} {p c d : Nat} (hp : p ≤ s.size) (hc : c < 256) (hd : d < 256) (h : ¬ (p + 1 < s.size ∧ bt s p = c ∧ bt s (p + 1) = d)) : pre (s.extract p s.size) (b2 c d) = false := by
  rw [pre2 s p c d hp hc hd, decide_eq_false_iff_not]
  exact h
/-- The place goes one on. -/
theorem rd_step {b : Nat} {s : ByteArray} {i j : Nat} {l : List Pc} {cur : ByteArray} {fm : Nat} {w : World} (h : RdM b s i l cur fm w) (v : Int) (hv : v = (j : Int)) : RdM b s j l cur fm (w.setCell ⟨b, 1, none⟩ (.int .i64 v)) := by
  subst hv
  obtain ⟨la, ln, lc, ca, cn, cc, h1, h2, h3⟩ := h
  exact ⟨la, ln, lc, ca, cn, cc, h1.set1 j, row_past h2, row_past h3⟩
theorem rd_c1 {b : Nat} {s : ByteArray} {i : Nat} {l : List Pc} {cur : ByteArray} {fm : Nat} {w : World} (h : RdM b s i l cur fm w) : w.cell? ⟨b, 1, none⟩ = some (.int .i64 (i : Int)) ∧ w.frozen? ⟨b, 1, none⟩ = false := by
  obtain ⟨la, ln, lc, ca, cn, cc, h1, _, _⟩ := h
  exact ⟨h1.c1, h1.fz 1⟩
def p39 (c : Nat) : Bool := c == 39 || c == 10
theorem p39_signs : SignsQ p39 ((⟨#[39]⟩ : ByteArray) ++ ByteArray.mk #[10]) := by
  intro x hx
  show p39 x = [39, 10].contains x.toUInt8
  rw [List.contains_cons, List.contains_cons, List.contains_nil, u8_eq hx, u8_eq hx, Bool.or_false]
  rfl
def q39 (c : Nat) : Bool := !p39 c
def Gs (s : ByteArray) (i : Nat) (l : List Pc) (cur : ByteArray) (_ : Nat) : ByteArray × Nat × Nat := sgR s i l cur
set_option maxHeartbeats 4000000 in
theorem singleStep_any (s : ByteArray) : StepC 12 (fun _ => True) (Gs s) (fun fm => fm = 0) s := by
  intro b i l cur fm w hR hJ _
  obtain ⟨hR, hs, hi, hf, ht⟩ := hR
  subst hJ
  have hlt := hR.lt
  have HLT : Hid (b < w.heap.size) := hlt
  have HR : Hid (RdM b s i l cur 0 w) := hR
  have HH : Hid (s.size ≤ 1048576 ∧ i ≤ s.size ∧ totC l + l.length + cur.size ≤ 2 * i) := ⟨hs, hi, ht⟩
  have hi' : (i : Int) ≤ (s.size : Int) := by omega
  have hs' : (s.size : Int) ≤ 1048576 := by omega
  by_cases h39 : i < s.size ∧ bt s i = 39
  · have HP1 : Hid (pre (s.extract i s.size) ⟨#[39]⟩ = true) := pre1_yes (c := 39) h39.1 (by decide) h39.2
    by_cases hnx : i + 1 < s.size ∧ bt s (i + 1) = 39
    · have HP2 : Hid (pre (s.extract i s.size) ⟨#[39, 39]⟩ = true) := pre2_yes (c := 39) (d := 39) hnx.1 (by decide) (by decide) h39.2 hnx.2
      have HG : Hid (Gs s (i + 2) l (cur ++ b1 39) 0 = Gs s i l cur 0) := (sgR_two h39.1 h39.2 hnx.1 hnx.2).symm
      have HNX : Hid (i + 1 < s.size) := hnx.1
      clear h39 hnx hR hf ht hlt hs hi
      go_enter Tryd.func12, Tryd.ntmps12
      go_wp2_with fail
      refine (sees_any b s ⟨#[39, 39]⟩ i l cur 0 w HR.out HH.out.2.1 true HP2.out.symm).mono ?_
      rintro e w1 ⟨rfl, hb1⟩
      have HR1 : Hid (RdM b s i l cur 0 w1) := HR.out.stays hb1
      have HB1 : Hid (Fq b w w1) := Fq.of hb1 HLT.out
      obtain ⟨c1, g1⟩ := rd_c1 HR1.out
      clear hb1
      go_wp2_with fail
      have cP := put_any b s ⟨#[39]⟩ i (i + 2) l cur 0 w1 HR1.out (by have := HH.out; show cur.size + 1 ≤ _; omega)
      refine Calls.mono cP ?_
      rintro e w2 ⟨rfl, hR2, hb2⟩
      have HO : Hid (SPost (Gs s) (fun fm => fm = 0) b s i l cur 0 w (.returned (.bool true)) w2) := by
        refine ⟨HB1.out.trans hb2, .inl ⟨rfl, i + 2, l, cur ++ b1 39, 0, ⟨hR2, HH.out.1, HNX.out, Nat.zero_le _, ?_⟩, by omega, rfl, HG.out⟩⟩
        rw [ByteArray.size_append, b1_size]
        have := HH.out
        omega
      clear cP hR2 hb2 c1 g1
      go_wp2_with fail
      go_ret
      exact HO.out
    · have HP2 : Hid (pre (s.extract i s.size) ⟨#[39, 39]⟩ = false) := pre2_no (c := 39) (d := 39) hi (by decide) (by decide) (fun h => hnx ⟨h.1, h.2.2⟩)
      have HG : Hid (Gs s i l cur 0 = (foldFlow (l ++ [(cur, false)]), i + 1, 0)) := sgR_close h39.1 h39.2 hnx
      have HI : Hid (i < s.size) := h39.1
      clear h39 hnx hR hf ht hlt hs hi
      go_enter Tryd.func12, Tryd.ntmps12
      go_wp2_with fail
      refine (sees_any b s ⟨#[39, 39]⟩ i l cur 0 w HR.out HH.out.2.1 false HP2.out.symm).mono ?_
      rintro e w1 ⟨rfl, hb1⟩
      have HR1 : Hid (RdM b s i l cur 0 w1) := HR.out.stays hb1
      have HB1 : Hid (Fq b w w1) := Fq.of hb1 HLT.out
      have HLT1 : Hid (b < w1.heap.size) := HR1.out.lt
      clear hb1
      go_wp2_with fail
      refine (sees_any b s ⟨#[39]⟩ i l cur 0 w1 HR1.out HH.out.2.1 true HP1.out.symm).mono ?_
      rintro e w2 ⟨rfl, hb2⟩
      have HR2 : Hid (RdM b s i l cur 0 w2) := HR1.out.stays hb2
      have HB2 : Hid (Fq b w w2) := HB1.out.trans (Fq.of hb2 HLT1.out)
      obtain ⟨c1, g1⟩ := rd_c1 HR2.out
      have HO : Hid (SPost (Gs s) (fun fm => fm = 0) b s i l cur 0 w (.returned (.bool false)) (w2.setCell ⟨b, 1, none⟩ (.int .i64 ((i : Int) + 1)))) := by
        refine ⟨HB2.out.setB _ _, .inr (.inl ⟨rfl, i + 1, ⟨rd_step HR2.out _ (by omega), HH.out.1, HI.out, Nat.zero_le _, ?_⟩, HG.out⟩)⟩
        have := HH.out
        omega
      clear hb2
      go_wp2_with fail
      go_ret
      exact HO.out
  · have HP1 : Hid (pre (s.extract i s.size) ⟨#[39]⟩ = false) := pre1_no (c := 39) hi (by decide) h39
    have HP2 : Hid (pre (s.extract i s.size) ⟨#[39, 39]⟩ = false) := pre2_no (c := 39) (d := 39) hi (by decide) (by decide) (fun h => h39 ⟨by omega, h.2.1⟩)
    have H39 : Hid (¬ (i < s.size ∧ bt s i = 39)) := h39
    clear hR hf ht hlt hs hi h39
    go_enter Tryd.func12, Tryd.ntmps12
    go_wp2_with fail
    refine (sees_any b s ⟨#[39, 39]⟩ i l cur 0 w HR.out HH.out.2.1 false HP2.out.symm).mono ?_
    rintro e w1 ⟨rfl, hb1⟩
    have HR1 : Hid (RdM b s i l cur 0 w1) := HR.out.stays hb1
    have HB1 : Hid (Fq b w w1) := Fq.of hb1 HLT.out
    have HLT1 : Hid (b < w1.heap.size) := HR1.out.lt
    clear hb1
    go_wp2_with fail
    refine (sees_any b s ⟨#[39]⟩ i l cur 0 w1 HR1.out HH.out.2.1 false HP1.out.symm).mono ?_
    rintro e w2 ⟨rfl, hb2⟩
    have HR2 : Hid (RdM b s i l cur 0 w2) := HR1.out.stays hb2
    have HB2 : Hid (Fq b w w2) := HB1.out.trans (Fq.of hb2 HLT1.out)
    clear hb2
    go_wp2_with fail
    have hfacts := HH.out
    by_cases hend : i = s.size
    · subst hend
      refine (common_end b s ⟨#[39]⟩ l cur 0 w2 HR2.out).mono ?_
      rintro e w3 ⟨rfl, hb3⟩
      have HO : Hid (SPost (Gs s) (fun fm => fm = 0) b s s.size l cur 0 w (faultE 3 s.size) w3) := ⟨HB2.out.trans hb3, .inr (.inr ⟨3, s.size, rfl, by decide, sgR_end (Nat.le_refl _)⟩)⟩
      unfold faultE
      exact ⟨rfl, HO.out⟩
    · have hil : i < s.size := by omega
      by_cases h10 : bt s i = 10
      · refine (common_turn b s ⟨#[39]⟩ i l cur 0 w2 HR2.out hfacts.1 hil h10 (by omega) (Nat.zero_le _) (by omega)).mono ?_
        intro e w3 hT
        unfold TurnPost at hT
        by_cases hm : 0 < markN s (i + 1)
        · rw [if_pos hm] at hT
          obtain ⟨rfl, hb3⟩ := hT
          have HO : Hid (SPost (Gs s) (fun fm => fm = 0) b s i l cur 0 w (faultE 4 (i + 1)) w3) := ⟨HB2.out.trans hb3, .inr (.inr ⟨4, i + 1, rfl, by decide, sgR_mark hil h10 hm⟩)⟩
          unfold faultE
          exact ⟨rfl, HO.out⟩
        · rw [if_neg hm] at hT
          obtain ⟨rfl, hR3, hb3⟩ := hT
          have hw1 := wh_ge s (i + 1)
          have hw2 := wh_le s (i + 1) (by omega)
          have hcz := cutB_size cur 0
          have HO : Hid (SPost (Gs s) (fun fm => fm = 0) b s i l cur 0 w (.returned (.bool true)) w3) := by
            refine ⟨HB2.out.trans hb3, .inl ⟨rfl, _, _, _, 0, ⟨hR3, hfacts.1, hw2, Nat.zero_le _, ?_⟩, by omega, rfl, (sgR_line hil h10 hm).symm⟩⟩
            rw [totC_snoc, List.length_append]
            show totC l + (cutB cur 0).size + (l.length + 1) + 0 ≤ _
            omega
          clear hR3 hb3 hw1 hw2 hcz hm h10 hil hend hfacts
          go_wp2_with fail
          go_ret
          exact HO.out
      · obtain ⟨j, hj⟩ : ∃ j, fwd q39 s i = j := ⟨_, rfl⟩
        have hge : i ≤ j := by rw [← hj]; exact fwd_ge _ _ _
        have hle : j ≤ s.size := by rw [← hj]; exact fwd_le _ _ _ (Nat.le_of_lt hil)
        have hin := fwd_in q39 s i
        have hne : i < j := by
          rcases Nat.lt_or_ge i j with h | h
          · exact h
          · have hq : q39 (bt s i) = true := by
              unfold q39 p39
              have : bt s i ≠ 39 := fun e => H39.out ⟨hil, e⟩
              simp [this, h10]
            have h2 := fwd_step hil hq
            have h3 := fwd_ge q39 s (i + 1)
            omega
        refine (common_put b s ⟨#[39]⟩ i j l cur 0 w2 p39 q39 p39_signs (fun _ => rfl) hj HR2.out hfacts.1 hil h10 (by omega) (by decide)).mono ?_
        rintro e w3 ⟨rfl, hR3, hb3⟩
        have hchunk := sgR_chunk (s := s) (i := i) (l := l) (cur := cur) (j - i) (by omega) (fun k h1 h2 => by
          have h3 := hin k h1 (by rw [hj]; omega)
          unfold q39 p39 at h3
          simp at h3
          exact h3)
        rw [show i + (j - i) = j by omega] at hchunk
        have HO : Hid (SPost (Gs s) (fun fm => fm = 0) b s i l cur 0 w (.returned (.bool true)) w3) := by
          refine ⟨HB2.out.trans hb3, .inl ⟨rfl, j, l, _, 0, ⟨hR3, hfacts.1, hle, Nat.zero_le _, ?_⟩, hne, rfl, hchunk.symm⟩⟩
          rw [ByteArray.size_append, ByteArray.size_extract]
          omega
        clear hR3 hb3 hge hle hin hne hchunk hj h10 hil hend hfacts
        go_wp2_with fail
        go_ret
        exact HO.out
end Go.Proofs.YtfbgdkfnidghcajDoor
