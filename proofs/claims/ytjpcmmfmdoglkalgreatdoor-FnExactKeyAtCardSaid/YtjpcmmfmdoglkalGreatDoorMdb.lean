/- impl.DoubleAt and its law. -/
import Derived.Test.YtjpcmmfmdoglkalGreatDoorMqt
import Derived.Test.YtjpcmmfmdoglkalGreatDoorMes
/- A step of the reader within double quotes; impl.DoubleAt; the laws with the variable of the library. -/
namespace Go.Proofs.YtjpcmmfmdoglkalGreatDoor
open Go.ChangeShapes Go.WideShapes Go.ChangeAt Go.RowKit Go.Deep
theorem db_fuel {s : ByteArray} : ∀ (f g i : Nat) (l : List Pc) (cur : ByteArray) (kp : Nat), s.size < f + i → s.size < g + i → dbGo s f i l cur kp = dbGo s g i l cur kp
  | 0, g, i, l, cur, kp, h, _ => by rw [db_end (by omega), db_end (by omega)]
  | f + 1, 0, i, l, cur, kp, _, h => by rw [db_end (by omega), db_end (by omega)]
  | f + 1, g + 1, i, l, cur, kp, h, h' => by
    have hw := wh_ge s (i + 1)
    have hw2 := wh_ge s (i + 1 + 1)
    by_cases h0 : s.size ≤ i
    · rw [db_end h0, db_end h0]
    · have hi : i < s.size := by omega
      by_cases h1 : bt s i = 34
      · rw [db_close hi h1, db_close hi h1]
      · by_cases h2 : bt s i = 10
        · by_cases h3 : 0 < markN s (i + 1)
          · rw [db_mark hi h2 h3, db_mark hi h2 h3]
          · rw [db_line hi h2 h3, db_line hi h2 h3]
            exact db_fuel f g _ _ _ _ (by omega) (by omega)
        · by_cases h3 : bt s i = 92
          · by_cases h4 : i + 1 < s.size ∧ bt s (i + 1) = 10
            · by_cases h5 : 0 < markN s (i + 1 + 1)
              · rw [db_gmark h4.1 h3 h4.2 h5, db_gmark h4.1 h3 h4.2 h5]
              · rw [db_gline h4.1 h3 h4.2 h5, db_gline h4.1 h3 h4.2 h5]
                exact db_fuel f g _ _ _ _ (by omega) (by omega)
            · obtain ⟨t, x, hx⟩ : ∃ t x, escAt s i = (t, x) := ⟨_, _, rfl⟩
              by_cases h5 : x = 0
              · subst h5
                rw [db_bad hi h3 h4 hx, db_bad hi h3 h4 hx]
              · have := esc_in hx h5
                rw [db_esc hi h3 h4 hx h5, db_esc hi h3 h4 hx h5]
                exact db_fuel f g _ _ _ _ (by omega) (by omega)
          · rw [db_byte hi h1 h2 h3, db_byte hi h1 h2 h3]
            exact db_fuel f g _ _ _ _ (by omega) (by omega)
/-- DoubleAt from i on. -/
def Gd (s : ByteArray) (i : Nat) (l : List Pc) (cur : ByteArray) (kp : Nat) : ByteArray × Nat × Nat := dbGo s (s.size + 1) i l cur kp
theorem Gd_line {s : ByteArray} {i : Nat} {l : List Pc} {cur : ByteArray} {kp : Nat} (hi : i < s.size) (h : bt s i = 10) (h1 : ¬ 0 < markN s (i + 1)) : Gd s i l cur kp = Gd s (wh s (i + 1)) (l ++ [(cutB cur kp, false)]) ByteArray.empty 0 := by
  have hw := wh_ge s (i + 1)
  unfold Gd; rw [db_line hi h h1]; exact db_fuel _ _ _ _ _ _ (by omega) (by omega)
theorem Gd_gline {s : ByteArray} {i : Nat} {l : List Pc} {cur : ByteArray} {kp : Nat} (hi : i + 1 < s.size) (h : bt s i = 92) (hg : bt s (i + 1) = 10) (h1 : ¬ 0 < markN s (i + 1 + 1)) : Gd s i l cur kp = Gd s (wh s (i + 1 + 1)) (l ++ [(cur, true)]) ByteArray.empty 0 := by
  have hw := wh_ge s (i + 1 + 1)
  unfold Gd; rw [db_gline hi h hg h1, cutB_whole]; exact db_fuel _ _ _ _ _ _ (by omega) (by omega)
theorem Gd_esc {s : ByteArray} {i x : Nat} {l : List Pc} {cur t : ByteArray} {kp : Nat} (hi : i < s.size) (h : bt s i = 92) (hg : ¬ (i + 1 < s.size ∧ bt s (i + 1) = 10)) (h1 : escAt s i = (t, x)) (hx : x ≠ 0) : Gd s i l cur kp = Gd s x l (cur ++ t) (cur ++ t).size := by
  have := esc_in h1 hx
  unfold Gd; rw [db_esc hi h hg h1 hx]; exact db_fuel _ _ _ _ _ _ (by omega) (by omega)
theorem Gd_byte {s : ByteArray} {i : Nat} {l : List Pc} {cur : ByteArray} {kp : Nat} (hi : i < s.size) (h : bt s i ≠ 34) (h1 : bt s i ≠ 10) (h2 : bt s i ≠ 92) : Gd s i l cur kp = Gd s (i + 1) l (cur ++ b1 (bt s i)) kp := by
  unfold Gd; rw [db_byte hi h h1 h2]; exact db_fuel _ _ _ _ _ _ (by omega) (by omega)
theorem Gd_chunk {s : ByteArray} {i : Nat} {l : List Pc} {cur : ByteArray} {kp : Nat} : ∀ (n : Nat), i + n ≤ s.size → (∀ k, i ≤ k → k < i + n → bt s k ≠ 34 ∧ bt s k ≠ 10 ∧ bt s k ≠ 92) → Gd s i l cur kp = Gd s (i + n) l (cur ++ s.extract i (i + n)) kp
  | 0, _, _ => by rw [Nat.add_zero, extract_same, ba_nil]
  | n + 1, h, hk => by
    have ih := Gd_chunk (s := s) (i := i) (l := l) (cur := cur) (kp := kp) n (by omega) (fun k h1 h2 => hk k h1 (by omega))
    obtain ⟨a, b, c⟩ := hk (i + n) (by omega) (by omega)
    rw [ih, Gd_byte (by omega) a b c, ba_assoc, ← extract_snoc s i (i + n) (by omega) (by omega)]
    rfl
theorem esc_zero {s t : ByteArray} {i x : Nat} (h : escAt s i = (t, x)) : (t = ByteArray.empty ∧ x = 0) ∨ (t ≠ ByteArray.empty ∧ x ≠ 0) := by
  by_cases hl : s.size ≤ i + 1 ∨ bt s i ≠ 92
  · unfold escAt at h
    rw [if_pos hl] at h
    injection h with h1 h2
    exact .inl ⟨h1.symm, h2.symm⟩
  · have h3 : i + 1 < s.size := by omega
    have h4 : bt s i = 92 := by omega
    obtain ⟨r, hr⟩ : ∃ r, r = if escN (bt s (i + 1)) = 0 then snN (bt s (i + 1)) else hexGo s (escN (bt s (i + 1))) (i + 2) 0 := ⟨_, rfl⟩
    rw [esc_by h3 h4 r hr] at h
    split at h
    · injection h with h1 h2
      exact .inl ⟨h1.symm, h2.symm⟩
    · rename_i hz
      injection h with h1 h2
      exact .inr ⟨by rw [← h1]; exact hz, by omega⟩
def p34 (c : Nat) : Bool := c == 34 || c == 92 || c == 10
theorem p34_signs : SignsQ p34 ((⟨#[34, 92]⟩ : ByteArray) ++ ByteArray.mk #[10]) := by
  intro x hx
  show p34 x = [34, 92, 10].contains x.toUInt8
  rw [List.contains_cons, List.contains_cons, List.contains_cons, List.contains_nil, u8_eq hx, u8_eq hx, u8_eq hx, Bool.or_false]
  unfold p34
  rw [Bool.or_assoc]
  rfl
def q34 (c : Nat) : Bool := !p34 c
/-- What escape leaves. -/
def EscPost (b : Nat) (s : ByteArray) (i : Nat) (l : List Pc) (cur t : ByteArray) (x : Nat) (w : World) (e : Ending) (w' : World) : Prop :=
  if x = 0 then e = faultE 5 i ∧ Fq b w w' else e = .returned (.tuple #[]) ∧ RdM b s x l (cur ++ t) (cur ++ t).size w' ∧ Fq b w w'
theorem impl_esc_nat (s : ByteArray) (i : Nat) (w : World) (hs : s.size ≤ 1048576) (hi : i ≤ s.size) (hv : ErrVar w) (t : ByteArray) (x : Nat) (hr : escAt s i = (t, x)) :
    Calls Tryz.prog 199 #[.string s, .int .i64 (i : Int)] w fun e w' => e = .returned (.tuple #[.string t, .int .i64 (x : Int)]) ∧ Below w.heap.size w w' :=
  impl_escapeAt s (i : Int) w hs hv t x (by rw [cl_nat _ _ hi]; exact hr)
set_option maxHeartbeats 4000000 in
theorem escape_any (b : Nat) (s : ByteArray) (i : Nat) (l : List Pc) (cur : ByteArray) (fm : Nat) (w : World) (hR : RdM b s i l cur fm w) (hs : s.size ≤ 1048576) (hi : i ≤ s.size) (hv : ErrVar w) (hcz : cur.size ≤ 10000000) (t : ByteArray) (x : Nat) (hx : escAt s i = (t, x)) :
    Calls Tryz.prog 170 #[.pointer (some ⟨b, 0, none⟩)] w fun e w' => EscPost b s i l cur t x w e w' := by
  have hlt := hR.lt
  have HLT : Hid (b < w.heap.size) := hlt
  have HR : Hid (RdM b s i l cur fm w) := hR
  have cE := impl_esc_nat s i w.drew hs hi hv t x hx
  have hx4 : x = 0 ∨ (t.size ≤ 4 ∧ x ≤ s.size) := by
    by_cases h : x = 0
    · exact .inl h
    · exact .inr ⟨(esc_in hx h).2.2, (esc_in hx h).2.1⟩
  obtain ⟨la, ln, lc, ca, cn, cc, h1, _, _⟩ := hR
  have c0 := h1.c0
  have c1 := h1.c1
  have HCZ : Hid (cur.size ≤ 10000000) := hcz
  have hz := esc_zero hx
  clear h1 hv hlt hcz hx hs
  go_enter Tryz.func170, Tryz.ntmps170
  go_wp2_with fail
  go_region_with (go_at_call 199; refine cE.mono ?_; rintro e w1 ⟨rfl, hb1⟩)
  all_goals (
    have hb1' : Below w.heap.size w w1 := ((Below.refl _ w).drew).trans hb1
    have HR1 : Hid (RdM b s i l cur fm w1) := HR.out.stays hb1'
    have HB1 : Hid (Fq b w w1) := Fq.of hb1' HLT.out
    obtain ⟨d1, _⟩ := rd_c1 HR1.out
    clear hb1 hb1' cE c0 c1
    rcases hz with ⟨rfl, rfl⟩ | ⟨ht, hx0⟩
    · have he := empty_l
      have HO : Hid (EscPost b s i l cur ByteArray.empty 0 w (faultE 5 i) w1) := by
        show EscPost _ _ _ _ _ _ _ _ _ _
        unfold EscPost
        rw [if_pos rfl]
        exact ⟨rfl, HB1.out⟩
      clear hx4
      go_wp2_with fail
      exact ⟨rfl, HO.out⟩
    · have he := nonempty_l ht
      obtain ⟨ht4, hxs⟩ : t.size ≤ 4 ∧ x ≤ s.size := by
        rcases hx4 with h | h
        · exact absurd h hx0
        · exact h
      have HX0 : Hid (x ≠ 0) := hx0
      have cP := put_any b s t i x l cur fm w1 HR1.out (by have := HCZ.out; omega)
      clear hx4 ht hx0 ht4 hxs d1
      go_wp2_with fail
      refine cP.mono ?_
      rintro e w2 ⟨rfl, hR2, hb2⟩
      clear cP
      obtain ⟨la2, ln2, lc2, ca2, cn2, cc2, m1, m2, m3⟩ := hR2
      obtain ⟨rfl, hcc⟩ := row_len m3
      have e3 := m1.c3
      have e4 := m1.c4
      have g4 := m1.fz 4
      have HO : Hid (EscPost b s i l cur t x w (.returned (.tuple #[])) (w2.setCell ⟨b, 4, none⟩ (.int .i64 ((cur ++ t).size : Int)))) := by
        show EscPost _ _ _ _ _ _ _ _ _ _
        unfold EscPost
        rw [if_neg HX0.out]
        exact ⟨rfl, ⟨la2, ln2, lc2, ca2, _, cc2, m1.set4 _, row_past m2, row_past m3⟩, (HB1.out.trans hb2).setB _ _⟩
      obtain ⟨z, hz⟩ : ∃ z, (cur ++ t).size = z := ⟨_, rfl⟩
      rw [hz] at HO e3
      clear m1 m2 m3 hb2 hcc hz
      go_wp2_with fail
      go_end0
      exact HO.out)
theorem err_below {b : Nat} {w w' : World} (h : ErrVar w) (hb : Fq b w w') (hg : 3 < b) : ErrVar w' := by
  obtain ⟨te, pe, h⟩ := h
  exact ⟨te, pe, (hb.below.cell (p := ⟨3, 0, none⟩) hg).trans h⟩
set_option maxHeartbeats 8000000 in
theorem doubleStep_any (s : ByteArray) : StepC 124 (fun w => ErrVar w) (Gd s) (fun _ => True) s := by
  intro b i l cur fm w hR _ hv
  obtain ⟨hR, hs, hi, hf, ht⟩ := hR
  have HV : Hid (ErrVar w) := hv
  have HLT : Hid (b < w.heap.size) := hR.lt
  have HR : Hid (RdM b s i l cur fm w) := hR
  have HH : Hid (s.size ≤ 1048576 ∧ i ≤ s.size ∧ fm ≤ cur.size ∧ totC l + l.length + cur.size ≤ 2 * i) := ⟨hs, hi, hf, ht⟩
  have hi' : (i : Int) ≤ (s.size : Int) := by omega
  have hs' : (s.size : Int) ≤ 1048576 := by omega
  by_cases h34 : i < s.size ∧ bt s i = 34
  · have HP1 : Hid (pre (s.extract i s.size) ⟨#[34]⟩ = true) := pre1_yes (c := 34) h34.1 (by decide) h34.2
    have HG : Hid (Gd s i l cur fm = (foldFlow (l ++ [(cur, false)]), i + 1, 0)) := db_close h34.1 h34.2
    have HI : Hid (i < s.size) := h34.1
    clear h34 hR hf ht hs hi hv
    go_enter Tryz.func124, Tryz.ntmps124
    go_wp2_with fail
    refine (sees_any b s ⟨#[34]⟩ i l cur fm w HR.out HH.out.2.1 true HP1.out.symm).mono ?_
    rintro e w2 ⟨rfl, hb2⟩
    have HR2 : Hid (RdM b s i l cur fm w2) := HR.out.stays hb2
    have HB2 : Hid (Fq b w w2) := Fq.of hb2 HLT.out
    obtain ⟨c1, g1⟩ := rd_c1 HR2.out
    have HO : Hid (SPost (Gd s) (fun _ => True) b s i l cur fm w (.returned (.bool false)) (w2.setCell ⟨b, 1, none⟩ (.int .i64 ((i : Int) + 1)))) := by
      refine ⟨HB2.out.setB _ _, .inr (.inl ⟨rfl, i + 1, ⟨rd_step HR2.out _ (by omega), HH.out.1, HI.out, HH.out.2.2.1, ?_⟩, HG.out⟩)⟩
      have := HH.out
      omega
    clear hb2
    go_wp2_with fail
    go_ret
    exact HO.out
  · have HP1 : Hid (pre (s.extract i s.size) ⟨#[34]⟩ = false) := pre1_no (c := 34) hi (by decide) h34
    have H34 : Hid (¬ (i < s.size ∧ bt s i = 34)) := h34
    clear hR hf ht hs hi h34 hv
    go_enter Tryz.func124, Tryz.ntmps124
    go_wp2_with fail
    refine (sees_any b s ⟨#[34]⟩ i l cur fm w HR.out HH.out.2.1 false HP1.out.symm).mono ?_
    rintro e w1 ⟨rfl, hb1⟩
    have HR1 : Hid (RdM b s i l cur fm w1) := HR.out.stays hb1
    have HB1 : Hid (Fq b w w1) := Fq.of hb1 HLT.out
    have HLT1 : Hid (b < w1.heap.size) := HR1.out.lt
    have HV1 : Hid (ErrVar w1) := HV.out.later hb1
    clear hb1
    go_wp2_with fail
    by_cases hgl : i + 1 < s.size ∧ bt s i = 92 ∧ bt s (i + 1) = 10
    · have HP2 : Hid (pre (s.extract i s.size) ⟨#[92, 10]⟩ = true) := pre2_yes (c := 92) (d := 10) hgl.1 (by decide) (by decide) hgl.2.1 hgl.2.2
      have HGL : Hid (i + 1 < s.size ∧ bt s i = 92 ∧ bt s (i + 1) = 10) := hgl
      clear hgl
      refine (sees_any b s ⟨#[92, 10]⟩ i l cur fm w1 HR1.out HH.out.2.1 true HP2.out.symm).mono ?_
      rintro e w2 ⟨rfl, hb2⟩
      have HR2 : Hid (RdM b s i l cur fm w2) := HR1.out.stays hb2
      have HB2 : Hid (Fq b w w2) := HB1.out.trans (Fq.of hb2 HLT1.out)
      obtain ⟨c1, g1⟩ := rd_c1 HR2.out
      have HR3 : Hid (RdM b s (i + 1) l cur fm (w2.setCell ⟨b, 1, none⟩ (.int .i64 ((i : Int) + 1)))) := rd_step HR2.out _ (by omega)
      have HB3 : Hid (Fq b w (w2.setCell ⟨b, 1, none⟩ (.int .i64 ((i : Int) + 1)))) := HB2.out.setB _ _
      clear hb2
      go_wp2_with fail
      refine (turn_glue b s (i + 1) l cur fm _ HR3.out HH.out.1 HGL.out.1 (by have := HH.out; omega)).mono ?_
      intro e w3 hT
      have hgl := HGL.out
      have hfacts := HH.out
      unfold TurnPost at hT
      by_cases hm : 0 < markN s (i + 1 + 1)
      · rw [if_pos hm] at hT
        obtain ⟨rfl, hb3⟩ := hT
        have HO : Hid (SPost (Gd s) (fun _ => True) b s i l cur fm w (faultE 4 (i + 1 + 1)) w3) := ⟨HB3.out.trans hb3, .inr (.inr ⟨4, i + 1 + 1, rfl, by decide, db_gmark hgl.1 hgl.2.1 hgl.2.2 hm⟩)⟩
        unfold faultE
        exact ⟨rfl, HO.out⟩
      · rw [if_neg hm] at hT
        obtain ⟨rfl, hR4, hb4⟩ := hT
        have hw1 := wh_ge s (i + 1 + 1)
        have hw2 := wh_le s (i + 1 + 1) (by omega)
        have HO : Hid (SPost (Gd s) (fun _ => True) b s i l cur fm w (.returned (.bool true)) w3) := by
          refine ⟨HB3.out.trans hb4, .inl ⟨rfl, _, _, _, 0, ⟨hR4, hfacts.1, hw2, Nat.zero_le _, ?_⟩, by omega, trivial, (Gd_gline hgl.1 hgl.2.1 hgl.2.2 hm).symm⟩⟩
          rw [totC_snoc, List.length_append]
          show totC l + cur.size + (l.length + 1) + 0 ≤ _
          omega
        clear hR4 hb4 hw1 hw2 hm hgl hfacts c1 g1
        go_wp2_with fail
        go_ret
        exact HO.out
    · have HP2 : Hid (pre (s.extract i s.size) ⟨#[92, 10]⟩ = false) := pre2_no (c := 92) (d := 10) HH.out.2.1 (by decide) (by decide) hgl
      have HGL : Hid (¬ (i + 1 < s.size ∧ bt s i = 92 ∧ bt s (i + 1) = 10)) := hgl
      clear hgl
      refine (sees_any b s ⟨#[92, 10]⟩ i l cur fm w1 HR1.out HH.out.2.1 false HP2.out.symm).mono ?_
      rintro e w2 ⟨rfl, hb2⟩
      have HR2 : Hid (RdM b s i l cur fm w2) := HR1.out.stays hb2
      have HB2 : Hid (Fq b w w2) := HB1.out.trans (Fq.of hb2 HLT1.out)
      have HLT2 : Hid (b < w2.heap.size) := HR2.out.lt
      have HV2 : Hid (ErrVar w2) := HV1.out.later hb2
      clear hb2
      go_wp2_with fail
      by_cases h92 : i < s.size ∧ bt s i = 92
      · have HP3 : Hid (pre (s.extract i s.size) ⟨#[92]⟩ = true) := pre1_yes (c := 92) h92.1 (by decide) h92.2
        have H92 : Hid (i < s.size ∧ bt s i = 92) := h92
        clear h92
        refine (sees_any b s ⟨#[92]⟩ i l cur fm w2 HR2.out HH.out.2.1 true HP3.out.symm).mono ?_
        rintro e w3 ⟨rfl, hb3⟩
        have HR3 : Hid (RdM b s i l cur fm w3) := HR2.out.stays hb3
        have HB3 : Hid (Fq b w w3) := HB2.out.trans (Fq.of hb3 HLT2.out)
        have HV3 : Hid (ErrVar w3) := HV2.out.later hb3
        clear hb3
        go_wp2_with fail
        obtain ⟨t, x, hx⟩ : ∃ t x, escAt s i = (t, x) := ⟨_, _, rfl⟩
        refine (escape_any b s i l cur fm w3 HR3.out HH.out.1 HH.out.2.1 HV3.out (by have := HH.out; omega) t x hx).mono ?_
        intro e w4 hE
        have h92 := H92.out
        have hg : ¬ (i + 1 < s.size ∧ bt s (i + 1) = 10) := fun h => HGL.out ⟨h.1, h92.2, h.2⟩
        have hfacts := HH.out
        unfold EscPost at hE
        by_cases hx0 : x = 0
        · subst hx0
          rw [if_pos rfl] at hE
          obtain ⟨rfl, hb4⟩ := hE
          have HO : Hid (SPost (Gd s) (fun _ => True) b s i l cur fm w (faultE 5 i) w4) := ⟨HB3.out.trans hb4, .inr (.inr ⟨5, i, rfl, by decide, db_bad h92.1 h92.2 hg hx⟩)⟩
          unfold faultE
          exact ⟨rfl, HO.out⟩
        · rw [if_neg hx0] at hE
          obtain ⟨rfl, hR4, hb4⟩ := hE
          have hin := esc_in hx hx0
          have HO : Hid (SPost (Gd s) (fun _ => True) b s i l cur fm w (.returned (.bool true)) w4) := by
            refine ⟨HB3.out.trans hb4, .inl ⟨rfl, x, l, _, _, ⟨hR4, hfacts.1, hin.2.1, Nat.le_refl _, ?_⟩, by omega, trivial, (Gd_esc h92.1 h92.2 hg hx hx0).symm⟩⟩
            rw [ByteArray.size_append]
            omega
          clear hR4 hb4 hin hx0 hx hg h92 hfacts
          go_wp2_with fail
          go_ret
          exact HO.out
      · have HP3 : Hid (pre (s.extract i s.size) ⟨#[92]⟩ = false) := pre1_no (c := 92) HH.out.2.1 (by decide) h92
        have H92 : Hid (¬ (i < s.size ∧ bt s i = 92)) := h92
        clear h92
        refine (sees_any b s ⟨#[92]⟩ i l cur fm w2 HR2.out HH.out.2.1 false HP3.out.symm).mono ?_
        rintro e w3 ⟨rfl, hb3⟩
        have HR3 : Hid (RdM b s i l cur fm w3) := HR2.out.stays hb3
        have HB3 : Hid (Fq b w w3) := HB2.out.trans (Fq.of hb3 HLT2.out)
        clear hb3
        go_wp2_with fail
        have hfacts := HH.out
        by_cases hend : i = s.size
        · subst hend
          refine (common_end b s ⟨#[34, 92]⟩ l cur fm w3 HR3.out).mono ?_
          rintro e w4 ⟨rfl, hb4⟩
          have HO : Hid (SPost (Gd s) (fun _ => True) b s s.size l cur fm w (faultE 3 s.size) w4) := ⟨HB3.out.trans hb4, .inr (.inr ⟨3, s.size, rfl, by decide, db_end (Nat.le_refl _)⟩)⟩
          unfold faultE
          exact ⟨rfl, HO.out⟩
        · have hil : i < s.size := by omega
          by_cases h10 : bt s i = 10
          · refine (common_turn b s ⟨#[34, 92]⟩ i l cur fm w3 HR3.out hfacts.1 hil h10 (by omega) hfacts.2.2.1 (by omega)).mono ?_
            intro e w4 hT
            unfold TurnPost at hT
            by_cases hm : 0 < markN s (i + 1)
            · rw [if_pos hm] at hT
              obtain ⟨rfl, hb4⟩ := hT
              have HO : Hid (SPost (Gd s) (fun _ => True) b s i l cur fm w (faultE 4 (i + 1)) w4) := ⟨HB3.out.trans hb4, .inr (.inr ⟨4, i + 1, rfl, by decide, db_mark hil h10 hm⟩)⟩
              unfold faultE
              exact ⟨rfl, HO.out⟩
            · rw [if_neg hm] at hT
              obtain ⟨rfl, hR4, hb4⟩ := hT
              have hw1 := wh_ge s (i + 1)
              have hw2 := wh_le s (i + 1) (by omega)
              have hcz := cutB_size cur fm
              have HO : Hid (SPost (Gd s) (fun _ => True) b s i l cur fm w (.returned (.bool true)) w4) := by
                refine ⟨HB3.out.trans hb4, .inl ⟨rfl, _, _, _, 0, ⟨hR4, hfacts.1, hw2, Nat.zero_le _, ?_⟩, by omega, trivial, (Gd_line hil h10 hm).symm⟩⟩
                rw [totC_snoc, List.length_append]
                show totC l + (cutB cur fm).size + (l.length + 1) + 0 ≤ _
                omega
              clear hR4 hb4 hw1 hw2 hcz hm h10 hil hend hfacts
              go_wp2_with fail
              go_ret
              exact HO.out
          · obtain ⟨j, hj⟩ : ∃ j, fwd q34 s i = j := ⟨_, rfl⟩
            have hge : i ≤ j := by rw [← hj]; exact fwd_ge _ _ _
            have hle : j ≤ s.size := by rw [← hj]; exact fwd_le _ _ _ (Nat.le_of_lt hil)
            have hin := fwd_in q34 s i
            have hne : i < j := by
              rcases Nat.lt_or_ge i j with h | h
              · exact h
              · have hq : q34 (bt s i) = true := by
                  unfold q34 p34
                  have h1 : bt s i ≠ 34 := fun e => H34.out ⟨hil, e⟩
                  have h2 : bt s i ≠ 92 := fun e => H92.out ⟨hil, e⟩
                  simp [h1, h2, h10]
                have h2 := fwd_step hil hq
                have h3 := fwd_ge q34 s (i + 1)
                omega
            refine (common_put b s ⟨#[34, 92]⟩ i j l cur fm w3 p34 q34 p34_signs (fun _ => rfl) hj HR3.out hfacts.1 hil h10 (by omega) (by decide)).mono ?_
            rintro e w4 ⟨rfl, hR4, hb4⟩
            have hchunk := Gd_chunk (s := s) (i := i) (l := l) (cur := cur) (kp := fm) (j - i) (by omega) (fun k h1 h2 => by
              have h3 := hin k h1 (by rw [hj]; omega)
              unfold q34 p34 at h3
              simp at h3
              exact ⟨h3.1.1, h3.2, h3.1.2⟩)
            rw [show i + (j - i) = j by omega] at hchunk
            have HO : Hid (SPost (Gd s) (fun _ => True) b s i l cur fm w (.returned (.bool true)) w4) := by
              refine ⟨HB3.out.trans hb4, .inl ⟨rfl, j, l, _, fm, ⟨hR4, hfacts.1, hle, ?_, ?_⟩, hne, trivial, hchunk.symm⟩⟩
              · rw [ByteArray.size_append]
                omega
              · rw [ByteArray.size_append, ByteArray.size_extract]
                omega
            clear hR4 hb4 hge hle hin hne hchunk hj h10 hil hend hfacts
            go_wp2_with fail
            go_ret
            exact HO.out
end Go.Proofs.YtjpcmmfmdoglkalGreatDoor
/- impl.DoubleAt; its law, where the variable of the library holds an error. -/
namespace Go.Proofs.YtjpcmmfmdoglkalGreatDoor
open Go.ChangeShapes Go.WideShapes Go.ChangeAt Go.RowKit Go.Deep
set_option linter.unusedVariables false
theorem impl_doubleAt (s : ByteArray) (p : Int) (w : World) (hs : s.size ≤ 1048576) (hv : ErrVar w) (T : ByteArray) (E C : Nat) (hr : dbAt s (cl s.size p) = (T, E, C)) :
    Calls Tryz.prog 76 #[.string s, .int .i64 p] w fun e w' => e = .returned (.tuple #[.string T, .int .i64 (E : Int), .int .i64 (C : Int)]) ∧ Below w.heap.size w w' := by
  have hcl := cl_le s.size p
  have cQ := quoted_any 124 (enters_of Tryz.func124 (by kernel_rfl) rfl) (fun w => ErrVar w) (Gd s) (fun _ => True) s ⟨#[34]⟩ p w (doubleStep_any s) trivial (fun w' hb => hv.later hb) hs T E C (by
      rw [← hr]
      unfold dbAt
      by_cases h : cl s.size p < s.size ∧ bt s (cl s.size p) = 34
      · have h2 : pre (s.extract (cl s.size p) s.size) ⟨#[34]⟩ = true := pre1_yes (c := 34) h.1 (by decide) h.2
        rw [if_pos h2, if_neg (by omega)]
        rfl
      · have h2 : pre (s.extract (cl s.size p) s.size) ⟨#[34]⟩ = false := pre1_no (c := 34) hcl (by decide) h
        rw [h2, if_neg (by decide), if_pos]
        by_cases h3 : cl s.size p < s.size
        · exact .inr (fun e => h ⟨h3, e⟩)
        · exact .inl (by omega)) (fun h => by
      have h2 := pre1 s (cl s.size p) 34 hcl (by decide)
      by_cases h3 : cl s.size p < s.size
      · exact h3
      · rw [decide_eq_false h3, Bool.false_and] at h2
        exact absurd (h.symm.trans h2) (by decide))
  clear hr hcl hs hv
  go_enter Tryz.func76, Tryz.ntmps76
  go_wp2_with fail
  refine cQ.mono ?_
  rintro e w1 ⟨rfl, hb1⟩
  clear cQ
  go_wp2_with fail
  go_ret3
  exact ⟨rfl, hb1⟩
end Go.Proofs.YtjpcmmfmdoglkalGreatDoor
