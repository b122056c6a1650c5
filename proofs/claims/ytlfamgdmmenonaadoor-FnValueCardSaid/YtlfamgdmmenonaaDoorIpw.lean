/- impl.IntOf answers 'numOf'. -/
import Derived.Test.YtlfamgdmmenonaaDoorIpv
namespace Go.Proofs.YtlfamgdmmenonaaDoor
open Go.ChangeShapes Go.WideShapes Go.ChangeAt Go.RowKit Go.Shelf
def fin2 (sg R : Int) : Int × Bool := if R < 0 then (0, false) else (sg * R, true)
theorem bt_exI (s : ByteArray) (a b i : Nat) (hb : b ≤ s.size) (hi : a + i < b) : bt (s.extract a b) i = bt s (a + i) := by
  have hz : (s.extract a b).size = b - a := by rw [ByteArray.size_extract]; omega
  unfold bt
  rw [getElem!_pos (s.extract a b).data i (by show i < (s.extract a b).size; omega), getElem!_pos s.data (a + i) (by show a + i < s.size; omega)]
  simp [ByteArray.data_extract]
theorem ext_one {s : ByteArray} {c : UInt8} (h : 0 < s.size) : s.extract 0 1 = ⟨#[c]⟩ ↔ bt s 0 = c.toNat := by
  have hb := bt_exI s 0 1 0 (by omega) (by omega)
  constructor
  · intro e
    rw [e] at hb
    exact hb.symm
  · intro e
    apply ba_ext
    have hl : (s.extract 0 1).data.toList.length = 1 := by
      show (s.extract 0 1).size = 1
      rw [ByteArray.size_extract]; omega
    generalize hL : (s.extract 0 1).data.toList = L at *
    match L, hl with
    | [x], _ =>
      have h2 : bt (s.extract 0 1) 0 = x.toNat := by
        unfold bt
        have : (s.extract 0 1).data = #[x] := by rw [← Array.toList_inj, hL]
        rw [this]
        rfl
      rw [h2] at hb
      have : x = c := by
        apply UInt8.toNat.inj
        rw [hb]
        exact e
      rw [this]
theorem preI_two {s : ByteArray} {a b : UInt8} : preI s ⟨#[a, b]⟩ = true ↔ 2 ≤ s.size ∧ s.extract 0 2 = ⟨#[a, b]⟩ := by
  unfold preI
  rw [decide_eq_true_eq]
  exact Iff.rfl
theorem preI_one {s : ByteArray} {a : UInt8} : preI s ⟨#[a]⟩ = true ↔ 1 ≤ s.size ∧ bt s 0 = a.toNat := by
  unfold preI
  rw [decide_eq_true_eq]
  constructor
  · rintro ⟨h1, h2⟩
    have h1' : 1 ≤ s.size := h1
    exact ⟨h1', (ext_one (by omega)).1 h2⟩
  · rintro ⟨h1, h2⟩
    exact ⟨h1, (ext_one (by omega)).2 h2⟩
theorem two_bt {s : ByteArray} {a b : UInt8} (h2 : 2 ≤ s.size) (h : s.extract 0 2 = ⟨#[a, b]⟩) : bt s 0 = a.toNat ∧ bt s 1 = b.toNat := by
  have h0 := bt_exI s 0 2 0 (by omega) (by omega)
  have h1 := bt_exI s 0 2 1 (by omega) (by omega)
  rw [h] at h0 h1
  exact ⟨h0.symm, h1.symm⟩
theorem dig_two {s : ByteArray} (hz : s.size = 2) (h0 : bt s 0 = 48) (h1 : 10 ≤ dig (bt s 1)) : digV s 10 = -1 := by
  unfold digV
  have e0 : dig (bt s 0) = 0 := by rw [h0]; rfl
  have a := digG_step (s := s) (b := 10) (k := 0) (n := 0) (by omega) (by rw [e0]; omega) (by rw [e0]; omega)
  have b := digG_bad (s := s) (b := 10) (k := 1) (n := 0 * 10 + dig (bt s 0)) (by omega) h1
  rw [Nat.sub_zero] at a
  rw [a]
  exact b
theorem dig_sign {s : ByteArray} (hz : s.size = 1) (h1 : 10 ≤ dig (bt s 0)) : digV s 10 = -1 := by
  unfold digV
  have b := digG_bad (s := s) (b := 10) (k := 0) (n := 0) (by omega) h1
  rw [Nat.sub_zero] at b
  exact b
theorem ext_nil {s : ByteArray} {i : Nat} (h : s.size ≤ i) : (s.extract i s.size).size = 0 := by rw [ByteArray.size_extract]; omega
theorem fin2_one (R : Int) : fin2 1 R = finN R := by unfold fin2 finN; rw [Int.one_mul]
theorem fin2_neg (R : Int) : fin2 (-1) R = negN R := by unfold fin2 negN; split <;> simp
theorem num_cut {s : ByteArray} {sg : Int} {b : Nat} {d : ByteArray} (h : cutV s = (sg, b, d)) : numOf s = fin2 sg (digV d b) := by
  unfold cutV at h
  by_cases p1 : preI s ⟨#[48, 111]⟩ = true
  · rw [if_pos p1] at h
    injection h with e1 h
    injection h with e2 e3
    subst e1; subst e2; subst e3
    obtain ⟨h2, he⟩ := preI_two.1 p1
    rw [fin2_one]
    by_cases hl : 2 < s.size
    · unfold numOf
      rw [if_pos ⟨hl, he⟩]
    · obtain ⟨b0, b1⟩ := two_bt h2 he
      have b0' : bt s 0 = 48 := b0
      unfold numOf
      rw [if_neg (fun h => hl h.1), if_neg (fun h => hl h.1), if_neg (fun h => by have := h.2; omega), if_neg (fun h => by have := h.2; omega), dig_two (by omega) b0' (by rw [b1]; decide), digV_nil (ext_nil (by omega))]
  rw [if_neg p1] at h
  have n1 : ¬ (2 < s.size ∧ s.extract 0 2 = ⟨#[48, 111]⟩) := fun h => p1 (preI_two.2 ⟨by omega, h.2⟩)
  by_cases p2 : preI s ⟨#[48, 120]⟩ = true
  · rw [if_pos p2] at h
    injection h with e1 h
    injection h with e2 e3
    subst e1; subst e2; subst e3
    obtain ⟨h2, he⟩ := preI_two.1 p2
    rw [fin2_one]
    by_cases hl : 2 < s.size
    · unfold numOf
      rw [if_neg n1, if_pos ⟨hl, he⟩]
    · obtain ⟨b0, b1⟩ := two_bt h2 he
      have b0' : bt s 0 = 48 := b0
      unfold numOf
      rw [if_neg (fun h => hl h.1), if_neg (fun h => hl h.1), if_neg (fun h => by have := h.2; omega), if_neg (fun h => by have := h.2; omega), dig_two (by omega) b0' (by rw [b1]; decide), digV_nil (ext_nil (by omega))]
  rw [if_neg p2] at h
  have n2 : ¬ (2 < s.size ∧ s.extract 0 2 = ⟨#[48, 120]⟩) := fun h => p2 (preI_two.2 ⟨by omega, h.2⟩)
  by_cases p3 : preI s ⟨#[45]⟩ = true
  · rw [if_pos p3] at h
    injection h with e1 h
    injection h with e2 e3
    subst e1; subst e2; subst e3
    obtain ⟨h1, b0⟩ := preI_one.1 p3
    have b0' : bt s 0 = 45 := b0
    rw [fin2_neg]
    by_cases hl : 1 < s.size
    · unfold numOf
      rw [if_neg n1, if_neg n2, if_pos ⟨hl, b0'⟩]
    · unfold numOf
      rw [if_neg n1, if_neg n2, if_neg (fun h => hl h.1), if_neg (fun h => hl h.1), dig_sign (by omega) (by rw [b0']; decide), digV_nil (ext_nil (by omega))]
      rfl
  rw [if_neg p3] at h
  have n3 : ¬ (1 < s.size ∧ bt s 0 = 45) := fun h => p3 (preI_one.2 ⟨by omega, h.2⟩)
  injection h with e1 h
  injection h with e2 e3
  subst e1; subst e2; subst e3
  rw [fin2_one]
  unfold trimI
  by_cases p4 : preI s ⟨#[43]⟩ = true
  · rw [if_pos p4]
    obtain ⟨h1, b0⟩ := preI_one.1 p4
    have b0' : bt s 0 = 43 := b0
    by_cases hl : 1 < s.size
    · unfold numOf
      rw [if_neg n1, if_neg n2, if_neg n3, if_pos ⟨hl, b0'⟩]
      rfl
    · unfold numOf
      rw [if_neg n1, if_neg n2, if_neg n3, if_neg (fun h => hl h.1), dig_sign (by omega) (by rw [b0']; decide), digV_nil (ext_nil (show s.size ≤ (ByteArray.mk #[43]).size by show s.size ≤ 1; omega))]
  · rw [if_neg p4]
    have n4 : ¬ (1 < s.size ∧ bt s 0 = 43) := fun h => p4 (preI_one.2 ⟨by omega, h.2⟩)
    unfold numOf
    rw [if_neg n1, if_neg n2, if_neg n3, if_neg n4]
theorem cut_is {s : ByteArray} {sg : Int} {b : Nat} {d : ByteArray} (h : cutV s = (sg, b, d)) : (sg = 1 ∨ sg = -1) ∧ (b = 8 ∨ b = 10 ∨ b = 16) ∧ d.size ≤ s.size := by
  have hx : ∀ i, (s.extract i s.size).size ≤ s.size := fun i => by rw [ByteArray.size_extract]; omega
  unfold cutV at h
  split at h
  · injection h with e1 h; injection h with e2 e3
    subst e1; subst e2; subst e3
    exact ⟨.inl rfl, .inl rfl, hx _⟩
  · split at h
    · injection h with e1 h; injection h with e2 e3
      subst e1; subst e2; subst e3
      exact ⟨.inl rfl, .inr (.inr rfl), hx _⟩
    · split at h
      · injection h with e1 h; injection h with e2 e3
        subst e1; subst e2; subst e3
        exact ⟨.inr rfl, .inr (.inl rfl), hx _⟩
      · injection h with e1 h; injection h with e2 e3
        subst e1; subst e2; subst e3
        refine ⟨.inl rfl, .inr (.inl rfl), ?_⟩
        unfold trimI
        split
        · exact hx _
        · exact Nat.le_refl _
theorem puB_any (t : ByteArray) (b : Nat) (hb : b = 8 ∨ b = 10 ∨ b = 16) (ht : t.size ≤ 1048576) (w : World) (R : Int) (hR : digV t b = R) (hv : NumV w) :
    Calls Tryd.prog 20 #[.string t, .int .i64 (b : Int), .int .i64 64] w fun e w' => PuQ R e ∧ Below w.heap.size w w' := by
  rcases hb with rfl | rfl | rfl
  · exact puB_8 t ht w R hR hv
  · exact puB_10 t ht w R hR hv
  · exact puB_16 t ht w R hR hv
theorem numP_mk {s : ByteArray} {r r' : Int} {b b' : Bool} (h : numOf s = (r, b)) (h1 : r' = r) (h2 : b' = b) : NumP s (.returned (.tuple #[.int .i64 r', .bool b'])) := by
  subst h1; subst h2
  exact ⟨_, _, rfl, h⟩
set_option maxHeartbeats 1000000 in
theorem intOf_I (s : ByteArray) (w : World) (hs : s.size ≤ 1048576) (hv : NumV w) :
    Calls Tryd.prog 8 #[.string s] w fun e w' => NumP s e ∧ Below w.heap.size w w' := by
  obtain ⟨sg, b, d, hc⟩ : ∃ sg b d, cutV s = (sg, b, d) := ⟨_, _, _, rfl⟩
  obtain ⟨hsg, hb, hd⟩ := cut_is hc
  obtain ⟨R, hR⟩ : ∃ R, digV d b = R := ⟨_, rfl⟩
  have hRl := digV_le d b
  have hnum := num_cut hc
  rw [hR] at hRl hnum
  obtain ⟨hR0, hR1⟩ := hRl
  have cC := cut_I s w sg b d hc
  have cP : Hid (∀ w', NumV w' → Calls Tryd.prog 20 #[.string d, .int .i64 (b : Int), .int .i64 64] w' fun e w'' => PuQ R e ∧ Below w'.heap.size w' w'') := fun w' h => puB_any d b hb (by omega) w' R hR h
  have HV : Hid (NumV w) := hv
  generalize hbI : (b : Int) = bI at *
  clear hc hb hd hR hbI hv
  go_enter Tryd.func8, Tryd.ntmps8
  go_wp2_with fail
  refine cC.mono ?_
  rintro e w1 ⟨rfl, hb1⟩
  have HV1 : Hid (NumV w1) := HV.out.later hb1
  have HB1 : Hid (Below w.heap.size w w1) := hb1
  clear hb1 HV
  go_wp2_with fail
  refine (cP.out _ HV1.out).mono ?_
  rintro e w2 ⟨hq, hb2⟩
  have HB2 : Hid (Below w.heap.size w w2) := HB1.out.trans (hb2.mono HB1.out.size)
  clear hb2 HB1 HV1 cP
  rcases hq with ⟨hp, rfl⟩ | ⟨hn, ⟨x, hx, hx2, rfl⟩ | ⟨x, N, rfl⟩⟩
  · unfold fin2 at hnum
    rw [if_neg (by omega)] at hnum
    rcases hsg with rfl | rfl
    · have HE : Hid (numOf s = (1 * R, true)) := hnum
      clear hnum
      go_wp2_with fail
      go_ret2
      exact ⟨numP_mk HE.out (by omega) rfl, HB2.out⟩
    · have HE : Hid (numOf s = (-1 * R, true)) := hnum
      clear hnum
      go_wp2_with fail
      go_ret2
      exact ⟨numP_mk HE.out (by omega) rfl, HB2.out⟩
  · have HE : Hid (numOf s = (0, false)) := by show _ = _; rw [hnum]; unfold fin2; rw [if_pos hn]
    clear hnum hn hsg
    go_wp2_with fail
    go_ret2
    exact ⟨numP_mk HE.out rfl rfl, HB2.out⟩
  · have HE : Hid (numOf s = (0, false)) := by show _ = _; rw [hnum]; unfold fin2; rw [if_pos hn]
    clear hnum hn hsg
    go_wp2_with fail
    go_ret2
    exact ⟨numP_mk HE.out rfl rfl, HB2.out⟩
set_option maxHeartbeats 1000000 in
/-- impl.IntOf under the variables that strconv's errors lie in: the law. -/
theorem law_intOfV (s : ByteArray) (w0 : s.size ≤ maxLen) (w : World) (hv : NumV w) :
    Calls Tryd.prog 4 #[.string s] w fun e w' => e = .returned (.bool true) ∧ Below w.heap.size w w' := by
  unfold maxLen at w0
  by_cases hl : 1048576 < s.size
  · go_enter Tryd.func4, Tryd.ntmps4
    go_wp2_with fail
    go_ret
    exact ⟨rfl, Below.refl _ _⟩
  have hl' : s.size ≤ 1048576 := by omega
  have cI : Hid (Calls Tryd.prog 8 #[.string s] w fun e w'' => NumP s e ∧ Below w.heap.size w w'') := intOf_I s w hl' hv
  clear hv
  go_enter Tryd.func4, Tryd.ntmps4
  go_wp2_with fail
  refine (spec_intOf s (by omega) _).mono ?_
  rintro e w1 ⟨⟨r, b, rfl, hr⟩, hw⟩
  obtain rfl := hw.symm
  have HR : Hid (numOf s = (r, b)) := hr
  clear hr
  go_wp2_with fail
  refine cI.out.mono ?_
  rintro e w2 ⟨⟨r', b', rfl, hr⟩, hb2⟩
  rw [HR.out] at hr
  obtain ⟨rfl, rfl⟩ := Prod.mk.inj hr
  have hrr : (r != r) = false := by simp
  have hbb : (b != b) = false := by simp
  have HB : Hid (Below w.heap.size w w2) := hb2
  clear hb2 HR cI
  go_wp2_with fail
  go_ret
  exact ⟨rfl, HB.out⟩
end Go.Proofs.YtlfamgdmmenonaaDoor
