/- Several texts in one: Msi Lky Iky. -/
import Derived.Test.YtjpcmmfmdoglkalGreatDoorMqt
import Derived.Test.YtjpcmmfmdoglkalGreatDoorSk0
import Derived.OwnWalk
import Derived.Test.YtjpcmmfmdoglkalGreatDoorMkl
import Derived.Test.YtjpcmmfmdoglkalGreatDoorMdb
import Derived.Test.YtjpcmmfmdoglkalGreatDoorMnm
import Derived.Test.YtjpcmmfmdoglkalGreatDoorMip
/- impl.SingleAt, over the merged text of the quotes' reader. -/
namespace Go.Proofs.YtjpcmmfmdoglkalGreatDoor
open Go.ChangeShapes Go.WideShapes Go.ChangeAt Go.RowKit Go.Deep
theorem impl_singleAt (s : ByteArray) (p : Int) (w : World) (hs : s.size ≤ 1048576) (T : ByteArray) (E C : Nat) (hr : sgAt s (cl s.size p) = (T, E, C)) :
    Calls Tryz.prog 75 #[.string s, .int .i64 p] w fun e w' => e = .returned (.tuple #[.string T, .int .i64 (E : Int), .int .i64 (C : Int)]) ∧ Below w.heap.size w w' := by
  have hcl := cl_le s.size p
  have cQ := quoted_any 123 (enters_of Tryz.func123 (by kernel_rfl) rfl) (fun _ => True) (Gs s) (fun fm => fm = 0) s ⟨#[39]⟩ p w (singleStep_any s) rfl (fun _ _ => trivial) hs T E C (by
      rw [← hr]
      unfold sgAt
      by_cases h : cl s.size p < s.size ∧ bt s (cl s.size p) = 39
      · have h2 : pre (s.extract (cl s.size p) s.size) ⟨#[39]⟩ = true := pre1_yes (c := 39) h.1 (by decide) h.2
        rw [if_pos h2, if_neg (by omega)]
        rfl
      · have h2 : pre (s.extract (cl s.size p) s.size) ⟨#[39]⟩ = false := pre1_no (c := 39) hcl (by decide) h
        rw [h2, if_neg (by decide), if_pos]
        by_cases h3 : cl s.size p < s.size
        · exact .inr (fun e => h ⟨h3, e⟩)
        · exact .inl (by omega)) (fun h => by
      have h2 := pre1 s (cl s.size p) 39 hcl (by decide)
      by_cases h3 : cl s.size p < s.size
      · exact h3
      · rw [decide_eq_false h3, Bool.false_and] at h2
        exact absurd (h.symm.trans h2) (by decide))
  clear hr hcl hs
  go_enter Tryz.func75, Tryz.ntmps75
  go_wp2_with fail
  refine cQ.mono ?_
  rintro e w1 ⟨rfl, hb1⟩
  clear cQ
  go_wp2_with fail
  go_ret3
  exact ⟨rfl, hb1⟩
end Go.Proofs.YtjpcmmfmdoglkalGreatDoor
/- The law on KeyAt, walked, over impl's contract and over what it asks. -/
namespace Go.Proofs.YtjpcmmfmdoglkalGreatDoor
open Go.ChangeShapes Go.WideShapes Go.ChangeAt Go.RowKit
def ImplKy (q : Ask) (V : World → Prop) : Prop := ∀ (s : ByteArray) (p : Int) (w : World) (A C : Nat) (B : Bool), s.size ≤ 1048576 → (Lit.int .i64 p).wf = true → V w → keyAt q s (cl s.size p) = (A, C, B) →
    Calls Tryz.prog 12 #[.string s, .int .i64 p] w fun e w' => e = .returned (.tuple #[.int .i64 (A : Int), .int .i64 (C : Int), .bool B]) ∧ Below w.heap.size w w'
theorem law_keyAt {q : Ask} {V : World → Prop} (hL : ∀ w w', V w → Below w.heap.size w w' → V w') (hq : ∀ s : ByteArray, s.size ≤ 1048576 → AskK0 q s) (HI : ImplKy q V) (s : ByteArray) (p : Int) (w0 : s.size ≤ maxLen) (w1 : (Lit.int .i64 p).wf = true) (w : World) (hV : V w) :
    Calls Tryz.prog 4 #[.string s, .int .i64 p] w fun e w' => e = .returned (.bool true) ∧ Below w.heap.size w w' := by
  unfold maxLen at w0
  by_cases hbig : (1048576 : Int) < (s.size : Int)
  · clear HI hL hq hV
    go_enter Tryz.func4, Tryz.ntmps4
    go_wp2_with fail
    go_ret
    exact ⟨rfl, Below.refl _ _⟩
  · have hs : s.size ≤ 1048576 := by omega
    obtain ⟨A, C, B, hr⟩ : ∃ A C B, keyAt q s (cl s.size p) = (A, C, B) := ⟨_, _, _, rfl⟩
    have cS : Hid (Calls Tryz.prog 11 #[.string s, .int .i64 p] w fun e w' => e = .returned (.tuple #[.int .i64 (A : Int), .int .i64 (C : Int), .bool B]) ∧ Below w.heap.size w w') := spec_keyAt0 q s p w hs (hq s hs) A C B hr
    have cI : Hid (∀ w', V w' → Calls Tryz.prog 12 #[.string s, .int .i64 p] w' fun e w'' => e = .returned (.tuple #[.int .i64 (A : Int), .int .i64 (C : Int), .bool B]) ∧ Below w'.heap.size w' w'') := fun w' hv => HI s p w' A C B hs w1 hv hr
    have HVV : Hid (V w ∧ ∀ w w', V w → Below w.heap.size w w' → V w') := ⟨hV, hL⟩
    clear hs hr HI hL hq hV
    go_enter Tryz.func4, Tryz.ntmps4
    go_wp2_with fail
    refine cS.out.mono ?_
    rintro e w2 ⟨rfl, hb2⟩
    have HB2 : Hid (Below w.heap.size w w2) := hb2
    clear cS hb2
    go_wp2_with fail
    refine (cI.out w2 (HVV.out.2 _ _ HVV.out.1 HB2.out)).mono ?_
    rintro e w3 ⟨rfl, hb3⟩
    have HB3 : Hid (Below w.heap.size w w3) := HB2.out.trans (hb3.mono HB2.out.size)
    clear cI hb3
    go_wp2_with fail
    go_ret
    exact ⟨rfl, HB3.out⟩
end Go.Proofs.YtjpcmmfmdoglkalGreatDoor
/- impl.keyEnd and impl.KeyAt. -/
namespace Go.Proofs.YtjpcmmfmdoglkalGreatDoor
open Go.ChangeShapes Go.WideShapes Go.ChangeAt Go.RowKit
def p42q (c : Nat) : Bool := c == 42
theorem p42q_signs : SignsQ p42q ⟨#[42]⟩ := by
  intro x hx
  show p42q x = [42].contains x.toUInt8
  simp only [List.contains_cons, List.contains_nil, u8_eq hx, Bool.or_false, p42q]
  rfl
def p39q (c : Nat) : Bool := c == 39
theorem p39q_signs : SignsQ p39q ⟨#[39]⟩ := by
  intro x hx
  show p39q x = [39].contains x.toUInt8
  simp only [List.contains_cons, List.contains_nil, u8_eq hx, Bool.or_false, p39q]
  rfl
def p34q (c : Nat) : Bool := c == 34
theorem p34q_signs : SignsQ p34q ⟨#[34]⟩ := by
  intro x hx
  show p34q x = [34].contains x.toUInt8
  simp only [List.contains_cons, List.contains_nil, u8_eq hx, Bool.or_false, p34q]
  rfl
def p58q (c : Nat) : Bool := c == 58
theorem p58q_signs : SignsQ p58q ⟨#[58]⟩ := by
  intro x hx
  show p58q x = [58].contains x.toUInt8
  simp only [List.contains_cons, List.contains_nil, u8_eq hx, Bool.or_false, p58q]
  rfl
theorem sgq_yes {P : Nat → Bool} {s : ByteArray} {k : Nat} (h : sgq P s k = true) : k < s.size ∧ P (bt s k) = true := by
  unfold sgq at h
  simpa using h
theorem sgq_no {P : Nat → Bool} {s : ByteArray} {k : Nat} (h : sgq P s k = false) (hk : k < s.size) : P (bt s k) = false := by
  rw [sgq_lt hk] at h
  exact h
theorem bt_out {s : ByteArray} {k : Nat} (h : s.size ≤ k) : bt s k = 0 := by
  unfold bt
  rw [getElem!_neg s.data k (by simpa using h)]
  rfl
def KePost (s : ByteArray) (k : Nat) (w : World) (e : Ending) (w' : World) : Prop := ∃ (A : Nat) (b : Bool), KeyI s k A b ∧ e = .returned (.tuple #[.int .i64 (A : Int), .bool b]) ∧ Below w.heap.size w w'
set_option maxHeartbeats 4000000 in
theorem keyEnd_any (s : ByteArray) (k : Nat) (w : World) (hs : s.size ≤ 1048576) (hk : k ≤ s.size) (hv : ErrVar w) :
    Calls Tryz.prog 35 #[.string s, .int .i64 (k : Int)] w (KePost s k w) := by
  obtain ⟨n, hn⟩ : ∃ n, endL s k = n := ⟨_, rfl⟩
  have hns : n ≤ s.size := by rw [← hn]; exact fwd_le pN s k hk
  have hns' : (n : Int) ≤ (s.size : Int) := by omega
  have hmx : s.size ≤ mx := by unfold mx; omega
  have HN : Hid (endL s k = n) := hn
  have HV : Hid (ErrVar w) := hv
  clear hn hv
  go_enter Tryz.func35, Tryz.ntmps35
  go_wp2_with fail
  refine (endAt_any_nat s k n _ hmx hk HN.out).mono ?_
  rintro e w1 ⟨rfl, hb1⟩
  have HB1 : Hid (Below w.heap.size w w1) := hb1
  clear hb1
  cases h42 : sgq p42q s k with
  | true =>
    have HS : Hid (true = sgq p42q s k) := h42.symm
    clear h42
    go_wp2_with fail
    refine (signQ s ⟨#[42]⟩ k p42q _ true p42q_signs HS.out).mono ?_
    rintro e w2 ⟨rfl, hb2⟩
    have HB2 : Hid (Below w.heap.size w w2) := HB1.out.trans (hb2.mono HB1.out.size)
    clear hb2 HB1
    go_wp2_with fail
    refine (name_any' s (k : Int) _ hmx _ _ _ rfl rfl rfl).mono ?_
    rintro e w3 ⟨rfl, hb3⟩
    have HB3 : Hid (Below w.heap.size w w3) := HB2.out.trans (hb3.mono HB2.out.size)
    clear hb3 HB2
    rw [cl_nat _ _ hk]
    go_wp2_with fail
    go_ret2
    refine ⟨_, _, keyI_name ?_ hk, rfl, HB3.out⟩
    have := (sgq_yes HS.out.symm).2
    simpa [p42q] using this
  | false =>
  have HS : Hid (false = sgq p42q s k) := h42.symm
  clear h42
  go_wp2_with fail
  refine (signQ s ⟨#[42]⟩ k p42q _ false p42q_signs HS.out).mono ?_
  rintro e w2 ⟨rfl, hb2⟩
  have HB2 : Hid (Below w.heap.size w w2) := HB1.out.trans (hb2.mono HB1.out.size)
  clear hb2 HB1
  cases h39 : sgq p39q s k with
  | true =>
    have HS3 : Hid (true = sgq p39q s k) := h39.symm
    clear h39
    go_wp2_with fail
    refine (signQ s ⟨#[39]⟩ k p39q _ true p39q_signs HS3.out).mono ?_
    rintro e w3 ⟨rfl, hb3⟩
    have HB3 : Hid (Below w.heap.size w w3) := HB2.out.trans (hb3.mono HB2.out.size)
    clear hb3 HB2
    obtain ⟨T, E, C, hr⟩ : ∃ T E C, sgAt (upTo s n) k = (T, E, C) := ⟨_, _, _, rfl⟩
    have HR : Hid (sgAt (upTo s n) k = (T, E, C)) := hr
    have HC : Hid (∀ w', Calls Tryz.prog 75 #[.string (s.extract 0 n), .int .i64 (k : Int)] w' fun e w'' => e = .returned (.tuple #[.string T, .int .i64 (E : Int), .int .i64 (C : Int)]) ∧ Below w'.heap.size w' w'') := fun w' => by
      refine impl_singleAt (upTo s n) (k : Int) w' ?_ T E C ?_
      · rw [upTo_size hns]; omega
      · rw [cl_nat _ _ (by rw [upTo_size hns, ← HN.out]; exact fwd_ge pN s k)]
        exact hr
    clear hr
    go_wp2_with fail
    refine (HC.out _).mono ?_
    rintro e w4 ⟨rfl, hb4⟩
    have HB4 : Hid (Below w.heap.size w w4) := HB3.out.trans (hb4.mono HB3.out.size)
    clear hb4 HB3 HC
    have HK : Hid (KeyI s k E (decide (C = 0))) := keyI_single (sgq_yes HS3.out.symm).1 (by have := (sgq_yes HS3.out.symm).2; simpa [p39q] using this) (by rw [HN.out]; exact HR.out)
    by_cases hC : C = 0
    · subst hC
      go_wp2_with fail
      go_ret2
      exact ⟨_, _, HK.out, rfl, HB4.out⟩
    · have tC : ((C : Int) == 0) = false := by rw [beq_eq_false_iff_ne]; omega
      have HK2 : Hid (KeyI s k E false) := by have := HK.out; rw [decide_eq_false hC] at this; exact this
      clear hC HK
      go_wp2_with fail
      go_ret2
      exact ⟨_, _, HK2.out, rfl, HB4.out⟩
  | false =>
  have HS3 : Hid (false = sgq p39q s k) := h39.symm
  clear h39
  go_wp2_with fail
  refine (signQ s ⟨#[39]⟩ k p39q _ false p39q_signs HS3.out).mono ?_
  rintro e w3 ⟨rfl, hb3⟩
  have HB3 : Hid (Below w.heap.size w w3) := HB2.out.trans (hb3.mono HB2.out.size)
  clear hb3 HB2
  cases h34 : sgq p34q s k with
  | true =>
    have HS4 : Hid (true = sgq p34q s k) := h34.symm
    clear h34
    go_wp2_with fail
    refine (signQ s ⟨#[34]⟩ k p34q _ true p34q_signs HS4.out).mono ?_
    rintro e w4 ⟨rfl, hb4⟩
    have HB4 : Hid (Below w.heap.size w w4) := HB3.out.trans (hb4.mono HB3.out.size)
    clear hb4 HB3
    obtain ⟨T, E, C, hr⟩ : ∃ T E C, dbAt (upTo s n) k = (T, E, C) := ⟨_, _, _, rfl⟩
    have HR : Hid (dbAt (upTo s n) k = (T, E, C)) := hr
    have HC : Hid (∀ w', ErrVar w' → Calls Tryz.prog 76 #[.string (s.extract 0 n), .int .i64 (k : Int)] w' fun e w'' => e = .returned (.tuple #[.string T, .int .i64 (E : Int), .int .i64 (C : Int)]) ∧ Below w'.heap.size w' w'') := fun w' hv => by
      refine impl_doubleAt (upTo s n) (k : Int) w' ?_ hv T E C ?_
      · rw [upTo_size hns]; omega
      · rw [cl_nat _ _ (by rw [upTo_size hns, ← HN.out]; exact fwd_ge pN s k)]
        exact hr
    clear hr
    go_wp2_with fail
    refine (HC.out _ (HV.out.later HB4.out)).mono ?_
    rintro e w5 ⟨rfl, hb5⟩
    have HB5 : Hid (Below w.heap.size w w5) := HB4.out.trans (hb5.mono HB4.out.size)
    clear hb5 HB4 HC
    have HK : Hid (KeyI s k E (decide (C = 0))) := keyI_double (sgq_yes HS4.out.symm).1 (by have := (sgq_yes HS4.out.symm).2; simpa [p34q] using this) (by rw [HN.out]; exact HR.out)
    by_cases hC : C = 0
    · subst hC
      go_wp2_with fail
      go_ret2
      exact ⟨_, _, HK.out, rfl, HB5.out⟩
    · have tC : ((C : Int) == 0) = false := by rw [beq_eq_false_iff_ne]; omega
      have HK2 : Hid (KeyI s k E false) := by have := HK.out; rw [decide_eq_false hC] at this; exact this
      clear hC HK
      go_wp2_with fail
      go_ret2
      exact ⟨_, _, HK2.out, rfl, HB5.out⟩
  | false =>
  have HS4 : Hid (false = sgq p34q s k) := h34.symm
  clear h34
  go_wp2_with fail
  refine (signQ s ⟨#[34]⟩ k p34q _ false p34q_signs HS4.out).mono ?_
  rintro e w4 ⟨rfl, hb4⟩
  have HB4 : Hid (Below w.heap.size w w4) := HB3.out.trans (hb4.mono HB3.out.size)
  clear hb4 HB3
  have HNO : Hid (k < s.size → bt s k ≠ 42 ∧ bt s k ≠ 39 ∧ bt s k ≠ 34) := by
    show k < s.size → _
    intro hlt
    have a := sgq_no HS.out.symm hlt
    have b := sgq_no HS3.out.symm hlt
    have c := sgq_no HS4.out.symm hlt
    simp [p42q] at a
    simp [p39q] at b
    simp [p34q] at c
    exact ⟨a, b, c⟩
  clear HS HS3 HS4
  cases hf : plF s k false with
  | true =>
    have HF : Hid (plF s k false = true) := hf
    clear hf
    go_wp2_with fail
    refine (plainFirst_any s (k : Int) false _ hmx true (by rw [cl_nat _ _ hk]; exact HF.out)).mono ?_
    rintro e w5 ⟨rfl, hb5⟩
    have HB5 : Hid (Below w.heap.size w w5) := HB4.out.trans (hb5.mono HB4.out.size)
    clear hb5 HB4
    go_wp2_with fail
    refine (plainEnd_any s (k : Int) false _ hmx (plE s k false) (by rw [cl_nat _ _ hk])).mono ?_
    rintro e w6 ⟨rfl, hb6⟩
    have HB6 : Hid (Below w.heap.size w w6) := HB5.out.trans (hb6.mono HB5.out.size)
    clear hb6 HB5
    go_wp2_with fail
    go_ret2
    have h3 := HNO.out (plE_gt HF.out).2
    exact ⟨_, _, keyI_plain h3.1 h3.2.1 h3.2.2 HF.out hk, rfl, HB6.out⟩
  | false =>
    have HF : Hid (plF s k false = false) := hf
    clear hf
    go_wp2_with fail
    refine (plainFirst_any s (k : Int) false _ hmx false (by rw [cl_nat _ _ hk]; exact HF.out)).mono ?_
    rintro e w5 ⟨rfl, hb5⟩
    have HB5 : Hid (Below w.heap.size w w5) := HB4.out.trans (hb5.mono HB4.out.size)
    clear hb5 HB4
    go_wp2_with fail
    go_ret2
    refine ⟨0, false, ?_, rfl, HB5.out⟩
    by_cases hlt : k < s.size
    · have h3 := HNO.out hlt
      exact keyI_none h3.1 h3.2.1 h3.2.2 HF.out
    · have h0 : bt s k = 0 := bt_out (by omega)
      exact keyI_none (by rw [h0]; decide) (by rw [h0]; decide) (by rw [h0]; decide) HF.out
set_option maxHeartbeats 4000000 in
theorem implKy : ImplKy qK ErrVar := by
  intro s p w A C B hs hw hv hr
  have hcl := cl_le s.size p
  have hmx : s.size ≤ mx := by unfold mx; omega
  have HR : Hid (keyAt qK s (cl s.size p) = (A, C, B)) := hr
  have HV : Hid (ErrVar w) := hv
  clear hr hw hv
  go_enter Tryz.func12, Tryz.ntmps12
  go_wp2_with fail
  refine (bring_any s p _ hmx).mono ?_
  rintro e w ⟨rfl, rfl⟩
  generalize cl s.size p = k at *
  go_wp2_with fail
  refine (keyEnd_any s k _ hs hcl HV.out).mono ?_
  rintro e w1 ⟨E, b, hK, rfl, hb1⟩
  have HK : Hid (KeyI s k E b) := hK
  have HB1 : Hid (Below w.heap.size w w1) := hb1
  clear hK hb1
  cases b with
  | false =>
    have HF : Hid (((0 : Nat), (0 : Nat), false) = (A, C, B)) := by
      show _ = _
      rw [← HR.out]
      unfold keyAt
      split
      · rfl
      · rw [HK.out.2 rfl]
        exact (kw_same rfl).symm
    clear HR HK
    go_wp2_with fail
    go_ret3
    exact ⟨ret_key HF.out, HB1.out⟩
  | true =>
  obtain ⟨hE, hkE, hEs⟩ := HK.out.1 rfl
  have HW2 : Hid (keyW s k E = (A, C, B)) := by
    show _ = _
    rw [← HR.out]
    unfold keyAt
    rw [if_neg (by omega), hE]
  clear HR HK hE
  have hkE' : (k : Int) ≤ (E : Int) := by omega
  have hEs' : (E : Int) ≤ 1048576 := by omega
  have hk0 : (0 : Int) ≤ (k : Int) := by omega
  by_cases hlo : 1000 < E - k
  · have tL : (1000 : Int) < (E : Int) - (k : Int) := by omega
    have HF : Hid (((0 : Nat), (0 : Nat), false) = (A, C, B)) := by
      show _ = _
      rw [← HW2.out]
      exact (kw_long hlo).symm
    clear HW2 hlo
    go_wp2_with fail
    go_ret3
    exact ⟨ret_key HF.out, HB1.out⟩
  have tL : ¬ (1000 : Int) < (E : Int) - (k : Int) := by omega
  obtain ⟨W, hW⟩ : ∃ W, wh s E = W := ⟨_, rfl⟩
  have hWs : W ≤ s.size := by rw [← hW]; exact fwd_le pW s E hEs
  have HW : Hid (wh s E = W) := hW
  clear hW
  go_wp2_with fail
  refine (white_any_nat s E W _ hmx hEs HW.out).mono ?_
  rintro e w2 ⟨rfl, hb2⟩
  have HB2 : Hid (Below w.heap.size w w2) := HB1.out.trans (hb2.mono HB1.out.size)
  clear hb2 HB1
  cases h58 : sgq p58q s W with
  | false =>
    have HS : Hid (false = sgq p58q s W) := h58.symm
    have HF : Hid (((0 : Nat), (0 : Nat), false) = (A, C, B)) := by
      show _ = _
      rw [← HW2.out]
      by_cases hlt : W < s.size
      · have := sgq_no h58 hlt
        exact (kw_sign HW.out (by simpa [p58q] using this)).symm
      · exact (kw_end HW.out (by omega)).symm
    clear HW2 hlo h58
    go_wp2_with fail
    refine (signQ s ⟨#[58]⟩ W p58q _ false p58q_signs HS.out).mono ?_
    rintro e w3 ⟨rfl, hb3⟩
    have HB3 : Hid (Below w.heap.size w w3) := HB2.out.trans (hb3.mono HB2.out.size)
    clear hb3 HB2
    go_wp2_with fail
    go_ret3
    exact ⟨ret_key HF.out, HB3.out⟩
  | true =>
  have HS : Hid (true = sgq p58q s W) := h58.symm
  obtain ⟨hWl, hW58⟩ := sgq_yes h58
  have h58b : bt s W = 58 := by simpa [p58q] using hW58
  have hWl' : (W : Int) < (s.size : Int) := by omega
  clear h58 hW58
  have HB58 : Hid (bt s W = 58) := h58b
  clear h58b
  go_wp2_with fail
  refine (signQ s ⟨#[58]⟩ W p58q _ true p58q_signs HS.out).mono ?_
  rintro e w3 ⟨rfl, hb3⟩
  have HB3 : Hid (Below w.heap.size w w3) := HB2.out.trans (hb3.mono HB2.out.size)
  clear hb3 HB2
  have hW1 : W + 1 ≤ s.size := by omega
  cases hg : gapP s (W + 1) with
  | false =>
    have HG : Hid (false = gapP s (W + 1)) := hg.symm
    have HF : Hid (((0 : Nat), (0 : Nat), false) = (A, C, B)) := by
      show _ = _
      rw [← HW2.out]
      exact (kw_nogap HW.out hg).symm
    clear HW2 hlo hg
    go_wp2_with fail
    refine (gapAt_any s (W + 1) _ false hW1 HG.out).mono ?_
    rintro e w4 ⟨rfl, hb4⟩
    have HB4 : Hid (Below w.heap.size w w4) := HB3.out.trans (hb4.mono HB3.out.size)
    clear hb4 HB3
    go_wp2_with fail
    go_ret3
    exact ⟨ret_key HF.out, HB4.out⟩
  | true =>
    have HG : Hid (true = gapP s (W + 1)) := hg.symm
    have HF : Hid ((E, W, true) = (A, C, B)) := by
      show _ = _
      rw [← HW2.out]
      exact (kw_yes HW.out (by omega) hlo (by omega) HB58.out hg).symm
    clear HW2 hlo hg
    go_wp2_with fail
    refine (gapAt_any s (W + 1) _ true hW1 HG.out).mono ?_
    rintro e w4 ⟨rfl, hb4⟩
    have HB4 : Hid (Below w.heap.size w w4) := HB3.out.trans (hb4.mono HB3.out.size)
    clear hb4 HB3
    go_wp2_with fail
    go_ret3
    exact ⟨ret_key HF.out, HB4.out⟩
theorem law_keyAtV (s : ByteArray) (p : Int) (w0 : s.size ≤ maxLen) (w1 : (Lit.int .i64 p).wf = true) (w : World) (hv : ErrVar w) :
    Calls Tryz.prog 4 #[.string s, .int .i64 p] w fun e w' => e = .returned (.bool true) ∧ Below w.heap.size w w' :=
  law_keyAt (fun _ _ h hb => h.later hb) askK0_K implKy s p w0 w1 w hv
end Go.Proofs.YtjpcmmfmdoglkalGreatDoor
