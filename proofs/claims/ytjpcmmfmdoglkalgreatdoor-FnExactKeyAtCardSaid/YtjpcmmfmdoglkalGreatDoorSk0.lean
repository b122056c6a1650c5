/- The contracts of spec.l11Dash, l11OneLine and KeyAt. -/
import Derived.Test.YtjpcmmfmdoglkalGreatDoorMev
import Derived.Test.YtjpcmmfmdoglkalGreatDoorSpe
import Derived.Test.YtjpcmmfmdoglkalGreatDoorPap
import Derived.Test.YtjpcmmfmdoglkalGreatDoorSmk
import Derived.OwnWalk
namespace Go.Proofs.YtjpcmmfmdoglkalGreatDoor
open Go.ChangeShapes Go.WideShapes Go.ChangeAt Go.RowKit
theorem dash_any (s : ByteArray) (k : Nat) (w : World) (hs : s.size ≤ 1048576) (hk : k ≤ s.size) (b : Bool) (hb : dashP s k = b) :
    Calls Tryz.prog 87 #[.string s, .int .i64 (k : Int)] w fun e w' => e = .returned (.bool b) ∧ w' = w := by
  have HB : Hid (dashP s k = b) := hb
  clear hb
  by_cases hlt : k < s.size
  · have hlt' : (k : Int) < (s.size : Int) := by omega
    have hg := bt_get s k hlt
    by_cases h45 : bt s k = 45
    · have t45 : (((s[k]'hlt).toNat : Int) == 45) = true := by rw [hg, h45]; rfl
      have HG : Hid (b = gapP s (k + 1)) := by
        show b = gapP s (k + 1)
        rw [← HB.out]
        unfold dashP
        rw [decide_eq_true hlt, h45]
        simp
      clear hg h45 HB
      go_enter Tryz.func87, Tryz.ntmps87
      go_wp2_with fail
      refine (spec_gap1 s (k + 1) _ b HG.out).mono ?_
      rintro e w1 ⟨rfl, rfl⟩
      go_wp2_with fail
      go_ret
      exact ⟨ret_bool rfl, rfl⟩
    · have t45 : (((s[k]'hlt).toNat : Int) == 45) = false := by rw [hg, beq_eq_false_iff_ne]; omega
      have HF : Hid (false = b) := by
        show false = b
        rw [← HB.out]
        unfold dashP
        rw [show (bt s k == 45) = false from by rw [beq_eq_false_iff_ne]; exact h45]
        simp
      clear hg h45 HB
      go_enter Tryz.func87, Tryz.ntmps87
      go_wp2_with fail
      go_ret
      exact ⟨ret_bool HF.out, rfl⟩
  · have hlt' : ¬ (k : Int) < (s.size : Int) := by omega
    have HF : Hid (false = b) := by
      show false = b
      rw [← HB.out]
      unfold dashP
      rw [decide_eq_false hlt]
      rfl
    clear hlt HB
    go_enter Tryz.func87, Tryz.ntmps87
    go_wp2_with fail
    go_ret
    exact ⟨ret_bool HF.out, rfl⟩
theorem oneLine_any (s : ByteArray) (k x : Nat) (w : World) (hs : s.size ≤ 1048576) (hk : k ≤ s.size) (b : Bool) (hb : decide (x ≤ endL s k) = b) :
    Calls Tryz.prog 28 #[.string s, .int .i64 (k : Int), .int .i64 (x : Int)] w fun e w' => e = .returned (.bool b) ∧ w' = w := by
  obtain ⟨v, hv⟩ : ∃ v, endL s k = v := ⟨_, rfl⟩
  rw [hv] at hb
  have HC : Hid (endL s k = v) := hv
  have hsm : s.size ≤ mx := by unfold mx; omega
  clear hv
  by_cases h : x ≤ v
  · have h' : (x : Int) ≤ (v : Int) := by omega
    have HF : Hid (true = b) := by show true = b; rw [← hb, decide_eq_true h]
    clear hb h
    go_enter Tryz.func28, Tryz.ntmps28
    go_wp2_with fail
    refine (spec_end_nat s k v _ hsm hk HC.out).mono ?_
    rintro e w1 ⟨rfl, rfl⟩
    go_wp2_with fail
    go_ret
    exact ⟨ret_bool (by rw [← HF.out]; try (first | rfl | exact decide_eq_true (by omega))), rfl⟩
  · have h' : ¬ (x : Int) ≤ (v : Int) := by omega
    have HF : Hid (false = b) := by show false = b; rw [← hb, decide_eq_false h]
    clear hb h
    go_enter Tryz.func28, Tryz.ntmps28
    go_wp2_with fail
    refine (spec_end_nat s k v _ hsm hk HC.out).mono ?_
    rintro e w1 ⟨rfl, rfl⟩
    go_wp2_with fail
    go_ret
    exact ⟨ret_bool (by rw [← HF.out]; try (first | rfl | exact decide_eq_false (by omega))), rfl⟩
/-- What KeyAt asks, and no more. -/
structure AskK0 (q : Ask) (s : ByteArray) : Prop where
  name : ∀ (k : Nat) (w : World) (t : ByteArray) (x : Nat) (r : Bool), k ≤ s.size → q.name s k = (t, x, r) → Calls Tryz.prog 26 #[.string s, .int .i64 (k : Int)] w fun e w' => e = .returned (.tuple #[.string t, .int .i64 (x : Int), .bool r]) ∧ w' = w
  single : ∀ (k : Nat) (w : World) (t : ByteArray) (x c : Nat), k ≤ s.size → q.single s k = (t, x, c) → Calls Tryz.prog 27 #[.string s, .int .i64 (k : Int)] w fun e w' => e = .returned (.tuple #[.string t, .int .i64 (x : Int), .int .i64 (c : Int)]) ∧ Below w.heap.size w w'
  double : ∀ (k : Nat) (w : World) (t : ByteArray) (x c : Nat), k ≤ s.size → q.double s k = (t, x, c) → Calls Tryz.prog 29 #[.string s, .int .i64 (k : Int)] w fun e w' => e = .returned (.tuple #[.string t, .int .i64 (x : Int), .int .i64 (c : Int)]) ∧ Below w.heap.size w w'
  first : ∀ (k : Nat) (fl : Bool) (w : World) (r : Bool), k ≤ s.size → q.first s k fl = r → Calls Tryz.prog 30 #[.string s, .int .i64 (k : Int), .bool fl] w fun e w' => e = .returned (.bool r) ∧ Below w.heap.size w w'
  nameIn : ∀ (k : Nat) (t : ByteArray) (x : Nat), k ≤ s.size → q.name s k = (t, x, true) → k < x ∧ x ≤ s.size
  singleIn : ∀ (k : Nat) (t : ByteArray) (x : Nat), k ≤ s.size → q.single s k = (t, x, 0) → k < x ∧ x ≤ s.size
  doubleIn : ∀ (k : Nat) (t : ByteArray) (x : Nat), k ≤ s.size → q.double s k = (t, x, 0) → k < x ∧ x ≤ s.size
theorem ret_key {A C a c : Nat} {B b : Bool} (h : (a, c, b) = (A, C, B)) : Ending.returned (.tuple #[.int .i64 (a : Int), .int .i64 (c : Int), .bool b]) = .returned (.tuple #[.int .i64 (A : Int), .int .i64 (C : Int), .bool B]) := by
  injection h with h1 h2
  injection h2 with h2 h3
  rw [h1, h2, h3]
section
variable {s : ByteArray} {p e w : Nat}
theorem kw_same (h : e = p) : keyW s p e = (0, 0, false) := by unfold keyW keyNo; rw [decide_eq_true h]; rfl
theorem kw_long (h : 1000 < e - p) : keyW s p e = (0, 0, false) := by unfold keyW keyNo; rw [decide_eq_true h]; simp
theorem kw_end (hw : wh s e = w) (h : s.size ≤ w) : keyW s p e = (0, 0, false) := by unfold keyW keyNo; rw [hw, decide_eq_true h]; simp
theorem kw_sign (hw : wh s e = w) (h : bt s w ≠ 58) : keyW s p e = (0, 0, false) := by unfold keyW keyNo; rw [hw, decide_eq_true h]; simp
theorem kw_nogap (hw : wh s e = w) (h : gapP s (w + 1) = false) : keyW s p e = (0, 0, false) := by unfold keyW keyNo; rw [hw, h]; simp
theorem kw_yes (hw : wh s e = w) (h1 : e ≠ p) (h2 : ¬ 1000 < e - p) (h3 : ¬ s.size ≤ w) (h4 : bt s w = 58) (h : gapP s (w + 1) = true) : keyW s p e = (e, w, true) := by
  unfold keyW keyNo; rw [hw, h, decide_eq_false h1, decide_eq_false h2, decide_eq_false h3, h4]; rfl
end
set_option maxHeartbeats 16000000 in
theorem spec_keyAt0 (q : Ask) (s : ByteArray) (p : Int) (w : World) (hs : s.size ≤ 1048576) (hq : AskK0 q s) (A C : Nat) (B : Bool) (hr : keyAt q s (cl s.size p) = (A, C, B)) :
    Calls Tryz.prog 11 #[.string s, .int .i64 p] w fun e w' => e = .returned (.tuple #[.int .i64 (A : Int), .int .i64 (C : Int), .bool B]) ∧ Below w.heap.size w w' := by
  have hcl := cl_le s.size p
  have hsm : s.size ≤ mx := by unfold mx; omega
  have HQ : Hid (AskK0 q s) := hq
  have HV : Hid (keyAt q s (cl s.size p) = (A, C, B)) := hr
  clear hr hq
  go_enter Tryz.func11, Tryz.ntmps11
  go_wp2_with fail
  refine (l01P_any _ _ _ hsm).mono ?_
  rintro e w ⟨rfl, rfl⟩
  generalize cl s.size p = k at *
  by_cases hlt : k < s.size
  case neg =>
    have hlt' : (s.size : Int) ≤ (k : Int) := by omega
    have HF : Hid (((0 : Nat), (0 : Nat), false) = (A, C, B)) := by
      show _ = _
      rw [← HV.out]
      unfold keyAt
      rw [if_pos (by omega)]
    clear HV hlt
    go_wp2_with fail
    go_ret3
    exact ⟨ret_key HF.out, Below.refl _ _⟩
  have hlt' : ¬ (s.size : Int) ≤ (k : Int) := by omega
  have hlt2 : (k : Int) < (s.size : Int) := by omega
  have hg := bt_get s k hlt
  have HK : Hid (∀ E, keyE q s k = E → keyW s k E = (A, C, B)) := by
    show ∀ E, _
    intro E hE
    rw [← HV.out]
    unfold keyAt
    rw [if_neg (by omega), hE]
  clear HV
  by_cases h42 : bt s k = 42
  · have t42 : (((s[k]'hlt).toNat : Int) == 42) = true := by rw [hg, h42]; rfl
    obtain ⟨T, E, R, hnm⟩ : ∃ T E R, q.name s k = (T, E, R) := ⟨_, _, _, rfl⟩
    have HC : Hid (∀ w', Calls Tryz.prog 26 #[.string s, .int .i64 (k : Int)] w' fun e w'' => e = .returned (.tuple #[.string T, .int .i64 (E : Int), .bool R]) ∧ w'' = w') := fun w' => HQ.out.name k w' T E R hcl hnm
    cases R with
    | true =>
      obtain ⟨hkE, hEs⟩ := HQ.out.nameIn k T E hcl hnm
      have HV2 : Hid (keyW s k E = (A, C, B)) := by
        refine HK.out E ?_
        unfold keyE
        rw [if_pos h42, hnm]
        rfl
      clear HK hnm hg h42
      go_wp2_with fail
      refine (HC.out _).mono ?_
      rintro e w1 ⟨rfl, rfl⟩
      clear HC
      by_cases hek : E = k
      · subst hek
        have HF : Hid (((0 : Nat), (0 : Nat), false) = (A, C, B)) := by
          show _ = _
          rw [← HV2.out]
          exact (kw_same rfl).symm
        clear HV2
        have tE : ((E : Int) == (E : Int)) = true := beq_self_eq_true _
        obtain ⟨W, hW⟩ : ∃ W, wh s E = W := ⟨_, rfl⟩
        have hWs : W ≤ s.size := by rw [← hW]; exact fwd_le pW s E hEs
        have HW : Hid (wh s E = W) := hW
        clear hW
        go_wp2_with fail
        refine (spec_white_nat s E W _ hsm hEs HW.out).mono ?_
        rintro e w8 ⟨rfl, rfl⟩
        go_wp2_with fail
        go_ret3
        exact ⟨ret_key HF.out, Below.refl _ _⟩
      have tE : ((E : Int) == (k : Int)) = false := by rw [beq_eq_false_iff_ne]; omega
      have hkE' : (k : Int) ≤ (E : Int) := by omega
      have hEs' : (E : Int) ≤ 1048576 := by omega
      obtain ⟨W, hW⟩ : ∃ W, wh s E = W := ⟨_, rfl⟩
      have hWs : W ≤ s.size := by rw [← hW]; exact fwd_le pW s E hEs
      have HW : Hid (wh s E = W) := hW
      clear hW
      by_cases hlo : 1000 < E - k
      · have tL : (1000 : Int) < (E : Int) - (k : Int) := by omega
        have HF : Hid (((0 : Nat), (0 : Nat), false) = (A, C, B)) := by
          show _ = _
          rw [← HV2.out]
          exact (kw_long hlo).symm
        clear HV2 hlo hek
        go_wp2_with fail
        refine (spec_white_nat s E W _ hsm hEs HW.out).mono ?_
        rintro e w8 ⟨rfl, rfl⟩
        go_wp2_with fail
        go_ret3
        exact ⟨ret_key HF.out, Below.refl _ _⟩
      have tL : ¬ (1000 : Int) < (E : Int) - (k : Int) := by omega
      by_cases hwl : W < s.size
      case neg =>
        have tW : (s.size : Int) ≤ (W : Int) := by omega
        have HF : Hid (((0 : Nat), (0 : Nat), false) = (A, C, B)) := by
          show _ = _
          rw [← HV2.out]
          exact (kw_end HW.out (by omega)).symm
        clear HV2 hlo hek hwl
        go_wp2_with fail
        refine (spec_white_nat s E W _ hsm hEs HW.out).mono ?_
        rintro e w8 ⟨rfl, rfl⟩
        go_wp2_with fail
        go_ret3
        exact ⟨ret_key HF.out, Below.refl _ _⟩
      have tW : ¬ (s.size : Int) ≤ (W : Int) := by omega
      have tW2 : (W : Int) < (s.size : Int) := by omega
      have hgW := bt_get s W hwl
      by_cases h58 : bt s W = 58
      case neg =>
        have tS : (((s[W]'hwl).toNat : Int) != 58) = true := by rw [hgW, bne_iff_ne]; omega
        have HF : Hid (((0 : Nat), (0 : Nat), false) = (A, C, B)) := by
          show _ = _
          rw [← HV2.out]
          exact (kw_sign HW.out h58).symm
        clear HV2 hlo hek h58 hgW
        go_wp2_with fail
        refine (spec_white_nat s E W _ hsm hEs HW.out).mono ?_
        rintro e w8 ⟨rfl, rfl⟩
        go_wp2_with fail
        go_ret3
        exact ⟨ret_key HF.out, Below.refl _ _⟩
      have tS : (((s[W]'hwl).toNat : Int) != 58) = false := by rw [hgW, h58]; rfl
      cases hga : gapP s (W + 1) with
      | false =>
        have HF : Hid (((0 : Nat), (0 : Nat), false) = (A, C, B)) := by
          show _ = _
          rw [← HV2.out]
          exact (kw_nogap HW.out hga).symm
        have HG : Hid (false = gapP s (W + 1)) := hga.symm
        clear HV2 hlo hek h58 hgW hga
        go_wp2_with fail
        refine (spec_white_nat s E W _ hsm hEs HW.out).mono ?_
        rintro e w8 ⟨rfl, rfl⟩
        go_wp2_with fail
        refine (spec_gap1 s (W + 1) _ false HG.out).mono ?_
        rintro e w9 ⟨rfl, rfl⟩
        go_wp2_with fail
        go_ret3
        exact ⟨ret_key HF.out, Below.refl _ _⟩
      | true =>
        have HF : Hid ((E, W, true) = (A, C, B)) := by
          show _ = _
          rw [← HV2.out]
          exact (kw_yes HW.out hek hlo (by omega) h58 hga).symm
        have HG : Hid (true = gapP s (W + 1)) := hga.symm
        clear HV2 hlo hek h58 hgW hga
        go_wp2_with fail
        refine (spec_white_nat s E W _ hsm hEs HW.out).mono ?_
        rintro e w8 ⟨rfl, rfl⟩
        go_wp2_with fail
        refine (spec_gap1 s (W + 1) _ true HG.out).mono ?_
        rintro e w9 ⟨rfl, rfl⟩
        go_wp2_with fail
        go_ret3
        exact ⟨ret_key HF.out, Below.refl _ _⟩
    | false =>
      have HV2 : Hid (keyW s k k = (A, C, B)) := by
        refine HK.out k ?_
        unfold keyE
        rw [if_pos h42, hnm]
        rfl
      clear HK hnm hg h42
      go_wp2_with fail
      refine (HC.out _).mono ?_
      rintro e w1 ⟨rfl, rfl⟩
      clear HC
      have HF : Hid (((0 : Nat), (0 : Nat), false) = (A, C, B)) := by
        show _ = _
        rw [← HV2.out]
        exact (kw_same rfl).symm
      clear HV2
      have tE : ((k : Int) == (k : Int)) = true := beq_self_eq_true _
      obtain ⟨W, hW⟩ : ∃ W, wh s k = W := ⟨_, rfl⟩
      have hWs : W ≤ s.size := by rw [← hW]; exact fwd_le pW s k hcl
      have HW : Hid (wh s k = W) := hW
      clear hW
      go_wp2_with fail
      refine (spec_white_nat s k W _ hsm hcl HW.out).mono ?_
      rintro e w8 ⟨rfl, rfl⟩
      go_wp2_with fail
      go_ret3
      exact ⟨ret_key HF.out, Below.refl _ _⟩
  have t42 : (((s[k]'hlt).toNat : Int) == 42) = false := by rw [hg, beq_eq_false_iff_ne]; omega
  by_cases h39 : bt s k = 39
  · have t39 : (((s[k]'hlt).toNat : Int) == 39) = true := by rw [hg, h39]; rfl
    obtain ⟨T, E, R, hnm⟩ : ∃ T E R, q.single s k = (T, E, R) := ⟨_, _, _, rfl⟩
    have HC : Hid (∀ w', Calls Tryz.prog 27 #[.string s, .int .i64 (k : Int)] w' fun e w'' => e = .returned (.tuple #[.string T, .int .i64 (E : Int), .int .i64 (R : Int)]) ∧ Below w'.heap.size w' w'') := fun w' => HQ.out.single k w' T E R hcl hnm
    by_cases hR : R = 0
    · subst hR
      obtain ⟨hkE, hEs⟩ := HQ.out.singleIn k T E hcl hnm
      by_cases hol : E ≤ endL s k
      · have HV2 : Hid (keyW s k E = (A, C, B)) := by
          refine HK.out E ?_
          unfold keyE
          rw [if_neg h42, if_pos h39, hnm]
          exact if_pos ⟨rfl, hol⟩
        have HOL : Hid (decide (E ≤ endL s k) = true) := decide_eq_true hol
        clear HK hnm hg h39 h42 hol
        go_wp2_with fail
        refine (HC.out _).mono ?_
        rintro e w1 ⟨rfl, hb1⟩
        have HB1 : Hid (Below w.heap.size w w1) := hb1
        clear HC hb1
        go_wp2_with fail
        refine (oneLine_any s k E _ hs hcl true HOL.out).mono ?_
        rintro e w2 ⟨rfl, rfl⟩
        by_cases hek : E = k
        · subst hek
          have HF : Hid (((0 : Nat), (0 : Nat), false) = (A, C, B)) := by
            show _ = _
            rw [← HV2.out]
            exact (kw_same rfl).symm
          clear HV2
          have tE : ((E : Int) == (E : Int)) = true := beq_self_eq_true _
          obtain ⟨W, hW⟩ : ∃ W, wh s E = W := ⟨_, rfl⟩
          have hWs : W ≤ s.size := by rw [← hW]; exact fwd_le pW s E hEs
          have HW : Hid (wh s E = W) := hW
          clear hW
          go_wp2_with fail
          refine (spec_white_nat s E W _ hsm hEs HW.out).mono ?_
          rintro e w8 ⟨rfl, rfl⟩
          go_wp2_with fail
          go_ret3
          exact ⟨ret_key HF.out, HB1.out⟩
        have tE : ((E : Int) == (k : Int)) = false := by rw [beq_eq_false_iff_ne]; omega
        have hkE' : (k : Int) ≤ (E : Int) := by omega
        have hEs' : (E : Int) ≤ 1048576 := by omega
        obtain ⟨W, hW⟩ : ∃ W, wh s E = W := ⟨_, rfl⟩
        have hWs : W ≤ s.size := by rw [← hW]; exact fwd_le pW s E hEs
        have HW : Hid (wh s E = W) := hW
        clear hW
        by_cases hlo : 1000 < E - k
        · have tL : (1000 : Int) < (E : Int) - (k : Int) := by omega
          have HF : Hid (((0 : Nat), (0 : Nat), false) = (A, C, B)) := by
            show _ = _
            rw [← HV2.out]
            exact (kw_long hlo).symm
          clear HV2 hlo hek
          go_wp2_with fail
          refine (spec_white_nat s E W _ hsm hEs HW.out).mono ?_
          rintro e w8 ⟨rfl, rfl⟩
          go_wp2_with fail
          go_ret3
          exact ⟨ret_key HF.out, HB1.out⟩
        have tL : ¬ (1000 : Int) < (E : Int) - (k : Int) := by omega
        by_cases hwl : W < s.size
        case neg =>
          have tW : (s.size : Int) ≤ (W : Int) := by omega
          have HF : Hid (((0 : Nat), (0 : Nat), false) = (A, C, B)) := by
            show _ = _
            rw [← HV2.out]
            exact (kw_end HW.out (by omega)).symm
          clear HV2 hlo hek hwl
          go_wp2_with fail
          refine (spec_white_nat s E W _ hsm hEs HW.out).mono ?_
          rintro e w8 ⟨rfl, rfl⟩
          go_wp2_with fail
          go_ret3
          exact ⟨ret_key HF.out, HB1.out⟩
        have tW : ¬ (s.size : Int) ≤ (W : Int) := by omega
        have tW2 : (W : Int) < (s.size : Int) := by omega
        have hgW := bt_get s W hwl
        by_cases h58 : bt s W = 58
        case neg =>
          have tS : (((s[W]'hwl).toNat : Int) != 58) = true := by rw [hgW, bne_iff_ne]; omega
          have HF : Hid (((0 : Nat), (0 : Nat), false) = (A, C, B)) := by
            show _ = _
            rw [← HV2.out]
            exact (kw_sign HW.out h58).symm
          clear HV2 hlo hek h58 hgW
          go_wp2_with fail
          refine (spec_white_nat s E W _ hsm hEs HW.out).mono ?_
          rintro e w8 ⟨rfl, rfl⟩
          go_wp2_with fail
          go_ret3
          exact ⟨ret_key HF.out, HB1.out⟩
        have tS : (((s[W]'hwl).toNat : Int) != 58) = false := by rw [hgW, h58]; rfl
        cases hga : gapP s (W + 1) with
        | false =>
          have HF : Hid (((0 : Nat), (0 : Nat), false) = (A, C, B)) := by
            show _ = _
            rw [← HV2.out]
            exact (kw_nogap HW.out hga).symm
          have HG : Hid (false = gapP s (W + 1)) := hga.symm
          clear HV2 hlo hek h58 hgW hga
          go_wp2_with fail
          refine (spec_white_nat s E W _ hsm hEs HW.out).mono ?_
          rintro e w8 ⟨rfl, rfl⟩
          go_wp2_with fail
          refine (spec_gap1 s (W + 1) _ false HG.out).mono ?_
          rintro e w9 ⟨rfl, rfl⟩
          go_wp2_with fail
          go_ret3
          exact ⟨ret_key HF.out, HB1.out⟩
        | true =>
          have HF : Hid ((E, W, true) = (A, C, B)) := by
            show _ = _
            rw [← HV2.out]
            exact (kw_yes HW.out hek hlo (by omega) h58 hga).symm
          have HG : Hid (true = gapP s (W + 1)) := hga.symm
          clear HV2 hlo hek h58 hgW hga
          go_wp2_with fail
          refine (spec_white_nat s E W _ hsm hEs HW.out).mono ?_
          rintro e w8 ⟨rfl, rfl⟩
          go_wp2_with fail
          refine (spec_gap1 s (W + 1) _ true HG.out).mono ?_
          rintro e w9 ⟨rfl, rfl⟩
          go_wp2_with fail
          go_ret3
          exact ⟨ret_key HF.out, HB1.out⟩
      · have HV2 : Hid (keyW s k k = (A, C, B)) := by
          refine HK.out k ?_
          unfold keyE
          rw [if_neg h42, if_pos h39, hnm]
          exact if_neg (fun h => hol h.2)
        have HOL : Hid (decide (E ≤ endL s k) = false) := decide_eq_false hol
        clear HK hnm hg h39 h42 hol
        go_wp2_with fail
        refine (HC.out _).mono ?_
        rintro e w1 ⟨rfl, hb1⟩
        have HB1 : Hid (Below w.heap.size w w1) := hb1
        clear HC hb1
        go_wp2_with fail
        refine (oneLine_any s k E _ hs hcl false HOL.out).mono ?_
        rintro e w2 ⟨rfl, rfl⟩
        have HF : Hid (((0 : Nat), (0 : Nat), false) = (A, C, B)) := by
          show _ = _
          rw [← HV2.out]
          exact (kw_same rfl).symm
        clear HV2
        have tE : ((k : Int) == (k : Int)) = true := beq_self_eq_true _
        obtain ⟨W, hW⟩ : ∃ W, wh s k = W := ⟨_, rfl⟩
        have hWs : W ≤ s.size := by rw [← hW]; exact fwd_le pW s k hcl
        have HW : Hid (wh s k = W) := hW
        clear hW
        go_wp2_with fail
        refine (spec_white_nat s k W _ hsm hcl HW.out).mono ?_
        rintro e w8 ⟨rfl, rfl⟩
        go_wp2_with fail
        go_ret3
        exact ⟨ret_key HF.out, HB1.out⟩
    · have tR : ((R : Int) == 0) = false := by rw [beq_eq_false_iff_ne]; omega
      have HV2 : Hid (keyW s k k = (A, C, B)) := by
        refine HK.out k ?_
        unfold keyE
        rw [if_neg h42, if_pos h39, hnm]
        exact if_neg (fun h => hR h.1)
      clear HK hnm hg h39 h42 hR
      go_wp2_with fail
      refine (HC.out _).mono ?_
      rintro e w1 ⟨rfl, hb1⟩
      have HB1 : Hid (Below w.heap.size w w1) := hb1
      clear HC hb1
      have HF : Hid (((0 : Nat), (0 : Nat), false) = (A, C, B)) := by
        show _ = _
        rw [← HV2.out]
        exact (kw_same rfl).symm
      clear HV2
      have tE : ((k : Int) == (k : Int)) = true := beq_self_eq_true _
      obtain ⟨W, hW⟩ : ∃ W, wh s k = W := ⟨_, rfl⟩
      have hWs : W ≤ s.size := by rw [← hW]; exact fwd_le pW s k hcl
      have HW : Hid (wh s k = W) := hW
      clear hW
      go_wp2_with fail
      refine (spec_white_nat s k W _ hsm hcl HW.out).mono ?_
      rintro e w8 ⟨rfl, rfl⟩
      go_wp2_with fail
      go_ret3
      exact ⟨ret_key HF.out, HB1.out⟩
  have t39 : (((s[k]'hlt).toNat : Int) == 39) = false := by rw [hg, beq_eq_false_iff_ne]; omega
  by_cases h34 : bt s k = 34
  · have t34 : (((s[k]'hlt).toNat : Int) == 34) = true := by rw [hg, h34]; rfl
    obtain ⟨T, E, R, hnm⟩ : ∃ T E R, q.double s k = (T, E, R) := ⟨_, _, _, rfl⟩
    have HC : Hid (∀ w', Calls Tryz.prog 29 #[.string s, .int .i64 (k : Int)] w' fun e w'' => e = .returned (.tuple #[.string T, .int .i64 (E : Int), .int .i64 (R : Int)]) ∧ Below w'.heap.size w' w'') := fun w' => HQ.out.double k w' T E R hcl hnm
    by_cases hR : R = 0
    · subst hR
      obtain ⟨hkE, hEs⟩ := HQ.out.doubleIn k T E hcl hnm
      by_cases hol : E ≤ endL s k
      · have HV2 : Hid (keyW s k E = (A, C, B)) := by
          refine HK.out E ?_
          unfold keyE
          rw [if_neg h42, if_neg h39, if_pos h34, hnm]
          exact if_pos ⟨rfl, hol⟩
        have HOL : Hid (decide (E ≤ endL s k) = true) := decide_eq_true hol
        clear HK hnm hg h34 h42 hol h39
        go_wp2_with fail
        refine (HC.out _).mono ?_
        rintro e w1 ⟨rfl, hb1⟩
        have HB1 : Hid (Below w.heap.size w w1) := hb1
        clear HC hb1
        go_wp2_with fail
        refine (oneLine_any s k E _ hs hcl true HOL.out).mono ?_
        rintro e w2 ⟨rfl, rfl⟩
        by_cases hek : E = k
        · subst hek
          have HF : Hid (((0 : Nat), (0 : Nat), false) = (A, C, B)) := by
            show _ = _
            rw [← HV2.out]
            exact (kw_same rfl).symm
          clear HV2
          have tE : ((E : Int) == (E : Int)) = true := beq_self_eq_true _
          obtain ⟨W, hW⟩ : ∃ W, wh s E = W := ⟨_, rfl⟩
          have hWs : W ≤ s.size := by rw [← hW]; exact fwd_le pW s E hEs
          have HW : Hid (wh s E = W) := hW
          clear hW
          go_wp2_with fail
          refine (spec_white_nat s E W _ hsm hEs HW.out).mono ?_
          rintro e w8 ⟨rfl, rfl⟩
          go_wp2_with fail
          go_ret3
          exact ⟨ret_key HF.out, HB1.out⟩
        have tE : ((E : Int) == (k : Int)) = false := by rw [beq_eq_false_iff_ne]; omega
        have hkE' : (k : Int) ≤ (E : Int) := by omega
        have hEs' : (E : Int) ≤ 1048576 := by omega
        obtain ⟨W, hW⟩ : ∃ W, wh s E = W := ⟨_, rfl⟩
        have hWs : W ≤ s.size := by rw [← hW]; exact fwd_le pW s E hEs
        have HW : Hid (wh s E = W) := hW
        clear hW
        by_cases hlo : 1000 < E - k
        · have tL : (1000 : Int) < (E : Int) - (k : Int) := by omega
          have HF : Hid (((0 : Nat), (0 : Nat), false) = (A, C, B)) := by
            show _ = _
            rw [← HV2.out]
            exact (kw_long hlo).symm
          clear HV2 hlo hek
          go_wp2_with fail
          refine (spec_white_nat s E W _ hsm hEs HW.out).mono ?_
          rintro e w8 ⟨rfl, rfl⟩
          go_wp2_with fail
          go_ret3
          exact ⟨ret_key HF.out, HB1.out⟩
        have tL : ¬ (1000 : Int) < (E : Int) - (k : Int) := by omega
        by_cases hwl : W < s.size
        case neg =>
          have tW : (s.size : Int) ≤ (W : Int) := by omega
          have HF : Hid (((0 : Nat), (0 : Nat), false) = (A, C, B)) := by
            show _ = _
            rw [← HV2.out]
            exact (kw_end HW.out (by omega)).symm
          clear HV2 hlo hek hwl
          go_wp2_with fail
          refine (spec_white_nat s E W _ hsm hEs HW.out).mono ?_
          rintro e w8 ⟨rfl, rfl⟩
          go_wp2_with fail
          go_ret3
          exact ⟨ret_key HF.out, HB1.out⟩
        have tW : ¬ (s.size : Int) ≤ (W : Int) := by omega
        have tW2 : (W : Int) < (s.size : Int) := by omega
        have hgW := bt_get s W hwl
        by_cases h58 : bt s W = 58
        case neg =>
          have tS : (((s[W]'hwl).toNat : Int) != 58) = true := by rw [hgW, bne_iff_ne]; omega
          have HF : Hid (((0 : Nat), (0 : Nat), false) = (A, C, B)) := by
            show _ = _
            rw [← HV2.out]
            exact (kw_sign HW.out h58).symm
          clear HV2 hlo hek h58 hgW
          go_wp2_with fail
          refine (spec_white_nat s E W _ hsm hEs HW.out).mono ?_
          rintro e w8 ⟨rfl, rfl⟩
          go_wp2_with fail
          go_ret3
          exact ⟨ret_key HF.out, HB1.out⟩
        have tS : (((s[W]'hwl).toNat : Int) != 58) = false := by rw [hgW, h58]; rfl
        cases hga : gapP s (W + 1) with
        | false =>
          have HF : Hid (((0 : Nat), (0 : Nat), false) = (A, C, B)) := by
            show _ = _
            rw [← HV2.out]
            exact (kw_nogap HW.out hga).symm
          have HG : Hid (false = gapP s (W + 1)) := hga.symm
          clear HV2 hlo hek h58 hgW hga
          go_wp2_with fail
          refine (spec_white_nat s E W _ hsm hEs HW.out).mono ?_
          rintro e w8 ⟨rfl, rfl⟩
          go_wp2_with fail
          refine (spec_gap1 s (W + 1) _ false HG.out).mono ?_
          rintro e w9 ⟨rfl, rfl⟩
          go_wp2_with fail
          go_ret3
          exact ⟨ret_key HF.out, HB1.out⟩
        | true =>
          have HF : Hid ((E, W, true) = (A, C, B)) := by
            show _ = _
            rw [← HV2.out]
            exact (kw_yes HW.out hek hlo (by omega) h58 hga).symm
          have HG : Hid (true = gapP s (W + 1)) := hga.symm
          clear HV2 hlo hek h58 hgW hga
          go_wp2_with fail
          refine (spec_white_nat s E W _ hsm hEs HW.out).mono ?_
          rintro e w8 ⟨rfl, rfl⟩
          go_wp2_with fail
          refine (spec_gap1 s (W + 1) _ true HG.out).mono ?_
          rintro e w9 ⟨rfl, rfl⟩
          go_wp2_with fail
          go_ret3
          exact ⟨ret_key HF.out, HB1.out⟩
      · have HV2 : Hid (keyW s k k = (A, C, B)) := by
          refine HK.out k ?_
          unfold keyE
          rw [if_neg h42, if_neg h39, if_pos h34, hnm]
          exact if_neg (fun h => hol h.2)
        have HOL : Hid (decide (E ≤ endL s k) = false) := decide_eq_false hol
        clear HK hnm hg h34 h42 hol h39
        go_wp2_with fail
        refine (HC.out _).mono ?_
        rintro e w1 ⟨rfl, hb1⟩
        have HB1 : Hid (Below w.heap.size w w1) := hb1
        clear HC hb1
        go_wp2_with fail
        refine (oneLine_any s k E _ hs hcl false HOL.out).mono ?_
        rintro e w2 ⟨rfl, rfl⟩
        have HF : Hid (((0 : Nat), (0 : Nat), false) = (A, C, B)) := by
          show _ = _
          rw [← HV2.out]
          exact (kw_same rfl).symm
        clear HV2
        have tE : ((k : Int) == (k : Int)) = true := beq_self_eq_true _
        obtain ⟨W, hW⟩ : ∃ W, wh s k = W := ⟨_, rfl⟩
        have hWs : W ≤ s.size := by rw [← hW]; exact fwd_le pW s k hcl
        have HW : Hid (wh s k = W) := hW
        clear hW
        go_wp2_with fail
        refine (spec_white_nat s k W _ hsm hcl HW.out).mono ?_
        rintro e w8 ⟨rfl, rfl⟩
        go_wp2_with fail
        go_ret3
        exact ⟨ret_key HF.out, HB1.out⟩
    · have tR : ((R : Int) == 0) = false := by rw [beq_eq_false_iff_ne]; omega
      have HV2 : Hid (keyW s k k = (A, C, B)) := by
        refine HK.out k ?_
        unfold keyE
        rw [if_neg h42, if_neg h39, if_pos h34, hnm]
        exact if_neg (fun h => hR h.1)
      clear HK hnm hg h34 h42 hR h39
      go_wp2_with fail
      refine (HC.out _).mono ?_
      rintro e w1 ⟨rfl, hb1⟩
      have HB1 : Hid (Below w.heap.size w w1) := hb1
      clear HC hb1
      have HF : Hid (((0 : Nat), (0 : Nat), false) = (A, C, B)) := by
        show _ = _
        rw [← HV2.out]
        exact (kw_same rfl).symm
      clear HV2
      have tE : ((k : Int) == (k : Int)) = true := beq_self_eq_true _
      obtain ⟨W, hW⟩ : ∃ W, wh s k = W := ⟨_, rfl⟩
      have hWs : W ≤ s.size := by rw [← hW]; exact fwd_le pW s k hcl
      have HW : Hid (wh s k = W) := hW
      clear hW
      go_wp2_with fail
      refine (spec_white_nat s k W _ hsm hcl HW.out).mono ?_
      rintro e w8 ⟨rfl, rfl⟩
      go_wp2_with fail
      go_ret3
      exact ⟨ret_key HF.out, HB1.out⟩
  have t34 : (((s[k]'hlt).toNat : Int) == 34) = false := by rw [hg, beq_eq_false_iff_ne]; omega
  cases hf : q.first s k false with
  | true =>
    obtain ⟨E, hE⟩ : ∃ E, plE s k false = E := ⟨_, rfl⟩
    have hkE : k ≤ E := by rw [← hE]; exact plE_ge s k false
    have hEs : E ≤ s.size := by rw [← hE]; exact plE_le s k false hcl
    have HV2 : Hid (keyW s k E = (A, C, B)) := by
      refine HK.out E ?_
      unfold keyE
      rw [if_neg h42, if_neg h39, if_neg h34, if_pos hf, hE]
    have HE : Hid (plE s (cl s.size (k : Int)) false = E) := by show _ = _; rw [cl_nat _ _ hcl]; exact hE
    have HFI : Hid (q.first s k false = true) := hf
    clear HK hf hg h42 h39 h34 hE
    go_wp2_with fail
    refine (HQ.out.first k false _ true hcl HFI.out).mono ?_
    rintro e w1 ⟨rfl, hb1⟩
    have HB1 : Hid (Below w.heap.size w w1) := hb1
    clear hb1
    go_wp2_with fail
    refine (spec_plainEnd s k false _ hsm E HE.out).mono ?_
    rintro e w2 ⟨rfl, rfl⟩
    by_cases hek : E = k
    · subst hek
      have HF : Hid (((0 : Nat), (0 : Nat), false) = (A, C, B)) := by
        show _ = _
        rw [← HV2.out]
        exact (kw_same rfl).symm
      clear HV2
      have tE : ((E : Int) == (E : Int)) = true := beq_self_eq_true _
      obtain ⟨W, hW⟩ : ∃ W, wh s E = W := ⟨_, rfl⟩
      have hWs : W ≤ s.size := by rw [← hW]; exact fwd_le pW s E hEs
      have HW : Hid (wh s E = W) := hW
      clear hW
      go_wp2_with fail
      refine (spec_white_nat s E W _ hsm hEs HW.out).mono ?_
      rintro e w8 ⟨rfl, rfl⟩
      go_wp2_with fail
      go_ret3
      exact ⟨ret_key HF.out, HB1.out⟩
    have tE : ((E : Int) == (k : Int)) = false := by rw [beq_eq_false_iff_ne]; omega
    have hkE' : (k : Int) ≤ (E : Int) := by omega
    have hEs' : (E : Int) ≤ 1048576 := by omega
    obtain ⟨W, hW⟩ : ∃ W, wh s E = W := ⟨_, rfl⟩
    have hWs : W ≤ s.size := by rw [← hW]; exact fwd_le pW s E hEs
    have HW : Hid (wh s E = W) := hW
    clear hW
    by_cases hlo : 1000 < E - k
    · have tL : (1000 : Int) < (E : Int) - (k : Int) := by omega
      have HF : Hid (((0 : Nat), (0 : Nat), false) = (A, C, B)) := by
        show _ = _
        rw [← HV2.out]
        exact (kw_long hlo).symm
      clear HV2 hlo hek
      go_wp2_with fail
      refine (spec_white_nat s E W _ hsm hEs HW.out).mono ?_
      rintro e w8 ⟨rfl, rfl⟩
      go_wp2_with fail
      go_ret3
      exact ⟨ret_key HF.out, HB1.out⟩
    have tL : ¬ (1000 : Int) < (E : Int) - (k : Int) := by omega
    by_cases hwl : W < s.size
    case neg =>
      have tW : (s.size : Int) ≤ (W : Int) := by omega
      have HF : Hid (((0 : Nat), (0 : Nat), false) = (A, C, B)) := by
        show _ = _
        rw [← HV2.out]
        exact (kw_end HW.out (by omega)).symm
      clear HV2 hlo hek hwl
      go_wp2_with fail
      refine (spec_white_nat s E W _ hsm hEs HW.out).mono ?_
      rintro e w8 ⟨rfl, rfl⟩
      go_wp2_with fail
      go_ret3
      exact ⟨ret_key HF.out, HB1.out⟩
    have tW : ¬ (s.size : Int) ≤ (W : Int) := by omega
    have tW2 : (W : Int) < (s.size : Int) := by omega
    have hgW := bt_get s W hwl
    by_cases h58 : bt s W = 58
    case neg =>
      have tS : (((s[W]'hwl).toNat : Int) != 58) = true := by rw [hgW, bne_iff_ne]; omega
      have HF : Hid (((0 : Nat), (0 : Nat), false) = (A, C, B)) := by
        show _ = _
        rw [← HV2.out]
        exact (kw_sign HW.out h58).symm
      clear HV2 hlo hek h58 hgW
      go_wp2_with fail
      refine (spec_white_nat s E W _ hsm hEs HW.out).mono ?_
      rintro e w8 ⟨rfl, rfl⟩
      go_wp2_with fail
      go_ret3
      exact ⟨ret_key HF.out, HB1.out⟩
    have tS : (((s[W]'hwl).toNat : Int) != 58) = false := by rw [hgW, h58]; rfl
    cases hga : gapP s (W + 1) with
    | false =>
      have HF : Hid (((0 : Nat), (0 : Nat), false) = (A, C, B)) := by
        show _ = _
        rw [← HV2.out]
        exact (kw_nogap HW.out hga).symm
      have HG : Hid (false = gapP s (W + 1)) := hga.symm
      clear HV2 hlo hek h58 hgW hga
      go_wp2_with fail
      refine (spec_white_nat s E W _ hsm hEs HW.out).mono ?_
      rintro e w8 ⟨rfl, rfl⟩
      go_wp2_with fail
      refine (spec_gap1 s (W + 1) _ false HG.out).mono ?_
      rintro e w9 ⟨rfl, rfl⟩
      go_wp2_with fail
      go_ret3
      exact ⟨ret_key HF.out, HB1.out⟩
    | true =>
      have HF : Hid ((E, W, true) = (A, C, B)) := by
        show _ = _
        rw [← HV2.out]
        exact (kw_yes HW.out hek hlo (by omega) h58 hga).symm
      have HG : Hid (true = gapP s (W + 1)) := hga.symm
      clear HV2 hlo hek h58 hgW hga
      go_wp2_with fail
      refine (spec_white_nat s E W _ hsm hEs HW.out).mono ?_
      rintro e w8 ⟨rfl, rfl⟩
      go_wp2_with fail
      refine (spec_gap1 s (W + 1) _ true HG.out).mono ?_
      rintro e w9 ⟨rfl, rfl⟩
      go_wp2_with fail
      go_ret3
      exact ⟨ret_key HF.out, HB1.out⟩
  | false =>
    have HV2 : Hid (keyW s k k = (A, C, B)) := by
      refine HK.out k ?_
      unfold keyE
      rw [if_neg h42, if_neg h39, if_neg h34, if_neg (by rw [hf]; simp)]
    have HFI : Hid (q.first s k false = false) := hf
    clear HK hf hg h42 h39 h34
    go_wp2_with fail
    refine (HQ.out.first k false _ false hcl HFI.out).mono ?_
    rintro e w1 ⟨rfl, hb1⟩
    have HB1 : Hid (Below w.heap.size w w1) := hb1
    clear hb1
    have HF : Hid (((0 : Nat), (0 : Nat), false) = (A, C, B)) := by
      show _ = _
      rw [← HV2.out]
      exact (kw_same rfl).symm
    clear HV2
    have tE : ((k : Int) == (k : Int)) = true := beq_self_eq_true _
    obtain ⟨W, hW⟩ : ∃ W, wh s k = W := ⟨_, rfl⟩
    have hWs : W ≤ s.size := by rw [← hW]; exact fwd_le pW s k hcl
    have HW : Hid (wh s k = W) := hW
    clear hW
    go_wp2_with fail
    refine (spec_white_nat s k W _ hsm hcl HW.out).mono ?_
    rintro e w8 ⟨rfl, rfl⟩
    go_wp2_with fail
    go_ret3
    exact ⟨ret_key HF.out, HB1.out⟩
end Go.Proofs.YtjpcmmfmdoglkalGreatDoor
