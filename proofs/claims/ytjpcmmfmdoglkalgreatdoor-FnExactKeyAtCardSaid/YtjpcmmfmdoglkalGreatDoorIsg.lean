/- impl's small questions on plain scalars: signAt (a byte of some), aloneAt. -/
import Derived.Test.YtjpcmmfmdoglkalGreatDoorFlw
import Derived.WalkMore
import Derived.Laws.EntriesVeiled
namespace Go.Proofs.YtjpcmmfmdoglkalGreatDoor
open Go.ChangeShapes Go.WideShapes Go.ChangeAt Go.RowKit Go.Shelf
/-- At k there is a byte of the kind P. -/
def sgq (P : Nat → Bool) (s : ByteArray) (k : Nat) : Bool := decide (k < s.size) && P (bt s k)
theorem sgq_lt {P : Nat → Bool} {s : ByteArray} {k : Nat} (h : k < s.size) : sgq P s k = P (bt s k) := by unfold sgq; rw [decide_eq_true h]; rfl
theorem sgq_end {P : Nat → Bool} {s : ByteArray} {k : Nat} (h : s.size ≤ k) : sgq P s k = false := by unfold sgq; rw [decide_eq_false (by omega)]; rfl
def SignsQ (P : Nat → Bool) (t : ByteArray) : Prop := ∀ x, x < 256 → P x = t.data.toList.contains x.toUInt8
theorem askQ (s t : ByteArray) (k A : Nat) (P : Nat → Bool) (h : k < s.size) (w : World) (b : Bool) (hA : w.heap[A]? = some (.cells #[.string t] 9 (0, 0))) (hP : SignsQ P t) (hb : P (bt s k) = b) :
    Calls Tryz.prog 127 #[.int .u8 ((s[k]'h).toNat : Int), .pointer (some ⟨A, 0, none⟩)] w fun e w' => e = .returned (.bool b) ∧ Below w.heap.size w w' := by
  subst hb
  have := amongC_any t P A w hA hP w (bt s k) (bt_lt s k) (Below.refl _ _)
  rw [← bt_get s k h] at this ⊢
  exact this
set_option maxHeartbeats 1000000 in
theorem signQ (s t : ByteArray) (k : Nat) (P : Nat → Bool) (w : World) (b : Bool) (hP : SignsQ P t) (hb : b = sgq P s k) :
    Calls Tryz.prog 37 #[.string s, .int .i64 (k : Int), .string t] w fun e w' => e = .returned (.bool b) ∧ Below w.heap.size w w' := by
  by_cases hlt : k < s.size
  · have HG : Hid (P (bt s k) = b) := by
      show P (bt s k) = b
      rw [hb, sgq_lt hlt]
    have HP : Hid (SignsQ P t) := hP
    clear hb hP
    go_enter Tryz.func37, Tryz.ntmps37
    go_wp2_with fail
    go_region_with (first
      | (go_at_call 80; refine (among_any _ _).mono ?_; rintro e w1 ⟨A, rfl, hA, hb1⟩)
      | (go_at_call 127; refine (askQ s t k A P hlt _ b hA HP.out HG.out).mono ?_; rintro e w2 ⟨rfl, hb2⟩))
    all_goals
      go_wp2_with fail
      go_ret
      have hb3 : Below w.heap.size w w1 := ((Below.refl _ w).drew).trans (hb1.mono (by simp))
      exact ⟨ret_bool rfl, hb3.trans (hb2.mono hb3.size)⟩
  · have HB : Hid (b = false) := by show b = false; rw [hb, sgq_end (by omega)]
    have hd : decide (k < s.size) = false := decide_eq_false hlt
    clear hb hP hlt
    go_enter Tryz.func37, Tryz.ntmps37
    go_wp2_with fail
    go_quiet (fail)
    go_wp2
    go_ret
    exact ⟨ret_bool HB.out.symm, below_drewN _ _⟩
theorem F6_signs : SignsQ pF6 ⟨#[44, 91, 93, 123, 125]⟩ := by
  intro x hx
  show pF6 x = [44, 91, 93, 123, 125].contains x.toUInt8
  simp only [List.contains_cons, List.contains_nil, u8_eq hx, Bool.or_false, pF6, Bool.or_assoc]
  rfl
def p3q (c : Nat) : Bool := c == 45 || c == 63 || c == 58
theorem p3q_signs : SignsQ p3q ⟨#[45, 63, 58]⟩ := by
  intro x hx
  show p3q x = [45, 63, 58].contains x.toUInt8
  simp only [List.contains_cons, List.contains_nil, u8_eq hx, Bool.or_false, p3q, Bool.or_assoc]
  rfl
def p10q (c : Nat) : Bool := c == 10
theorem p10q_signs : SignsQ p10q ⟨#[10]⟩ := by
  intro x hx
  show p10q x = [10].contains x.toUInt8
  simp only [List.contains_cons, List.contains_nil, u8_eq hx, Bool.or_false, p10q]
  rfl
def p35q (c : Nat) : Bool := c == 35
theorem p35q_signs : SignsQ p35q ⟨#[35]⟩ := by
  intro x hx
  show p35q x = [35].contains x.toUInt8
  simp only [List.contains_cons, List.contains_nil, u8_eq hx, Bool.or_false, p35q]
  rfl
def pBad (c : Nat) : Bool := badL.contains c
theorem pBad_signs : SignsQ pBad ⟨#[44, 91, 93, 123, 125, 35, 38, 42, 33, 124, 62, 39, 34, 37, 64, 96]⟩ := by
  intro x hx
  show badL.contains x = [44, 91, 93, 123, 125, 35, 38, 42, 33, 124, 62, 39, 34, 37, 64, 96].contains x.toUInt8
  simp only [badL, List.contains_cons, List.contains_nil, u8_eq hx, Bool.or_false]
  rfl
/-- aloneAt. -/
def alo (s : ByteArray) (k : Nat) (fl : Bool) : Bool := gapP s k || (fl && pF6 (bt s k))
theorem alone_any (s : ByteArray) (k : Nat) (fl : Bool) (w : World) (b : Bool) (hk : k ≤ s.size) (hb : alo s k fl = b) :
    Calls Tryz.prog 125 #[.string s, .int .i64 (k : Int), .bool fl] w fun e w' => e = .returned (.bool b) ∧ Below w.heap.size w w' := by
  cases hg : gapP s k with
  | true =>
    have cG := gapAt_any s k w true hk hg.symm
    obtain rfl : true = b := by rw [← hb]; unfold alo; rw [hg]; rfl
    clear hb hg hk
    go_enter Tryz.func125, Tryz.ntmps125
    go_wp2_with fail
    refine cG.mono ?_
    rintro e w1 ⟨rfl, hb1⟩
    clear cG
    go_wp2_with fail
    go_ret
    exact ⟨rfl, hb1⟩
  | false =>
    have hlt : k < s.size := by
      unfold gapP at hg
      rcases Nat.lt_or_ge k s.size with h' | h'
      · exact h'
      · rw [decide_eq_true h'] at hg; cases hg
    have cG := gapAt_any s k w false hk hg.symm
    have cS : Hid (∀ w, Calls Tryz.prog 37 #[.string s, .int .i64 (k : Int), .string ⟨#[44, 91, 93, 123, 125]⟩] w fun e w' => e = .returned (.bool (pF6 (bt s k))) ∧ Below w.heap.size w w') := fun w => signQ s _ k pF6 w _ F6_signs (sgq_lt hlt).symm
    have hb' : (fl && pF6 (bt s k)) = b := by rw [← hb]; unfold alo; rw [hg]; rfl
    generalize pF6 (bt s k) = f6 at *
    clear hb hg hk
    cases fl with
    | false =>
      obtain rfl : false = b := hb'
      clear cS
      go_enter Tryz.func125, Tryz.ntmps125
      go_wp2_with fail
      refine cG.mono ?_
      rintro e w1 ⟨rfl, hb1⟩
      clear cG
      go_wp2_with fail
      go_ret
      exact ⟨rfl, hb1⟩
    | true =>
      obtain rfl : f6 = b := hb'

      go_enter Tryz.func125, Tryz.ntmps125
      go_wp2_with fail
      refine cG.mono ?_
      rintro e w1 ⟨rfl, hb1⟩
      clear cG
      go_wp2_with fail
      refine (cS.out w1).mono ?_
      rintro e w2 ⟨rfl, hb2⟩
      clear cS
      go_wp2_with fail
      go_ret
      exact ⟨rfl, hb1.trans (hb2.mono hb1.size)⟩
end Go.Proofs.YtjpcmmfmdoglkalGreatDoor
