/- The questions of impl's names and tags: until goes to the first of some bytes, signAt asks for one of them. -/
import Derived.Test.YtopmboioojedbaiOvr
import Derived.Test.YtopmboioojedbaiPr
import Derived.Deep.QuietTactic
import Derived.BigQuiet
import Derived.WalkMore
import Derived.Laws.EntriesVeiled
namespace Go.Proofs.Ytopmboioojedbai
open Go.ChangeShapes Go.WideShapes Go.ChangeAt Go.RowKit Go.Shelf
/-- The bytes of a text of signs. -/
def Signs (P : Nat → Bool) (t : ByteArray) : Prop := ∀ x, x < 256 → P x = t.data.toList.contains x.toUInt8
theorem untilC_any (t : ByteArray) (P Q : Nat → Bool) (B F : Nat) (w : World) (hF : w.heap[F]? = some (.cells #[.func (.func 56) #[] #[.pointer (some ⟨B, 0, none⟩)]] 46 (0, 0))) (hB : w.heap[B]? = some (.cells #[.string t] 9 (0, 0))) (hP : Signs P t) (hQ : ∀ x, Q x = !P x) :
    PredB 59 #[.pointer (some ⟨F, 0, none⟩)] Q w := by
  intro W x hx hb
  have hlt : F < w.heap.size := (Array.getElem?_eq_some_iff.1 hF).1
  have hFW : W.heap[F]? = some (.cells #[.func (.func 56) #[] #[.pointer (some ⟨B, 0, none⟩)]] 46 (0, 0)) := (hb.block _ hlt).trans hF
  have hcl : W.cell? ⟨F, 0, none⟩ = some (.func (.func 56) #[] #[.pointer (some ⟨B, 0, none⟩)]) := by simp [World.cell?, hFW]
  have cS : Calls Try.prog 56 (#[.int .u8 (x : Int)] ++ #[.pointer (some ⟨B, 0, none⟩)]) W _ := amongC_any t P B w hB hP W x hx hb
  have HQ : Hid (Q x = !P x) := hQ x
  have eg : ∀ args w, (callFunc 56 args).run Try.prog w = .ok (.enter 56 args) w := enters_of Try.func56 (by kernel_rfl) rfl
  clear hFW hF hB hb hP hQ
  show Calls Try.prog 59 #[.int .u8 (x : Int), .pointer (some ⟨F, 0, none⟩)] W _
  generalize hp : P x = px at *
  clear hp
  go_enter Try.func59, Try.ntmps59
  go_wp2_with (go_at_fn 56; refine cS.mono ?_; rintro e W' ⟨rfl, hbc⟩)
  go_ret
  exact ⟨ret_bool HQ.out.symm, hbc⟩
set_option maxHeartbeats 1000000 in
theorem until_any (s t : ByteArray) (p : Int) (P Q : Nat → Bool) (w : World) (hs : s.size ≤ mx) (hP : Signs P t) (hQ : ∀ x, Q x = !P x) :
    Calls Try.prog 50 #[.string s, .int .i64 p, .string t] w fun e w' => e = .returned (.int .i64 (fwd Q s (cl s.size p))) ∧ Below w.heap.size w w' := by
  go_enter Try.func50, Try.ntmps50
  go_wp2_with fail
  refine (among_any _ _).mono ?_
  rintro e w1 ⟨B, rfl, hB, hb1⟩
  go_wp2_with fail
  have hAlt : B < w1.heap.size := (Array.getElem?_eq_some_iff.1 hB).1
  have hF : (w1.alloc (.cells #[.func (.func 56) #[] #[.pointer (some ⟨B, 0, none⟩)]] 46)).heap[w1.heap.size]? = some (.cells #[.func (.func 56) #[] #[.pointer (some ⟨B, 0, none⟩)]] 46 (0, 0)) := by show (w1.heap.push _)[w1.heap.size]? = _; simp
  have hn : Below w1.heap.size w1 (w1.alloc (.cells #[.func (.func 56) #[] #[.pointer (some ⟨B, 0, none⟩)]] 46)) := (Below.refl _ w1).alloc (Nat.le_refl _) _
  have hB' : (w1.alloc (.cells #[.func (.func 56) #[] #[.pointer (some ⟨B, 0, none⟩)]] 46)).heap[B]? = some (.cells #[.string t] 9 (0, 0)) := (hn.block _ hAlt).trans hB
  have hb2 : Below w.heap.size w (w1.alloc (.cells #[.func (.func 56) #[] #[.pointer (some ⟨B, 0, none⟩)]] 46)) := hb1.alloc hb1.size _
  generalize w1.alloc (.cells #[.func (.func 56) #[] #[.pointer (some ⟨B, 0, none⟩)]] 46) = w2 at *
  generalize w1.heap.size = F at *
  have cO := over_any s p 59 _ Q (enters_of Try.func59 (by kernel_rfl) rfl) _ hs (untilC_any t P Q B F w2 hF hB' hP hQ)
  clear hF hB' hB hAlt hn hP hQ
  go_wp2_with fail
  refine cO.mono ?_
  rintro e w3 ⟨rfl, hb3⟩
  go_wp2_with fail
  go_ret
  exact ⟨rfl, hb2.trans (hb3.mono hb2.size)⟩
theorem until_nat (s t : ByteArray) (k v : Nat) (P Q : Nat → Bool) (w : World) (hs : s.size ≤ mx) (hk : k ≤ s.size) (hP : Signs P t) (hQ : ∀ x, Q x = !P x) (hv : fwd Q s k = v) :
    Calls Try.prog 50 #[.string s, .int .i64 (k : Int), .string t] w fun e w' => e = .returned (.int .i64 (v : Int)) ∧ Below w.heap.size w w' := by
  have := until_any s t (k : Int) P Q w hs hP hQ
  rw [cl_nat _ _ hk, hv] at this
  exact this
theorem ask_heap (s t : ByteArray) (k A : Nat) (P : Nat → Bool) (h : k < s.size) (w : World) (b : Bool) (hA : w.heap[A]? = some (.cells #[.string t] 9 (0, 0))) (hP : Signs P t) (hb : P (bt s k) = b) :
    Calls Try.prog 56 #[.int .u8 ((s[k]'h).toNat : Int), .pointer (some ⟨A, 0, none⟩)] w fun e w' => e = .returned (.bool b) ∧ Below w.heap.size w w' := by
  subst hb
  have := amongC_any t P A w hA hP w (bt s k) (bt_lt s k) (Below.refl _ _)
  rw [← bt_get s k h] at this ⊢
  exact this
theorem below_drewN' (w : World) (n : Nat) : Below w.heap.size w (w.drewN n) := by
  induction n with
  | zero => exact Below.refl _ _
  | succ n ih => exact ih.drew
set_option maxHeartbeats 1000000 in
theorem signAt_any (s t : ByteArray) (k : Nat) (P : Nat → Bool) (w : World) (b : Bool) (hP : Signs P t) (hb : b = sgn P s k) :
    Calls Try.prog 49 #[.string s, .int .i64 (k : Int), .string t] w fun e w' => e = .returned (.bool b) ∧ Below w.heap.size w w' := by
  by_cases hlt : k < s.size
  · have HG : Hid (P (bt s k) = b) := by
      show P (bt s k) = b
      rw [hb]; unfold sgn; rw [decide_eq_true hlt]; rfl
    have HP : Hid (Signs P t) := hP
    clear hb hP
    go_enter Try.func49, Try.ntmps49
    go_wp2_with fail
    go_region_with (first
      | (go_at_call 43; refine (among_any _ _).mono ?_; rintro e w1 ⟨A, rfl, hA, hb1⟩)
      | (go_at_call 56; refine (ask_heap s t k A P hlt _ b hA HP.out HG.out).mono ?_; rintro e w2 ⟨rfl, hb2⟩))
    all_goals
      go_wp2_with fail
      go_ret
      have hb3 : Below w.heap.size w w1 := ((Below.refl _ w).drew).trans (hb1.mono (by simp))
      exact ⟨ret_bool rfl, hb3.trans (hb2.mono hb3.size)⟩
  · have HB : Hid (b = false) := by show b = false; rw [hb]; unfold sgn; rw [decide_eq_false hlt]; rfl
    have hd : decide (k < s.size) = false := decide_eq_false hlt
    clear hb hP hlt
    go_enter Try.func49, Try.ntmps49
    go_wp2_with fail
    go_quiet (fail)
    go_wp2
    go_ret
    exact ⟨ret_bool HB.out.symm, below_drewN' _ _⟩
theorem p38_signs : Signs p38 ⟨#[38, 42]⟩ := by
  intro x hx
  show p38 x = [38, 42].contains x.toUInt8
  rw [List.contains_cons, List.contains_cons, List.contains_nil, u8_eq hx, u8_eq hx, Bool.or_false]
  rfl
theorem p33_signs : Signs p33 ⟨#[33]⟩ := by
  intro x hx
  show p33 x = [33].contains x.toUInt8
  rw [List.contains_cons, List.contains_nil, u8_eq hx, Bool.or_false]
  rfl
theorem p62_signs : Signs p62 ⟨#[62]⟩ := by
  intro x hx
  show p62 x = [62].contains x.toUInt8
  rw [List.contains_cons, List.contains_nil, u8_eq hx, Bool.or_false]
  rfl
theorem pE_signs : Signs pE ⟨#[32, 9, 10, 44, 91, 93, 123, 125]⟩ := by
  intro x hx
  show pE x = [32, 9, 10, 44, 91, 93, 123, 125].contains x.toUInt8
  simp only [List.contains_cons, List.contains_nil, u8_eq hx, Bool.or_false]
  unfold pE pG pF
  simp only [Bool.or_assoc]
  rfl
theorem pA_signs : Signs pA ⟨#[32, 9, 10, 62]⟩ := by
  intro x hx
  show pA x = [32, 9, 10, 62].contains x.toUInt8
  simp only [List.contains_cons, List.contains_nil, u8_eq hx, Bool.or_false]
  unfold pA pG
  simp only [Bool.or_assoc]
  rfl
end Go.Proofs.Ytopmboioojedbai
