/- Several texts in one: Isg Unq Pev Inm. -/
import Derived.Test.YtmbbmibkjnlkkaaZpa
import Derived.WalkMore
import Derived.Laws.EntriesVeiled
import Derived.Deep.QuietTactic
import Derived.BigQuiet
import Derived.Test.YtmbbmibkjnlkkaaZpb
import Derived.Laws.StructEq
/- impl's small questions on plain scalars: signAt (a byte of some), aloneAt. -/
namespace Go.Proofs.Ytmbbmibkjnlkkaa
open Go.ChangeShapes Go.WideShapes Go.ChangeAt Go.RowKit Go.Shelf
/-- At k there is a byte of the kind P. -/
def sgq (P : Nat → Bool) (s : ByteArray) (k : Nat) : Bool := decide (k < s.size) && P (bt s k)
theorem sgq_lt {P : Nat → Bool} {s : ByteArray} {k : Nat} (h : k < s.size) : sgq P s k = P (bt s k) := by unfold sgq; rw [decide_eq_true h]; rfl
theorem sgq_end {P : Nat → Bool} {s : ByteArray} {k : Nat} (h : s.size ≤ k) : sgq P s k = false := by unfold sgq; rw [decide_eq_false (by omega)]; rfl
def SignsQ (P : Nat → Bool) (t : ByteArray) : Prop := ∀ x, x < 256 → P x = t.data.toList.contains x.toUInt8
theorem askQ (s t : ByteArray) (k A : Nat) (P : Nat → Bool) (h : k < s.size) (w : World) (b : Bool) (hA : w.heap[A]? = some (.cells #[.string t] 9 (0, 0))) (hP : SignsQ P t) (hb : P (bt s k) = b) :
    Calls Try.prog 72 #[.int .u8 ((s[k]'h).toNat : Int), .pointer (some ⟨A, 0, none⟩)] w fun e w' => e = .returned (.bool b) ∧ Below w.heap.size w w' := by
  subst hb
  have := amongC_any t P A w hA hP w (bt s k) (bt_lt s k) (Below.refl _ _)
  rw [← bt_get s k h] at this ⊢
  exact this
theorem F6_signs : SignsQ pF6 ⟨#[44, 91, 93, 123, 125]⟩ := by
  intro x hx
  show pF6 x = [44, 91, 93, 123, 125].contains x.toUInt8
  simp only [List.contains_cons, List.contains_nil, u8_eq hx, Bool.or_false, pF6, Bool.or_assoc]
  rfl
def p3q (c : Nat) : Bool := c == 45 || c == 63 || c == 58
theorem p3q_signs : SignsQ p3q ⟨#[45, 63, 58]⟩ := by
  intro x hx
  show p3q x = [45, 63, 58].contains x.toUInt8
  simp only [List.contains_cons, List.contains_nil, u8_eq hx, Bool.or_false, p3q, Bool.or_assoc]
  rfl
def p10q (c : Nat) : Bool := c == 10
theorem p10q_signs : SignsQ p10q ⟨#[10]⟩ := by
  intro x hx
  show p10q x = [10].contains x.toUInt8
  simp only [List.contains_cons, List.contains_nil, u8_eq hx, Bool.or_false, p10q]
  rfl
def p35q (c : Nat) : Bool := c == 35
theorem p35q_signs : SignsQ p35q ⟨#[35]⟩ := by
  intro x hx
  show p35q x = [35].contains x.toUInt8
  simp only [List.contains_cons, List.contains_nil, u8_eq hx, Bool.or_false, p35q]
  rfl
def pBad (c : Nat) : Bool := badL.contains c
theorem pBad_signs : SignsQ pBad ⟨#[44, 91, 93, 123, 125, 35, 38, 42, 33, 124, 62, 39, 34, 37, 64, 96]⟩ := by
  intro x hx
  show badL.contains x = [44, 91, 93, 123, 125, 35, 38, 42, 33, 124, 62, 39, 34, 37, 64, 96].contains x.toUInt8
  simp only [badL, List.contains_cons, List.contains_nil, u8_eq hx, Bool.or_false]
  rfl
/-- aloneAt. -/
def alo (s : ByteArray) (k : Nat) (fl : Bool) : Bool := gapP s k || (fl && pF6 (bt s k))
end Go.Proofs.Ytmbbmibkjnlkkaa
/- impl.until goes to the first of some bytes. -/
namespace Go.Proofs.Ytmbbmibkjnlkkaa
open Go.ChangeShapes Go.WideShapes Go.ChangeAt Go.RowKit Go.Shelf
theorem untilC_any (t : ByteArray) (P Q : Nat → Bool) (B F : Nat) (w : World) (hF : w.heap[F]? = some (.cells #[.func (.func 72) #[] #[.pointer (some ⟨B, 0, none⟩)]] 91 (0, 0))) (hB : w.heap[B]? = some (.cells #[.string t] 9 (0, 0))) (hP : SignsQ P t) (hQ : ∀ x, Q x = !P x) :
    PredB 71 #[.pointer (some ⟨F, 0, none⟩)] Q w := by
  intro W x hx hb
  have hlt : F < w.heap.size := (Array.getElem?_eq_some_iff.1 hF).1
  have hFW : W.heap[F]? = some (.cells #[.func (.func 72) #[] #[.pointer (some ⟨B, 0, none⟩)]] 91 (0, 0)) := (hb.block _ hlt).trans hF
  have hcl : W.cell? ⟨F, 0, none⟩ = some (.func (.func 72) #[] #[.pointer (some ⟨B, 0, none⟩)]) := by simp [World.cell?, hFW]
  have cS : Calls Try.prog 72 (#[.int .u8 (x : Int)] ++ #[.pointer (some ⟨B, 0, none⟩)]) W _ := amongC_any t P B w hB hP W x hx hb
  have HQ : Hid (Q x = !P x) := hQ x
  have eg : ∀ args w, (callFunc 72 args).run Try.prog w = .ok (.enter 72 args) w := enters_of Try.func72 (by kernel_rfl) rfl
  clear hFW hF hB hb hP hQ
  show Calls Try.prog 71 #[.int .u8 (x : Int), .pointer (some ⟨F, 0, none⟩)] W _
  generalize hp : P x = px at *
  clear hp
  go_enter Try.func71, Try.ntmps71
  go_wp2_with (go_at_fn 72; refine cS.mono ?_; rintro e W' ⟨rfl, hbc⟩)
  go_ret
  exact ⟨ret_bool HQ.out.symm, hbc⟩
set_option maxHeartbeats 1000000 in
theorem until_any (s t : ByteArray) (p : Int) (P Q : Nat → Bool) (w : World) (hs : s.size ≤ mx) (hP : SignsQ P t) (hQ : ∀ x, Q x = !P x) :
    Calls Try.prog 68 #[.string s, .int .i64 p, .string t] w fun e w' => e = .returned (.int .i64 (fwd Q s (cl s.size p))) ∧ Below w.heap.size w w' := by
  go_enter Try.func68, Try.ntmps68
  go_wp2_with fail
  refine (among_any _ _).mono ?_
  rintro e w1 ⟨B, rfl, hB, hb1⟩
  go_wp2_with fail
  have hAlt : B < w1.heap.size := (Array.getElem?_eq_some_iff.1 hB).1
  have hF : (w1.alloc (.cells #[.func (.func 72) #[] #[.pointer (some ⟨B, 0, none⟩)]] 91)).heap[w1.heap.size]? = some (.cells #[.func (.func 72) #[] #[.pointer (some ⟨B, 0, none⟩)]] 91 (0, 0)) := by show (w1.heap.push _)[w1.heap.size]? = _; simp
  have hn : Below w1.heap.size w1 (w1.alloc (.cells #[.func (.func 72) #[] #[.pointer (some ⟨B, 0, none⟩)]] 91)) := (Below.refl _ w1).alloc (Nat.le_refl _) _
  have hB' : (w1.alloc (.cells #[.func (.func 72) #[] #[.pointer (some ⟨B, 0, none⟩)]] 91)).heap[B]? = some (.cells #[.string t] 9 (0, 0)) := (hn.block _ hAlt).trans hB
  have hb2 : Below w.heap.size w (w1.alloc (.cells #[.func (.func 72) #[] #[.pointer (some ⟨B, 0, none⟩)]] 91)) := hb1.alloc hb1.size _
  generalize w1.alloc (.cells #[.func (.func 72) #[] #[.pointer (some ⟨B, 0, none⟩)]] 91) = w2 at *
  generalize w1.heap.size = F at *
  have cO := over_any s p 71 _ Q (enters_of Try.func71 (by kernel_rfl) rfl) _ hs (untilC_any t P Q B F w2 hF hB' hP hQ)
  clear hF hB' hB hAlt hn hP hQ
  go_wp2_with fail
  refine cO.mono ?_
  rintro e w3 ⟨rfl, hb3⟩
  go_wp2_with fail
  go_ret
  exact ⟨rfl, hb2.trans (hb3.mono hb2.size)⟩
theorem until_nat (s t : ByteArray) (k v : Nat) (P Q : Nat → Bool) (w : World) (hs : s.size ≤ mx) (hk : k ≤ s.size) (hP : SignsQ P t) (hQ : ∀ x, Q x = !P x) (hv : fwd Q s k = v) :
    Calls Try.prog 68 #[.string s, .int .i64 (k : Int), .string t] w fun e w' => e = .returned (.int .i64 (v : Int)) ∧ Below w.heap.size w w' := by
  have := until_any s t (k : Int) P Q w hs hP hQ
  rw [cl_nat _ _ hk, hv] at this
  exact this
end Go.Proofs.Ytmbbmibkjnlkkaa
/- What impl.named keeps of an event and what impl.fieldsOk asks, as plain functions; together they are what EventOk asks. -/
namespace Go.Proofs.Ytmbbmibkjnlkkaa
open Go.RowKit
def ze : ByteArray := ⟨#[]⟩
def namedE (e : Ev) : Ev :=
  if e.kind = 1 ∨ e.kind = 7 ∨ e.kind = 9 then ⟨e.kind, 0, false, ze, ze, ze, 0, 0⟩
  else if e.kind = 2 ∨ e.kind = 8 then ⟨e.kind, 0, e.flag, ze, ze, ze, 0, 0⟩
  else if e.kind = 3 ∨ e.kind = 4 then ⟨e.kind, e.style, false, ze, e.anchor, e.tag, 0, 0⟩
  else if e.kind = 5 then ⟨e.kind, e.style, false, e.text, e.anchor, e.tag, 0, 0⟩
  else if e.kind = 6 then ⟨e.kind, 0, false, e.text, ze, ze, 0, 0⟩
  else if e.kind = 10 then ⟨e.kind, 0, false, ze, ze, ze, e.at_, e.code⟩
  else ⟨0, 0, false, ze, ze, ze, 0, 0⟩
def eqEv (a b : Ev) : Bool := a.kind == b.kind && (a.style == b.style && (a.flag == b.flag && (a.text.toList == b.text.toList && (a.anchor.toList == b.anchor.toList && (a.tag.toList == b.tag.toList && (a.at_ == b.at_ && a.code == b.code))))))
def prOk (e : Ev) : Bool := nmOk e.anchor && decide (e.tag.size ≤ 120)
def fieldsE (e : Ev) : Bool :=
  if e.kind = 3 ∨ e.kind = 4 then (e.style == 6 || e.style == 7) && prOk e
  else if e.kind = 5 then decide (1 ≤ e.style ∧ e.style ≤ 5) && prOk e
  else if e.kind = 6 then !noB e.text && nmOk e.text
  else if e.kind = 10 then decide (1 ≤ e.code ∧ e.code ≤ 99) && decide (0 ≤ e.at_)
  else decide (1 ≤ e.kind ∧ e.kind ≤ 10)
theorem noB_ze (s : ByteArray) : (s.toList == ze.toList) = noB s := by
  unfold noB
  rw [show ze.toList = [] from by rw [ByteArray.toList_eq]; rfl]
theorem nm_noB {s : ByteArray} (h : noB s = true) : nmOk s = true ∧ s.size ≤ 120 := by
  have h1 : s.toList = [] := by simpa [noB] using h
  have h2 : s = ByteArray.empty := by
    rw [ByteArray.toList_eq] at h1
    obtain ⟨⟨x⟩⟩ := s
    simp at h1
    subst h1
    rfl
  subst h2
  exact ⟨by decide, by decide⟩
set_option linter.unusedSimpArgs false in
set_option maxHeartbeats 2000000 in
theorem evOk_impl (e : Ev) : (eqEv e (namedE e) && fieldsE e) = evOk e := by
  obtain ⟨kind, style, flag, text, anchor, tag, at_, code⟩ := e
  have hA : noB anchor = true → nmOk anchor = true := fun h => (nm_noB h).1
  have hT : noB tag = true → decide (tag.size ≤ 120) = true := fun h => decide_eq_true (nm_noB h).2
  have hk : kind = 1 ∨ kind = 2 ∨ kind = 3 ∨ kind = 4 ∨ kind = 5 ∨ kind = 6 ∨ kind = 7 ∨ kind = 8 ∨ kind = 9 ∨ kind = 10 ∨ (kind < 1 ∨ 10 < kind) := by omega
  have hev : ∀ s : ByteArray, (s.toList == s.toList) = true := fun s => by simp
  rcases hk with rfl | rfl | rfl | rfl | rfl | rfl | rfl | rfl | rfl | rfl | hk
  case inr.inr.inr.inr.inr.inr.inr.inr.inr.inr =>
    have h1 : evOk ⟨kind, style, flag, text, anchor, tag, at_, code⟩ = false := by
      unfold evOk
      rw [if_pos (by rcases hk with h | h; exact .inl h; exact .inr (.inl h))]
    have h2 : fieldsE ⟨kind, style, flag, text, anchor, tag, at_, code⟩ = false := by
      unfold fieldsE
      simp only
      rw [if_neg (by omega), if_neg (by omega), if_neg (by omega), if_neg (by omega)]
      exact decide_eq_false (by omega)
    rw [h1, h2, Bool.and_false]
  all_goals
    simp only [eqEv, namedE, fieldsE, evOk, evBad, evRest, loK, hiK, nodeK, noB_ze, prOk, hev]
    simp only [noB_ze, hev, Int.reduceEq, Int.reduceLT, Int.reduceBEq, Int.reduceBNe, false_or, true_or, or_true, or_false, or_self, and_true, true_and, if_true, if_false, Bool.and_false, Bool.and_true, Bool.or_false, Bool.false_or, Bool.true_or, Bool.not_true, Bool.not_false, Bool.true_and, Bool.false_and, BEq.rfl]
    generalize noB text = nt at *
    generalize noB anchor = na at *
    generalize noB tag = ng at *
    generalize nmOk anchor = ma at *
    generalize nmOk text = mt at *
    generalize decide (tag.size ≤ 120) = mg at *
    rw [Bool.eq_iff_iff]
    cases flag <;> cases nt <;> cases na <;> cases ng <;> cases ma <;> cases mt <;> cases mg <;> first | (exfalso; simp at hA; done) | (exfalso; simp at hT; done) | (clear hA hT hev; simp; done) | (clear hA hT hev; simp; omega)
end Go.Proofs.Ytmbbmibkjnlkkaa
/- The contracts of impl.nameOk and impl.propsOk. -/
namespace Go.Proofs.Ytmbbmibkjnlkkaa
open Go.ChangeShapes Go.WideShapes Go.ChangeAt Go.RowKit
def pSg (c : Nat) : Bool := pG c || pF6 c
theorem pSg_signs : SignsQ pSg ⟨#[32, 9, 10, 44, 91, 93, 123, 125]⟩ := by
  intro x hx
  show pSg x = [32, 9, 10, 44, 91, 93, 123, 125].contains x.toUInt8
  simp only [List.contains_cons, List.contains_nil, u8_eq hx, Bool.or_false]
  unfold pSg pG pF6
  simp only [Bool.or_assoc]
  rfl
set_option maxHeartbeats 2000000 in
theorem nameOk_any (s : ByteArray) (w : World) (hs : s.size ≤ mx) (b : Bool) (hb : nmOk s = b) :
    Calls Try.prog 67 #[.string s] w fun e w' => e = .returned (.bool b) ∧ Below w.heap.size w w' := by
  have hs' : s.size < 9223372036854775807 := by unfold mx at hs; omega
  by_cases h60 : s.size ≤ 60
  · have h60' : (s.size : Int) ≤ 60 := by omega
    obtain ⟨v, hv⟩ : ∃ v, fwd pNm s 0 = v := ⟨_, rfl⟩
    have cU : Hid (∀ w, Calls Try.prog 68 #[.string s, .int .i64 0, .string ⟨#[32, 9, 10, 44, 91, 93, 123, 125]⟩] w fun e w' => e = .returned (.int .i64 (v : Int)) ∧ Below w.heap.size w w') := fun w => until_nat s _ 0 v pSg pNm w hs (Nat.zero_le _) pSg_signs (fun _ => rfl) hv
    have HB : Hid ((((v : Int) == (s.size : Int)) : Bool) = b) := by
      show (((v : Int) == (s.size : Int)) : Bool) = b
      rw [← hb]
      unfold nmOk
      rw [hv, decide_eq_true h60, Bool.and_true, Bool.eq_iff_iff, beq_iff_eq, decide_eq_true_iff]
      omega
    clear hb hv hs
    go_enter Try.func67, Try.ntmps67
    go_wp2_with fail
    refine (cU.out _).mono ?_
    rintro e w1 ⟨rfl, hb1⟩
    clear cU
    go_wp2_with fail
    go_ret
    exact ⟨ret_bool HB.out, hb1⟩
  · have h60' : ¬ (s.size : Int) ≤ 60 := by omega
    obtain rfl : false = b := by rw [← hb]; unfold nmOk; rw [decide_eq_false h60, Bool.and_false]
    clear hb hs
    go_enter Try.func67, Try.ntmps67
    go_wp2_with fail
    go_ret
    exact ⟨rfl, Below.refl _ _⟩
set_option maxHeartbeats 2000000 in
theorem propsOk_any (e : Ev) (w : World) (ha : e.anchor.size ≤ mx) (ht : e.tag.size ≤ mx) (b : Bool) (hb : prOk e = b) :
    Calls Try.prog 66 #[.agg e.row] w fun r w' => r = .returned (.bool b) ∧ Below w.heap.size w w' := by
  obtain ⟨kind, style, flag, text, anchor, tag, at_, code⟩ := e
  have ht' : tag.size < 9223372036854775807 := by unfold mx at ht; have : tag.size ≤ _ := ht; omega
  obtain ⟨m, hm⟩ : ∃ m, nmOk anchor = m := ⟨_, rfl⟩
  have cN : Hid (∀ w, Calls Try.prog 67 #[.string anchor] w fun e w' => e = .returned (.bool m) ∧ Below w.heap.size w w') := fun w => nameOk_any anchor w ha m hm
  have hb' : (m && decide (tag.size ≤ 120)) = b := by rw [← hb, ← hm]; rfl
  clear hb ha ht hm
  show Calls Try.prog 66 #[.agg #[.int .i64 kind, .int .i64 style, .bool flag, .string text, .string anchor, .string tag, .int .i64 at_, .int .i64 code]] w fun r w' => r = .returned (.bool b) ∧ Below w.heap.size w w'
  have HAL : Hid (Below w.heap.size w (w.alloc (.cells #[.int .i64 kind, .int .i64 style, .bool flag, .string text, .string anchor, .string tag, .int .i64 at_, .int .i64 code] 38))) := (Below.refl _ w).alloc (Nat.le_refl _) _
  have HNEW : Hid ((w.alloc (.cells #[.int .i64 kind, .int .i64 style, .bool flag, .string text, .string anchor, .string tag, .int .i64 at_, .int .i64 code] 38)).heap[w.heap.size]? = some (.cells #[.int .i64 kind, .int .i64 style, .bool flag, .string text, .string anchor, .string tag, .int .i64 at_, .int .i64 code] 38 (0, 0))) := heap_alloc_new w _
  cases m with
  | false =>
    obtain rfl : false = b := by rw [← hb']; rfl
    clear hb'
    go_enter Try.func66, Try.ntmps66
    go_wp2_with fail
    refine (cN.out _).mono ?_
    rintro e w1 ⟨rfl, hb1⟩
    clear cN
    go_wp2_with fail
    go_ret
    exact ⟨rfl, HAL.out.trans (hb1.mono HAL.out.size)⟩
  | true =>
    have HB : Hid (decide ((tag.size : Int) ≤ 120) = b) := by
      show decide ((tag.size : Int) ≤ 120) = b
      rw [← hb', Bool.true_and, decide_eq_decide]
      omega
    clear hb'
    go_enter Try.func66, Try.ntmps66
    go_wp2_with fail
    refine (cN.out _).mono ?_
    rintro e w1 ⟨rfl, hb1⟩
    clear cN
    have hnew : w1.heap[w.heap.size]? = some (.cells #[.int .i64 kind, .int .i64 style, .bool flag, .string text, .string anchor, .string tag, .int .i64 at_, .int .i64 code] 38 (0, 0)) := (hb1.block _ (by show w.heap.size < (w.heap.push _).size; simp)).trans HNEW.out
    obtain ⟨q0, q1, q2, q3, q4, q5, q6, q7⟩ := ev_at hnew
    have HB1 : Hid (Below w.heap.size w w1) := HAL.out.trans (hb1.mono HAL.out.size)
    clear hnew HNEW HAL hb1
    go_wp2_with fail
    go_ret
    exact ⟨ret_bool HB.out, HB1.out⟩
end Go.Proofs.Ytmbbmibkjnlkkaa
