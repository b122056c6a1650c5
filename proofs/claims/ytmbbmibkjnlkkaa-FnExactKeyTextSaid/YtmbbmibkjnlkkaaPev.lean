/- What impl.named keeps of an event and what impl.fieldsOk asks, as plain functions; together they are what EventOk asks. -/
import Derived.Test.YtmbbmibkjnlkkaaEvs
import Derived.Laws.StructEq
namespace Go.Proofs.Ytmbbmibkjnlkkaa
open Go.RowKit
def ze : ByteArray := ⟨#[]⟩
def namedE (e : Ev) : Ev :=
  if e.kind = 1 ∨ e.kind = 7 ∨ e.kind = 9 then ⟨e.kind, 0, false, ze, ze, ze, 0, 0⟩
  else if e.kind = 2 ∨ e.kind = 8 then ⟨e.kind, 0, e.flag, ze, ze, ze, 0, 0⟩
  else if e.kind = 3 ∨ e.kind = 4 then ⟨e.kind, e.style, false, ze, e.anchor, e.tag, 0, 0⟩
  else if e.kind = 5 then ⟨e.kind, e.style, false, e.text, e.anchor, e.tag, 0, 0⟩
  else if e.kind = 6 then ⟨e.kind, 0, false, e.text, ze, ze, 0, 0⟩
  else if e.kind = 10 then ⟨e.kind, 0, false, ze, ze, ze, e.at_, e.code⟩
  else ⟨0, 0, false, ze, ze, ze, 0, 0⟩
def eqEv (a b : Ev) : Bool := a.kind == b.kind && (a.style == b.style && (a.flag == b.flag && (a.text.toList == b.text.toList && (a.anchor.toList == b.anchor.toList && (a.tag.toList == b.tag.toList && (a.at_ == b.at_ && a.code == b.code))))))
def prOk (e : Ev) : Bool := nmOk e.anchor && decide (e.tag.size ≤ 120)
def fieldsE (e : Ev) : Bool :=
  if e.kind = 3 ∨ e.kind = 4 then (e.style == 6 || e.style == 7) && prOk e
  else if e.kind = 5 then decide (1 ≤ e.style ∧ e.style ≤ 5) && prOk e
  else if e.kind = 6 then !noB e.text && nmOk e.text
  else if e.kind = 10 then decide (1 ≤ e.code ∧ e.code ≤ 99) && decide (0 ≤ e.at_)
  else decide (1 ≤ e.kind ∧ e.kind ≤ 10)
theorem noB_ze (s : ByteArray) : (s.toList == ze.toList) = noB s := by
  unfold noB
  rw [show ze.toList = [] from by rw [ByteArray.toList_eq]; rfl]
theorem nm_noB {s : ByteArray} (h : noB s = true) : nmOk s = true ∧ s.size ≤ 120 := by
  have h1 : s.toList = [] := by simpa [noB] using h
  have h2 : s = ByteArray.empty := by
    rw [ByteArray.toList_eq] at h1
    obtain ⟨⟨x⟩⟩ := s
    simp at h1
    subst h1
    rfl
  subst h2
  exact ⟨by decide, by decide⟩
set_option linter.unusedSimpArgs false in
set_option maxHeartbeats 2000000 in
theorem evOk_impl (e : Ev) : (eqEv e (namedE e) && fieldsE e) = evOk e := by
  obtain ⟨kind, style, flag, text, anchor, tag, at_, code⟩ := e
  have hA : noB anchor = true → nmOk anchor = true := fun h => (nm_noB h).1
  have hT : noB tag = true → decide (tag.size ≤ 120) = true := fun h => decide_eq_true (nm_noB h).2
  have hk : kind = 1 ∨ kind = 2 ∨ kind = 3 ∨ kind = 4 ∨ kind = 5 ∨ kind = 6 ∨ kind = 7 ∨ kind = 8 ∨ kind = 9 ∨ kind = 10 ∨ (kind < 1 ∨ 10 < kind) := by omega
  have hev : ∀ s : ByteArray, (s.toList == s.toList) = true := fun s => by simp
  rcases hk with rfl | rfl | rfl | rfl | rfl | rfl | rfl | rfl | rfl | rfl | hk
  case inr.inr.inr.inr.inr.inr.inr.inr.inr.inr =>
    have h1 : evOk ⟨kind, style, flag, text, anchor, tag, at_, code⟩ = false := by
      unfold evOk
      rw [if_pos (by rcases hk with h | h; exact .inl h; exact .inr (.inl h))]
    have h2 : fieldsE ⟨kind, style, flag, text, anchor, tag, at_, code⟩ = false := by
      unfold fieldsE
      simp only
      rw [if_neg (by omega), if_neg (by omega), if_neg (by omega), if_neg (by omega)]
      exact decide_eq_false (by omega)
    rw [h1, h2, Bool.and_false]
  all_goals
    simp only [eqEv, namedE, fieldsE, evOk, evBad, evRest, loK, hiK, nodeK, noB_ze, prOk, hev]
    simp only [noB_ze, hev, Int.reduceEq, Int.reduceLT, Int.reduceBEq, Int.reduceBNe, false_or, true_or, or_true, or_false, or_self, and_true, true_and, if_true, if_false, Bool.and_false, Bool.and_true, Bool.or_false, Bool.false_or, Bool.true_or, Bool.not_true, Bool.not_false, Bool.true_and, Bool.false_and, BEq.rfl]
    generalize noB text = nt at *
    generalize noB anchor = na at *
    generalize noB tag = ng at *
    generalize nmOk anchor = ma at *
    generalize nmOk text = mt at *
    generalize decide (tag.size ≤ 120) = mg at *
    rw [Bool.eq_iff_iff]
    cases flag <;> cases nt <;> cases na <;> cases ng <;> cases ma <;> cases mt <;> cases mg <;> first | (exfalso; simp at hA; done) | (exfalso; simp at hT; done) | (clear hA hT hev; simp; done) | (clear hA hT hev; simp; omega)
end Go.Proofs.Ytmbbmibkjnlkkaa
