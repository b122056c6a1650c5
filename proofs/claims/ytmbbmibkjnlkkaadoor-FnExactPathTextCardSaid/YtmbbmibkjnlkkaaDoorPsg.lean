/- Steps, plain: which are right, and what a pattern tells. -/
import Derived.Test.YtmbbmibkjnlkkaaDoorHpa
namespace Go.Proofs.YtmbbmibkjnlkkaaDoor
open Go.RowKit
def noT (b : ByteArray) : Bool := b.toList.isEmpty
def segOk (s : Sg) : Bool := decide (1 ≤ s.kind) && (decide (s.kind ≤ 5) && (decide (0 ≤ s.n) && (decide (s.n ≤ 4294967295) && ((decide (s.kind = 1) || (decide (s.kind = 3) || decide (s.n = 0))) && (decide (s.kind = 2) || noT s.text)))))
def segSame (a b : Sg) : Bool := a.kind == b.kind && (a.n == b.n && a.text.toList == b.text.toList)
/-- Whether the path is told, with so many turns. -/
def matchF : Nat → List Sg → List Sg → Bool
  | 0, _, _ => false
  | _ + 1, [], l => l.isEmpty
  | f + 1, s :: p, l => match l with
    | [] => if s.kind = 5 then matchF f p [] else false
    | x :: t => if s.kind = 5 then matchF f p (x :: t) || matchF f (s :: p) t else (decide (s.kind = 4) || segSame s x) && matchF f p t
def matchP (p l : List Sg) : Bool := matchF (p.length + l.length + 1) p l
theorem matchF_more : ∀ (f g : Nat) (p l : List Sg), p.length + l.length < f → p.length + l.length < g → matchF f p l = matchF g p l
  | 0, _, _, _, h, _ => by omega
  | _ + 1, 0, _, _, _, h => by omega
  | f + 1, g + 1, [], l, _, _ => rfl
  | f + 1, g + 1, s :: p, [], h1, h2 => by
    have e := matchF_more f g p [] (by simp only [List.length_cons, List.length_nil] at h1 ⊢; omega) (by simp only [List.length_cons, List.length_nil] at h2 ⊢; omega)
    show (if s.kind = 5 then matchF f p [] else false) = if s.kind = 5 then matchF g p [] else false
    rw [e]
  | f + 1, g + 1, s :: p, x :: t, h1, h2 => by
    have e1 := matchF_more f g p (x :: t) (by simp only [List.length_cons] at h1 ⊢; omega) (by simp only [List.length_cons] at h2 ⊢; omega)
    have e2 := matchF_more f g (s :: p) t (by simp only [List.length_cons] at h1 ⊢; omega) (by simp only [List.length_cons] at h2 ⊢; omega)
    have e3 := matchF_more f g p t (by simp only [List.length_cons] at h1; omega) (by simp only [List.length_cons] at h2; omega)
    show (if s.kind = 5 then matchF f p (x :: t) || matchF f (s :: p) t else (decide (s.kind = 4) || segSame s x) && matchF f p t) = if s.kind = 5 then matchF g p (x :: t) || matchF g (s :: p) t else (decide (s.kind = 4) || segSame s x) && matchF g p t
    rw [e1, e2, e3]
theorem match_nil (l : List Sg) : matchP [] l = l.isEmpty := rfl
theorem matchF_cons (f : Nat) (s x : Sg) (p t : List Sg) : matchF (f + 1) (s :: p) (x :: t) = if s.kind = 5 then matchF f p (x :: t) || matchF f (s :: p) t else (decide (s.kind = 4) || segSame s x) && matchF f p t := rfl
theorem matchF_last (f : Nat) (s : Sg) (p : List Sg) : matchF (f + 1) (s :: p) [] = if s.kind = 5 then matchF f p [] else false := rfl
theorem match_deep0 {s : Sg} (h : s.kind = 5) (p : List Sg) : matchP (s :: p) [] = matchP p [] := by
  show matchF (p.length + 1 + 0 + 1) (s :: p) [] = _
  rw [matchF_last, if_pos h]
  rfl
theorem match_deep1 {s x : Sg} (h : s.kind = 5) (p t : List Sg) : matchP (s :: p) (x :: t) = (matchP p (x :: t) || matchP (s :: p) t) := by
  show matchF (p.length + 1 + (t.length + 1) + 1) (s :: p) (x :: t) = (matchF (p.length + (t.length + 1) + 1) p (x :: t) || matchF (p.length + 1 + t.length + 1) (s :: p) t)
  rw [matchF_cons, if_pos h, matchF_more (p.length + 1 + (t.length + 1)) (p.length + (t.length + 1) + 1) p (x :: t) (by simp only [List.length_cons]; omega) (by simp only [List.length_cons]; omega), matchF_more (p.length + 1 + (t.length + 1)) (p.length + 1 + t.length + 1) (s :: p) t (by simp only [List.length_cons]; omega) (by simp only [List.length_cons]; omega)]
theorem match_step0 {s : Sg} (h : s.kind ≠ 5) (p : List Sg) : matchP (s :: p) [] = false := by
  show matchF (p.length + 1 + 0 + 1) (s :: p) [] = _
  rw [matchF_last, if_neg h]
theorem match_step1 {s x : Sg} (h : s.kind ≠ 5) (p t : List Sg) : matchP (s :: p) (x :: t) = ((decide (s.kind = 4) || segSame s x) && matchP p t) := by
  show matchF (p.length + 1 + (t.length + 1) + 1) (s :: p) (x :: t) = ((decide (s.kind = 4) || segSame s x) && matchF (p.length + t.length + 1) p t)
  rw [matchF_cons, if_neg h, matchF_more (p.length + 1 + (t.length + 1)) (p.length + t.length + 1) p t (by omega) (by omega)]
/-- A deep step behind a deep step is left out. -/
def onceG : Option Sg → List Sg → List Sg
  | _, [] => []
  | b, s :: t => (if (match b with | none => false | some x => decide (x.kind = 5)) && decide (s.kind = 5) then [] else [s]) ++ onceG (some s) t
def onceP (l : List Sg) : List Sg := onceG none l
def matchAll (p l : List Sg) : Bool := p.all segOk && (l.all segOk && matchP (onceP p) l)
/-- What is left out tells nothing more. -/
theorem deep_twice {s x : Sg} (hs : s.kind = 5) (hx : x.kind = 5) (p : List Sg) : ∀ l : List Sg, matchP (s :: x :: p) l = matchP (x :: p) l
  | [] => match_deep0 hs _
  | a :: t => by
    rw [match_deep1 hs, deep_twice hs hx p t]
    cases h : matchP (x :: p) (a :: t) with
    | true => rfl
    | false =>
      rw [match_deep1 hx, Bool.or_eq_false_iff] at h
      rw [h.2]
      rfl
end Go.Proofs.YtmbbmibkjnlkkaaDoor
