/- How impl walks over a stream, as a plain function on the kind of its place and on those around it; it goes as Nested does. -/
import Derived.Test.YtmbbmibkjnlkkaaPnt
namespace Go.Proofs.Ytmbbmibkjnlkkaa
/-- The kind of a place in a collection that has x nodes (-1: a list). -/
def cod (x : Int) : Int := if x < 0 then 4 else if x % 2 = 0 then 5 else 6
def nd (c : Int) : Option Int := if c = 2 then some 3 else if c = 5 then some 6 else if c = 6 then some 5 else if c = 4 then some 4 else none
def tk (c : Int) (ar : List Int) (k : Int) : Option (Int × List Int) :=
  if k = 1 then (if c = 0 then some (1, ar) else none)
  else if k = 2 then (if c = 1 then some (2, ar) else none)
  else if k = 3 then (nd c).map fun d => (4, d :: ar)
  else if k = 4 then (nd c).map fun d => (5, d :: ar)
  else if k = 5 ∨ k = 6 then (nd c).map fun d => (d, ar)
  else if k = 7 then (if c = 4 ∨ c = 5 then some (ar.headD 0, ar.tail) else none)
  else if k = 8 then (if c = 3 then some (1, ar) else none)
  else if k = 9 then (if c = 1 then some (7, ar) else none)
  else (if c ≠ 0 ∧ c ≠ 7 then some (7, ar) else none)
/-- The place of the walk and what the specification keeps. -/
def Rel (first : Bool) (doc : Int) (st : List Int) (c : Int) (ar : List Int) : Prop :=
  (first = true ∧ doc = 0 ∧ st = [] ∧ c = 0 ∧ ar = []) ∨ (first = false ∧ doc = 0 ∧ st = [] ∧ c = 1 ∧ ar = []) ∨ (first = false ∧ doc = 1 ∧ st = [] ∧ c = 2 ∧ ar = []) ∨ (first = false ∧ doc = 2 ∧ st = [] ∧ c = 3 ∧ ar = []) ∨
  (first = false ∧ doc = 2 ∧ ∃ x t, st = x :: t ∧ c = cod x ∧ ar = t.map cod ++ [3])
theorem Rel.at0 : Rel true 0 [] 0 [] := .inl ⟨rfl, rfl, rfl, rfl, rfl⟩
theorem Rel.out : Rel false 0 [] 1 [] := .inr (.inl ⟨rfl, rfl, rfl, rfl, rfl⟩)
theorem Rel.doc : Rel false 1 [] 2 [] := .inr (.inr (.inl ⟨rfl, rfl, rfl, rfl, rfl⟩))
theorem Rel.full : Rel false 2 [] 3 [] := .inr (.inr (.inr (.inl ⟨rfl, rfl, rfl, rfl, rfl⟩)))
theorem Rel.more (x : Int) (t : List Int) : Rel false 2 (x :: t) (cod x) (t.map cod ++ [3]) := .inr (.inr (.inr (.inr ⟨rfl, rfl, x, t, rfl, rfl, rfl⟩)))
theorem nd_cod (x : Int) : nd (cod x) = some (cod (stI x)) := by
  unfold cod stI nd
  by_cases h : x < 0
  · rw [if_pos h, if_neg (show ¬ 0 ≤ x by omega), if_pos h]
    rfl
  · rw [if_neg h, if_pos (show 0 ≤ x by omega), if_neg (show ¬ x + 1 < 0 by omega)]
    by_cases h2 : x % 2 = 0
    · rw [if_pos h2, if_neg (show ¬ (x + 1) % 2 = 0 by omega)]; rfl
    · rw [if_neg h2, if_pos (show (x + 1) % 2 = 0 by omega)]; rfl
theorem cod_in (x : Int) : cod x = 4 ∨ cod x = 5 ∨ cod x = 6 := by
  unfold cod
  split
  · exact .inl rfl
  · split
    · exact .inr (.inl rfl)
    · exact .inr (.inr rfl)
theorem cod_odd (x : Int) : cod x = 6 ↔ 0 < x ∧ x % 2 = 1 := by
  unfold cod
  split
  · constructor
    · intro h; cases h
    · intro h; omega
  · split
    · constructor
      · intro h; cases h
      · intro h; omega
    · constructor
      · intro _; omega
      · intro _; rfl
/-- What one event does. -/
def stepK (first : Bool) (doc : Int) (st : List Int) (e : Ev) (t : List Ev) : Option (Int × List Int) → Prop
  | none => nst first doc st (e :: t) = false
  | some p => (p.1 = 7 ∧ nst first doc st (e :: t) = t.isEmpty) ∨ (∃ f d s, Rel f d s p.1 p.2 ∧ nst first doc st (e :: t) = nst f d s t)
theorem step_walk {first : Bool} {doc : Int} {st : List Int} {c : Int} {ar : List Int} (h : Rel first doc st c ar) (e : Ev) (t : List Ev) (hok : evOk e = true) : stepK first doc st e t (tk c ar e.kind) := by
  obtain ⟨k1, k10⟩ := evOk_kind hok
  have hk : e.kind = 1 ∨ e.kind = 2 ∨ e.kind = 3 ∨ e.kind = 4 ∨ e.kind = 5 ∨ e.kind = 6 ∨ e.kind = 7 ∨ e.kind = 8 ∨ e.kind = 9 ∨ e.kind = 10 := by omega
  have hne : ¬ evOk e = false := by rw [hok]; simp
  rcases h with ⟨rfl, rfl, rfl, rfl, rfl⟩ | ⟨rfl, rfl, rfl, rfl, rfl⟩ | ⟨rfl, rfl, rfl, rfl, rfl⟩ | ⟨rfl, rfl, rfl, rfl, rfl⟩ | ⟨rfl, rfl, x, s, rfl, rfl, rfl⟩
  case inl =>
    rcases hk with h | h | h | h | h | h | h | h | h | h
    · rw [h]
      refine .inr ⟨_, _, _, Rel.out, ?_⟩
      rw [nst, if_neg hne]
      simp [h]
    all_goals
      rw [h]
      show nst true 0 [] (e :: t) = false
      rw [nst, if_neg hne]
      simp [h]
  case inr.inl =>
    rcases hk with h | h | h | h | h | h | h | h | h | h
    · rw [h]
      show nst false 0 [] (e :: t) = false
      rw [nst, if_neg hne]
      simp [h]
    · rw [h]
      refine .inr ⟨_, _, _, Rel.doc, ?_⟩
      rw [nst, if_neg hne]
      simp [h]
    case inr.inr.inr.inr.inr.inr.inr.inr.inl =>
      rw [h]
      refine .inl ⟨rfl, ?_⟩
      rw [nst, if_neg hne]
      simp [h]
    case inr.inr.inr.inr.inr.inr.inr.inr.inr =>
      rw [h]
      refine .inl ⟨rfl, ?_⟩
      rw [nst, if_neg hne]
      simp [h]
    all_goals
      rw [h]
      show nst false 0 [] (e :: t) = false
      rw [nst, if_neg hne]
      simp [h]
  case inr.inr.inl =>
    rcases hk with h | h | h | h | h | h | h | h | h | h
    case inr.inr.inl =>
      rw [h]
      refine .inr ⟨_, _, _, Rel.more (-1) [], ?_⟩
      rw [nst, if_neg hne]
      simp [h, pushK]
    case inr.inr.inr.inl =>
      rw [h]
      refine .inr ⟨_, _, _, Rel.more 0 [], ?_⟩
      rw [nst, if_neg hne]
      simp [h, pushK]
    case inr.inr.inr.inr.inl =>
      rw [h]
      refine .inr ⟨_, _, _, Rel.full, ?_⟩
      rw [nst, if_neg hne]
      simp [h, pushK]
    case inr.inr.inr.inr.inr.inl =>
      rw [h]
      refine .inr ⟨_, _, _, Rel.full, ?_⟩
      rw [nst, if_neg hne]
      simp [h, pushK]
    case inr.inr.inr.inr.inr.inr.inr.inr.inr =>
      rw [h]
      refine .inl ⟨rfl, ?_⟩
      rw [nst, if_neg hne]
      simp [h]
    all_goals
      rw [h]
      show nst false 1 [] (e :: t) = false
      rw [nst, if_neg hne]
      simp [h]
  case inr.inr.inr.inl =>
    rcases hk with h | h | h | h | h | h | h | h | h | h
    case inr.inr.inr.inr.inr.inr.inr.inl =>
      rw [h]
      refine .inr ⟨_, _, _, Rel.out, ?_⟩
      rw [nst, if_neg hne]
      simp [h]
    case inr.inr.inr.inr.inr.inr.inr.inr.inr =>
      rw [h]
      refine .inl ⟨rfl, ?_⟩
      rw [nst, if_neg hne]
      simp [h]
    all_goals
      rw [h]
      show nst false 2 [] (e :: t) = false
      rw [nst, if_neg hne]
      simp [h]
  case inr.inr.inr.inr =>
    have hc := cod_in x
    rcases hk with h | h | h | h | h | h | h | h | h | h
    case inr.inr.inl =>
      rw [h, show tk (cod x) (s.map cod ++ [3]) 3 = some (4, cod (stI x) :: (s.map cod ++ [3])) from by show (nd (cod x)).map _ = _; rw [nd_cod]; rfl]
      refine .inr ⟨_, _, _, Rel.more (-1) (stI x :: s), ?_⟩
      rw [nst, if_neg hne]
      simp [h, pushK]
    case inr.inr.inr.inl =>
      rw [h, show tk (cod x) (s.map cod ++ [3]) 4 = some (5, cod (stI x) :: (s.map cod ++ [3])) from by show (nd (cod x)).map _ = _; rw [nd_cod]; rfl]
      refine .inr ⟨_, _, _, Rel.more 0 (stI x :: s), ?_⟩
      rw [nst, if_neg hne]
      simp [h, pushK]
    case inr.inr.inr.inr.inl =>
      rw [h, show tk (cod x) (s.map cod ++ [3]) 5 = some (cod (stI x), s.map cod ++ [3]) from by show (nd (cod x)).map _ = _; rw [nd_cod]; rfl]
      refine .inr ⟨_, _, _, Rel.more (stI x) s, ?_⟩
      rw [nst, if_neg hne]
      simp [h, pushK]
    case inr.inr.inr.inr.inr.inl =>
      rw [h, show tk (cod x) (s.map cod ++ [3]) 6 = some (cod (stI x), s.map cod ++ [3]) from by show (nd (cod x)).map _ = _; rw [nd_cod]; rfl]
      refine .inr ⟨_, _, _, Rel.more (stI x) s, ?_⟩
      rw [nst, if_neg hne]
      simp [h, pushK]
    case inr.inr.inr.inr.inr.inr.inl =>
      rw [h]
      by_cases h6 : cod x = 6
      · rw [show tk (cod x) (s.map cod ++ [3]) 7 = none from by show (if cod x = 4 ∨ cod x = 5 then _ else none) = _; rw [if_neg (by omega)]]
        show nst false 2 (x :: s) (e :: t) = false
        have ho := (cod_odd x).1 h6
        rw [nst, if_neg hne]
        simp [h, ho]
      · rw [show tk (cod x) (s.map cod ++ [3]) 7 = some ((s.map cod ++ [3]).headD 0, (s.map cod ++ [3]).tail) from by show (if cod x = 4 ∨ cod x = 5 then _ else none) = _; rw [if_pos (by omega)]]
        have ho : ¬ (0 < x ∧ x % 2 = 1) := fun hh => h6 ((cod_odd x).2 hh)
        have hn : nst false 2 (x :: s) (e :: t) = nst false 2 s t := by
          rw [nst, if_neg hne]
          simp [h, ho]
        cases s with
        | nil => exact .inr ⟨_, _, _, Rel.full, hn⟩
        | cons y u => exact .inr ⟨_, _, _, Rel.more y u, hn⟩
    case inr.inr.inr.inr.inr.inr.inr.inr.inr =>
      rw [h, show tk (cod x) (s.map cod ++ [3]) 10 = some (7, s.map cod ++ [3]) from by show (if cod x ≠ 0 ∧ cod x ≠ 7 then _ else none) = _; rw [if_pos (by omega)]]
      refine .inl ⟨rfl, ?_⟩
      rw [nst, if_neg hne]
      simp [h]
    · rw [h, show tk (cod x) (s.map cod ++ [3]) 1 = none from by show (if cod x = 0 then _ else none) = _; rw [if_neg (by omega)]]
      show nst false 2 (x :: s) (e :: t) = false
      rw [nst, if_neg hne]
      simp [h]
    · rw [h, show tk (cod x) (s.map cod ++ [3]) 2 = none from by show (if cod x = 1 then _ else none) = _; rw [if_neg (by omega)]]
      show nst false 2 (x :: s) (e :: t) = false
      rw [nst, if_neg hne]
      simp [h]
    · rw [h, show tk (cod x) (s.map cod ++ [3]) 8 = none from by show (if cod x = 3 then _ else none) = _; rw [if_neg (by omega)]]
      show nst false 2 (x :: s) (e :: t) = false
      rw [nst, if_neg hne]
      simp [h]
    · rw [h, show tk (cod x) (s.map cod ++ [3]) 9 = none from by show (if cod x = 1 then _ else none) = _; rw [if_neg (by omega)]]
      show nst false 2 (x :: s) (e :: t) = false
      rw [nst, if_neg hne]
      simp [h]
theorem tk_end (ar : List Int) (k : Int) (h1 : 1 ≤ k) (h2 : k ≤ 10) : tk 7 ar k = none := by
  have hk : k = 1 ∨ k = 2 ∨ k = 3 ∨ k = 4 ∨ k = 5 ∨ k = 6 ∨ k = 7 ∨ k = 8 ∨ k = 9 ∨ k = 10 := by omega
  rcases hk with rfl | rfl | rfl | rfl | rfl | rfl | rfl | rfl | rfl | rfl <;> rfl
theorem Rel.no7 {first : Bool} {doc : Int} {st : List Int} {c : Int} {ar : List Int} (h : Rel first doc st c ar) : c ≠ 7 := by
  rcases h with ⟨_, _, _, h, _⟩ | ⟨_, _, _, h, _⟩ | ⟨_, _, _, h, _⟩ | ⟨_, _, _, h, _⟩ | ⟨_, _, x, t, _, h, _⟩
  · omega
  · omega
  · omega
  · omega
  · have := cod_in x
    omega
theorem Rel.some {first : Bool} {doc : Int} {st : List Int} {c : Int} {ar : List Int} (h : Rel first doc st c ar) (hc : c = 4 ∨ c = 5) : ∃ x t, ar = x :: t := by
  rcases h with ⟨_, _, _, h, _⟩ | ⟨_, _, _, h, _⟩ | ⟨_, _, _, h, _⟩ | ⟨_, _, _, h, _⟩ | ⟨_, _, x, t, _, _, h⟩
  · omega
  · omega
  · omega
  · omega
  · subst h
    cases t with
    | nil => exact ⟨_, _, rfl⟩
    | cons y u => exact ⟨_, _, rfl⟩
end Go.Proofs.Ytmbbmibkjnlkkaa
