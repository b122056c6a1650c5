/- A deep step behind a deep step, plain: left out, nothing more is told. -/
import Derived.Test.YtmbbmibkjnlkkaaDoorPsg
namespace Go.Proofs.YtmbbmibkjnlkkaaDoor
theorem match_cong {A B : List Sg} (h : ∀ l, matchP A l = matchP B l) (x : Sg) : ∀ l, matchP (x :: A) l = matchP (x :: B) l
  | [] => by
    by_cases h5 : x.kind = 5
    · rw [match_deep0 h5, match_deep0 h5, h]
    · rw [match_step0 h5, match_step0 h5]
  | y :: t => by
    by_cases h5 : x.kind = 5
    · rw [match_deep1 h5, match_deep1 h5, h, match_cong h x t]
    · rw [match_step1 h5, match_step1 h5, h]
theorem match_deeps {x s : Sg} (hx : x.kind = 5) (hs : s.kind = 5) (A : List Sg) : ∀ l, matchP (x :: A) l = matchP (s :: A) l
  | [] => by rw [match_deep0 hx, match_deep0 hs]
  | y :: t => by rw [match_deep1 hx, match_deep1 hs, match_deeps hx hs A t]
theorem once_some (x s : Sg) (t : List Sg) : onceG (some x) (s :: t) = (if decide (x.kind = 5) && decide (s.kind = 5) then [] else [s]) ++ onceG (some s) t := rfl
theorem once_behind : ∀ (t : List Sg) (x : Sg) (l : List Sg), matchP (x :: onceG (some x) t) l = matchP (x :: t) l
  | [], _, _ => rfl
  | s :: t, x, l => by
    rw [once_some]
    by_cases h : x.kind = 5 ∧ s.kind = 5
    · rw [if_pos (by simp [h.1, h.2]), List.nil_append, match_deeps h.1 h.2, once_behind t s, ← deep_twice h.1 h.2 t]
    · rw [if_neg (by simpa using h)]
      exact match_cong (fun l => once_behind t s l) x l
theorem once_match (p l : List Sg) : matchP (onceP p) l = matchP p l := by
  cases p with
  | nil => rfl
  | cons s t => exact once_behind t s l
/-- What is kept of the first k. -/
def dropAt (p : List Sg) (k : Nat) : Bool := decide (k ≠ 0) && (match p[k]?, p[k - 1]? with | some s, some x => decide (x.kind = 5) && decide (s.kind = 5) | _, _ => false)
def onceK (p : List Sg) : Nat → List Sg
  | 0 => []
  | k + 1 => onceK p k ++ if dropAt p k then [] else p[k]?.toList
theorem onceK_len (p : List Sg) : ∀ k, (onceK p k).length ≤ k
  | 0 => Nat.le_refl _
  | k + 1 => by
    have := onceK_len p k
    rw [onceK, List.length_append]
    have h2 : (if dropAt p k then ([] : List Sg) else p[k]?.toList).length ≤ 1 := by
      split
      · exact Nat.zero_le _
      · cases p[k]? <;> simp
    omega
theorem onceK_all (rest : List Sg) : ∀ (pre : List Sg), onceK (pre ++ rest) (pre ++ rest).length = onceK (pre ++ rest) pre.length ++ onceG pre.getLast? rest := by
  induction rest with
  | nil => intro pre; simp [onceG]
  | cons s t ih =>
    intro pre
    have e := ih (pre ++ [s])
    rw [List.append_assoc] at e
    simp only [List.singleton_append] at e
    rw [e, List.length_append, List.length_singleton, onceK]
    have h1 : (pre ++ s :: t)[pre.length]? = some s := by simp
    rw [List.append_assoc]
    congr 1
    rw [show (pre ++ [s]).getLast? = some s by simp]
    show _ = (if (match pre.getLast? with | none => false | some x => decide (x.kind = 5)) && decide (s.kind = 5) then [] else [s]) ++ onceG (some s) t
    congr 1
    rw [h1]
    cases hp : pre.getLast? with
    | none =>
      rw [List.getLast?_eq_none_iff] at hp
      subst hp
      rfl
    | some x =>
      have hl : 0 < pre.length := by
        cases pre with
        | nil => simp at hp
        | cons _ _ => simp
      have h2 : (pre ++ s :: t)[pre.length - 1]? = some x := by
        rw [List.getElem?_append_left (by omega), ← hp, List.getLast?_eq_getElem?]
      unfold dropAt
      rw [h1, h2]
      simp [Nat.pos_iff_ne_zero.1 hl]
theorem onceK_eq (p : List Sg) : onceK p p.length = onceP p := by
  have := onceK_all p []
  show onceK p p.length = onceG none p
  simpa [onceK] using this
end Go.Proofs.YtmbbmibkjnlkkaaDoor
