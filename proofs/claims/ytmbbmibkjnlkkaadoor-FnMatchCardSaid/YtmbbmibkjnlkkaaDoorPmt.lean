/- What FnMatch says, plain. -/
import Derived.Test.YtmbbmibkjnlkkaaDoorPso
namespace Go.Proofs.YtmbbmibkjnlkkaaDoor
theorem segSame_self (s : Sg) : segSame s s = true := by simp [segSame]
theorem match_self : ∀ l : List Sg, (∀ s ∈ l, s.kind ≠ 5) → matchP l l = true
  | [], _ => rfl
  | s :: t, h => by
    rw [match_step1 (h s (List.mem_cons_self ..)), segSame_self, match_self t (fun x hx => h x (List.mem_cons_of_mem _ hx))]
    simp
theorem match_any4 (a : Sg) (ha : a.kind = 4) : ∀ l : List Sg, matchP (List.replicate l.length a) l = true
  | [] => rfl
  | x :: t => by
    rw [List.length_cons, List.replicate_succ, match_step1 (by omega), match_any4 a ha t, ha]
    rfl
theorem match_deepAll (d : Sg) (hd : d.kind = 5) : ∀ l : List Sg, matchP [d] l = true
  | [] => by rw [match_deep0 hd]; rfl
  | x :: t => by rw [match_deep1 hd, match_deepAll d hd t, Bool.or_true]
theorem match_both (d : Sg) (hd : d.kind = 5) (l : List Sg) (h : ∀ s ∈ l, s.kind ≠ 5) : matchP (d :: l) l = true := by
  cases hl : l with
  | nil => rw [match_deep0 hd]; rfl
  | cons x t => rw [match_deep1 hd, match_self (x :: t) (by rw [← hl]; exact h)]; rfl
theorem match_len : ∀ (p l : List Sg), (∀ s ∈ p, s.kind ≠ 5) → matchP p l = true → p.length = l.length
  | [], [], _, _ => rfl
  | [], _ :: _, _, h => by cases h
  | s :: p, [], hp, h => by
    rw [match_step0 (hp s (List.mem_cons_self ..))] at h
    cases h
  | s :: p, x :: t, hp, h => by
    rw [match_step1 (hp s (List.mem_cons_self ..)), Bool.and_eq_true] at h
    rw [List.length_cons, List.length_cons, match_len p t (fun y hy => hp y (List.mem_cons_of_mem _ hy)) h.2]
theorem match_more (a : Sg) (ha : a.kind = 4) (l : List Sg) : matchP (List.replicate l.length a ++ [a]) l = false := by
  cases hm : matchP (List.replicate l.length a ++ [a]) l with
  | false => rfl
  | true =>
    have := match_len _ _ (fun s hs => by
      rcases List.mem_append.1 hs with h | h
      · rw [(List.mem_replicate.1 h).2]; omega
      · rw [List.mem_singleton.1 h]; omega) hm
    simp at this
theorem match_bad (p l : List Sg) (h : l.all segOk = false) : matchAll p l = false := by unfold matchAll; rw [h]; simp
theorem matchAll_ok (p l : List Sg) (hp : p.all segOk = true) (hl : l.all segOk = true) : matchAll p l = matchP p l := by unfold matchAll; rw [hp, hl, once_match]; rfl
end Go.Proofs.YtmbbmibkjnlkkaaDoor
