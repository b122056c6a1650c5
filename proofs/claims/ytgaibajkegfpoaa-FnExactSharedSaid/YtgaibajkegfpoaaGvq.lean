/- The program's survey, plain: what holds on the way. -/
import Derived.Test.YtgaibajkegfpoaaGvp
namespace Go.Proofs.Ytgaibajkegfpoaa
open Go.RowKit
/-- How many nodes weren't met. -/
def unmet (N : Nat) (l : List Nat) : Nat := (List.range N).countP (fun i => decide (i ∉ l))
theorem unmet_start (N : Nat) : unmet N [] = N := by
  unfold unmet
  rw [List.countP_eq_length.2 (fun a _ => by simp), List.length_range]
theorem countP_le {p q : Nat → Bool} : ∀ (l : List Nat), (∀ x ∈ l, p x = true → q x = true) → l.countP p ≤ l.countP q
  | [], _ => Nat.le_refl _
  | x :: t, h => by
    have ih := countP_le t (fun y hy => h y (List.mem_cons_of_mem _ hy))
    have hx := h x (List.mem_cons_self ..)
    rw [List.countP_cons, List.countP_cons]
    cases hp : p x with
    | false => simp; omega
    | true =>
      rw [hx hp]
      simp
      omega
theorem countP_lt {p q : Nat → Bool} {i : Nat} : ∀ (l : List Nat), (∀ x ∈ l, p x = true → q x = true) → i ∈ l → p i = false → q i = true → l.countP p + 1 ≤ l.countP q
  | [], _, hi, _, _ => by cases hi
  | x :: t, h, hi, hp, hq => by
    rw [List.countP_cons, List.countP_cons]
    by_cases e : x = i
    · subst e
      have := countP_le t (fun y hy => h y (List.mem_cons_of_mem _ hy))
      rw [hp, hq]
      simp
      omega
    · have hit : i ∈ t := by
        rcases List.mem_cons.1 hi with rfl | hi
        · exact absurd rfl e
        · exact hi
      have ih := countP_lt t (fun y hy => h y (List.mem_cons_of_mem _ hy)) hit hp hq
      have hx := h x (List.mem_cons_self ..)
      cases hpx : p x with
      | false => simp; omega
      | true =>
        rw [hx hpx]
        simp
        omega
theorem unmet_pre {N : Nat} {l m : List Nat} (h : l <+: m) : unmet N m ≤ unmet N l := by
  unfold unmet
  refine countP_le _ fun x _ hx => ?_
  have h1 : x ∉ m := of_decide_eq_true hx
  exact decide_eq_true (fun h2 => h1 (h.subset h2))
theorem unmet_new {N i : Nat} {l : List Nat} (hi : i < N) (h : i ∉ l) : unmet N (l ++ [i]) + 1 ≤ unmet N l := by
  unfold unmet
  refine countP_lt (i := i) _ (fun x _ hx => ?_) (List.mem_range.2 hi) (decide_eq_false (fun h2 => h2 (by simp))) (decide_eq_true h)
  have h1 : x ∉ l ++ [i] := of_decide_eq_true hx
  exact decide_eq_true (fun h2 => h1 (List.mem_append_left _ h2))
structure SvI (g : Gr) (s : Sv) : Prop where
  rng : ∀ i ∈ s.met, i < g.nodes.length
  len : s.over.length = s.met.length
  room : s.met.length + unmet g.nodes.length s.met ≤ g.nodes.length
def svF (g : Gr) (first f : Nat) (t : Sv) (k : Int) : Sv := if t.ok = true then svK g first f k.toNat t else t
theorem svK_new {g : Gr} {first f i : Nat} {s : Sv} (h : i ∉ s.met) : svK g first (f + 1) i s =
    if ((kidsOf g i).foldl (svF g first f) ⟨s.met ++ [i], s.over ++ [false], true⟩).ok = true then { (kidsOf g i).foldl (svF g first f) ⟨s.met ++ [i], s.over ++ [false], true⟩ with over := ((kidsOf g i).foldl (svF g first f) ⟨s.met ++ [i], s.over ++ [false], true⟩).over.set s.met.length true }
    else (kidsOf g i).foldl (svF g first f) ⟨s.met ++ [i], s.over ++ [false], true⟩ := by
  rw [svK, if_neg h]
  rfl
theorem svK_old {g : Gr} {first f i : Nat} {s : Sv} (h : i ∈ s.met) : svK g first (f + 1) i s = { s with ok := decide (first ≤ ix i s.met) && s.over.getD (ix i s.met) false } := by rw [svK, if_pos h]
theorem SvI.enter {g : Gr} {s : Sv} {i : Nat} (h : SvI g s) (hi : i < g.nodes.length) (hm : i ∉ s.met) : SvI g ⟨s.met ++ [i], s.over ++ [false], true⟩ := by
  refine ⟨fun x hx => ?_, ?_, ?_⟩
  · rcases List.mem_append.1 hx with hx | hx
    · exact h.rng x hx
    · obtain rfl := List.mem_singleton.1 hx
      exact hi
  · show (s.over ++ [false]).length = (s.met ++ [i]).length
    simp [h.len]
  · show (s.met ++ [i]).length + unmet _ (s.met ++ [i]) ≤ _
    have := unmet_new hi hm
    have := h.room
    rw [List.length_append, List.length_singleton]
    omega
theorem svK_inv {g : Gr} (hk : ∀ i, ∀ k ∈ kidsOf g i, 0 ≤ k ∧ k < (g.nodes.length : Int)) (first : Nat) : ∀ (f i : Nat) (s : Sv), i < g.nodes.length → SvI g s → SvI g (svK g first f i s)
  | 0, _, _, _, h => h
  | f + 1, i, s, hi, h => by
    by_cases hm : i ∈ s.met
    · rw [svK_old hm]
      exact ⟨h.rng, h.len, h.room⟩
    · rw [svK_new hm]
      have fold : ∀ (l : List Int) (t : Sv), (∀ k ∈ l, 0 ≤ k ∧ k < (g.nodes.length : Int)) → SvI g t → SvI g (l.foldl (svF g first f) t) := by
        intro l
        induction l with
        | nil => exact fun t _ ht => ht
        | cons k l ih =>
          intro t hl ht
          have hk0 := hl k (List.mem_cons_self ..)
          refine ih _ (fun x hx => hl x (List.mem_cons_of_mem _ hx)) ?_
          unfold svF
          split
          · exact svK_inv hk first f k.toNat t (by omega) ht
          · exact ht
      have h2 := fold (kidsOf g i) _ (hk i) (h.enter hi hm)
      split
      · exact ⟨h2.rng, by rw [List.length_set]; exact h2.len, h2.room⟩
      · exact h2
theorem svF_fold {g : Gr} (hk : ∀ i, ∀ k ∈ kidsOf g i, 0 ≤ k ∧ k < (g.nodes.length : Int)) (first f : Nat) : ∀ (l : List Int) (t : Sv), (∀ k ∈ l, 0 ≤ k ∧ k < (g.nodes.length : Int)) → SvI g t → SvI g (l.foldl (svF g first f) t) ∧ t.met <+: (l.foldl (svF g first f) t).met
  | [], t, _, h => ⟨h, List.prefix_refl _⟩
  | k :: l, t, hl, h => by
    have hk0 := hl k (List.mem_cons_self ..)
    have h1 : SvI g (svF g first f t k) ∧ t.met <+: (svF g first f t k).met := by
      unfold svF
      split
      · exact ⟨svK_inv hk first f k.toNat t (by omega) h, svK_pre ..⟩
      · exact ⟨h, List.prefix_refl _⟩
    have h2 := svF_fold hk first f l _ (fun x hx => hl x (List.mem_cons_of_mem _ hx)) h1.1
    exact ⟨h2.1, h1.2.trans h2.2⟩
theorem svF_stop (g : Gr) (first f : Nat) : ∀ (l : List Int) (t : Sv), t.ok = false → l.foldl (svF g first f) t = t
  | [], _, _ => rfl
  | k :: l, t, h => by
    rw [List.foldl_cons, show svF g first f t k = t by unfold svF; rw [if_neg (by rw [h]; decide)]]
    exact svF_stop g first f l t h
theorem svF_take {g : Gr} {first f : Nat} {l : List Int} {k : Nat} {x : Int} (h : l[k]? = some x) (s : Sv) : (l.take (k + 1)).foldl (svF g first f) s = svF g first f ((l.take k).foldl (svF g first f) s) x := by
  rw [List.take_add_one, h, List.foldl_append]
  rfl
/-- Where one kid fails, all of them do. -/
theorem svF_fail {g : Gr} {first f : Nat} {l : List Int} {k : Nat} {s t : Sv} (h : (l.take k).foldl (svF g first f) s = t) (ht : t.ok = false) : l.foldl (svF g first f) s = t := by
  rw [← List.take_append_drop k l, List.foldl_append, h]
  exact svF_stop g first f _ t ht
theorem svR_inv {g : Gr} (hk : ∀ i, ∀ k ∈ kidsOf g i, 0 ≤ k ∧ k < (g.nodes.length : Int)) (f : Nat) : ∀ (l : List Int) (t : Sv), (∀ k ∈ l, 0 ≤ k ∧ k < (g.nodes.length : Int)) → SvI g t → SvI g (l.foldl (svR g f) t)
  | [], _, _, h => h
  | k :: l, t, hl, h => by
    have hk0 := hl k (List.mem_cons_self ..)
    refine svR_inv hk f l _ (fun x hx => hl x (List.mem_cons_of_mem _ hx)) ?_
    unfold svR
    split
    · exact svK_inv hk _ f k.toNat t (by omega) h
    · exact h
theorem svR_take {g : Gr} {f : Nat} {l : List Int} {k : Nat} {x : Int} (h : l[k]? = some x) (s : Sv) : (l.take (k + 1)).foldl (svR g f) s = svR g f ((l.take k).foldl (svR g f) s) x := by
  rw [List.take_add_one, h, List.foldl_append]
  rfl
theorem svR_fail {g : Gr} {f : Nat} {l : List Int} {k : Nat} {s t : Sv} (h : (l.take k).foldl (svR g f) s = t) (ht : t.ok = false) : l.foldl (svR g f) s = t := by
  rw [← List.take_append_drop k l, List.foldl_append, h]
  exact svR_stop g f _ t ht
theorem start_svI (g : Gr) : SvI g ⟨[], [], true⟩ := ⟨fun i h => (by cases h), rfl, by show 0 + unmet _ [] ≤ _; rw [unmet_start]; omega⟩
end Go.Proofs.Ytgaibajkegfpoaa
