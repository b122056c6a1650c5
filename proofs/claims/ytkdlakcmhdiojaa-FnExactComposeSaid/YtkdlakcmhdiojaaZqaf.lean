/- Several texts in one: Gvp Gip Gmq. -/
import Derived.Test.YtkdlakcmhdiojaaZqae
import Derived.Deep.LoopGhost
import Derived.LaidEqlPtr
import Derived.WalkSpells
import Derived.MapKept
import Derived.Maps.OwnSet
import Derived.Below
/- The program's survey of a graph: plain, and that it finds right what the specification finds right. -/
namespace Go.Proofs.Ytkdlakcmhdiojaa
open Go.RowKit
/-- What the survey knows: the nodes as they were met, whether each one's kids were gone through, and whether all went well. -/
structure Sv where
  met : List Nat
  over : List Bool
  ok : Bool
/-- The place at which a node was met; as many as were met, where it wasn't. -/
def ix (i : Nat) : List Nat → Nat
  | [] => 0
  | x :: t => if x = i then 0 else ix i t + 1
def svK (g : Gr) (first : Nat) : Nat → Nat → Sv → Sv
  | 0, _, s => s
  | f + 1, i, s =>
    if i ∈ s.met then { s with ok := decide (first ≤ ix i s.met) && s.over.getD (ix i s.met) false }
    else
      let s2 := (kidsOf g i).foldl (fun t k => if t.ok = true then svK g first f k.toNat t else t) ⟨s.met ++ [i], s.over ++ [false], true⟩
      if s2.ok = true then { s2 with over := s2.over.set s.met.length true } else s2
def svR (g : Gr) (f : Nat) (t : Sv) (r : Int) : Sv := if t.ok = true then svK g t.met.length f r.toNat t else t
def svAll (g : Gr) : Sv := g.roots.foldl (svR g (g.nodes.length + 1)) ⟨[], [], true⟩
theorem ix_lt {i : Nat} : ∀ {l : List Nat}, i ∈ l → ix i l < l.length
  | [], h => by cases h
  | x :: t, h => by
    unfold ix
    split
    · simp
    · rename_i hx
      have : i ∈ t := by
        rcases List.mem_cons.1 h with rfl | h
        · exact absurd rfl hx
        · exact h
      have := ix_lt this
      simp only [List.length_cons]
      omega
theorem ix_at {i : Nat} : ∀ {l : List Nat}, i ∈ l → l[ix i l]? = some i
  | [], h => by cases h
  | x :: t, h => by
    unfold ix
    split
    · rename_i hx
      simp [hx]
    · rename_i hx
      have : i ∈ t := by
        rcases List.mem_cons.1 h with rfl | h
        · exact absurd rfl hx
        · exact h
      simpa using ix_at this
theorem ix_range {i n : Nat} (h : i < n) : ix i (List.range n) = i := by
  have hm : i ∈ List.range n := List.mem_range.2 h
  have h1 := ix_at hm
  have h2 := ix_lt hm
  rw [List.length_range] at h2
  rw [List.getElem?_range h2] at h1
  exact Option.some.inj h1
theorem ix_app {i : Nat} : ∀ {l : List Nat} (m : List Nat), i ∈ l → ix i (l ++ m) = ix i l
  | [], _, h => by cases h
  | x :: t, m, h => by
    show ix i (x :: (t ++ m)) = _
    unfold ix
    split
    · rfl
    · rename_i hx
      have : i ∈ t := by
        rcases List.mem_cons.1 h with rfl | h
        · exact absurd rfl hx
        · exact h
      rw [ix_app m this]
theorem ix_new {i : Nat} : ∀ {l : List Nat}, i ∉ l → ix i (l ++ [i]) = l.length
  | [], _ => by simp [ix]
  | x :: t, h => by
    show ix i (x :: (t ++ [i])) = _
    unfold ix
    split
    · rename_i hx
      exact absurd (by simp [hx]) h
    · rw [ix_new (fun h1 => h (List.mem_cons_of_mem _ h1))]
      simp
/-- What was met stays met. -/
theorem svK_pre (g : Gr) (first : Nat) : ∀ (f i : Nat) (s : Sv), s.met <+: (svK g first f i s).met
  | 0, _, _ => List.prefix_refl _
  | f + 1, i, s => by
    rw [svK]
    split
    · exact List.prefix_refl _
    · have fold : ∀ (l : List Int) (t : Sv), t.met <+: (l.foldl (fun t k => if t.ok = true then svK g first f k.toNat t else t) t).met := by
        intro l
        induction l with
        | nil => exact fun t => List.prefix_refl _
        | cons k l ih =>
          intro t
          refine List.IsPrefix.trans ?_ (ih _)
          show t.met <+: (if t.ok = true then svK g first f k.toNat t else t).met
          split
          · exact svK_pre g first f k.toNat t
          · exact List.prefix_refl _
      have h := fold (kidsOf g i) ⟨s.met ++ [i], s.over ++ [false], true⟩
      refine List.IsPrefix.trans (List.prefix_append s.met [i]) ?_
      dsimp only
      split
      · exact h
      · exact h
def Broken (l : List Nat) : Prop := ∃ (k j : Nat), l[k]? = some j ∧ j ≠ k
theorem Broken.pre {l m : List Nat} (h : Broken l) (hp : l <+: m) : Broken m := by
  obtain ⟨k, j, h1, h2⟩ := h
  obtain ⟨t, rfl⟩ := hp
  have hk : k < l.length := (List.getElem?_eq_some_iff.1 h1).1
  exact ⟨k, j, by rw [List.getElem?_append_left hk]; exact h1, h2⟩
theorem Broken.ne {l : List Nat} (h : Broken l) (n : Nat) : l ≠ List.range n := by
  rintro rfl
  obtain ⟨k, j, h1, h2⟩ := h
  have hk : k < n := by have := (List.getElem?_eq_some_iff.1 h1).1; simpa using this
  rw [List.getElem?_range hk] at h1
  exact h2 (Option.some.inj h1).symm
theorem goW_stays (g : Gr) : ∀ (f i : Nat) (st : Ws), st.bad = true → (goW g f i st).bad = true
  | 0, _, _, h => h
  | f + 1, i, st, h => by rw [goW, if_pos (.inl h)]
/-- The specification's walk beside the program's, as long as all goes well. -/
structure SvR (g : Gr) (first : Nat) (st : Ws) (s : Sv) : Prop where
  bad : st.bad = false
  ok : s.ok = true
  met : s.met = List.range s.met.length
  next : st.next = (s.met.length : Int)
  le : s.met.length ≤ g.nodes.length
  over : s.over.length = s.met.length
  len : st.seen.length = g.nodes.length
  seen : ∀ i, i < g.nodes.length → st.seen.getD i 0 = if s.met.length ≤ i then 0 else if i < first then 3 else if s.over.getD i false = true then 2 else 1
def Both (g : Gr) (first : Nat) (s : Sv) (st' : Ws) (s' : Sv) : Prop :=
  (SvR g first st' s' ∧ (∀ j, j < s'.met.length → s'.over.getD j false = if j < s.met.length then s.over.getD j false else true) ∧ s.met.length ≤ s'.met.length) ∨ (st'.bad = true ∧ (s'.ok = false ∨ Broken s'.met))
theorem SvR.mem {g : Gr} {first : Nat} {st : Ws} {s : Sv} (h : SvR g first st s) (i : Nat) : i ∈ s.met ↔ i < s.met.length := by
  rw [h.met]
  simp
theorem getD_set_self {α : Type} (l : List α) (i : Nat) (v d : α) (h : i < l.length) : (l.set i v).getD i d = v := by
  simp [List.getD, h]
theorem getD_set_other {α : Type} (l : List α) (i j : Nat) (v d : α) (h : j ≠ i) : (l.set i v).getD j d = l.getD j d := by
  simp [List.getD, Ne.symm h]
theorem getD_snoc_lt {α : Type} (l : List α) (v d : α) (i : Nat) (h : i < l.length) : (l ++ [v]).getD i d = l.getD i d := by
  simp [List.getD, List.getElem?_append_left h]
theorem getD_snoc_end {α : Type} (l : List α) (v d : α) : (l ++ [v]).getD l.length d = v := by
  simp [List.getD]
/-- A node is met for the first time, in its order. -/
theorem SvR.enter {g : Gr} {first : Nat} {st : Ws} {s : Sv} {i : Nat} (h : SvR g first st s) (hf : first ≤ s.met.length) (hi : i < g.nodes.length) (hin : i = s.met.length) : SvR g first { st with seen := st.seen.set i 1, next := st.next + 1 } ⟨s.met ++ [i], s.over ++ [false], true⟩ := by
  refine ⟨h.bad, rfl, ?_, ?_, ?_, ?_, ?_, ?_⟩
  · show s.met ++ [i] = List.range (s.met ++ [i]).length
    rw [List.length_append, List.length_singleton, List.range_succ, ← h.met, hin]
  · show st.next + 1 = _
    rw [h.next, List.length_append, List.length_singleton]
    omega
  · show (s.met ++ [i]).length ≤ _
    rw [List.length_append, List.length_singleton]
    omega
  · show (s.over ++ [false]).length = (s.met ++ [i]).length
    simp [h.over]
  · show (st.seen.set i 1).length = _
    rw [List.length_set]
    exact h.len
  · intro j hj
    show (st.seen.set i 1).getD j 0 = if (s.met ++ [i]).length ≤ j then 0 else if j < first then 3 else if (s.over ++ [false]).getD j false = true then 2 else 1
    rw [List.length_append, List.length_singleton]
    by_cases e : j = i
    · subst e
      rw [getD_set_self _ _ _ _ (by rw [h.len]; exact hj), if_neg (by omega), if_neg (by omega)]
      have : (s.over ++ [false]).getD j false = false := by rw [hin, ← h.over]; exact getD_snoc_end ..
      rw [this]
      rfl
    · rw [getD_set_other _ _ _ _ _ e, h.seen j hj]
      by_cases h1 : s.met.length ≤ j
      · rw [if_pos h1, if_pos (by omega)]
      · rw [if_neg h1, if_neg (show ¬ s.met.length + 1 ≤ j by omega), getD_snoc_lt _ _ _ _ (by rw [h.over]; omega)]
theorem svK_goW (g : Gr) (hk : ∀ i, ∀ k ∈ kidsOf g i, 0 ≤ k ∧ k < (g.nodes.length : Int)) (first : Nat) : ∀ (f i : Nat) (st : Ws) (s : Sv), i < g.nodes.length → first ≤ s.met.length → SvR g first st s → Both g first s (goW g f i st) (svK g first f i s)
  | 0, i, st, s, _, _, h => .inl ⟨h, fun j hj => by rw [svK] at hj ⊢; rw [if_pos hj], Nat.le_refl _⟩
  | f + 1, i, st, s, hi, hf, h => by
    have hs := h.seen i hi
    by_cases hm : i < s.met.length
    · have hmem := (h.mem i).2 hm
      have hix : ix i s.met = i := by rw [h.met]; exact ix_range hm
      rw [if_neg (by omega)] at hs
      rw [svK, if_pos hmem, hix]
      by_cases h3 : i < first
      · rw [if_pos h3] at hs
        rw [goW_bad (.inr (.inr (.inr hs)))]
        refine .inr ⟨rfl, .inl ?_⟩
        simp [show ¬ first ≤ i by omega]
      · rw [if_neg h3] at hs
        cases ho : s.over.getD i false with
        | false =>
          rw [ho] at hs
          rw [goW_bad (.inr (.inl (by simpa using hs)))]
          exact .inr ⟨rfl, .inl (by simp)⟩
        | true =>
          rw [ho] at hs
          have hs2 : st.seen.getD i 0 = 2 := by simpa using hs
          rw [goW_met (by rw [hs2, h.bad]; rintro (h | h | ⟨h, _⟩ | h) <;> first | cases h | omega) hs2]
          have e : ({ s with ok := decide (first ≤ i) && true } : Sv) = s := by
            have : decide (first ≤ i) = true := decide_eq_true (by omega)
            rw [this]
            have := h.ok
            cases s
            simp only at this
            rw [this]
            rfl
          rw [e]
          exact .inl ⟨h, fun j hj => by rw [if_pos hj], Nat.le_refl _⟩
    · have hmem : ¬ i ∈ s.met := fun h1 => hm ((h.mem i).1 h1)
      rw [if_pos (by omega)] at hs
      rw [svK, if_neg hmem]
      have pre : ∀ (l : List Int) (t : Sv), t.met <+: (l.foldl (fun t k => if t.ok = true then svK g first f k.toNat t else t) t).met := by
        intro l
        induction l with
        | nil => exact fun t => List.prefix_refl _
        | cons k l ih =>
          intro t
          refine List.IsPrefix.trans ?_ (ih _)
          show t.met <+: (if t.ok = true then svK g first f k.toNat t else t).met
          split
          · exact svK_pre g first f k.toNat t
          · exact List.prefix_refl _
      by_cases hin : i = s.met.length
      · have hnot : ¬ (st.bad = true ∨ st.seen.getD i 0 = 1 ∨ (st.seen.getD i 0 = 0 ∧ (i : Int) ≠ st.next) ∨ st.seen.getD i 0 = 3) := by
          rw [hs, h.bad, h.next]
          rintro (h | h | ⟨_, h⟩ | h)
          · cases h
          · cases h
          · omega
          · cases h
        rw [goW_new hnot (by rw [hs]; decide)]
        have hE := h.enter hf hi hin
        -- both go over the kids
        have fold : ∀ (l : List Int) (t : Ws) (u : Sv), (∀ k ∈ l, 0 ≤ k ∧ k < (g.nodes.length : Int)) → first ≤ u.met.length → SvR g first t u →
            Both g first u (l.foldl (fun t k => goW g f k.toNat t) t) (l.foldl (fun t k => if t.ok = true then svK g first f k.toNat t else t) u) := by
          intro l
          induction l with
          | nil => exact fun t u _ _ hR => .inl ⟨hR, fun j hj => by rw [List.foldl_nil] at hj ⊢; rw [if_pos hj], Nat.le_refl _⟩
          | cons k l ih =>
            intro t u hl hfu hR
            have hk0 := hl k (List.mem_cons_self ..)
            rw [List.foldl_cons, List.foldl_cons, if_pos hR.ok]
            rcases svK_goW g hk first f k.toNat t u (by omega) hfu hR with ⟨h1, h2, h3⟩ | ⟨h1, h2⟩
            · rcases ih _ _ (fun x hx => hl x (List.mem_cons_of_mem _ hx)) (Nat.le_trans hfu h3) h1 with ⟨g1, g2, g3⟩ | hb
              · refine .inl ⟨g1, fun j hj => ?_, Nat.le_trans h3 g3⟩
                rw [g2 j hj]
                by_cases hj1 : j < (svK g first f k.toNat u).met.length
                · rw [if_pos hj1, h2 j hj1]
                · rw [if_neg hj1, if_neg (by omega)]
              · exact .inr hb
            · refine .inr ⟨?_, ?_⟩
              · have stay : ∀ (l : List Int) (t : Ws), t.bad = true → (l.foldl (fun t k => goW g f k.toNat t) t).bad = true := by
                  intro l
                  induction l with
                  | nil => exact fun t h => h
                  | cons k l ih => exact fun t h => ih _ (goW_stays g f k.toNat t h)
                exact stay _ _ h1
              · rcases h2 with h2 | h2
                · left
                  have stop : ∀ (l : List Int) (u : Sv), u.ok = false → (l.foldl (fun t k => if t.ok = true then svK g first f k.toNat t else t) u).ok = false := by
                    intro l
                    induction l with
                    | nil => exact fun t h => h
                    | cons k l ih =>
                      intro u h
                      rw [List.foldl_cons, if_neg (by rw [h]; decide)]
                      exact ih _ h
                  exact stop _ _ h2
                · exact .inr (h2.pre (pre _ _))
        have hF := fold (kidsOf g i) _ _ (hk i) (by show first ≤ (s.met ++ [i]).length; rw [List.length_append]; omega) hE
        obtain ⟨t, ht⟩ : ∃ t, (kidsOf g i).foldl (fun t k => goW g f k.toNat t) { st with seen := st.seen.set i 1, next := st.next + 1 } = t := ⟨_, rfl⟩
        obtain ⟨u, hu⟩ : ∃ u, (kidsOf g i).foldl (fun t k => if t.ok = true then svK g first f k.toNat t else t) ⟨s.met ++ [i], s.over ++ [false], true⟩ = u := ⟨_, rfl⟩
        rw [ht, hu] at hF
        rw [ht, hu]
        dsimp only
        rcases hF with ⟨h1, h2, h3⟩ | ⟨h1, h2⟩
        · rw [if_pos h1.ok]
          have hlu : s.met.length + 1 ≤ u.met.length := by
            have : (s.met ++ [i]).length ≤ u.met.length := h3
            simpa using this
          refine .inl ⟨⟨h1.bad, h1.ok, h1.met, h1.next, h1.le, by rw [List.length_set]; exact h1.over, by rw [List.length_set]; exact h1.len, ?_⟩, ?_, by show s.met.length ≤ u.met.length; omega⟩
          · intro j hj
            show (t.seen.set i 2).getD j 0 = if u.met.length ≤ j then 0 else if j < first then 3 else if (u.over.set s.met.length true).getD j false = true then 2 else 1
            by_cases e : j = i
            · subst e
              rw [getD_set_self _ _ _ _ (by rw [h1.len]; exact hj), if_neg (by omega), if_neg (by omega), ← hin, getD_set_self _ _ _ _ (by rw [h1.over]; omega)]
              rfl
            · rw [getD_set_other _ _ _ _ _ e, h1.seen j hj, getD_set_other _ _ _ _ _ (by rw [← hin]; exact e)]
          · intro j hj
            show (u.over.set s.met.length true).getD j false = _
            have hj' : j < u.met.length := hj
            by_cases e : j = s.met.length
            · subst e
              rw [getD_set_self _ _ _ _ (by rw [h1.over]; exact hj'), if_neg (by omega)]
            · rw [getD_set_other _ _ _ _ _ e, h2 j hj']
              show (if j < (s.met ++ [i]).length then (s.over ++ [false]).getD j false else true) = _
              rw [List.length_append, List.length_singleton]
              by_cases e2 : j < s.met.length
              · rw [if_pos (by omega), if_pos e2, getD_snoc_lt _ _ _ _ (by rw [h.over]; exact e2)]
              · rw [if_neg (by omega), if_neg e2]
        · refine .inr ⟨h1, ?_⟩
          split
          · rename_i hok
            rcases h2 with h2 | h2
            · rw [h2] at hok; cases hok
            · exact .inr h2
          · exact h2
      · rw [goW_bad (.inr (.inr (.inl ⟨hs, by rw [h.next]; omega⟩)))]
        refine .inr ⟨rfl, .inr ?_⟩
        have hB : Broken (s.met ++ [i]) := ⟨s.met.length, i, by simp, hin⟩
        have := hB.pre (pre (kidsOf g i) ⟨s.met ++ [i], s.over ++ [false], true⟩)
        dsimp only
        split
        · exact this
        · exact this
theorem thrK_getD (l : List Int) (k i : Nat) : (thrK k l).getD i 0 = if i < k ∧ l.getD i 0 = 2 then (if i < l.length then 3 else 0) else l.getD i 0 := by
  induction k with
  | zero => rw [if_neg (by omega)]; rfl
  | succ k ih =>
    rw [thrK]
    by_cases e : i = k
    · subst e
      rw [if_neg (by omega)] at ih
      rw [ih]
      by_cases h2 : l.getD i 0 = 2
      · have hl : i < l.length := by
          by_cases hl : i < l.length
          · exact hl
          · rw [show l.getD i 0 = 0 by simp [List.getD, List.getElem?_eq_none (Nat.le_of_not_lt hl)]] at h2
            cases h2
        rw [if_pos h2, if_pos ⟨by omega, h2⟩, if_pos hl, getD_set_self _ _ _ _ (by rw [thrK_len]; exact hl)]
      · rw [if_neg h2, if_neg (by omega)]
        exact ih
    · have hs : (if (thrK k l).getD k 0 = 2 then (thrK k l).set k 3 else thrK k l).getD i 0 = (thrK k l).getD i 0 := by
        split
        · exact getD_set_other _ _ _ _ _ e
        · rfl
      rw [hs, ih]
      by_cases h2 : l.getD i 0 = 2
      · by_cases h3 : i < k
        · rw [if_pos (show i < k ∧ l.getD i 0 = 2 from ⟨h3, h2⟩), if_pos (show i < k + 1 ∧ l.getD i 0 = 2 from ⟨by omega, h2⟩)]
        · rw [if_neg (by omega), if_neg (by omega)]
      · rw [if_neg (fun h => h2 h.2), if_neg (fun h => h2 h.2)]
/-- Between two roots: all that was met is over. -/
structure SvB (g : Gr) (st : Ws) (s : Sv) : Prop where
  r : SvR g s.met.length st s
  all : ∀ j, j < s.met.length → s.over.getD j false = true
theorem endRoot_svR {g : Gr} (hk : ∀ i, ∀ k ∈ kidsOf g i, 0 ≤ k ∧ k < (g.nodes.length : Int)) (f : Nat) {st : Ws} {s : Sv} {r : Int} (hr : 0 ≤ r ∧ r < (g.nodes.length : Int)) (h : SvB g st s) :
    SvB g (endRoot g f st r.toNat) (svR g f s r) ∨ ((endRoot g f st r.toNat).bad = true ∧ ((svR g f s r).ok = false ∨ Broken (svR g f s r).met)) := by
  unfold svR endRoot
  rw [if_pos h.r.ok]
  rcases svK_goW g hk s.met.length f r.toNat st s (by omega) (Nat.le_refl _) h.r with ⟨h1, h2, h3⟩ | ⟨h1, h2⟩
  · left
    obtain ⟨u, hu⟩ : ∃ u, svK g s.met.length f r.toNat s = u := ⟨_, rfl⟩
    rw [hu] at h1 h2 h3 ⊢
    have hall : ∀ j, j < u.met.length → u.over.getD j false = true := by
      intro j hj
      rw [h2 j hj]
      split
      · rename_i e
        exact h.all j e
      · rfl
    refine ⟨⟨h1.bad, h1.ok, h1.met, h1.next, h1.le, h1.over, by show (thrK _ _).length = _; rw [thrK_len]; exact h1.len, ?_⟩, hall⟩
    intro i hi
    show (thrK _ _).getD i 0 = _
    rw [thrK_getD, h1.seen i hi, h1.len]
    by_cases e : u.met.length ≤ i
    · rw [if_pos e, if_neg (by omega), if_pos e]
    · rw [if_neg e, if_neg e, hall i (by omega), if_pos (show i < u.met.length by omega)]
      by_cases e2 : i < s.met.length
      · rw [if_pos e2, if_neg (by omega)]
      · rw [if_neg e2, if_pos ⟨hi, by simp⟩, if_pos hi]
  · exact .inr ⟨h1, h2⟩
theorem svR_stop (g : Gr) (f : Nat) : ∀ (l : List Int) (s : Sv), s.ok = false → l.foldl (svR g f) s = s
  | [], _, _ => rfl
  | k :: l, s, h => by
    rw [List.foldl_cons, show svR g f s k = s by unfold svR; rw [if_neg (by rw [h]; decide)]]
    exact svR_stop g f l s h
theorem svR_broken (g : Gr) (f : Nat) : ∀ (l : List Int) (s : Sv), Broken s.met → Broken (l.foldl (svR g f) s).met
  | [], _, h => h
  | k :: l, s, h => svR_broken g f l _ (h.pre (by
      unfold svR
      split
      · exact svK_pre ..
      · exact List.prefix_refl _))
theorem roots_bad (g : Gr) (f : Nat) : ∀ (l : List Int) (st : Ws), st.bad = true → (l.foldl (fun t r => endRoot g f t r.toNat) st).bad = true
  | [], _, h => h
  | r :: l, st, h => roots_bad g f l _ (by show (goW g f r.toNat st).bad = true; exact goW_stays g f _ _ h)
theorem roots_svR {g : Gr} (hk : ∀ i, ∀ k ∈ kidsOf g i, 0 ≤ k ∧ k < (g.nodes.length : Int)) (f : Nat) : ∀ (l : List Int) (st : Ws) (s : Sv), (∀ r ∈ l, 0 ≤ r ∧ r < (g.nodes.length : Int)) → SvB g st s →
    SvB g (l.foldl (fun t r => endRoot g f t r.toNat) st) (l.foldl (svR g f) s) ∨ ((l.foldl (fun t r => endRoot g f t r.toNat) st).bad = true ∧ ((l.foldl (svR g f) s).ok = false ∨ Broken (l.foldl (svR g f) s).met))
  | [], _, _, _, h => .inl h
  | r :: l, st, s, hl, h => by
    rw [List.foldl_cons, List.foldl_cons]
    rcases endRoot_svR hk f (hl r (List.mem_cons_self ..)) h with h1 | ⟨h1, h2⟩
    · exact roots_svR hk f l _ _ (fun x hx => hl x (List.mem_cons_of_mem _ hx)) h1
    · refine .inr ⟨roots_bad g f l _ h1, ?_⟩
      rcases h2 with h2 | h2
      · exact .inl (by rw [svR_stop g f l _ h2]; exact h2)
      · exact .inr (svR_broken g f l _ h2)
def partsP (g : Gr) : Bool := decide (g.nodes.length ≤ 3000) && (kidsIn g.nodes.length g.roots && g.nodes.all (fun n => nodeOkG n g.nodes.length))
theorem parts_kids {g : Gr} (h : partsP g = true) : g.nodes.length ≤ 3000 ∧ (∀ i, ∀ k ∈ kidsOf g i, 0 ≤ k ∧ k < (g.nodes.length : Int)) ∧ (∀ k ∈ g.roots, 0 ≤ k ∧ k < (g.nodes.length : Int)) := by
  unfold partsP at h
  rw [Bool.and_eq_true, Bool.and_eq_true] at h
  obtain ⟨h1, h2, h3⟩ := h
  refine ⟨of_decide_eq_true h1, kids_in h3, fun k hk => ?_⟩
  unfold kidsIn at h2
  rw [List.all_eq_true] at h2
  exact of_decide_eq_true (h2 k hk)
theorem start_svB (g : Gr) : SvB g ⟨List.replicate g.nodes.length 0, 0, false⟩ ⟨[], [], true⟩ := by
  refine ⟨⟨rfl, rfl, rfl, rfl, Nat.zero_le _, rfl, by simp, fun i hi => ?_⟩, fun j hj => absurd hj (Nat.not_lt_zero _)⟩
  show (List.replicate g.nodes.length (0 : Int)).getD i 0 = if 0 ≤ i then 0 else _
  rw [if_pos (Nat.zero_le _)]
  simp [List.getD, hi]
theorem graphOk_parts {g : Gr} (h : partsP g = false) : graphOkP g = false := by
  unfold partsP at h
  unfold graphOkP
  cases e0 : decide (g.nodes.length ≤ 3000) with
  | false => rfl
  | true =>
    cases e : kidsIn g.nodes.length g.roots with
    | false => simp
    | true =>
      rw [e0, e] at h
      have : g.nodes.all (fun n => nodeOkG n g.nodes.length) = false := by simpa using h
      rw [this]
      rfl
theorem graphOk_survey {g : Gr} (h : partsP g = true) : graphOkP g = ((svAll g).ok && decide ((svAll g).met = List.range g.nodes.length)) := by
  obtain ⟨h1, h2, h3⟩ := parts_kids h
  have hr := roots_svR h2 (g.nodes.length + 1) g.roots _ _ h3 (start_svB g)
  obtain ⟨st, hst⟩ : ∃ st, g.roots.foldl (fun t r => endRoot g (g.nodes.length + 1) t r.toNat) ⟨List.replicate g.nodes.length 0, 0, false⟩ = st := ⟨_, rfl⟩
  have hp := h
  unfold partsP at hp
  rw [Bool.and_eq_true, Bool.and_eq_true] at hp
  rw [ok_end h1 hp.2.2 hp.2.1 hst]
  rw [hst] at hr
  unfold svAll
  obtain ⟨s, hs⟩ : ∃ s, g.roots.foldl (svR g (g.nodes.length + 1)) ⟨[], [], true⟩ = s := ⟨_, rfl⟩
  rw [hs] at hr ⊢
  rcases hr with h4 | ⟨h4, h5⟩
  · rw [h4.r.bad, h4.r.ok, h4.r.next]
    show decide _ = decide _
    apply decide_eq_decide.2
    constructor
    · intro e
      have : s.met.length = g.nodes.length := by omega
      rw [← this]
      exact h4.r.met
    · intro e
      rw [e]
      simp
  · rw [h4]
    rcases h5 with h5 | h5
    · rw [h5]
      rfl
    · rw [decide_eq_false (h5.ne _)]
      simp
end Go.Proofs.Ytkdlakcmhdiojaa
/- The program asks of a graph what can be asked without going through it. -/
namespace Go.Proofs.Ytkdlakcmhdiojaa
open Go.ChangeShapes Go.WideShapes Go.ChangeAt Go.RowKit Go.Deep
theorem al_belowG (w : World) (o : Obj) : Below w.heap.size w (w.alloc o) := (Below.refl _ w).alloc (Nat.le_refl _) _
theorem hidG {p : Prop} (h : p) : Hid p := h
/-- How many numbers stand ahead of one that is no place. -/
def badIx (m : Nat) : List Int → Nat
  | [] => 0
  | k :: t => if 0 ≤ k ∧ k < (m : Int) then badIx m t + 1 else 0
theorem badIx_le (m : Nat) : ∀ l : List Int, badIx m l ≤ l.length
  | [] => Nat.le_refl _
  | x :: r => by
    have := badIx_le m r
    rw [badIx]
    split
    · show _ ≤ r.length + 1; omega
    · exact Nat.zero_le _
theorem badIx_no (m : Nat) : ∀ (l : List Int) (j : Nat) (x : Int), j < badIx m l → l[j]? = some x → 0 ≤ x ∧ x < (m : Int)
  | [], j, x, hj, _ => by cases hj
  | y :: r, j, x, hj, hx => by
    rw [badIx] at hj
    split at hj
    · rename_i h
      cases j with
      | zero => simp at hx; subst hx; exact h
      | succ j => exact badIx_no m r j x (by omega) (by simpa using hx)
    · cases hj
theorem badIx_at (m : Nat) : ∀ (l : List Int) (x : Int), l[badIx m l]? = some x → ¬ (0 ≤ x ∧ x < (m : Int))
  | [], x, hx => by cases hx
  | y :: r, x, hx => by
    rw [badIx] at hx
    split at hx
    · exact badIx_at m r x (by simpa using hx)
    · rename_i h
      simp at hx
      subst hx
      exact h
theorem badIx_kids (m : Nat) (l : List Int) : kidsIn m l = !decide (badIx m l < l.length) := by
  by_cases h : badIx m l < l.length
  · rw [decide_eq_true h]
    exact kids_no (List.getElem?_eq_getElem h) (badIx_at m l _ (List.getElem?_eq_getElem h))
  · rw [decide_eq_false h]
    refine kids_yes fun k x hx => badIx_no m l k x ?_ hx
    have := (List.getElem?_eq_some_iff.1 hx).1
    have := badIx_le m l
    omega
end Go.Proofs.Ytkdlakcmhdiojaa
/- Maps keyed by pointers, in memory, as plain functions of the blocks that the keys point to. -/
namespace Go.Proofs.Ytkdlakcmhdiojaa
open Go.RowKit
def ptr (b : Nat) : Value := .pointer (some ⟨b, 0, none⟩)
/-- A block of plain cells stands there. -/
def Live (w : World) (b : Nat) : Prop := ∃ cs t, w.heap[b]? = some (.cells cs t (0, 0))
theorem ptr_inj {a b : Nat} (h : ptr a = ptr b) : a = b := by
  unfold ptr at h
  injection h with h
  injection h with h
  injection h
section
variable {P : Program} {w w' : World} {kt te : TypeId} {i : TypeInfo}
theorem ptr_equal (hp : P.underlying kt = some (.pointer te)) (hte : P.info? te = some i) (hsz : i.size ≠ 0) {a b : Nat} (ha : Live w a) (hb : Live w b) :
    (Op.equal kt (ptr a) (ptr b)).run P w = .ok (decide (a = b)) w := by
  obtain ⟨ca, ta, ha⟩ := ha
  obtain ⟨cb, tb, hb⟩ := hb
  unfold ptr
  by_cases e : a = b
  · subst e
    have h : ∀ d : Nat, (Op.equalIn (d + 1) kt (.pointer (some ⟨a, 0, none⟩)) (.pointer (some ⟨a, 0, none⟩))).run P w = .ok true w := fun d => by
      simp [Op.equalIn, run_underlying hp, sizeOf, typeInfo, hte, run_sameAddr_same]
    rw [show Op.equal kt = Op.equalIn (9999 + 1) kt from rfl, h 9999]
    simp
  · have hne : (⟨a, 0, none⟩ : Addr) ≠ ⟨b, 0, none⟩ := fun h => e (by injection h)
    have h : ∀ d : Nat, (Op.equalIn (d + 1) kt (.pointer (some ⟨a, 0, none⟩)) (.pointer (some ⟨b, 0, none⟩))).run P w = .ok false w := fun d => by
      simp [Op.equalIn, run_underlying hp, sizeOf, typeInfo, hte, hsz, run_sameAddr_other w hne ha hb]
    rw [show Op.equal kt = Op.equalIn (9999 + 1) kt from rfl, h 9999]
    simp [e]
theorem ptr_neq (hp : P.underlying kt = some (.pointer te)) (hte : P.info? te = some i) (hsz : i.size ≠ 0) {a b : Nat} (ha : Live w a) (hb : Live w b) :
    (binOp .neq kt (ptr a) (ptr b)).run P w = .ok (.bool (!decide (a = b))) w := by
  have h := ptr_equal (w := w) hp hte hsz ha hb
  unfold ptr at h ⊢
  simp only [binOp]
  simp [h]
theorem ptr_find (hp : P.underlying kt = some (.pointer te)) (hte : P.info? te = some i) (hsz : i.size ≠ 0) {a : Nat} (ha : Live w a) : ∀ (es : List MapEntry) (j : Nat), (∀ x ∈ es, ∃ b, x.key = ptr b ∧ Live w b) →
    ((Instr.findAsking kt (ptr a) es j).run P w = .ok none w ∧ ∀ x ∈ es, x.key ≠ ptr a) ∨ ∃ k e, (Instr.findAsking kt (ptr a) es j).run P w = .ok (some (j + k, e.val)) w ∧ es[k]? = some e ∧ e.key = ptr a
  | [], j, _ => .inl ⟨by simp [Instr.findAsking], by simp⟩
  | x :: es, j, h => by
    obtain ⟨b, hx, hb⟩ := h x (List.mem_cons_self ..)
    have he := ptr_equal (w := w) hp hte hsz ha hb
    by_cases e : a = b
    · subst e
      refine .inr ⟨0, x, ?_, rfl, hx⟩
      simp [Instr.findAsking, hx, he, Result.andThen]
    · rcases ptr_find hp hte hsz ha es (j + 1) (fun y hy => h y (List.mem_cons_of_mem _ hy)) with ⟨h1, h2⟩ | ⟨k, y, h1, h2, h3⟩
      · refine .inl ⟨by simp [Instr.findAsking, hx, he, e, h1, Result.andThen], fun y hy => ?_⟩
        rcases List.mem_cons.1 hy with rfl | hy
        · rw [hx]
          exact fun h => e (ptr_inj h).symm
        · exact h2 y hy
      · exact .inr ⟨k + 1, y, by simp [Instr.findAsking, hx, he, e, h1, Result.andThen]; omega, by simpa using h2, h3⟩
theorem ptr_findKey (hp : P.underlying kt = some (.pointer te)) (hte : P.info? te = some i) (hsz : i.size ≠ 0) {a : Nat} (ha : Live w a) (es : List MapEntry) (h : ∀ x ∈ es, ∃ b, x.key = ptr b ∧ Live w b) :
    ((Instr.findKey kt (ptr a) es).run P w = .ok none w ∧ ∀ x ∈ es, x.key ≠ ptr a) ∨ ∃ k e, (Instr.findKey kt (ptr a) es).run P w = .ok (some (k, e.val)) w ∧ es[k]? = some e ∧ e.key = ptr a := by
  have hf := ptr_find (w := w) hp hte hsz ha es 0 h
  cases es with
  | nil =>
    refine .inl ⟨?_, by simp⟩
    simp [Instr.findKey, run_underlying hp, Instr.findNow, Result.andThen]
  | cons x es =>
    have hn : Instr.findNow (.pointer te) (ptr a) (x :: es) 0 = none := by simp [Instr.findNow, Instr.sameNow]
    rcases hf with ⟨h1, h2⟩ | ⟨k, e, h1, h2, h3⟩
    · exact .inl ⟨by simp [Instr.findKey, run_underlying hp, hn, h1, Result.andThen], h2⟩
    · exact .inr ⟨k, e, by simp [Instr.findKey, run_underlying hp, hn, h1, Result.andThen], h2, h3⟩
theorem ptr_check (hp : P.underlying kt = some (.pointer te)) (em : Bool) (a : Nat) : (Instr.checkKey em 10000 kt (ptr a)).run P w = .ok () w := by
  unfold Instr.checkKey ptr
  simp [run_underlying hp, Result.andThen]
theorem ptr_stays (a : Nat) : (Instr.keyThatStays (ptr a) (ptr a)).run P w = .ok (ptr a) w := by
  simp [Instr.keyThatStays, ptr, Instr.sameBits]
/-- The map at block B, as a function of blocks. -/
structure PmAt {V : Type} (vf : V → Value) (w : World) (B : Nat) (f : Nat → Option V) : Prop where
  ex : ∃ es clock, w.heap[B]? = some (.map es clock) ∧ es.toList.Pairwise (fun x y => x.key ≠ y.key) ∧ (∀ x ∈ es.toList, ∃ b v, x.key = ptr b ∧ f b = some v ∧ x.val = vf v) ∧ ∀ b v, f b = some v → ∃ x ∈ es.toList, x.key = ptr b
variable {V : Type} {vf : V → Value} {B : Nat} {f : Nat → Option V}
theorem PmAt.same (h : PmAt vf w B f) (hb : w'.heap[B]? = w.heap[B]?) : PmAt vf w' B f := by
  obtain ⟨es, clock, h1, h2⟩ := h.ex
  exact ⟨es, clock, hb.trans h1, h2⟩
theorem PmAt.lt (h : PmAt vf w B f) : B < w.heap.size := by
  obtain ⟨es, clock, h1, _⟩ := h.ex
  exact (Array.getElem?_eq_some_iff.1 h1).1
theorem PmAt.isMap (h : PmAt vf w B f) : ∃ es clock, w.heap[B]? = some (.map es clock) := by
  obtain ⟨es, clock, h1, _⟩ := h.ex
  exact ⟨es, clock, h1⟩
theorem PmAt.made (w : World) (vf : V → Value) : PmAt vf (w.alloc (.map #[] 0)) w.heap.size (fun _ => none) := ⟨#[], 0, heap_alloc_new w _, by simp, by simp, fun b v h => by cases h⟩
theorem PmAt.keys (h : PmAt vf w B f) (hL : ∀ b v, f b = some v → Live w b) : ∃ es clock, w.heap[B]? = some (.map es clock) ∧ es.toList.Pairwise (fun x y => x.key ≠ y.key) ∧ (∀ x ∈ es.toList, ∃ b v, x.key = ptr b ∧ f b = some v ∧ x.val = vf v) ∧ (∀ b v, f b = some v → ∃ x ∈ es.toList, x.key = ptr b) ∧ ∀ x ∈ es.toList, ∃ b, x.key = ptr b ∧ Live w b := by
  obtain ⟨es, clock, h1, h2, h3, h4⟩ := h.ex
  refine ⟨es, clock, h1, h2, h3, h4, fun x hx => ?_⟩
  obtain ⟨b, v, hk, hf, _⟩ := h3 x hx
  exact ⟨b, hk, hL b v hf⟩
variable {t e : TypeId}
theorem PmAt.look (h : PmAt vf w B f) (hL : ∀ b v, f b = some v → Live w b) (ht : P.underlying t = some (.map kt e)) (hp : P.underlying kt = some (.pointer te)) (hte : P.info? te = some i) (hsz : i.size ≠ 0) {z : Value} (hz : (zeroValue e).run P w = .ok z w) {a : Nat} (ha : Live w a) (c : Bool) :
    (Instr.lookup t (.map (some B)) (ptr a) c).run P w = .ok (if c then .tuple #[match f a with | some v => vf v | none => z, .bool (f a).isSome] else match f a with | some v => vf v | none => z) w := by
  obtain ⟨es, clock, h1, h2, h3, h4, h5⟩ := h.keys hL
  rcases ptr_findKey (w := w) hp hte hsz ha es.toList h5 with ⟨g1, g2⟩ | ⟨k, x, g1, g2, g3⟩
  · have hfa : f a = none := by
      cases hf : f a with
      | none => rfl
      | some v =>
        obtain ⟨x, hx, hk⟩ := h4 a v hf
        exact absurd hk (g2 x hx)
    simp [Instr.lookup, run_underlying ht, MapKept.run_getObj_map h1, ptr_check hp, g1, hz, Result.andThen, hfa]
  · obtain ⟨b, v, hk, hf, hv⟩ := h3 x (List.mem_of_getElem? g2)
    have hab : b = a := ptr_inj (hk.symm.trans g3)
    subst hab
    simp [Instr.lookup, run_underlying ht, MapKept.run_getObj_map h1, ptr_check hp, g1, Result.andThen, hf, hv]
def putP (f : Nat → Option V) (a : Nat) (v : V) : Nat → Option V := fun b => if b = a then some v else f b
theorem PmAt.put (h : PmAt vf w B f) (hL : ∀ b v, f b = some v → Live w b) (ht : P.underlying t = some (.map kt e)) (hp : P.underlying kt = some (.pointer te)) (hte : P.info? te = some i) (hsz : i.size ≠ 0) {a : Nat} (ha : Live w a) (v : V) :
    ∃ w', (Instr.mapUpdate t (.map (some B)) (ptr a) (vf v)).run P w = .ok () w' ∧ PmAt vf w' B (putP f a v) ∧ w.grownBy w' (some B) ∧ w'.heap.size = w.heap.size := by
  obtain ⟨es, clock, h1, h2, h3, h4, h5⟩ := h.keys hL
  have hg : ∀ o, w.grownBy { w with heap := w.heap.setIfInBounds B o } (some B) := fun o => by
    refine ⟨rfl, rfl, rfl, by simp, fun j _ hj => ?_⟩
    have : B ≠ j := fun e => hj (by rw [e])
    simp [this]
  rcases ptr_findKey (w := w) hp hte hsz ha es.toList h5 with ⟨g1, g2⟩ | ⟨k, x, g1, g2, g3⟩
  · have hfa : f a = none := by
      cases hf : f a with
      | none => rfl
      | some v =>
        obtain ⟨x, hx, hk⟩ := h4 a v hf
        exact absurd hk (g2 x hx)
    refine ⟨{ w with heap := w.heap.setIfInBounds B (.map (es.push ⟨ptr a, vf v, clock⟩) (clock + 1)) }, ?_, ⟨es.push ⟨ptr a, vf v, clock⟩, clock + 1, (MapKept.heap_set h1).1, ?_, ?_, ?_⟩, hg _, by simp⟩
    · simp [Instr.mapUpdate, run_underlying ht, MapKept.run_getObj_map h1, ptr_check hp, g1, MapKept.run_setObj_map _ h1, Result.andThen]
    · rw [Array.toList_push, List.pairwise_append]
      refine ⟨h2, by simp, fun y hy z hz => ?_⟩
      obtain rfl := List.mem_singleton.1 hz
      exact g2 y hy
    · intro y hy
      simp only [Array.toList_push, List.mem_append, List.mem_singleton] at hy
      rcases hy with hy | rfl
      · obtain ⟨b, u, hk, hf, hv⟩ := h3 y hy
        refine ⟨b, u, hk, ?_, hv⟩
        unfold putP
        rw [if_neg (fun e => g2 y hy (by rw [hk, e]))]
        exact hf
      · exact ⟨a, v, rfl, by unfold putP; rw [if_pos rfl], rfl⟩
    · intro b u hu
      unfold putP at hu
      by_cases e : b = a
      · subst e
        exact ⟨⟨ptr b, vf v, clock⟩, by simp, rfl⟩
      · rw [if_neg e] at hu
        obtain ⟨y, hy, hk⟩ := h4 b u hu
        exact ⟨y, by simp [hy], hk⟩
  · have hj : es[k]? = some x := by simpa using g2
    have hkl : k < es.toList.length := (List.getElem?_eq_some_iff.1 g2).1
    have hlist : (es.modify k (fun y => { y with key := ptr a, val := vf v })).toList = es.toList.set k { x with key := ptr a, val := vf v } := by rw [Array.toList_modify, ChangeMaps.modify_eq_set _ _ _ _ g2]
    have hmap : (es.toList.set k { x with key := ptr a, val := vf v }).map (·.key) = es.toList.map (·.key) := by
      rw [List.map_set]
      apply List.ext_getElem?
      intro j
      rw [List.getElem?_set]
      split
      · rename_i hjk
        subst hjk
        rw [List.length_map, if_pos hkl, List.getElem?_map, g2]
        simp [g3]
      · rfl
    have who : ∀ y ∈ es.toList.set k { x with key := ptr a, val := vf v }, y = { x with key := ptr a, val := vf v } ∨ (y ∈ es.toList ∧ y.key ≠ ptr a) := by
      intro y hy
      obtain ⟨j, hjl, ej⟩ := List.getElem_of_mem hy
      rw [List.getElem_set] at ej
      split at ej
      · exact .inl ej.symm
      · rename_i hne
        have hjl' : j < es.toList.length := by simpa using hjl
        refine .inr ⟨ej ▸ List.getElem_mem hjl', fun hk => ?_⟩
        have hx : es.toList[k] = x := by rw [List.getElem?_eq_getElem hkl] at g2; exact Option.some.inj g2
        have hpw := List.pairwise_iff_getElem.1 h2
        rcases Nat.lt_or_gt_of_ne hne with hlt | hlt
        · exact hpw k j hkl hjl' hlt (by rw [hx, ej, g3, hk])
        · exact hpw j k hjl' hkl hlt (by rw [hx, ej, g3, hk])
    refine ⟨{ w with heap := w.heap.setIfInBounds B (.map (es.modify k (fun y => { y with key := ptr a, val := vf v })) clock) }, ?_, ⟨_, clock, (MapKept.heap_set h1).1, ?_, ?_, ?_⟩, hg _, by simp⟩
    · simp [Instr.mapUpdate, run_underlying ht, MapKept.run_getObj_map h1, ptr_check hp, g1, hj, g3, ptr_stays, MapKept.run_setObj_map _ h1, Result.andThen]
    · rw [hlist]
      have : (es.toList.map (·.key)).Pairwise (fun x y => x ≠ y) := List.pairwise_map.2 h2
      rw [← hmap] at this
      exact List.pairwise_map.1 this
    · intro y hy
      rw [hlist] at hy
      rcases who y hy with rfl | ⟨hy, hne⟩
      · exact ⟨a, v, rfl, by unfold putP; rw [if_pos rfl], rfl⟩
      · obtain ⟨b, u, hk, hf, hv⟩ := h3 y hy
        refine ⟨b, u, hk, ?_, hv⟩
        unfold putP
        rw [if_neg (fun e => hne (by rw [hk, e]))]
        exact hf
    · intro b u hu
      rw [hlist]
      have hkm : ∀ y ∈ es.toList, ∃ z ∈ es.toList.set k { x with key := ptr a, val := vf v }, z.key = y.key := fun y hy => by
        have : y.key ∈ (es.toList.set k { x with key := ptr a, val := vf v }).map (·.key) := by rw [hmap]; exact List.mem_map.2 ⟨y, hy, rfl⟩
        obtain ⟨z, hz, e⟩ := List.mem_map.1 this
        exact ⟨z, hz, e⟩
      unfold putP at hu
      by_cases e : b = a
      · subst e
        obtain ⟨z, hz, e⟩ := hkm x (List.mem_of_getElem? g2)
        exact ⟨z, hz, e.trans g3⟩
      · rw [if_neg e] at hu
        obtain ⟨y, hy, hk⟩ := h4 b u hu
        obtain ⟨z, hz, e⟩ := hkm y hy
        exact ⟨z, hz, e.trans hk⟩
end
end Go.Proofs.Ytkdlakcmhdiojaa
