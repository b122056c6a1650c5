/- Several texts in one: Gtp Gtq. -/
import Derived.Test.YtgaibajkegfpoaaDoorZqc
import Derived.Test.YtgaibajkegfpoaaDoorSnu
import Derived.Test.YtgaibajkegfpoaaDoorZqe
/- What is told of a graph, plain: the specification's walk and the program's tell the same of a right graph. -/
namespace Go.Proofs.YtgaibajkegfpoaaDoor
open Go.ChangeShapes Go.WideShapes Go.ChangeAt Go.RowKit Go.Deep
/-- What was met, told, and visited (the last is known to us alone). -/
structure Td where
  met : List Nat
  out : List Ev
  tr : List Nat
def ev0 : Ev := ⟨0, 0, false, ⟨#[]⟩, ⟨#[]⟩, ⟨#[]⟩, 0, 0⟩
def evKind (k : Int) : Ev := { ev0 with kind := k }
def evDoc : Ev := { ev0 with kind := 2, flag := true }
def ndAt (g : Gr) (i : Nat) : Nd := g.nodes.getD i ⟨0, ⟨#[]⟩, ⟨#[]⟩, []⟩
/-- The event of a node, with the name by which it is met again. -/
def evBeg (n : Nd) (name : ByteArray) : Ev := { ev0 with kind := n.kind, style := if n.kind = 5 then 3 else 6, text := n.text, tag := n.tag, anchor := name }
def evAl (name : ByteArray) : Ev := { ev0 with kind := 6, text := name }
def nmN (i : Nat) : ByteArray := ⟨#[110]⟩ ++ nt (i : Int)
/-- The name of a node that stands in S. -/
def nmS (S : List Int) (i : Nat) : ByteArray := if (i : Int) ∈ S then nmN i else ⟨#[]⟩
/-- A node is told: with the names that a and b give (from what was met). -/
def tdK (g : Gr) (a b : List Nat → Nat → ByteArray) : Nat → Nat → Td → Td
  | 0, _, t => t
  | f + 1, i, t =>
    if i ∈ t.met then ⟨t.met, t.out ++ [evAl (a t.met i)], t.tr ++ [i]⟩
    else
      let t2 := (kidsOf g i).foldl (fun t k => tdK g a b f k.toNat t) ⟨t.met ++ [i], t.out ++ [evBeg (ndAt g i) (b t.met i)], t.tr ++ [i]⟩
      if (ndAt g i).kind = 5 then t2 else { t2 with out := t2.out ++ [evKind 7] }
def tdR (g : Gr) (a b : List Nat → Nat → ByteArray) (f : Nat) (t : Td) (r : Int) : Td :=
  let t1 := tdK g a b f r.toNat { t with out := t.out ++ [evDoc] }
  { t1 with out := t1.out ++ [evKind 8] }
def tdAll (g : Gr) (a b : List Nat → Nat → ByteArray) : Td :=
  let t := g.roots.foldl (tdR g a b (g.nodes.length + 1)) ⟨[], [evKind 1], []⟩
  { t with out := t.out ++ [evKind 9] }
/-- The names that the specification gives, and those that the program does. -/
def sA (S : List Int) : List Nat → Nat → ByteArray := fun _ i => nmS S i
def iA : List Nat → Nat → ByteArray := fun met i => nmN (ix i met)
def iB (S : List Int) : List Nat → Nat → ByteArray := fun met _ => nmS S met.length
section
variable {g : Gr} {a b : List Nat → Nat → ByteArray}
theorem tdK_old {f i : Nat} {t : Td} (h : i ∈ t.met) : tdK g a b (f + 1) i t = ⟨t.met, t.out ++ [evAl (a t.met i)], t.tr ++ [i]⟩ := by rw [tdK, if_pos h]
theorem tdK_new {f i : Nat} {t : Td} (h : i ∉ t.met) : tdK g a b (f + 1) i t =
    if (ndAt g i).kind = 5 then (kidsOf g i).foldl (fun t k => tdK g a b f k.toNat t) ⟨t.met ++ [i], t.out ++ [evBeg (ndAt g i) (b t.met i)], t.tr ++ [i]⟩
    else { (kidsOf g i).foldl (fun t k => tdK g a b f k.toNat t) ⟨t.met ++ [i], t.out ++ [evBeg (ndAt g i) (b t.met i)], t.tr ++ [i]⟩ with out := ((kidsOf g i).foldl (fun t k => tdK g a b f k.toNat t) ⟨t.met ++ [i], t.out ++ [evBeg (ndAt g i) (b t.met i)], t.tr ++ [i]⟩).out ++ [evKind 7] } := by rw [tdK, if_neg h]
/-- What a walk leaves of what was: nothing is lost. -/
structure TdG (g : Gr) (t t' : Td) : Prop where
  met : t.met <+: t'.met
  tr : t.tr <+: t'.tr
  out : t'.out.length + 2 * t.tr.length ≤ t.out.length + 2 * t'.tr.length
theorem TdG.refl (t : Td) : TdG g t t := ⟨List.prefix_refl _, List.prefix_refl _, Nat.le_refl _⟩
theorem TdG.trans {t u v : Td} (h : TdG g t u) (k : TdG g u v) : TdG g t v := ⟨h.met.trans k.met, h.tr.trans k.tr, by have h1 := h.out; have h2 := k.out; omega⟩
theorem tdK_g : ∀ (f i : Nat) (t : Td), TdG g t (tdK g a b f i t)
  | 0, _, t => TdG.refl t
  | f + 1, i, t => by
    by_cases hm : i ∈ t.met
    · rw [tdK_old hm]
      exact ⟨List.prefix_refl _, List.prefix_append _ _, by simp; omega⟩
    · have fold : ∀ (l : List Int) (u : Td), TdG g u (l.foldl (fun t k => tdK g a b f k.toNat t) u) := by
        intro l
        induction l with
        | nil => exact fun u => TdG.refl u
        | cons k l ih => exact fun u => (tdK_g f k.toNat u).trans (ih _)
      have h := fold (kidsOf g i) ⟨t.met ++ [i], t.out ++ [evBeg (ndAt g i) (b t.met i)], t.tr ++ [i]⟩
      rw [tdK_new hm]
      have h1 := h.out
      simp only [List.length_append, List.length_singleton] at h1
      obtain ⟨u, hu⟩ : ∃ u, (kidsOf g i).foldl (fun t k => tdK g a b f k.toNat t) ⟨t.met ++ [i], t.out ++ [evBeg (ndAt g i) (b t.met i)], t.tr ++ [i]⟩ = u := ⟨_, rfl⟩
      rw [hu] at h h1 ⊢
      split
      · exact ⟨(List.prefix_append _ _).trans h.met, (List.prefix_append _ _).trans h.tr, by omega⟩
      · refine ⟨(List.prefix_append _ _).trans h.met, (List.prefix_append _ _).trans h.tr, ?_⟩
        show (u.out ++ [evKind 7]).length + 2 * t.tr.length ≤ t.out.length + 2 * u.tr.length
        rw [List.length_append, List.length_singleton]
        omega
theorem tdF_g (f : Nat) : ∀ (l : List Int) (u : Td), TdG g u (l.foldl (fun t k => tdK g a b f k.toNat t) u)
  | [], u => TdG.refl u
  | k :: l, u => (tdK_g f k.toNat u).trans (tdF_g f l _)
end
/-- The kids of what was met. -/
def sumK (H : Nat → Nat) : List Nat → Nat
  | [] => 0
  | m :: t => H m + sumK H t
theorem sumK_app (H : Nat → Nat) : ∀ (l m : List Nat), sumK H (l ++ m) = sumK H l + sumK H m
  | [], m => by simp [sumK]
  | x :: l, m => by have := sumK_app H l m; simp only [List.cons_append, sumK, this]; omega
/-- The walk goes well: what was met stands in its order. -/
structure TdR (g : Gr) (st : Ws) (t : Td) : Prop where
  met : t.met = List.range t.met.length
  next : st.next = (t.met.length : Int)
  seen : ∀ i, i < g.nodes.length → (sn st i = 0 ↔ t.met.length ≤ i)
  le : t.met.length ≤ g.nodes.length
theorem tdK_all {g : Gr} (hk : ∀ i, ∀ k ∈ kidsOf g i, 0 ≤ k ∧ k < (g.nodes.length : Int)) (S : List Int) (F : List Nat) : ∀ (f i : Nat) (st : Ws) (t : Td), i < g.nodes.length → WInv g st → zeros st.seen < f → (goW g f i st).bad = false → TdR g st t → (∀ x ∈ t.met, 1 ≤ t.tr.count x) → (tdK g (sA S) (sA S) f i t).tr <+: F →
    ((∀ x, 2 ≤ F.count x → (x : Int) ∈ S) → tdK g iA (iB S) f i t = tdK g (sA S) (sA S) f i t) ∧ TdR g (goW g f i st) (tdK g (sA S) (sA S) f i t) ∧ (∀ x ∈ (tdK g (sA S) (sA S) f i t).met, 1 ≤ (tdK g (sA S) (sA S) f i t).tr.count x) ∧ ∀ c : Nat → Nat, sumK c (tdK g (sA S) (sA S) f i t).tr + sumK (fun m => sumK c ((kidsOf g m).map Int.toNat)) t.met = sumK c t.tr + c i + sumK (fun m => sumK c ((kidsOf g m).map Int.toNat)) (tdK g (sA S) (sA S) f i t).met
  | 0, _, _, _, _, _, hz, _, _, _, _ => absurd hz (Nat.not_lt_zero _)
  | f + 1, i, st, t, hi, hI, hz, hb, hR, hT, hP => by
    by_cases h1 : st.bad = true ∨ st.seen.getD i 0 = 1 ∨ (st.seen.getD i 0 = 0 ∧ (i : Int) ≠ st.next) ∨ st.seen.getD i 0 = 3
    · rw [goW_bad h1] at hb
      cases hb
    have hmem : i ∈ t.met ↔ i < t.met.length := by
      rw [hR.met]
      simp
    by_cases h2 : st.seen.getD i 0 = 2
    · -- it was met
      have hm : i ∈ t.met := hmem.2 (by
        have h3 := hR.seen i hi
        by_cases e : i < t.met.length
        · exact e
        · have h4 : sn st i = 0 := h3.2 (by omega)
          unfold sn at h4
          rw [h2] at h4
          cases h4)
      rw [goW_met h1 h2]
      rw [tdK_old hm] at hP ⊢
      rw [tdK_old hm]
      have hS : (∀ x, 2 ≤ F.count x → (x : Int) ∈ S) → (i : Int) ∈ S := fun hF => hF i (by
        have h3 := hT i hm
        have h4 : (t.tr ++ [i]).count i ≤ F.count i := List.Sublist.count_le i hP.sublist
        rw [List.count_append, List.count_singleton_self] at h4
        omega)
      have hix : ix i t.met = i := by rw [hR.met]; exact ix_range (hmem.1 hm)
      refine ⟨fun hF => by
        have e1 : iA t.met i = sA S t.met i := by
          unfold iA sA nmS
          rw [hix, if_pos (hS hF)]
        rw [e1], ⟨hR.met, hR.next, hR.seen, hR.le⟩, fun x hx => ?_, fun c => ?_⟩
      · have := hT x hx
        show 1 ≤ (t.tr ++ [i]).count x
        rw [List.count_append]
        omega
      · show sumK c (t.tr ++ [i]) + _ = _
        rw [sumK_app]
        simp only [sumK]
        omega
    · obtain ⟨hb0, h0, hnx⟩ := met_new hI hi h1 h2
      obtain ⟨hI1, hz1⟩ := inv_enter hI h0
      have hl : i < st.seen.length := by rw [hI.len]; exact hi
      have hin : i = t.met.length := by have := hR.next; omega
      have hm : i ∉ t.met := fun h => by have := hmem.1 h; omega
      rw [goW_new h1 h2] at hb ⊢
      obtain ⟨st1, hst1⟩ : ∃ st1 : Ws, ({ st with seen := st.seen.set i 1, next := st.next + 1 } : Ws) = st1 := ⟨_, rfl⟩
      rw [hst1] at hb hI1 ⊢
      have hzf : zeros st1.seen < f := by rw [← hst1]; show zeros (st.seen.set i 1) < f; omega
      have e2 : iB S t.met i = sA S t.met i := by
        unfold iB sA
        rw [← hin]
      obtain ⟨t1, ht1⟩ : ∃ t1 : Td, (⟨t.met ++ [i], t.out ++ [evBeg (ndAt g i) (sA S t.met i)], t.tr ++ [i]⟩ : Td) = t1 := ⟨_, rfl⟩
      have hR1 : TdR g st1 t1 := by
        rw [← ht1, ← hst1]
        refine ⟨?_, ?_, fun j hj => ?_, ?_⟩
        · show t.met ++ [i] = List.range (t.met ++ [i]).length
          rw [List.length_append, List.length_singleton, List.range_succ, ← hR.met, hin]
        · show st.next + 1 = _
          rw [hR.next, List.length_append, List.length_singleton]
          omega
        · show (st.seen.set i 1).getD j 0 = 0 ↔ (t.met ++ [i]).length ≤ j
          rw [List.length_append, List.length_singleton]
          by_cases e : j = i
          · subst e
            rw [getD_set_self _ _ _ _ hl]
            constructor
            · intro h; cases h
            · intro h; omega
          · rw [getD_set_other _ _ _ _ _ e]
            have := hR.seen j hj
            unfold sn at this
            rw [this]
            omega
        · show (t.met ++ [i]).length ≤ _
          rw [List.length_append, List.length_singleton]
          omega
      have hT1 : ∀ x ∈ t1.met, 1 ≤ t1.tr.count x := by
        rw [← ht1]
        intro x hx
        show 1 ≤ (t.tr ++ [i]).count x
        rw [List.count_append]
        rcases List.mem_append.1 hx with hx | hx
        · have := hT x hx
          omega
        · obtain rfl := List.mem_singleton.1 hx
          rw [List.count_singleton_self]
          omega
      have hP2 : ((kidsOf g i).foldl (fun t k => tdK g (sA S) (sA S) f k.toNat t) t1).tr <+: F := by
        rw [tdK_new hm, ht1] at hP
        split at hP
        · exact hP
        · exact hP
      have fold : ∀ (l : List Int) (u : Ws) (v : Td), (∀ k ∈ l, 0 ≤ k ∧ k < (g.nodes.length : Int)) → WInv g u → zeros u.seen < f → (l.foldl (fun t k => goW g f k.toNat t) u).bad = false → TdR g u v → (∀ x ∈ v.met, 1 ≤ v.tr.count x) → (l.foldl (fun t k => tdK g (sA S) (sA S) f k.toNat t) v).tr <+: F →
          ((∀ x, 2 ≤ F.count x → (x : Int) ∈ S) → l.foldl (fun t k => tdK g iA (iB S) f k.toNat t) v = l.foldl (fun t k => tdK g (sA S) (sA S) f k.toNat t) v) ∧ TdR g (l.foldl (fun t k => goW g f k.toNat t) u) (l.foldl (fun t k => tdK g (sA S) (sA S) f k.toNat t) v) ∧ (∀ x ∈ (l.foldl (fun t k => tdK g (sA S) (sA S) f k.toNat t) v).met, 1 ≤ (l.foldl (fun t k => tdK g (sA S) (sA S) f k.toNat t) v).tr.count x) ∧
          ∀ c : Nat → Nat, sumK c (l.foldl (fun t k => tdK g (sA S) (sA S) f k.toNat t) v).tr + sumK (fun m => sumK c ((kidsOf g m).map Int.toNat)) v.met = sumK c v.tr + sumK c (l.map Int.toNat) + sumK (fun m => sumK c ((kidsOf g m).map Int.toNat)) (l.foldl (fun t k => tdK g (sA S) (sA S) f k.toNat t) v).met := by
        intro l
        induction l with
        | nil => exact fun u v _ _ _ _ hR hT _ => ⟨fun _ => rfl, hR, hT, fun c => by simp [sumK]⟩
        | cons k l ih =>
          intro u v hl hu hzu hbu hRu hTu hPu
          rw [List.foldl_cons] at hbu hPu
          have hk0 := hl k (List.mem_cons_self ..)
          have hbk : (goW g f k.toNat u).bad = false := by
            cases e : (goW g f k.toNat u).bad with
            | false => rfl
            | true => rw [fold_stays g f l _ e] at hbu; cases hbu
          have hPk := (tdF_g (g := g) (a := sA S) (b := sA S) f l (tdK g (sA S) (sA S) f k.toNat v)).tr.trans hPu
          obtain ⟨w1, w2, w3, w4⟩ := tdK_all hk S F f k.toNat u v (by omega) hu hzu hbk hRu hTu hPk
          obtain ⟨v1, v2, v3, v4⟩ := ih _ _ (fun x hx => hl x (List.mem_cons_of_mem _ hx)) (goW_inv g hk f k.toNat u (by omega) hu) (Nat.lt_of_le_of_lt (goW_keep g f k.toNat u).2 hzu) hbu w2 w3 hPu
          refine ⟨fun hF => ?_, v2, v3, fun c => ?_⟩
          · rw [List.foldl_cons, List.foldl_cons, w1 hF]
            exact v1 hF
          · have h5 := w4 c
            have h6 := v4 c
            rw [List.foldl_cons, List.map_cons]
            simp only [sumK]
            omega
      obtain ⟨w1, w2, w3, w4⟩ := fold (kidsOf g i) st1 t1 (hk i) hI1 hzf hb hR1 hT1 hP2
      obtain ⟨st2, hst2⟩ : ∃ st2, (kidsOf g i).foldl (fun t k => goW g f k.toNat t) st1 = st2 := ⟨_, rfl⟩
      have hl2 : i < st2.seen.length := by
        have h3 := (fold_inv hk f (kidsOf g i) st1 (hk i) hI1).1
        rw [hst2] at h3
        rw [h3.len]
        exact hi
      have hpre := (tdF_g (g := g) (a := sA S) (b := sA S) f (kidsOf g i) t1).met
      rw [tdK_new hm, tdK_new hm, e2, ht1]
      rw [hst2] at w2 ⊢
      obtain ⟨t2, ht2⟩ : ∃ t2, (kidsOf g i).foldl (fun t k => tdK g (sA S) (sA S) f k.toNat t) t1 = t2 := ⟨_, rfl⟩
      rw [ht2] at w1 w2 w3 w4 hpre ⊢
      have hlt : i < t2.met.length := by
        have := hpre.length_le
        rw [← ht1] at this
        simp only [List.length_append, List.length_singleton] at this
        omega
      have hRf : ∀ o, TdR g { st2 with seen := st2.seen.set i 2 } { t2 with out := o } := fun o => by
        refine ⟨w2.met, w2.next, fun j hj => ?_, w2.le⟩
        show (st2.seen.set i 2).getD j 0 = 0 ↔ t2.met.length ≤ j
        by_cases e : j = i
        · subst e
          rw [getD_set_self _ _ _ _ hl2]
          constructor
          · intro h; cases h
          · intro h; omega
        · rw [getD_set_other _ _ _ _ _ e]
          exact w2.seen j hj
      have hC : ∀ c : Nat → Nat, sumK c t2.tr + sumK (fun m => sumK c ((kidsOf g m).map Int.toNat)) t.met = sumK c t.tr + c i + sumK (fun m => sumK c ((kidsOf g m).map Int.toNat)) t2.met := fun c => by
        have h5 := w4 c
        rw [← ht1] at h5
        simp only [sumK_app, sumK] at h5
        omega
      split
      · exact ⟨w1, hRf t2.out, w3, hC⟩
      · exact ⟨fun hF => by rw [w1 hF], hRf _, w3, hC⟩
theorem tdR_g {g : Gr} {a b : List Nat → Nat → ByteArray} (f : Nat) (t : Td) (r : Int) : t.tr <+: (tdR g a b f t r).tr ∧ (tdR g a b f t r).out.length + 2 * t.tr.length ≤ t.out.length + 2 + 2 * (tdR g a b f t r).tr.length := by
  have h := tdK_g (g := g) (a := a) (b := b) f r.toNat { t with out := t.out ++ [evDoc] }
  refine ⟨h.tr, ?_⟩
  have h1 := h.out
  unfold tdR
  simp only [List.length_append, List.length_singleton] at h1 ⊢
  omega
theorem tdRs_g {g : Gr} {a b : List Nat → Nat → ByteArray} (f : Nat) : ∀ (l : List Int) (t : Td), t.tr <+: (l.foldl (tdR g a b f) t).tr ∧ (l.foldl (tdR g a b f) t).out.length + 2 * t.tr.length ≤ t.out.length + 2 * l.length + 2 * (l.foldl (tdR g a b f) t).tr.length
  | [], t => ⟨List.prefix_refl _, by simp⟩
  | r :: l, t => by
    have h1 := tdR_g (g := g) (a := a) (b := b) f t r
    have h2 := tdRs_g (g := g) (a := a) (b := b) f l (tdR g a b f t r)
    refine ⟨h1.1.trans h2.1, ?_⟩
    have h3 := h1.2
    have h4 := h2.2
    rw [List.foldl_cons, List.length_cons]
    omega
theorem tdRs_all {g : Gr} (hk : ∀ i, ∀ k ∈ kidsOf g i, 0 ≤ k ∧ k < (g.nodes.length : Int)) (S : List Int) (F : List Nat) {f : Nat} : ∀ (l : List Int) (st : Ws) (t : Td), (∀ r ∈ l, 0 ≤ r ∧ r < (g.nodes.length : Int)) → WInv g st → zeros st.seen < f → (l.foldl (fun t r => endRoot g f t r.toNat) st).bad = false → TdR g st t → (∀ x ∈ t.met, 1 ≤ t.tr.count x) → (l.foldl (tdR g (sA S) (sA S) f) t).tr <+: F →
    ((∀ x, 2 ≤ F.count x → (x : Int) ∈ S) → l.foldl (tdR g iA (iB S) f) t = l.foldl (tdR g (sA S) (sA S) f) t) ∧ TdR g (l.foldl (fun t r => endRoot g f t r.toNat) st) (l.foldl (tdR g (sA S) (sA S) f) t) ∧
    ∀ c : Nat → Nat, sumK c (l.foldl (tdR g (sA S) (sA S) f) t).tr + sumK (fun m => sumK c ((kidsOf g m).map Int.toNat)) t.met = sumK c t.tr + sumK c (l.map Int.toNat) + sumK (fun m => sumK c ((kidsOf g m).map Int.toNat)) (l.foldl (tdR g (sA S) (sA S) f) t).met
  | [], _, _, _, _, _, _, hR, _, _ => ⟨fun _ => rfl, hR, fun c => by simp [sumK]⟩
  | r :: l, st, t, hl, hI, hz, hb, hR, hT, hP => by
    have h0 := hl r (List.mem_cons_self ..)
    rw [List.foldl_cons] at hP
    have hb1 : (endRoot g f st r.toNat).bad = false := by
      cases e : (endRoot g f st r.toNat).bad with
      | false => rfl
      | true =>
        rw [List.foldl_cons, roots_bad g f l _ e] at hb
        cases hb
    have hb2 : (goW g f r.toNat st).bad = false := hb1
    have hP1 := (tdRs_g (g := g) (a := sA S) (b := sA S) f l (tdR g (sA S) (sA S) f t r)).1.trans hP
    obtain ⟨w1, w2, w3, w4⟩ := tdK_all hk S F f r.toNat st { t with out := t.out ++ [evDoc] } (by omega) hI hz hb2 ⟨hR.met, hR.next, hR.seen, hR.le⟩ hT hP1
    have hlen : (goW g f r.toNat st).seen.length = g.nodes.length := (goW_inv g hk f r.toNat st (by omega) hI).len
    have hR2 : TdR g (endRoot g f st r.toNat) (tdR g (sA S) (sA S) f t r) := by
      refine ⟨w2.met, w2.next, fun j hj => ?_, w2.le⟩
      have h3 := w2.seen j hj
      show (thrK g.nodes.length (goW g f r.toNat st).seen).getD j 0 = 0 ↔ _
      rw [thrK_getD]
      unfold sn at h3
      by_cases e : (goW g f r.toNat st).seen.getD j 0 = 2
      · rw [if_pos ⟨hj, e⟩, if_pos (by omega)]
        rw [e] at h3
        constructor
        · intro h; cases h
        · intro h
          exact absurd (h3.2 h) (by decide)
      · rw [if_neg (fun h => e h.2)]
        exact h3
    have hz2 : zeros (endRoot g f st r.toNat).seen ≤ zeros st.seen := by
      refine Nat.le_trans ?_ (goW_keep g f r.toNat st).2
      show zeros (thrK _ _) ≤ _
      have thr : ∀ (k : Nat) (l : List Int), zeros (thrK k l) ≤ zeros l := fun k l => by
        induction k with
        | zero => exact Nat.le_refl _
        | succ k ih =>
          rw [thrK]
          split
          · exact Nat.le_trans (zeros_set (by decide)) ih
          · exact ih
      exact thr _ _
    obtain ⟨v1, v2, v3⟩ := tdRs_all hk S F l (endRoot g f st r.toNat) (tdR g (sA S) (sA S) f t r) (fun x hx => hl x (List.mem_cons_of_mem _ hx)) (endRoot_inv hk (by omega) hI) (Nat.lt_of_le_of_lt hz2 hz) hb hR2 w3 hP
    refine ⟨fun hF => ?_, v2, fun c => ?_⟩
    · rw [List.foldl_cons, List.foldl_cons]
      have e : tdR g iA (iB S) f t r = tdR g (sA S) (sA S) f t r := by
        unfold tdR
        rw [w1 hF]
      rw [e]
      exact v1 hF
    · have h5 := w4 c
      have h6 := v3 c
      rw [List.foldl_cons, List.map_cons]
      simp only [sumK]
      have e1 : (tdR g (sA S) (sA S) f t r).tr = (tdK g (sA S) (sA S) f r.toNat { t with out := t.out ++ [evDoc] }).tr := rfl
      have e2 : (tdR g (sA S) (sA S) f t r).met = (tdK g (sA S) (sA S) f r.toNat { t with out := t.out ++ [evDoc] }).met := rfl
      rw [e1, e2] at h6
      have h5' : sumK c (tdK g (sA S) (sA S) f r.toNat { t with out := t.out ++ [evDoc] }).tr + sumK (fun m => sumK c ((kidsOf g m).map Int.toNat)) t.met = sumK c t.tr + c r.toNat + sumK (fun m => sumK c ((kidsOf g m).map Int.toNat)) (tdK g (sA S) (sA S) f r.toNat { t with out := t.out ++ [evDoc] }).met := h5
      omega
end Go.Proofs.YtgaibajkegfpoaaDoor
/- What is told of a right graph: the program's names are the specification's, and how much it is. -/
namespace Go.Proofs.YtgaibajkegfpoaaDoor
open Go.ChangeShapes Go.WideShapes Go.ChangeAt Go.RowKit Go.Deep
theorem mem_sharedTo {L : List Int} {x : Nat} (h : 1 < L.getD x 0) : ∀ {N : Nat}, x < N → (x : Int) ∈ sharedTo L N
  | 0, hx => absurd hx (Nat.not_lt_zero _)
  | N + 1, hx => by
    rw [sharedTo]
    by_cases e : x = N
    · subst e
      rw [if_pos h]
      simp
    · have ih := mem_sharedTo h (N := N) (by omega)
      split
      · exact List.mem_append_left _ ih
      · exact ih
theorem hits_sum (x : Nat) : ∀ ks : List Int, hits x ks = sumK (fun y => if y = x then 1 else 0) (ks.map Int.toNat)
  | [] => rfl
  | k :: ks => by
    have ih := hits_sum x ks
    unfold hits at ih ⊢
    rw [List.countP_cons, ih, List.map_cons]
    simp only [sumK, beq_iff_eq]
    omega
theorem count_sum (x : Nat) : ∀ l : List Nat, l.count x = sumK (fun y => if y = x then 1 else 0) l
  | [] => rfl
  | y :: l => by
    have ih := count_sum x l
    rw [List.count_cons, ih]
    simp only [sumK, beq_iff_eq]
    omega
theorem len_sum : ∀ l : List Nat, l.length = sumK (fun _ => 1) l
  | [] => rfl
  | y :: l => by
    have ih := len_sum l
    simp only [List.length_cons, sumK]
    omega
theorem hitsN_app (x : Nat) : ∀ (a b : List Nd), hitsN x (a ++ b) = hitsN x a + hitsN x b
  | [], b => by simp [hitsN]
  | n :: a, b => by have := hitsN_app x a b; simp only [List.cons_append, hitsN, this]; omega
theorem range_hits {g : Gr} (x : Nat) : ∀ k, k ≤ g.nodes.length → sumK (fun m => sumK (fun y => if y = x then 1 else 0) ((kidsOf g m).map Int.toNat)) (List.range k) = hitsN x (g.nodes.take k)
  | 0, _ => rfl
  | k + 1, hk => by
    have hx : g.nodes[k]? = some g.nodes[k] := List.getElem?_eq_getElem (by omega)
    have ih := range_hits (g := g) x k (by omega)
    rw [List.range_succ, sumK_app, ih, List.take_add_one, hx, hitsN_app]
    simp only [sumK, Option.toList, hitsN, kids_at hx, hits_sum]
theorem range_len {g : Gr} : ∀ k, k ≤ g.nodes.length → sumK (fun m => sumK (fun _ => 1) ((kidsOf g m).map Int.toNat)) (List.range k) ≤ totN (g.nodes.take k)
  | 0, _ => Nat.le_refl _
  | k + 1, hk => by
    have hx : g.nodes[k]? = some g.nodes[k] := List.getElem?_eq_getElem (by omega)
    have ih := range_len (g := g) k (by omega)
    have e := totN_take hx
    have e2 : (g.nodes[k]).kids.length ≤ (g.nodes[k]).tot := by unfold Nd.tot; omega
    rw [List.range_succ, sumK_app, e]
    have e3 : sumK (fun _ => 1) ((g.nodes[k]).kids.map Int.toNat) = (g.nodes[k]).kids.length := by rw [← len_sum, List.length_map]
    simp only [sumK, kids_at hx, e3]
    omega
/-- The trace of the whole. -/
def tdF (g : Gr) : Td := g.roots.foldl (tdR g (sA (sharedG g)) (sA (sharedG g)) (g.nodes.length + 1)) ⟨[], [evKind 1], []⟩
theorem right_td {g : Gr} (h : graphOkP g = true) : (tdF g).met.length ≤ g.nodes.length ∧ (∀ c : Nat → Nat, sumK c (tdF g).tr = sumK c (g.roots.map Int.toNat) + sumK (fun m => sumK c ((kidsOf g m).map Int.toNat)) (List.range g.nodes.length)) ∧ ∀ S, ((∀ x, 2 ≤ (tdF g).tr.count x → (x : Int) ∈ S) → S = sharedG g → g.roots.foldl (tdR g iA (iB S) (g.nodes.length + 1)) ⟨[], [evKind 1], []⟩ = tdF g) := by
  obtain ⟨h1, h2, h3⟩ := ok_parts h
  have hp : partsP g = true := by
    cases e : partsP g with
    | true => rfl
    | false => rw [graphOk_parts e] at h; cases h
  have hpp := hp
  unfold partsP at hpp
  rw [Bool.and_eq_true, Bool.and_eq_true] at hpp
  obtain ⟨st, hst⟩ : ∃ st, g.roots.foldl (fun t r => endRoot g (g.nodes.length + 1) t r.toNat) ⟨List.replicate g.nodes.length 0, 0, false⟩ = st := ⟨_, rfl⟩
  have he := ok_end h1 hpp.2.2 hpp.2.1 hst
  rw [h] at he
  have hbad : st.bad = false := by
    cases e : st.bad with
    | false => rfl
    | true => rw [e] at he; cases he
  have hnx : st.next = (g.nodes.length : Int) := by
    rw [hbad] at he
    have : decide (st.next = (g.nodes.length : Int)) = true := he.symm
    exact of_decide_eq_true this
  have z0 : ∀ m, sn ⟨List.replicate g.nodes.length 0, 0, false⟩ m = 0 := fun m => by
    show (List.replicate g.nodes.length (0 : Int)).getD m 0 = 0
    by_cases hm : m < g.nodes.length
    · simp [List.getD, hm]
    · simp [List.getD, List.getElem?_eq_none (show (List.replicate g.nodes.length (0 : Int)).length ≤ m by simp; omega)]
  have hzz : zeros (List.replicate g.nodes.length (0 : Int)) < g.nodes.length + 1 := by
    have := zeros_len (List.replicate g.nodes.length (0 : Int))
    simp only [List.length_replicate] at this
    omega
  have hR0 : TdR g ⟨List.replicate g.nodes.length 0, 0, false⟩ ⟨[], [evKind 1], []⟩ := ⟨rfl, rfl, fun i _ => ⟨fun _ => Nat.zero_le _, fun _ => z0 i⟩, Nat.zero_le _⟩
  obtain ⟨w1, w2, w3⟩ := tdRs_all h2 (sharedG g) (tdF g).tr g.roots ⟨List.replicate g.nodes.length 0, 0, false⟩ ⟨[], [evKind 1], []⟩ h3 (start_inv h1) hzz (by rw [hst]; exact hbad) hR0 (fun x hx => absurd hx (by simp)) (List.prefix_refl _)
  have hml : (tdF g).met.length = g.nodes.length := by
    have h5 := w2.next
    rw [hst, hnx] at h5
    have h6 : (g.nodes.length : Int) = ((tdF g).met.length : Int) := h5
    omega
  have hmet : (tdF g).met = List.range g.nodes.length := by
    have h5 : (tdF g).met = List.range (tdF g).met.length := w2.met
    rw [hml] at h5
    exact h5
  refine ⟨Nat.le_of_eq hml, fun c => ?_, fun S hS hSe => ?_⟩
  · have h5 := w3 c
    have h6 : sumK c (tdF g).tr + 0 = 0 + sumK c (g.roots.map Int.toNat) + sumK (fun m => sumK c ((kidsOf g m).map Int.toNat)) (tdF g).met := h5
    rw [hmet] at h6
    omega
  · subst hSe
    exact w1 hS
theorem right_names {g : Gr} (h : graphOkP g = true) : ∀ x, 2 ≤ (tdF g).tr.count x → (x : Int) ∈ sharedG g := by
  intro x hx
  obtain ⟨h1, h2, h3⟩ := ok_parts h
  obtain ⟨_, w2, _⟩ := right_td h
  have hkn : ∀ n ∈ g.nodes, ∀ k ∈ n.kids, 0 ≤ k ∧ k < (g.nodes.length : Int) := fun n hn k hkk => by
    obtain ⟨j, hj⟩ := List.mem_iff_getElem?.1 hn
    have := h2 j
    rw [kids_at hj] at this
    exact this k hkk
  rw [count_sum, w2, range_hits x _ (Nat.le_refl _), List.take_length, ← hits_sum] at hx
  have hxN : x < g.nodes.length := by
    by_cases e : x < g.nodes.length
    · exact e
    · rw [hits_zero (fun k hk => by have := h3 k hk; omega), hitsN_zero (fun n hn k hk => by have := hkn n hn k hk; omega)] at hx
      omega
  unfold sharedG
  rw [if_pos h]
  refine mem_sharedTo ?_ hxN
  rw [cntN_getD _ _ _ (fun n hn k hkk => by rw [cntI_len, List.length_replicate]; have := hkn n hn k hkk; omega), cntI_getD _ _ _ (fun k hkk => by rw [List.length_replicate]; have := h3 k hkk; omega)]
  have z : (List.replicate g.nodes.length (0 : Int)).getD x 0 = 0 := by simp [List.getD, hxN]
  rw [z]
  omega
theorem td_same {g : Gr} (h : graphOkP g = true) : tdAll g iA (iB (sharedG g)) = tdAll g (sA (sharedG g)) (sA (sharedG g)) := by
  have h1 := (right_td h).2.2 (sharedG g) (right_names h) rfl
  unfold tdAll
  rw [h1]
  rfl
theorem td_len {g : Gr} (h : graphOkP g = true) (ht : g.tot ≤ 1048576) : (tdF g).tr.length ≤ 1048576 := by
  have hN : g.nodes.length + totN g.nodes + g.roots.length ≤ 1048576 := ht
  obtain ⟨_, w2, _⟩ := right_td h
  have h2 := range_len (g := g) g.nodes.length (Nat.le_refl _)
  rw [List.take_length] at h2
  rw [len_sum, w2, ← len_sum, List.length_map]
  omega
/-- What is told of a graph. -/
def decP (g : Gr) : List Ev := if graphOkP g = true then (tdAll g (sA (sharedG g)) (sA (sharedG g))).out else []
theorem decP_len {g : Gr} (ht : g.tot ≤ 1048576) : (decP g).length ≤ 5000000 := by
  have hN : g.nodes.length + totN g.nodes + g.roots.length ≤ 1048576 := ht
  unfold decP
  split
  · rename_i h
    have h1 := td_len h ht
    have h2 := (tdRs_g (g := g) (a := sA (sharedG g)) (b := sA (sharedG g)) (g.nodes.length + 1) g.roots ⟨[], [evKind 1], []⟩).2
    have h3 : (tdF g).out.length + 2 * 0 ≤ 1 + 2 * g.roots.length + 2 * (tdF g).tr.length := h2
    show ((tdF g).out ++ [evKind 9]).length ≤ _
    rw [List.length_append, List.length_singleton]
    omega
  · exact Nat.zero_le _
end Go.Proofs.YtgaibajkegfpoaaDoor
