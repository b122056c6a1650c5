/- Several texts in one: Gsp Gvu Gvw. -/
import Derived.Test.YtgaibajkegfpoaaDoorGov
import Derived.Test.YtgaibajkegfpoaaDoorPsh
import Derived.Test.YtgaibajkegfpoaaDoorGvp
/- Which nodes of a graph are shared: plain, and the counts in memory. -/
namespace Go.Proofs.YtgaibajkegfpoaaDoor
open Go.ChangeShapes Go.WideShapes Go.ChangeAt Go.RowKit Go.Deep
def incAt (l : List Int) (k : Nat) : List Int := l.set k (l.getD k 0 + 1)
def cntI (l : List Int) (ks : List Int) : List Int := ks.foldl (fun l k => incAt l k.toNat) l
def cntN (l : List Int) (ns : List Nd) : List Int := ns.foldl (fun l n => cntI l n.kids) l
def sharedTo (l : List Int) : Nat → List Int
  | 0 => []
  | k + 1 => if 1 < l.getD k 0 then sharedTo l k ++ [(k : Int)] else sharedTo l k
def sharedG (g : Gr) : List Int := if graphOkP g = true then sharedTo (cntN (cntI (List.replicate g.nodes.length 0) g.roots) g.nodes) g.nodes.length else []
theorem cntI_take {l ks : List Int} {k : Nat} {x : Int} (h : ks[k]? = some x) : cntI l (ks.take (k + 1)) = incAt (cntI l (ks.take k)) x.toNat := by
  unfold cntI
  rw [List.take_add_one, h, List.foldl_append]
  rfl
theorem cntN_take {l : List Int} {ns : List Nd} {k : Nat} {n : Nd} (h : ns[k]? = some n) : cntN l (ns.take (k + 1)) = cntI (cntN l (ns.take k)) n.kids := by
  unfold cntN
  rw [List.take_add_one, h, List.foldl_append]
  rfl
theorem sharedTo_len (l : List Int) (k : Nat) : (sharedTo l k).length ≤ k := by
  induction k with
  | zero => exact Nat.le_refl _
  | succ k ih =>
    rw [sharedTo]
    split
    · rw [List.length_append]; simp; exact ih
    · omega
/-- The counts: as many as nodes, none above m. -/
structure Cn (N m : Nat) (l : List Int) : Prop where
  len : l.length = N
  bd : ∀ x ∈ l, 0 ≤ x ∧ x ≤ (m : Int)
theorem Cn.getD {N m : Nat} {l : List Int} (h : Cn N m l) (k : Nat) : 0 ≤ l.getD k 0 ∧ l.getD k 0 ≤ (m : Int) := by
  by_cases hk : k < l.length
  · have : l.getD k 0 = l[k] := by simp [List.getD, List.getElem?_eq_getElem hk]
    rw [this]
    exact h.bd _ (List.getElem_mem hk)
  · have : l.getD k 0 = 0 := by simp [List.getD, List.getElem?_eq_none (Nat.le_of_not_lt hk)]
    rw [this]
    omega
theorem Cn.inc {N m : Nat} {l : List Int} (h : Cn N m l) (k : Nat) : Cn N (m + 1) (incAt l k) := by
  refine ⟨by unfold incAt; rw [List.length_set]; exact h.len, fun x hx => ?_⟩
  have hg := h.getD k
  rcases List.mem_or_eq_of_mem_set hx with h1 | rfl
  · have := h.bd x h1
    omega
  · omega
theorem Cn.ints {N : Nat} : ∀ (ks : List Int) (m : Nat) (l : List Int), Cn N m l → Cn N (m + ks.length) (cntI l ks)
  | [], _, _, h => h
  | k :: ks, m, l, h => by
    have := Cn.ints ks (m + 1) _ (h.inc k.toNat)
    rw [List.length_cons, show m + (ks.length + 1) = m + 1 + ks.length by omega]
    exact this
theorem Cn.mono {N m m' : Nat} {l : List Int} (h : Cn N m l) (hm : m ≤ m') : Cn N m' l := ⟨h.len, fun x hx => by have := h.bd x hx; omega⟩
theorem Cn.nodes {N : Nat} : ∀ (ns : List Nd) (m : Nat) (l : List Int), Cn N m l → Cn N (m + totN ns) (cntN l ns)
  | [], _, _, h => h
  | n :: ns, m, l, h => by
    have := Cn.nodes ns _ _ (Cn.ints n.kids m l h)
    refine this.mono ?_
    show m + n.kids.length + totN ns ≤ m + totN (n :: ns)
    have e : totN (n :: ns) = n.tot + totN ns := rfl
    rw [e]
    unfold Nd.tot
    omega
theorem Cn.zero (N : Nat) : Cn N 0 (List.replicate N 0) := ⟨by simp, fun x hx => by obtain rfl := List.eq_of_mem_replicate hx; decide⟩
theorem ok_parts {g : Gr} (h : graphOkP g = true) : g.nodes.length ≤ 3000 ∧ (∀ i, ∀ k ∈ kidsOf g i, 0 ≤ k ∧ k < (g.nodes.length : Int)) ∧ ∀ k ∈ g.roots, 0 ≤ k ∧ k < (g.nodes.length : Int) := by
  unfold graphOkP at h
  rw [Bool.and_eq_true, Bool.and_eq_true, Bool.and_eq_true] at h
  obtain ⟨h1, h2, h3, _⟩ := h
  refine ⟨of_decide_eq_true h1, kids_in h2, fun k hk => ?_⟩
  unfold kidsIn at h3
  rw [List.all_eq_true] at h3
  exact of_decide_eq_true (h3 k hk)
/-- The counts in memory. -/
structure CAt (P : World) (S N : Nat) (l : List Int) (w : World) : Prop where
  row : w.ownsRow P.heap.size 3 1 (.slice (some ⟨S, 0, none⟩) N N) N (ilV l)
  below : Below P.heap.size P w
section
variable {P w w' : World} {S N : Nat} {l : List Int}
theorem CAt.slo (h : CAt P S N l w) : P.heap.size ≤ S ∧ S < w.heap.size := h.row.lt S rfl
theorem CAt.cells (h : CAt P S N l w) (hl : l.length = N) {i : Nat} (hi : i < N) : w.cell? ⟨S, i, none⟩ = some (.int .i64 (l.getD i 0)) ∧ w.frozen? ⟨S, i, none⟩ = false := by
  refine ⟨?_, h.row.frozenAt i⟩
  rw [h.row.cellAt i (by omega)]
  unfold ilV
  have hi' : i < l.length := by omega
  rw [List.getElem?_map, List.getElem?_eq_getElem hi']
  simp [List.getD, List.getElem?_eq_getElem hi']
theorem CAt.set (h : CAt P S N l w) (i : Nat) (v : Int) : CAt P S N (l.set i v) (w.setCell ⟨S, i, none⟩ (.int .i64 v)) := by
  refine ⟨?_, h.below.setCell (by show P.heap.size ≤ S; exact h.slo.1) _⟩
  have h1 := (h.row.stored i (.int .i64 v)).1
  have e : ilV (l.set i v) = (ilV l).set i (.int .i64 v) := by unfold ilV; rw [List.map_set]
  rw [e]
  exact h1
theorem CAt.alloc (h : CAt P S N l w) (o : Obj) : CAt P S N l (w.alloc o) := ⟨h.row.alloc _, h.below.alloc h.below.size _⟩
end
theorem cat_start (w : World) (N : Nat) (hN : N ≤ 3000) : CAt w w.heap.size N (List.replicate N 0) (w.alloc (.cells (madeCells #[.int .i64 0] N) 3)) := by
  refine ⟨⟨by simp [ilV], .inr ⟨w.heap.size, N, madeCells #[.int .i64 0] N, rfl, Nat.le_refl _, heap_alloc_new w _, Nat.le_refl _, by unfold maxLen; omega, by simp [size_madeCells], ?_⟩⟩, (Below.refl _ w).alloc (Nat.le_refl _) _⟩
  rw [made_ints]
  exact List.take_of_length_le (by simp [ilV])
end Go.Proofs.YtgaibajkegfpoaaDoor
/- In a right graph no root is a kid, and none stands twice: the kids alone tell what is shared. -/
namespace Go.Proofs.YtgaibajkegfpoaaDoor
open Go.ChangeShapes Go.WideShapes Go.ChangeAt Go.RowKit Go.Deep
def sn (st : Ws) (m : Nat) : Int := st.seen.getD m 0
/-- What a walk that goes well comes to. -/
structure Wk (g : Gr) (st st' : Ws) : Prop where
  bad : st.bad = false
  keep : ∀ m, sn st m ≠ 0 → sn st' m = sn st m
  new : ∀ m, sn st m = 0 → sn st' m = 0 ∨ sn st' m = 2
  kids : ∀ m, sn st m = 0 → sn st' m ≠ 0 → ∀ k ∈ kidsOf g m, (sn st k.toNat = 0 ∨ sn st k.toNat = 2) ∧ sn st' k.toNat ≠ 0
theorem fold_stays (g : Gr) (f : Nat) : ∀ (l : List Int) (t : Ws), t.bad = true → (l.foldl (fun t k => goW g f k.toNat t) t).bad = true
  | [], _, h => h
  | k :: l, t, h => fold_stays g f l _ (goW_stays g f k.toNat t h)
theorem not_bad {g : Gr} {f i : Nat} {st : Ws} (h : (goW g f i st).bad = false) : st.bad = false := by
  cases e : st.bad with
  | false => rfl
  | true => rw [goW_stays g f i st e] at h; cases h
theorem Wk.refl {g : Gr} {st : Ws} (h : st.bad = false) : Wk g st st := ⟨h, fun _ _ => rfl, fun _ h => .inl h, fun _ h h2 => absurd h h2⟩
theorem Wk.trans {g : Gr} {a b c : Ws} (h : Wk g a b) (k : Wk g b c) : Wk g a c := by
  refine ⟨h.bad, fun m hm => ?_, fun m hm => ?_, fun m hm hc x hx => ?_⟩
  · have h1 := h.keep m hm
    rw [k.keep m (by rw [h1]; exact hm), h1]
  · rcases h.new m hm with h1 | h1
    · exact k.new m h1
    · right
      rw [k.keep m (by rw [h1]; decide), h1]
  · rcases h.new m hm with h1 | h1
    · obtain ⟨k1, k2⟩ := k.kids m h1 hc x hx
      refine ⟨?_, k2⟩
      by_cases e : sn a x.toNat = 0
      · exact .inl e
      · have := h.keep _ e
        rw [this] at k1
        exact k1
    · obtain ⟨k1, k2⟩ := h.kids m hm (by rw [h1]; decide) x hx
      exact ⟨k1, by rw [k.keep _ k2]; exact k2⟩
theorem goW_wk {g : Gr} (hk : ∀ i, ∀ k ∈ kidsOf g i, 0 ≤ k ∧ k < (g.nodes.length : Int)) : ∀ (f i : Nat) (st : Ws), i < g.nodes.length → WInv g st → zeros st.seen < f → (goW g f i st).bad = false →
    Wk g st (goW g f i st) ∧ (sn st i = 0 ∨ sn st i = 2) ∧ sn (goW g f i st) i ≠ 0 ∧ (sn st i = 0 → ∀ m, sn st m = 0 → sn (goW g f i st) m ≠ 0 → ∀ k ∈ kidsOf g m, k.toNat ≠ i)
  | 0, _, _, _, _, hz, _ => absurd hz (Nat.not_lt_zero _)
  | f + 1, i, st, hi, hI, hz, hb => by
    by_cases h1 : st.bad = true ∨ st.seen.getD i 0 = 1 ∨ (st.seen.getD i 0 = 0 ∧ (i : Int) ≠ st.next) ∨ st.seen.getD i 0 = 3
    · rw [goW_bad h1] at hb
      cases hb
    by_cases h2 : st.seen.getD i 0 = 2
    · rw [goW_met h1 h2]
      exact ⟨.refl (by cases e : st.bad with | false => rfl | true => exact absurd (.inl e) h1), .inr h2, by show st.seen.getD i 0 ≠ 0; rw [h2]; decide, fun h => by have h3 : st.seen.getD i 0 = 0 := h; rw [h2] at h3; cases h3⟩
    obtain ⟨hb0, h0, _⟩ := met_new hI hi h1 h2
    obtain ⟨hI1, hz1⟩ := inv_enter hI h0
    have hl : i < st.seen.length := by rw [hI.len]; exact hi
    rw [goW_new h1 h2] at hb ⊢
    obtain ⟨st1, hst1⟩ : ∃ st1 : Ws, ({ st with seen := st.seen.set i 1, next := st.next + 1 } : Ws) = st1 := ⟨_, rfl⟩
    rw [hst1] at hb hI1 ⊢
    have hzf : zeros st1.seen < f := by rw [← hst1]; show zeros (st.seen.set i 1) < f; omega
    -- the kids in their order
    have fold : ∀ (l : List Int) (t : Ws), (∀ k ∈ l, 0 ≤ k ∧ k < (g.nodes.length : Int)) → WInv g t → zeros t.seen < f → (l.foldl (fun t k => goW g f k.toNat t) t).bad = false →
        Wk g t (l.foldl (fun t k => goW g f k.toNat t) t) ∧ ∀ k ∈ l, (sn t k.toNat = 0 ∨ sn t k.toNat = 2) ∧ sn (l.foldl (fun t k => goW g f k.toNat t) t) k.toNat ≠ 0 := by
      intro l
      induction l with
      | nil => exact fun t _ _ _ hb => ⟨.refl hb, fun k hk => (by cases hk)⟩
      | cons k l ih =>
        intro t hl ht hzt hbt
        rw [List.foldl_cons] at hbt ⊢
        have hk0 := hl k (List.mem_cons_self ..)
        have hbk : (goW g f k.toNat t).bad = false := by
          cases e : (goW g f k.toNat t).bad with
          | false => rfl
          | true => rw [fold_stays g f l _ e] at hbt; cases hbt
        obtain ⟨w1, w2, w3, _⟩ := goW_wk hk f k.toNat t (by omega) ht hzt hbk
        obtain ⟨v1, v2⟩ := ih _ (fun x hx => hl x (List.mem_cons_of_mem _ hx)) (goW_inv g hk f k.toNat t (by omega) ht) (Nat.lt_of_le_of_lt (goW_keep g f k.toNat t).2 hzt) hbt
        refine ⟨w1.trans v1, fun x hx => ?_⟩
        rcases List.mem_cons.1 hx with rfl | hx
        · exact ⟨w2, by rw [v1.keep _ w3]; exact w3⟩
        · obtain ⟨u1, u2⟩ := v2 x hx
          refine ⟨?_, u2⟩
          by_cases e : sn t x.toNat = 0
          · exact .inl e
          · rw [w1.keep _ e] at u1
            exact u1
    obtain ⟨w1, w2⟩ := fold (kidsOf g i) st1 (hk i) hI1 hzf hb
    obtain ⟨st2, hst2⟩ : ∃ st2, (kidsOf g i).foldl (fun t k => goW g f k.toNat t) st1 = st2 := ⟨_, rfl⟩
    rw [hst2] at w1 w2 ⊢
    have e0 : sn st i = 0 := by unfold sn; simp [List.getD, h0]
    have e1 : sn st1 i = 1 := by rw [← hst1]; show (st.seen.set i 1).getD i 0 = 1; exact getD_set_self _ _ _ _ hl
    have eo : ∀ m, m ≠ i → sn st1 m = sn st m := fun m hm => by rw [← hst1]; exact getD_set_other _ _ _ _ _ hm
    have hl2 : i < st2.seen.length := by
      have h3 := (fold_inv hk f (kidsOf g i) st1 (hk i) hI1).1
      rw [hst2] at h3
      rw [h3.len]
      exact hi
    have f1 : sn { st2 with seen := st2.seen.set i 2 } i = 2 := getD_set_self _ _ _ _ hl2
    have fo : ∀ m, m ≠ i → sn { st2 with seen := st2.seen.set i 2 } m = sn st2 m := fun m hm => getD_set_other _ _ _ _ _ hm
    have ne : ∀ x : Int, (sn st1 x.toNat = 0 ∨ sn st1 x.toNat = 2) → x.toNat ≠ i := fun x hx e => by
      rw [e, e1] at hx
      rcases hx with h | h <;> cases h
    have allk : ∀ m, sn st m = 0 → sn { st2 with seen := st2.seen.set i 2 } m ≠ 0 → ∀ k ∈ kidsOf g m, ((sn st1 k.toNat = 0 ∨ sn st1 k.toNat = 2) ∧ sn st2 k.toNat ≠ 0) := by
      intro m hm hm2 k hkm
      by_cases e : m = i
      · subst e
        exact w2 k hkm
      · rw [fo m e] at hm2
        exact w1.kids m (by rw [eo m e]; exact hm) hm2 k hkm
    refine ⟨⟨hb0, fun m hm => ?_, fun m hm => ?_, fun m hm hm2 k hkm => ?_⟩, .inl e0, by rw [f1]; decide, fun _ m hm hm2 k hkm => ne k (allk m hm hm2 k hkm).1⟩
    · have hmi : m ≠ i := fun e => hm (by rw [e]; exact e0)
      rw [fo m hmi, w1.keep m (by rw [eo m hmi]; exact hm), eo m hmi]
    · by_cases e : m = i
      · subst e
        exact .inr f1
      · rw [fo m e]
        exact w1.new m (by rw [eo m e]; exact hm)
    · obtain ⟨k1, k2⟩ := allk m hm hm2 k hkm
      have hki := ne k k1
      rw [eo _ hki] at k1
      exact ⟨k1, by rw [fo _ hki]; exact k2⟩
/-- Between two roots: what was met is three, and so are its kids; no root that was gone through is a kid. -/
structure Rk (g : Gr) (st : Ws) (R : List Nat) : Prop where
  bad : st.bad = false
  v03 : ∀ m, sn st m = 0 ∨ sn st m = 3
  kids : ∀ m, sn st m = 3 → ∀ k ∈ kidsOf g m, sn st k.toNat = 3 ∧ k.toNat ∉ R
  nd : R.Nodup
  met : ∀ r ∈ R, sn st r = 3
theorem endRoot_rk {g : Gr} (hk : ∀ i, ∀ k ∈ kidsOf g i, 0 ≤ k ∧ k < (g.nodes.length : Int)) {f r : Nat} {st : Ws} {R : List Nat} (hr : r < g.nodes.length) (hI : WInv g st) (hz : zeros st.seen < f) (h : Rk g st R) (hb : (endRoot g f st r).bad = false) : Rk g (endRoot g f st r) (R ++ [r]) := by
  have hb' : (goW g f r st).bad = false := hb
  obtain ⟨w1, w2, w3, w4⟩ := goW_wk hk f r st hr hI hz hb'
  have hlen : (goW g f r st).seen.length = g.nodes.length := (goW_inv g hk f r st hr hI).len
  have r0 : sn st r = 0 := by
    rcases w2 with h1 | h1
    · exact h1
    · rcases h.v03 r with h2 | h2 <;> rw [h2] at h1 <;> cases h1
  have es : ∀ m, sn (endRoot g f st r) m = if sn (goW g f r st) m = 2 then 3 else sn (goW g f r st) m := by
    intro m
    show (thrK g.nodes.length (goW g f r st).seen).getD m 0 = _
    rw [thrK_getD]
    by_cases e : sn (goW g f r st) m = 2
    · have hm : m < (goW g f r st).seen.length := by
        by_cases hm : m < (goW g f r st).seen.length
        · exact hm
        · have : sn (goW g f r st) m = 0 := by unfold sn; simp [List.getD, List.getElem?_eq_none (Nat.le_of_not_lt hm)]
          rw [this] at e
          cases e
      rw [if_pos e, if_pos ⟨by omega, e⟩, if_pos hm]
    · rw [if_neg e, if_neg (fun h => e h.2)]
      rfl
  have z3 : ∀ m, sn st m = 3 → sn (endRoot g f st r) m = 3 := fun m hm => by
    rw [es m, w1.keep m (by rw [hm]; decide), hm]
    rfl
  have r3 : sn (endRoot g f st r) r = 3 := by
    rcases w1.new r r0 with h1 | h1
    · exact absurd h1 w3
    · rw [es r, if_pos h1]
  have v : ∀ m, sn (endRoot g f st r) m = 0 ∨ sn (endRoot g f st r) m = 3 := fun m => by
    rcases h.v03 m with h1 | h1
    · rcases w1.new m h1 with h2 | h2
      · left
        rw [es m, h2]
        rfl
      · right
        rw [es m, if_pos h2]
    · exact .inr (z3 m h1)
  refine ⟨hb, v, fun m hm k hkm => ?_, ?_, fun x hx => ?_⟩
  · rcases h.v03 m with h1 | h1
    · have hne : sn (goW g f r st) m ≠ 0 := fun e => by
        rw [es m, e] at hm
        cases hm
      obtain ⟨k1, k2⟩ := w1.kids m h1 hne k hkm
      have k0 : sn st k.toNat = 0 := by
        rcases k1 with k1 | k1
        · exact k1
        · rcases h.v03 k.toNat with h2 | h2 <;> rw [h2] at k1 <;> cases k1
      refine ⟨?_, fun hm2 => ?_⟩
      · rcases v k.toNat with h3 | h3
        · rw [es] at h3
          split at h3
          · cases h3
          · exact absurd h3 k2
        · exact h3
      · rcases List.mem_append.1 hm2 with hm2 | hm2
        · have := h.met _ hm2
          rw [k0] at this
          cases this
        · exact w4 r0 m h1 hne k hkm (List.mem_singleton.1 hm2)
    · obtain ⟨k1, k2⟩ := h.kids m h1 k hkm
      refine ⟨z3 _ k1, fun hm2 => ?_⟩
      rcases List.mem_append.1 hm2 with hm2 | hm2
      · exact k2 hm2
      · rw [List.mem_singleton.1 hm2, r0] at k1
        cases k1
  · rw [List.nodup_append]
    refine ⟨h.nd, by simp, fun a ha b hb2 e => ?_⟩
    obtain rfl := List.mem_singleton.1 hb2
    subst e
    have := h.met _ ha
    rw [r0] at this
    cases this
  · rcases List.mem_append.1 hx with hx | hx
    · exact z3 x (h.met x hx)
    · rw [List.mem_singleton.1 hx]
      exact r3
theorem roots_rk {g : Gr} (hk : ∀ i, ∀ k ∈ kidsOf g i, 0 ≤ k ∧ k < (g.nodes.length : Int)) {f : Nat} : ∀ (l : List Int) (st : Ws) (R : List Nat), (∀ r ∈ l, 0 ≤ r ∧ r < (g.nodes.length : Int)) → WInv g st → zeros st.seen < f → Rk g st R → (l.foldl (fun t r => endRoot g f t r.toNat) st).bad = false →
    Rk g (l.foldl (fun t r => endRoot g f t r.toNat) st) (R ++ l.map Int.toNat)
  | [], st, R, _, _, _, h, _ => by rw [List.map_nil, List.append_nil]; exact h
  | r :: l, st, R, hl, hI, hz, h, hb => by
    have h0 := hl r (List.mem_cons_self ..)
    have hb1 : (endRoot g f st r.toNat).bad = false := by
      cases e : (endRoot g f st r.toNat).bad with
      | false => rfl
      | true =>
        rw [List.foldl_cons, roots_bad g f l _ e] at hb
        cases hb
    have hz2 : zeros (endRoot g f st r.toNat).seen ≤ zeros st.seen := by
      refine Nat.le_trans ?_ (goW_keep g f r.toNat st).2
      show zeros (thrK _ _) ≤ _
      have thr : ∀ (k : Nat) (l : List Int), zeros (thrK k l) ≤ zeros l := fun k l => by
        induction k with
        | zero => exact Nat.le_refl _
        | succ k ih =>
          rw [thrK]
          split
          · exact Nat.le_trans (zeros_set (by decide)) ih
          · exact ih
      exact thr _ _
    have h1 := endRoot_rk hk (by omega) hI hz h hb1
    have h2 := roots_rk hk l _ _ (fun x hx => hl x (List.mem_cons_of_mem _ hx)) (endRoot_inv hk (by omega) hI) (Nat.lt_of_le_of_lt hz2 hz) h1 hb
    rw [List.foldl_cons, List.map_cons]
    have e : R ++ (r.toNat :: l.map Int.toNat) = R ++ [r.toNat] ++ l.map Int.toNat := by simp
    rw [e]
    exact h2
/-- In a right graph. -/
theorem right_roots {g : Gr} (h : graphOkP g = true) : (g.roots.map Int.toNat).Nodup ∧ ∀ m, m < g.nodes.length → ∀ k ∈ kidsOf g m, k.toNat ∉ g.roots.map Int.toNat := by
  obtain ⟨h1, h2, h3⟩ := ok_parts h
  have hp : partsP g = true := by
    cases e : partsP g with
    | true => rfl
    | false => rw [graphOk_parts e] at h; cases h
  have hpp := hp
  unfold partsP at hpp
  rw [Bool.and_eq_true, Bool.and_eq_true] at hpp
  have hs := graphOk_survey hp
  have hr := roots_svR h2 (g.nodes.length + 1) g.roots _ _ h3 (start_svB g)
  obtain ⟨st, hst⟩ : ∃ st, g.roots.foldl (fun t r => endRoot g (g.nodes.length + 1) t r.toNat) ⟨List.replicate g.nodes.length 0, 0, false⟩ = st := ⟨_, rfl⟩
  have he := ok_end h1 hpp.2.2 hpp.2.1 hst
  rw [h] at he
  have hst' := hst
  rw [hst] at hr
  have hbad : st.bad = false := by
    cases e : st.bad with
    | false => rfl
    | true => rw [e] at he; cases he
  have hnx : st.next = (g.nodes.length : Int) := by
    rw [hbad] at he
    have : decide (st.next = (g.nodes.length : Int)) = true := he.symm
    exact of_decide_eq_true this
  have z0 : ∀ m, sn ⟨List.replicate g.nodes.length 0, 0, false⟩ m = 0 := fun m => by
    show (List.replicate g.nodes.length (0 : Int)).getD m 0 = 0
    by_cases hm : m < g.nodes.length
    · simp [List.getD, hm]
    · simp [List.getD, List.getElem?_eq_none (show (List.replicate g.nodes.length (0 : Int)).length ≤ m by simp; omega)]
  have hzz : zeros (List.replicate g.nodes.length (0 : Int)) < g.nodes.length + 1 := by
    have := zeros_len (List.replicate g.nodes.length (0 : Int))
    simp only [List.length_replicate] at this
    omega
  have hstart : Rk g ⟨List.replicate g.nodes.length 0, 0, false⟩ [] := ⟨rfl, fun m => .inl (z0 m), fun m hm => by rw [z0 m] at hm; exact absurd hm (by decide), List.nodup_nil, fun r hr => absurd hr (by simp)⟩
  have hR := roots_rk h2 (f := g.nodes.length + 1) g.roots ⟨List.replicate g.nodes.length 0, 0, false⟩ [] h3 (start_inv h1) hzz hstart (by rw [hst]; exact hbad)
  rw [hst, List.nil_append] at hR
  rcases hr with hB | ⟨hB, _⟩
  · refine ⟨hR.nd, fun m hm k hkm => (hR.kids m ?_ k hkm).2⟩
    have hl := hB.r.next
    rw [hnx] at hl
    have := hB.r.seen m hm
    rw [if_neg (by omega), if_pos (by omega)] at this
    exact this
  · rw [hbad] at hB
    cases hB
end Go.Proofs.YtgaibajkegfpoaaDoor
/- What is shared in a right graph: the kids alone tell it. -/
namespace Go.Proofs.YtgaibajkegfpoaaDoor
open Go.ChangeShapes Go.WideShapes Go.ChangeAt Go.RowKit Go.Deep
def hits (i : Nat) (ks : List Int) : Nat := ks.countP (fun k => k.toNat == i)
def hitsN (i : Nat) : List Nd → Nat
  | [] => 0
  | n :: t => hits i n.kids + hitsN i t
theorem incAt_getD (l : List Int) (k i : Nat) (hk : k < l.length) : (incAt l k).getD i 0 = l.getD i 0 + (if k = i then 1 else 0) := by
  unfold incAt
  by_cases e : k = i
  · subst e
    rw [getD_set_self _ _ _ _ hk, if_pos rfl]
  · rw [getD_set_other _ _ _ _ _ (Ne.symm e), if_neg e]
    omega
theorem incAt_len (l : List Int) (k : Nat) : (incAt l k).length = l.length := by unfold incAt; exact List.length_set
theorem cntI_len : ∀ (ks l : List Int), (cntI l ks).length = l.length
  | [], _ => rfl
  | k :: ks, l => by
    show (cntI (incAt l k.toNat) ks).length = _
    rw [cntI_len ks, incAt_len]
theorem cntI_getD : ∀ (ks l : List Int) (i : Nat), (∀ k ∈ ks, k.toNat < l.length) → (cntI l ks).getD i 0 = l.getD i 0 + (hits i ks : Int)
  | [], l, i, _ => by show l.getD i 0 = l.getD i 0 + 0; omega
  | k :: ks, l, i, h => by
    show (cntI (incAt l k.toNat) ks).getD i 0 = _
    rw [cntI_getD ks _ i (fun x hx => by rw [incAt_len]; exact h x (List.mem_cons_of_mem _ hx)), incAt_getD _ _ _ (h k (List.mem_cons_self ..))]
    unfold hits
    rw [List.countP_cons]
    by_cases e : k.toNat = i
    · simp [e]
      omega
    · simp [e]
theorem cntN_len : ∀ (ns : List Nd) (l : List Int), (cntN l ns).length = l.length
  | [], _ => rfl
  | n :: ns, l => by
    show (cntN (cntI l n.kids) ns).length = _
    rw [cntN_len ns, cntI_len]
theorem cntN_getD : ∀ (ns : List Nd) (l : List Int) (i : Nat), (∀ n ∈ ns, ∀ k ∈ n.kids, k.toNat < l.length) → (cntN l ns).getD i 0 = l.getD i 0 + (hitsN i ns : Int)
  | [], l, i, _ => by show l.getD i 0 = l.getD i 0 + 0; omega
  | n :: ns, l, i, h => by
    show (cntN (cntI l n.kids) ns).getD i 0 = _
    rw [cntN_getD ns _ i (fun m hm k hk => by rw [cntI_len]; exact h m (List.mem_cons_of_mem _ hm) k hk), cntI_getD _ _ _ (h n (List.mem_cons_self ..))]
    show _ = _ + ((hits i n.kids + hitsN i ns : Nat) : Int)
    omega
theorem sharedTo_ext {l m : List Int} : ∀ (N : Nat), (∀ k, k < N → (1 < l.getD k 0 ↔ 1 < m.getD k 0)) → sharedTo l N = sharedTo m N
  | 0, _ => rfl
  | N + 1, h => by
    have ih := sharedTo_ext N (fun k hk => h k (by omega))
    have h1 := h N (Nat.lt_succ_self _)
    rw [sharedTo, sharedTo, ih]
    by_cases e : 1 < l.getD N 0
    · rw [if_pos e, if_pos (h1.1 e)]
    · rw [if_neg e, if_neg (fun e2 => e (h1.2 e2))]
theorem hits_nodup {i : Nat} : ∀ {ks : List Int}, (ks.map Int.toNat).Nodup → hits i ks ≤ 1
  | [], _ => Nat.zero_le _
  | k :: ks, h => by
    rw [List.map_cons, List.nodup_cons] at h
    have ih := hits_nodup (i := i) h.2
    unfold hits at ih ⊢
    rw [List.countP_cons]
    by_cases e : k.toNat = i
    · have h0 : ks.countP (fun k => k.toNat == i) = 0 := by
        rw [List.countP_eq_zero]
        intro x hx hxe
        apply h.1
        have hxi : x.toNat = i := by simpa using hxe
        rw [e, ← hxi]
        exact List.mem_map.2 ⟨x, hx, rfl⟩
      rw [h0]
      simp [e]
    · simp [e]
      exact ih
theorem hits_zero {i : Nat} {ks : List Int} (h : ∀ k ∈ ks, k.toNat ≠ i) : hits i ks = 0 := by
  unfold hits
  rw [List.countP_eq_zero]
  intro x hx hxe
  exact h x hx (by simpa using hxe)
theorem hitsN_zero {i : Nat} : ∀ {ns : List Nd}, (∀ n ∈ ns, ∀ k ∈ n.kids, k.toNat ≠ i) → hitsN i ns = 0
  | [], _ => rfl
  | n :: ns, h => by
    show hits i n.kids + hitsN i ns = 0
    rw [hits_zero (h n (List.mem_cons_self ..)), hitsN_zero (fun m hm => h m (List.mem_cons_of_mem _ hm))]
theorem shared_kids {g : Gr} (h : graphOkP g = true) : sharedG g = sharedTo (cntN (List.replicate g.nodes.length 0) g.nodes) g.nodes.length := by
  unfold sharedG
  rw [if_pos h]
  obtain ⟨_, hk, hr⟩ := ok_parts h
  obtain ⟨r1, r2⟩ := right_roots h
  have hkn : ∀ n ∈ g.nodes, ∀ k ∈ n.kids, 0 ≤ k ∧ k < (g.nodes.length : Int) := fun n hn k hkk => by
    obtain ⟨j, hj⟩ := List.mem_iff_getElem?.1 hn
    have := hk j
    rw [kids_at hj] at this
    exact this k hkk
  refine sharedTo_ext _ fun i hi => ?_
  rw [cntN_getD _ _ _ (fun n hn k hkk => by rw [cntI_len, List.length_replicate]; have := hkn n hn k hkk; omega), cntN_getD _ _ _ (fun n hn k hkk => by rw [List.length_replicate]; have := hkn n hn k hkk; omega),
    cntI_getD _ _ _ (fun k hkk => by rw [List.length_replicate]; have := hr k hkk; omega)]
  have z : (List.replicate g.nodes.length (0 : Int)).getD i 0 = 0 := by simp [List.getD, hi]
  rw [z]
  by_cases e : i ∈ g.roots.map Int.toNat
  · have h1 := hits_nodup (i := i) r1
    have h2 : hitsN i g.nodes = 0 := hitsN_zero fun n hn k hkk ek => by
      obtain ⟨j, hj⟩ := List.mem_iff_getElem?.1 hn
      have := r2 j (List.getElem?_eq_some_iff.1 hj).1 k (by rw [kids_at hj]; exact hkk)
      rw [ek] at this
      exact this e
    rw [h2]
    omega
  · have h1 : hits i g.roots = 0 := hits_zero fun k hkk ek => e (List.mem_map.2 ⟨k, hkk, ek⟩)
    rw [h1]
    omega
end Go.Proofs.YtgaibajkegfpoaaDoor
