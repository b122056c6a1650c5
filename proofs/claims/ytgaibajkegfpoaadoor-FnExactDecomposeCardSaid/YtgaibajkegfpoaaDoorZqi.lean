/- Several texts in one: Gvq Gvk. -/
import Derived.Test.YtgaibajkegfpoaaDoorGvp
import Derived.Test.YtgaibajkegfpoaaDoorZqh
/- The program's survey, plain: what holds on the way. -/
namespace Go.Proofs.YtgaibajkegfpoaaDoor
open Go.RowKit
/-- How many nodes weren't met. -/
def unmet (N : Nat) (l : List Nat) : Nat := (List.range N).countP (fun i => decide (i ∉ l))
theorem unmet_start (N : Nat) : unmet N [] = N := by
  unfold unmet
  rw [List.countP_eq_length.2 (fun a _ => by simp), List.length_range]
theorem countP_le {p q : Nat → Bool} : ∀ (l : List Nat), (∀ x ∈ l, p x = true → q x = true) → l.countP p ≤ l.countP q
  | [], _ => Nat.le_refl _
  | x :: t, h => by
    have ih := countP_le t (fun y hy => h y (List.mem_cons_of_mem _ hy))
    have hx := h x (List.mem_cons_self ..)
    rw [List.countP_cons, List.countP_cons]
    cases hp : p x with
    | false => simp; omega
    | true =>
      rw [hx hp]
      simp
      omega
theorem countP_lt {p q : Nat → Bool} {i : Nat} : ∀ (l : List Nat), (∀ x ∈ l, p x = true → q x = true) → i ∈ l → p i = false → q i = true → l.countP p + 1 ≤ l.countP q
  | [], _, hi, _, _ => by cases hi
  | x :: t, h, hi, hp, hq => by
    rw [List.countP_cons, List.countP_cons]
    by_cases e : x = i
    · subst e
      have := countP_le t (fun y hy => h y (List.mem_cons_of_mem _ hy))
      rw [hp, hq]
      simp
      omega
    · have hit : i ∈ t := by
        rcases List.mem_cons.1 hi with rfl | hi
        · exact absurd rfl e
        · exact hi
      have ih := countP_lt t (fun y hy => h y (List.mem_cons_of_mem _ hy)) hit hp hq
      have hx := h x (List.mem_cons_self ..)
      cases hpx : p x with
      | false => simp; omega
      | true =>
        rw [hx hpx]
        simp
        omega
theorem unmet_pre {N : Nat} {l m : List Nat} (h : l <+: m) : unmet N m ≤ unmet N l := by
  unfold unmet
  refine countP_le _ fun x _ hx => ?_
  have h1 : x ∉ m := of_decide_eq_true hx
  exact decide_eq_true (fun h2 => h1 (h.subset h2))
theorem unmet_new {N i : Nat} {l : List Nat} (hi : i < N) (h : i ∉ l) : unmet N (l ++ [i]) + 1 ≤ unmet N l := by
  unfold unmet
  refine countP_lt (i := i) _ (fun x _ hx => ?_) (List.mem_range.2 hi) (decide_eq_false (fun h2 => h2 (by simp))) (decide_eq_true h)
  have h1 : x ∉ l ++ [i] := of_decide_eq_true hx
  exact decide_eq_true (fun h2 => h1 (List.mem_append_left _ h2))
structure SvI (g : Gr) (s : Sv) : Prop where
  rng : ∀ i ∈ s.met, i < g.nodes.length
  len : s.over.length = s.met.length
  room : s.met.length + unmet g.nodes.length s.met ≤ g.nodes.length
def svF (g : Gr) (first f : Nat) (t : Sv) (k : Int) : Sv := if t.ok = true then svK g first f k.toNat t else t
theorem svK_new {g : Gr} {first f i : Nat} {s : Sv} (h : i ∉ s.met) : svK g first (f + 1) i s =
    if ((kidsOf g i).foldl (svF g first f) ⟨s.met ++ [i], s.over ++ [false], true⟩).ok = true then { (kidsOf g i).foldl (svF g first f) ⟨s.met ++ [i], s.over ++ [false], true⟩ with over := ((kidsOf g i).foldl (svF g first f) ⟨s.met ++ [i], s.over ++ [false], true⟩).over.set s.met.length true }
    else (kidsOf g i).foldl (svF g first f) ⟨s.met ++ [i], s.over ++ [false], true⟩ := by
  rw [svK, if_neg h]
  rfl
theorem svK_old {g : Gr} {first f i : Nat} {s : Sv} (h : i ∈ s.met) : svK g first (f + 1) i s = { s with ok := decide (first ≤ ix i s.met) && s.over.getD (ix i s.met) false } := by rw [svK, if_pos h]
theorem SvI.enter {g : Gr} {s : Sv} {i : Nat} (h : SvI g s) (hi : i < g.nodes.length) (hm : i ∉ s.met) : SvI g ⟨s.met ++ [i], s.over ++ [false], true⟩ := by
  refine ⟨fun x hx => ?_, ?_, ?_⟩
  · rcases List.mem_append.1 hx with hx | hx
    · exact h.rng x hx
    · obtain rfl := List.mem_singleton.1 hx
      exact hi
  · show (s.over ++ [false]).length = (s.met ++ [i]).length
    simp [h.len]
  · show (s.met ++ [i]).length + unmet _ (s.met ++ [i]) ≤ _
    have := unmet_new hi hm
    have := h.room
    rw [List.length_append, List.length_singleton]
    omega
theorem svK_inv {g : Gr} (hk : ∀ i, ∀ k ∈ kidsOf g i, 0 ≤ k ∧ k < (g.nodes.length : Int)) (first : Nat) : ∀ (f i : Nat) (s : Sv), i < g.nodes.length → SvI g s → SvI g (svK g first f i s)
  | 0, _, _, _, h => h
  | f + 1, i, s, hi, h => by
    by_cases hm : i ∈ s.met
    · rw [svK_old hm]
      exact ⟨h.rng, h.len, h.room⟩
    · rw [svK_new hm]
      have fold : ∀ (l : List Int) (t : Sv), (∀ k ∈ l, 0 ≤ k ∧ k < (g.nodes.length : Int)) → SvI g t → SvI g (l.foldl (svF g first f) t) := by
        intro l
        induction l with
        | nil => exact fun t _ ht => ht
        | cons k l ih =>
          intro t hl ht
          have hk0 := hl k (List.mem_cons_self ..)
          refine ih _ (fun x hx => hl x (List.mem_cons_of_mem _ hx)) ?_
          unfold svF
          split
          · exact svK_inv hk first f k.toNat t (by omega) ht
          · exact ht
      have h2 := fold (kidsOf g i) _ (hk i) (h.enter hi hm)
      split
      · exact ⟨h2.rng, by rw [List.length_set]; exact h2.len, h2.room⟩
      · exact h2
theorem svF_fold {g : Gr} (hk : ∀ i, ∀ k ∈ kidsOf g i, 0 ≤ k ∧ k < (g.nodes.length : Int)) (first f : Nat) : ∀ (l : List Int) (t : Sv), (∀ k ∈ l, 0 ≤ k ∧ k < (g.nodes.length : Int)) → SvI g t → SvI g (l.foldl (svF g first f) t) ∧ t.met <+: (l.foldl (svF g first f) t).met
  | [], t, _, h => ⟨h, List.prefix_refl _⟩
  | k :: l, t, hl, h => by
    have hk0 := hl k (List.mem_cons_self ..)
    have h1 : SvI g (svF g first f t k) ∧ t.met <+: (svF g first f t k).met := by
      unfold svF
      split
      · exact ⟨svK_inv hk first f k.toNat t (by omega) h, svK_pre ..⟩
      · exact ⟨h, List.prefix_refl _⟩
    have h2 := svF_fold hk first f l _ (fun x hx => hl x (List.mem_cons_of_mem _ hx)) h1.1
    exact ⟨h2.1, h1.2.trans h2.2⟩
theorem svF_stop (g : Gr) (first f : Nat) : ∀ (l : List Int) (t : Sv), t.ok = false → l.foldl (svF g first f) t = t
  | [], _, _ => rfl
  | k :: l, t, h => by
    rw [List.foldl_cons, show svF g first f t k = t by unfold svF; rw [if_neg (by rw [h]; decide)]]
    exact svF_stop g first f l t h
theorem svF_take {g : Gr} {first f : Nat} {l : List Int} {k : Nat} {x : Int} (h : l[k]? = some x) (s : Sv) : (l.take (k + 1)).foldl (svF g first f) s = svF g first f ((l.take k).foldl (svF g first f) s) x := by
  rw [List.take_add_one, h, List.foldl_append]
  rfl
/-- Where one kid fails, all of them do. -/
theorem svF_fail {g : Gr} {first f : Nat} {l : List Int} {k : Nat} {s t : Sv} (h : (l.take k).foldl (svF g first f) s = t) (ht : t.ok = false) : l.foldl (svF g first f) s = t := by
  rw [← List.take_append_drop k l, List.foldl_append, h]
  exact svF_stop g first f _ t ht
theorem svR_inv {g : Gr} (hk : ∀ i, ∀ k ∈ kidsOf g i, 0 ≤ k ∧ k < (g.nodes.length : Int)) (f : Nat) : ∀ (l : List Int) (t : Sv), (∀ k ∈ l, 0 ≤ k ∧ k < (g.nodes.length : Int)) → SvI g t → SvI g (l.foldl (svR g f) t)
  | [], _, _, h => h
  | k :: l, t, hl, h => by
    have hk0 := hl k (List.mem_cons_self ..)
    refine svR_inv hk f l _ (fun x hx => hl x (List.mem_cons_of_mem _ hx)) ?_
    unfold svR
    split
    · exact svK_inv hk _ f k.toNat t (by omega) h
    · exact h
theorem svR_take {g : Gr} {f : Nat} {l : List Int} {k : Nat} {x : Int} (h : l[k]? = some x) (s : Sv) : (l.take (k + 1)).foldl (svR g f) s = svR g f ((l.take k).foldl (svR g f) s) x := by
  rw [List.take_add_one, h, List.foldl_append]
  rfl
theorem svR_fail {g : Gr} {f : Nat} {l : List Int} {k : Nat} {s t : Sv} (h : (l.take k).foldl (svR g f) s = t) (ht : t.ok = false) : l.foldl (svR g f) s = t := by
  rw [← List.take_append_drop k l, List.foldl_append, h]
  exact svR_stop g f _ t ht
theorem start_svI (g : Gr) : SvI g ⟨[], [], true⟩ := ⟨fun i h => (by cases h), rfl, by show 0 + unmet _ [] ≤ _; rw [unmet_start]; omega⟩
end Go.Proofs.YtgaibajkegfpoaaDoor
/- The program's survey, in memory: a knot is gone through. -/
namespace Go.Proofs.YtgaibajkegfpoaaDoor
open Go.ChangeShapes Go.WideShapes Go.ChangeAt Go.RowKit Go.Deep
theorem infoBo : (Tryd.prog.info? 4).map (fun i => (i.zero, i.size, i.bytes)) = some (some (.bool false), 1, 1) := by kernel_rfl
def blV (l : List Bool) : List Value := l.map Value.bool
theorem blV_len (l : List Bool) : (blV l).length = l.length := by unfold blV; simp
theorem blV_snoc (l : List Bool) (b : Bool) : blV (l ++ [b]) = blV l ++ [.bool b] := by unfold blV; simp
theorem blV_set (l : List Bool) (i : Nat) (b : Bool) : blV (l.set i b) = (blV l).set i (.bool b) := by unfold blV; rw [List.map_set]
def bks (Ps : List Nat) (met : List Nat) : List Nat := met.map (fun i : Nat => blk Ps (i : Int))
theorem bks_snoc (Ps met : List Nat) (i : Nat) : bks Ps (met ++ [i]) = bks Ps met ++ [blk Ps (i : Int)] := by unfold bks; simp
theorem bks_len (Ps met : List Nat) : (bks Ps met).length = met.length := by unfold bks; simp
theorem bks_mem {Ps met : List Nat} {i : Nat} (hnd : Ps.Nodup) (hr : ∀ j ∈ met, j < Ps.length) (hi : i < Ps.length) : blk Ps (i : Int) ∈ bks Ps met ↔ i ∈ met := by
  unfold bks
  rw [List.mem_map]
  constructor
  · rintro ⟨j, hj, e⟩
    rw [← blk_inj hnd (hr j hj) hi e]
    exact hj
  · exact fun h => ⟨i, h, rfl⟩
theorem bks_ix {Ps : List Nat} {i : Nat} (hnd : Ps.Nodup) (hi : i < Ps.length) : ∀ {met : List Nat}, (∀ j ∈ met, j < Ps.length) → ix (blk Ps (i : Int)) (bks Ps met) = ix i met
  | [], _ => rfl
  | x :: t, hr => by
    have ih := bks_ix hnd hi (met := t) (fun j hj => hr j (List.mem_cons_of_mem _ hj))
    show ix (blk Ps (i : Int)) (blk Ps (x : Int) :: bks Ps t) = ix i (x :: t)
    unfold ix
    by_cases e : x = i
    · subst e
      rw [if_pos rfl, if_pos rfl]
    · rw [if_neg e, if_neg (fun h => e (blk_inj hnd (hr x (List.mem_cons_self ..)) hi h)), ih]
/-- The survey at block B. -/
structure SvAt (P0 : World) (B : Nat) (Ps : List Nat) (first : Nat) (s : Sv) (w : World) : Prop where
  tr : ∃ (oa : Option Addr) (oc : Nat), TrAt B 75 [.int .i64 (first : Int), .slice oa s.over.length oc] P0.heap.size (bks Ps s.met) w ∧ w.ownsRow P0.heap.size 4 1 (.slice oa s.over.length oc) s.over.length (blV s.over)
  lo : P0.heap.size ≤ B
  below : Below P0.heap.size P0 w
section
variable {P0 w w' : World} {B first : Nat} {Ps : List Nat} {s : Sv} {x0 x1 x2 x3 : Value} {t : TypeId}
theorem sv_2 (h : w.heap[B]? = some (.cells [x0, x1, x2, x3].toArray t (0, 0))) : w.cell? ⟨B, 2, none⟩ = some x2 := by simp [World.cell?, h]
theorem sv_3 (h : w.heap[B]? = some (.cells [x0, x1, x2, x3].toArray t (0, 0))) : w.cell? ⟨B, 3, none⟩ = some x3 := by simp [World.cell?, h]
theorem sv_f (h : w.heap[B]? = some (.cells [x0, x1, x2, x3].toArray t (0, 0))) (i : Nat) : w.frozen? ⟨B, i, none⟩ = false := by simp [World.frozen?, h]
theorem sv_set2 (h : w.heap[B]? = some (.cells [x0, x1, x2, x3].toArray t (0, 0))) (a : Value) : (w.setCell ⟨B, 2, none⟩ a).heap[B]? = some (.cells [x0, x1, a, x3].toArray t (0, 0)) := by
  simp [World.setCell, Array.getElem?_modify, h]
theorem sv_set3 (h : w.heap[B]? = some (.cells [x0, x1, x2, x3].toArray t (0, 0))) (a : Value) : (w.setCell ⟨B, 3, none⟩ a).heap[B]? = some (.cells [x0, x1, x2, a].toArray t (0, 0)) := by
  simp [World.setCell, Array.getElem?_modify, h]
theorem SvAt.cells (h : SvAt P0 B Ps first s w) : ∃ (oa : Option Addr) (oc : Nat), w.cell? ⟨B, 2, none⟩ = some (.int .i64 (first : Int)) ∧ w.cell? ⟨B, 3, none⟩ = some (.slice oa s.over.length oc) ∧ w.frozen? ⟨B, 2, none⟩ = false ∧ w.frozen? ⟨B, 3, none⟩ = false ∧ w.ownsRow P0.heap.size 4 1 (.slice oa s.over.length oc) s.over.length (blV s.over) := by
  obtain ⟨oa, oc, h1, h2⟩ := h.tr
  obtain ⟨_, _, _, _, h3, _⟩ := h1.ex
  exact ⟨oa, oc, sv_2 h3, sv_3 h3, sv_f h3 2, sv_f h3 3, h2⟩
theorem SvAt.stays (h : SvAt P0 B Ps first s w) (hb : Below w.heap.size w w') : SvAt P0 B Ps first s w' := by
  obtain ⟨oa, oc, h1, h2⟩ := h.tr
  exact ⟨⟨oa, oc, h1.stays hb, g_row_below h2 hb⟩, h.lo, h.below.trans (hb.mono h.below.size)⟩
theorem SvAt.ok (h : SvAt P0 B Ps first s w) {s' : Sv} (h1 : s'.met = s.met) (h2 : s'.over = s.over) : SvAt P0 B Ps first s' w := by
  obtain ⟨m, o, k⟩ := s
  obtain ⟨m', o', k'⟩ := s'
  simp only at h1 h2
  subst h1
  subst h2
  exact ⟨h.tr, h.lo, h.below⟩
/-- Cell 2 or 3 of the survey's own block is stored. -/
theorem tr_cell {rest rest' : List Value} {mb : List Nat} {lo j : Nat} {u : Value} (h : TrAt B t rest lo mb w) (ht : t ≠ 78) (hs : ∀ x0 x1, w.heap[B]? = some (.cells (x0 :: x1 :: rest).toArray t (0, 0)) → (w.setCell ⟨B, j, none⟩ u).heap[B]? = some (.cells (x0 :: x1 :: rest').toArray t (0, 0))) : TrAt B t rest' lo mb (w.setCell ⟨B, j, none⟩ u) := by
  obtain ⟨nv, ma, mn, mc, h1, h2, h3⟩ := h.ex
  refine ⟨nv, ma, mn, mc, hs _ _ h1, row_set h2 (row_apart h2 h1 ht) _ _, ?_⟩
  rcases h3 with h3 | ⟨M, e, hl, hm⟩
  · exact .inl h3
  · refine .inr ⟨M, e, hl, hm.same (heap_setCell_other _ _ _ _ ?_)⟩
    rintro rfl
    obtain ⟨es, clock, he⟩ := hm.isMap
    rw [he] at h1
    cases h1
theorem SvAt.first_ (h : SvAt P0 B Ps first s w) (f2 : Nat) : SvAt P0 B Ps f2 s (w.setCell ⟨B, 2, none⟩ (.int .i64 (f2 : Int))) := by
  obtain ⟨oa, oc, h1, h2⟩ := h.tr
  obtain ⟨_, _, _, _, h3, _⟩ := h1.ex
  exact ⟨⟨oa, oc, tr_cell h1 (by decide) (fun _ _ hh => sv_set2 hh _), row_set h2 (row_apart h2 h3 (by decide)) _ _⟩, h.lo, h.below.setCell h.lo _⟩
/-- A knot that is met is not over yet: its mark is put behind the others. -/
theorem SvAt.mark (h1 : TrAt B 75 [.int .i64 (first : Int), x3] P0.heap.size (bks Ps s.met) w) (hlo : P0.heap.size ≤ B) (hbl : Below P0.heap.size P0 w) {w5 : World} {a5 : Option Addr} {c5 : Nat} (hr : w.ownsRow P0.heap.size 4 1 x3 s.over.length (blV s.over))
    (hown : w5.ownsRow P0.heap.size 4 1 (.slice a5 (s.over.length + 1) c5) (s.over.length + 1) (blV s.over ++ [.bool false])) (hbel : Below P0.heap.size w w5) (hot : ∀ b, b < w.heap.size → x3.ownBlock ≠ some b → w5.heap[b]? = w.heap[b]?) {ok : Bool} :
    SvAt P0 B Ps first ⟨s.met, s.over ++ [false], ok⟩ (w5.setCell ⟨B, 3, none⟩ (.slice a5 (s.over.length + 1) c5)) := by
  obtain ⟨nv, ma, mn, mc, k1, k2, k3⟩ := h1.ex
  have hB := h1.lt
  have k1' : w5.heap[B]? = some (.cells (nv :: .slice ma mn mc :: [.int .i64 (first : Int), x3]).toArray 75 (0, 0)) := (hot B hB (row_apart hr k1 (by decide))).trans k1
  have k2' : w5.ownsRow P0.heap.size 78 1 (.slice ma mn mc) (bks Ps s.met).length (plV (bks Ps s.met)) := g_row_block k2 (fun x hx => hot x (k2.lt x hx).2 (by
    rcases k2.2 with ⟨e1, _⟩ | ⟨g, cap, cur, e1, _, hg, _⟩
    · rw [e1] at hx; simp [Value.ownBlock] at hx
    · rw [e1] at hx
      have e2 : g = x := by simpa [Value.ownBlock] using hx
      subst e2
      exact row_apart hr hg (by decide)))
  have hT : TrAt B 75 [.int .i64 (first : Int), x3] P0.heap.size (bks Ps s.met) w5 := by
    refine ⟨nv, ma, mn, mc, k1', k2', ?_⟩
    rcases k3 with k3 | ⟨M, e, hl, hm⟩
    · exact .inl k3
    · refine .inr ⟨M, e, hl, hm.same (hot M hm.lt (fun hx => ?_))⟩
      obtain ⟨es, clock, he⟩ := hm.isMap
      rcases hr.2 with ⟨e1, _⟩ | ⟨g, cap, cur, e1, _, hg, _⟩
      · rw [e1] at hx; simp [Value.ownBlock] at hx
      · rw [e1] at hx
        have e2 : g = M := by simpa [Value.ownBlock] using hx
        subst e2
        rw [he] at hg
        cases hg
  have hl : (s.over ++ [false]).length = s.over.length + 1 := by simp
  refine ⟨⟨a5, c5, ?_, ?_⟩, hlo, (hbl.trans hbel).setCell hlo _⟩
  · show TrAt B 75 [.int .i64 (first : Int), .slice a5 (s.over ++ [false]).length c5] P0.heap.size (bks Ps s.met) _
    rw [hl]
    exact tr_cell hT (by decide) (fun _ _ hh => sv_set3 hh _)
  · show World.ownsRow _ _ _ _ (.slice a5 (s.over ++ [false]).length c5) (s.over ++ [false]).length (blV (s.over ++ [false]))
    rw [hl, blV_snoc]
    exact row_set hown (row_apart hown k1' (by decide)) _ _
/-- A knot's kids were gone through. -/
theorem SvAt.over_ (h : SvAt P0 B Ps first s w) {oa : Option Addr} {oc : Nat} (h3 : w.cell? ⟨B, 3, none⟩ = some (.slice oa s.over.length oc)) {g : Nat} (hg : oa = some ⟨g, 0, none⟩) (i : Nat) : SvAt P0 B Ps first { s with over := s.over.set i true } (w.setCell ⟨g, i, none⟩ (.bool true)) := by
  obtain ⟨oa2, oc2, k1, k2⟩ := h.tr
  obtain ⟨nv, ma, mn, mc, k3, k4, k5⟩ := k1.ex
  have e := sv_3 k3
  rw [h3] at e
  have e2 := Option.some.inj e
  injection e2 with e2 _ e3
  subst e2
  subst e3
  subst hg
  have hlt := k2.lt g rfl
  have hgB : g ≠ B := fun e => by
    subst e
    exact row_apart k2 k3 (by decide) rfl
  obtain ⟨cs, hcs⟩ : ∃ cs, w.heap[g]? = some (.cells cs 4 (0, 0)) := by
    rcases k2.2 with ⟨e1, _⟩ | ⟨g2, cap, cur, e1, _, hg2, _⟩
    · cases e1
    · injection e1 with e1
      injection e1 with e1
      injection e1 with e1
      subst e1
      exact ⟨cur, hg2⟩
  refine ⟨⟨some ⟨g, 0, none⟩, oc, ⟨nv, ma, mn, mc, ?_, ?_, ?_⟩, ?_⟩, h.lo, h.below.setCell hlt.1 _⟩
  · show (w.setCell ⟨g, i, none⟩ (.bool true)).heap[B]? = some (.cells (nv :: .slice ma mn mc :: [.int .i64 (first : Int), .slice (some ⟨g, 0, none⟩) (s.over.set i true).length oc]).toArray 75 (0, 0))
    rw [List.length_set, heap_setCell_other _ _ _ _ (Ne.symm hgB)]
    exact k3
  · exact row_set k4 (row_apart k4 hcs (by decide)) _ _
  · rcases k5 with k5 | ⟨M, e, hl, hm⟩
    · exact .inl k5
    · refine .inr ⟨M, e, hl, hm.same (heap_setCell_other _ _ _ _ ?_)⟩
      rintro rfl
      obtain ⟨es, clock, he⟩ := hm.isMap
      rw [he] at hcs
      cases hcs
  · show World.ownsRow _ _ _ _ (.slice (some ⟨g, 0, none⟩) (s.over.set i true).length oc) (s.over.set i true).length (blV (s.over.set i true))
    rw [List.length_set, blV_set]
    exact (k2.stored i (.bool true)).1
end
end Go.Proofs.YtgaibajkegfpoaaDoor
