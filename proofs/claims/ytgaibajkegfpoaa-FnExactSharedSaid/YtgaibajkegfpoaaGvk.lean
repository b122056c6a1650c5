/- The program's survey, in memory: a knot is gone through. -/
import Derived.Test.YtgaibajkegfpoaaGmu
import Derived.Test.YtgaibajkegfpoaaGvq
namespace Go.Proofs.Ytgaibajkegfpoaa
open Go.ChangeShapes Go.WideShapes Go.ChangeAt Go.RowKit Go.Deep
theorem infoBo : (Try.prog.info? 4).map (fun i => (i.zero, i.size, i.bytes)) = some (some (.bool false), 1, 1) := by kernel_rfl
def blV (l : List Bool) : List Value := l.map Value.bool
theorem blV_len (l : List Bool) : (blV l).length = l.length := by unfold blV; simp
theorem blV_snoc (l : List Bool) (b : Bool) : blV (l ++ [b]) = blV l ++ [.bool b] := by unfold blV; simp
theorem blV_set (l : List Bool) (i : Nat) (b : Bool) : blV (l.set i b) = (blV l).set i (.bool b) := by unfold blV; rw [List.map_set]
def bks (Ps : List Nat) (met : List Nat) : List Nat := met.map (fun i : Nat => blk Ps (i : Int))
theorem bks_snoc (Ps met : List Nat) (i : Nat) : bks Ps (met ++ [i]) = bks Ps met ++ [blk Ps (i : Int)] := by unfold bks; simp
theorem bks_len (Ps met : List Nat) : (bks Ps met).length = met.length := by unfold bks; simp
theorem bks_mem {Ps met : List Nat} {i : Nat} (hnd : Ps.Nodup) (hr : ∀ j ∈ met, j < Ps.length) (hi : i < Ps.length) : blk Ps (i : Int) ∈ bks Ps met ↔ i ∈ met := by
  unfold bks
  rw [List.mem_map]
  constructor
  · rintro ⟨j, hj, e⟩
    rw [← blk_inj hnd (hr j hj) hi e]
    exact hj
  · exact fun h => ⟨i, h, rfl⟩
theorem bks_ix {Ps : List Nat} {i : Nat} (hnd : Ps.Nodup) (hi : i < Ps.length) : ∀ {met : List Nat}, (∀ j ∈ met, j < Ps.length) → ix (blk Ps (i : Int)) (bks Ps met) = ix i met
  | [], _ => rfl
  | x :: t, hr => by
    have ih := bks_ix hnd hi (met := t) (fun j hj => hr j (List.mem_cons_of_mem _ hj))
    show ix (blk Ps (i : Int)) (blk Ps (x : Int) :: bks Ps t) = ix i (x :: t)
    unfold ix
    by_cases e : x = i
    · subst e
      rw [if_pos rfl, if_pos rfl]
    · rw [if_neg e, if_neg (fun h => e (blk_inj hnd (hr x (List.mem_cons_self ..)) hi h)), ih]
/-- The survey at block B. -/
structure SvAt (P0 : World) (B : Nat) (Ps : List Nat) (first : Nat) (s : Sv) (w : World) : Prop where
  tr : ∃ (oa : Option Addr) (oc : Nat), TrAt B 67 [.int .i64 (first : Int), .slice oa s.over.length oc] P0.heap.size (bks Ps s.met) w ∧ w.ownsRow P0.heap.size 4 1 (.slice oa s.over.length oc) s.over.length (blV s.over)
  lo : P0.heap.size ≤ B
  below : Below P0.heap.size P0 w
section
variable {P0 w w' : World} {B first : Nat} {Ps : List Nat} {s : Sv} {x0 x1 x2 x3 : Value} {t : TypeId}
theorem sv_2 (h : w.heap[B]? = some (.cells [x0, x1, x2, x3].toArray t (0, 0))) : w.cell? ⟨B, 2, none⟩ = some x2 := by simp [World.cell?, h]
theorem sv_3 (h : w.heap[B]? = some (.cells [x0, x1, x2, x3].toArray t (0, 0))) : w.cell? ⟨B, 3, none⟩ = some x3 := by simp [World.cell?, h]
theorem sv_f (h : w.heap[B]? = some (.cells [x0, x1, x2, x3].toArray t (0, 0))) (i : Nat) : w.frozen? ⟨B, i, none⟩ = false := by simp [World.frozen?, h]
theorem sv_set2 (h : w.heap[B]? = some (.cells [x0, x1, x2, x3].toArray t (0, 0))) (a : Value) : (w.setCell ⟨B, 2, none⟩ a).heap[B]? = some (.cells [x0, x1, a, x3].toArray t (0, 0)) := by
  simp [World.setCell, Array.getElem?_modify, h]
theorem sv_set3 (h : w.heap[B]? = some (.cells [x0, x1, x2, x3].toArray t (0, 0))) (a : Value) : (w.setCell ⟨B, 3, none⟩ a).heap[B]? = some (.cells [x0, x1, x2, a].toArray t (0, 0)) := by
  simp [World.setCell, Array.getElem?_modify, h]
theorem SvAt.cells (h : SvAt P0 B Ps first s w) : ∃ (oa : Option Addr) (oc : Nat), w.cell? ⟨B, 2, none⟩ = some (.int .i64 (first : Int)) ∧ w.cell? ⟨B, 3, none⟩ = some (.slice oa s.over.length oc) ∧ w.frozen? ⟨B, 2, none⟩ = false ∧ w.frozen? ⟨B, 3, none⟩ = false ∧ w.ownsRow P0.heap.size 4 1 (.slice oa s.over.length oc) s.over.length (blV s.over) := by
  obtain ⟨oa, oc, h1, h2⟩ := h.tr
  obtain ⟨_, _, _, _, h3, _⟩ := h1.ex
  exact ⟨oa, oc, sv_2 h3, sv_3 h3, sv_f h3 2, sv_f h3 3, h2⟩
theorem SvAt.stays (h : SvAt P0 B Ps first s w) (hb : Below w.heap.size w w') : SvAt P0 B Ps first s w' := by
  obtain ⟨oa, oc, h1, h2⟩ := h.tr
  exact ⟨⟨oa, oc, h1.stays hb, g_row_below h2 hb⟩, h.lo, h.below.trans (hb.mono h.below.size)⟩
theorem SvAt.ok (h : SvAt P0 B Ps first s w) {s' : Sv} (h1 : s'.met = s.met) (h2 : s'.over = s.over) : SvAt P0 B Ps first s' w := by
  obtain ⟨m, o, k⟩ := s
  obtain ⟨m', o', k'⟩ := s'
  simp only at h1 h2
  subst h1
  subst h2
  exact ⟨h.tr, h.lo, h.below⟩
/-- Cell 2 or 3 of the survey's own block is stored. -/
theorem tr_cell {rest rest' : List Value} {mb : List Nat} {lo j : Nat} {u : Value} (h : TrAt B t rest lo mb w) (ht : t ≠ 70) (hs : ∀ x0 x1, w.heap[B]? = some (.cells (x0 :: x1 :: rest).toArray t (0, 0)) → (w.setCell ⟨B, j, none⟩ u).heap[B]? = some (.cells (x0 :: x1 :: rest').toArray t (0, 0))) : TrAt B t rest' lo mb (w.setCell ⟨B, j, none⟩ u) := by
  obtain ⟨nv, ma, mn, mc, h1, h2, h3⟩ := h.ex
  refine ⟨nv, ma, mn, mc, hs _ _ h1, row_set h2 (row_apart h2 h1 ht) _ _, ?_⟩
  rcases h3 with h3 | ⟨M, e, hl, hm⟩
  · exact .inl h3
  · refine .inr ⟨M, e, hl, hm.same (heap_setCell_other _ _ _ _ ?_)⟩
    rintro rfl
    obtain ⟨es, clock, he⟩ := hm.isMap
    rw [he] at h1
    cases h1
theorem SvAt.first_ (h : SvAt P0 B Ps first s w) (f2 : Nat) : SvAt P0 B Ps f2 s (w.setCell ⟨B, 2, none⟩ (.int .i64 (f2 : Int))) := by
  obtain ⟨oa, oc, h1, h2⟩ := h.tr
  obtain ⟨_, _, _, _, h3, _⟩ := h1.ex
  exact ⟨⟨oa, oc, tr_cell h1 (by decide) (fun _ _ hh => sv_set2 hh _), row_set h2 (row_apart h2 h3 (by decide)) _ _⟩, h.lo, h.below.setCell h.lo _⟩
/-- A knot that is met is not over yet: its mark is put behind the others. -/
theorem SvAt.mark (h1 : TrAt B 67 [.int .i64 (first : Int), x3] P0.heap.size (bks Ps s.met) w) (hlo : P0.heap.size ≤ B) (hbl : Below P0.heap.size P0 w) {w5 : World} {a5 : Option Addr} {c5 : Nat} (hr : w.ownsRow P0.heap.size 4 1 x3 s.over.length (blV s.over))
    (hown : w5.ownsRow P0.heap.size 4 1 (.slice a5 (s.over.length + 1) c5) (s.over.length + 1) (blV s.over ++ [.bool false])) (hbel : Below P0.heap.size w w5) (hot : ∀ b, b < w.heap.size → x3.ownBlock ≠ some b → w5.heap[b]? = w.heap[b]?) {ok : Bool} :
    SvAt P0 B Ps first ⟨s.met, s.over ++ [false], ok⟩ (w5.setCell ⟨B, 3, none⟩ (.slice a5 (s.over.length + 1) c5)) := by
  obtain ⟨nv, ma, mn, mc, k1, k2, k3⟩ := h1.ex
  have hB := h1.lt
  have k1' : w5.heap[B]? = some (.cells (nv :: .slice ma mn mc :: [.int .i64 (first : Int), x3]).toArray 67 (0, 0)) := (hot B hB (row_apart hr k1 (by decide))).trans k1
  have k2' : w5.ownsRow P0.heap.size 70 1 (.slice ma mn mc) (bks Ps s.met).length (plV (bks Ps s.met)) := g_row_block k2 (fun x hx => hot x (k2.lt x hx).2 (by
    rcases k2.2 with ⟨e1, _⟩ | ⟨g, cap, cur, e1, _, hg, _⟩
    · rw [e1] at hx; simp [Value.ownBlock] at hx
    · rw [e1] at hx
      have e2 : g = x := by simpa [Value.ownBlock] using hx
      subst e2
      exact row_apart hr hg (by decide)))
  have hT : TrAt B 67 [.int .i64 (first : Int), x3] P0.heap.size (bks Ps s.met) w5 := by
    refine ⟨nv, ma, mn, mc, k1', k2', ?_⟩
    rcases k3 with k3 | ⟨M, e, hl, hm⟩
    · exact .inl k3
    · refine .inr ⟨M, e, hl, hm.same (hot M hm.lt (fun hx => ?_))⟩
      obtain ⟨es, clock, he⟩ := hm.isMap
      rcases hr.2 with ⟨e1, _⟩ | ⟨g, cap, cur, e1, _, hg, _⟩
      · rw [e1] at hx; simp [Value.ownBlock] at hx
      · rw [e1] at hx
        have e2 : g = M := by simpa [Value.ownBlock] using hx
        subst e2
        rw [he] at hg
        cases hg
  have hl : (s.over ++ [false]).length = s.over.length + 1 := by simp
  refine ⟨⟨a5, c5, ?_, ?_⟩, hlo, (hbl.trans hbel).setCell hlo _⟩
  · show TrAt B 67 [.int .i64 (first : Int), .slice a5 (s.over ++ [false]).length c5] P0.heap.size (bks Ps s.met) _
    rw [hl]
    exact tr_cell hT (by decide) (fun _ _ hh => sv_set3 hh _)
  · show World.ownsRow _ _ _ _ (.slice a5 (s.over ++ [false]).length c5) (s.over ++ [false]).length (blV (s.over ++ [false]))
    rw [hl, blV_snoc]
    exact row_set hown (row_apart hown k1' (by decide)) _ _
/-- A knot's kids were gone through. -/
theorem SvAt.over_ (h : SvAt P0 B Ps first s w) {oa : Option Addr} {oc : Nat} (h3 : w.cell? ⟨B, 3, none⟩ = some (.slice oa s.over.length oc)) {g : Nat} (hg : oa = some ⟨g, 0, none⟩) (i : Nat) : SvAt P0 B Ps first { s with over := s.over.set i true } (w.setCell ⟨g, i, none⟩ (.bool true)) := by
  obtain ⟨oa2, oc2, k1, k2⟩ := h.tr
  obtain ⟨nv, ma, mn, mc, k3, k4, k5⟩ := k1.ex
  have e := sv_3 k3
  rw [h3] at e
  have e2 := Option.some.inj e
  injection e2 with e2 _ e3
  subst e2
  subst e3
  subst hg
  have hlt := k2.lt g rfl
  have hgB : g ≠ B := fun e => by
    subst e
    exact row_apart k2 k3 (by decide) rfl
  obtain ⟨cs, hcs⟩ : ∃ cs, w.heap[g]? = some (.cells cs 4 (0, 0)) := by
    rcases k2.2 with ⟨e1, _⟩ | ⟨g2, cap, cur, e1, _, hg2, _⟩
    · cases e1
    · injection e1 with e1
      injection e1 with e1
      injection e1 with e1
      subst e1
      exact ⟨cur, hg2⟩
  refine ⟨⟨some ⟨g, 0, none⟩, oc, ⟨nv, ma, mn, mc, ?_, ?_, ?_⟩, ?_⟩, h.lo, h.below.setCell hlt.1 _⟩
  · show (w.setCell ⟨g, i, none⟩ (.bool true)).heap[B]? = some (.cells (nv :: .slice ma mn mc :: [.int .i64 (first : Int), .slice (some ⟨g, 0, none⟩) (s.over.set i true).length oc]).toArray 67 (0, 0))
    rw [List.length_set, heap_setCell_other _ _ _ _ (Ne.symm hgB)]
    exact k3
  · exact row_set k4 (row_apart k4 hcs (by decide)) _ _
  · rcases k5 with k5 | ⟨M, e, hl, hm⟩
    · exact .inl k5
    · refine .inr ⟨M, e, hl, hm.same (heap_setCell_other _ _ _ _ ?_)⟩
      rintro rfl
      obtain ⟨es, clock, he⟩ := hm.isMap
      rw [he] at hcs
      cases hcs
  · show World.ownsRow _ _ _ _ (.slice (some ⟨g, 0, none⟩) (s.over.set i true).length oc) (s.over.set i true).length (blV (s.over.set i true))
    rw [List.length_set, blV_set]
    exact (k2.stored i (.bool true)).1
end
end Go.Proofs.Ytgaibajkegfpoaa
