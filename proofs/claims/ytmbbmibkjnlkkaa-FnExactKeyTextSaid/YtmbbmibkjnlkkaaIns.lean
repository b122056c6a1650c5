/- impl's nesting, as it lies in memory, and its two methods. -/
import Derived.Test.YtmbbmibkjnlkkaaPnr
import Derived.Test.YtmbbmibkjnlkkaaIwa
import Derived.Test.YtmbbmibkjnlkkaaSks
import Derived.BigRegion
import Derived.Lib.SmallJoins
namespace Go.Proofs.Ytmbbmibkjnlkkaa
open Go.ChangeShapes Go.WideShapes Go.ChangeAt Go.RowKit
def Sp.row (s : Sp) : List Value := [.int .i64 (s.at_ : Int), .int .i64 s.end_, .int .i64 s.up]
def rowsS : List Sp → List Value
  | [] => []
  | s :: t => .int .i64 (s.at_ : Int) :: .int .i64 s.end_ :: .int .i64 s.up :: rowsS t
theorem rowsS_len : ∀ (l : List Sp), (rowsS l).length = l.length * 3
  | [] => rfl
  | s :: t => by have := rowsS_len t; simp only [rowsS, List.length_cons]; omega
theorem rowsS_app : ∀ (a b : List Sp), rowsS (a ++ b) = rowsS a ++ rowsS b
  | [], b => rfl
  | s :: t, b => by have := rowsS_app t b; simp only [List.cons_append, rowsS, this]
theorem rowsS_at : ∀ (l : List Sp) (i : Nat) (s : Sp), l[i]? = some s → (rowsS l)[i * 3]? = some (.int .i64 (s.at_ : Int)) ∧ (rowsS l)[i * 3 + 1]? = some (.int .i64 s.end_) ∧ (rowsS l)[i * 3 + 2]? = some (.int .i64 s.up)
  | [], i, s, h => by simp at h
  | a :: t, 0, s, h => by
    simp at h
    subst h
    exact ⟨rfl, rfl, rfl⟩
  | a :: t, i + 1, s, h => by
    have ih := rowsS_at t i s (by simpa using h)
    rw [show (i + 1) * 3 = i * 3 + 1 + 1 + 1 by omega, show i * 3 + 1 + 1 + 1 + 1 = (i * 3 + 1) + 1 + 1 + 1 by omega, show i * 3 + 1 + 1 + 1 + 2 = (i * 3 + 2) + 1 + 1 + 1 by omega]
    simp only [rowsS, List.getElem?_cons_succ]
    exact ih
theorem rowsS_set : ∀ (l : List Sp) (i : Nat) (s : Sp) (x : Int), l[i]? = some s → rowsS (l.set i ⟨s.at_, x, s.up⟩) = (rowsS l).set (i * 3 + 1) (.int .i64 x)
  | [], i, s, x, h => by simp at h
  | a :: t, 0, s, x, h => by
    simp at h
    subst h
    rfl
  | a :: t, i + 1, s, x, h => by
    have ih := rowsS_set t i s x (by simpa using h)
    rw [show (i + 1) * 3 + 1 = (i * 3 + 1) + 1 + 1 + 1 by omega]
    simp only [List.set_cons_succ, rowsS]
    rw [ih]
/-- A row stays where its own block stays. -/
theorem row_block {w w' : World} {lo e sz : Nat} {v : Value} {n : Nat} {xs : List Value} (h : w.ownsRow lo e sz v n xs) (hb : ∀ g, v.ownBlock = some g → w'.heap[g]? = w.heap[g]?) : w'.ownsRow lo e sz v n xs := by
  refine ⟨h.1, ?_⟩
  rcases h.2 with hn | ⟨g, cap, cur, rfl, hlo, hg, rest⟩
  · exact .inl hn
  · exact .inr ⟨g, cap, cur, rfl, hlo, by rw [hb g rfl]; exact hg, rest⟩
/-- The node i of a row of them. -/
theorem rowS_at {w : World} {lo t : Nat} {v : Value} {l : List Sp} (h : w.ownsRow lo t 3 v l.length (rowsS l)) {i : Nat} {s : Sp} (hi : l[i]? = some s) :
    ∃ g c cur, v = .slice (some ⟨g, 0, none⟩) l.length c ∧ lo ≤ g ∧ g < w.heap.size ∧ l.length ≤ c ∧ w.heap[g]? = some (.cells cur t (0, 0)) ∧ w.cell? ⟨g, i * 3, none⟩ = some (.int .i64 (s.at_ : Int)) ∧ w.cell? ⟨g, i * 3 + 1, none⟩ = some (.int .i64 s.end_) ∧ w.cell? ⟨g, i * 3 + 2, none⟩ = some (.int .i64 s.up) ∧
      (∀ x, (w.setCell ⟨g, i * 3 + 1, none⟩ (.int .i64 x)).ownsRow lo t 3 v l.length (rowsS (l.set i ⟨s.at_, x, s.up⟩))) := by
  have hil : i < l.length := (List.getElem?_eq_some_iff.1 hi).1
  obtain ⟨r0, r1, r2⟩ := rowsS_at l i s hi
  rcases h.2 with ⟨_, hn⟩ | ⟨g, cap, cur, rfl, hb, hg, hn, hm, hs, ht⟩
  · omega
  · have hc : ∀ (j : Nat) (u : Value), j < l.length * 3 → (rowsS l)[j]? = some u → w.cell? ⟨g, j, none⟩ = some u := by
      intro j u hj hu
      have h1 : (cur.toList.take (l.length * 3))[j]? = some u := by rw [ht]; exact hu
      rw [List.getElem?_take, if_pos hj] at h1
      have h2 : cur[j]? = some u := by simpa using h1
      simp [World.cell?, hg, h2]
    refine ⟨g, cap, cur, rfl, hb, (Array.getElem?_eq_some_iff.1 hg).1, hn, hg, hc _ _ (by omega) r0, hc _ _ (by omega) r1, hc _ _ (by omega) r2, fun x => ?_⟩
    refine ⟨by rw [rowsS_len, List.length_set], .inr ⟨g, cap, cur.setIfInBounds (i * 3 + 1) (.int .i64 x), rfl, hb, ?_, hn, hm, by simpa using hs, ?_⟩⟩
    · simp [World.setCell, Array.getElem?_modify, hg]
    · rw [Array.toList_setIfInBounds, List.take_set, ht, rowsS_set l i s x hi]
theorem own_ne {w : World} {lo lo' t t' : Nat} {sz sz' : Nat} {v v' : Value} {n n' : Nat} {xs xs' : List Value} (h : w.ownsRow lo t sz v n xs) (h' : w.ownsRow lo' t' sz' v' n' xs') (hne : t ≠ t') {g : Nat} (hg : v.ownBlock = some g) : v'.ownBlock ≠ some g := by
  intro hg'
  rcases h.2 with ⟨e, _⟩ | ⟨g1, c1, cur1, rfl, _, h1, _⟩
  · rw [e] at hg; simp [Value.ownBlock] at hg
  · rcases h'.2 with ⟨e, _⟩ | ⟨g2, c2, cur2, rfl, _, h2, _⟩
    · rw [e] at hg'; simp [Value.ownBlock] at hg'
    · have e1 : g1 = g := by simpa [Value.ownBlock] using hg
      have e2 : g2 = g := by simpa [Value.ownBlock] using hg'
      subst e1
      subst e2
      rw [h1] at h2
      injection h2 with h2
      injection h2 with _ h2
      exact hne h2
theorem slen {w : World} {lo e sz : Nat} {a : Option Addr} {m c n : Nat} {xs : List Value} (h : w.ownsRow lo e sz (.slice a m c) n xs) : m = n := by
  rcases h.2 with ⟨e1, e2⟩ | ⟨g, cap, cur, e1, _⟩
  · injection e1 with _ e1 e3; omega
  · injection e1 with _ e1 e3
/-- The nesting at block b: the nodes that were met, those that are open (the innermost first). -/
def NgAt (b : Nat) (sv ov : Value) (w : World) : Prop := w.heap[b]? = some (.cells #[sv, ov] 97 (0, 0))
def Ng (b : Nat) (sps : List Sp) (op : List Nat) (w : World) : Prop := ∃ sa sn sc oa on oc, NgAt b (.slice sa sn sc) (.slice oa on oc) w ∧ w.ownsRow (b + 1) 64 3 (.slice sa sn sc) sps.length (rowsS sps) ∧ w.ownsRow (b + 1) 3 1 (.slice oa on oc) op.length (intsV op.reverse)
section
variable {b : Nat} {sv ov : Value} {w w' : World} {sps : List Sp} {op : List Nat}
theorem NgAt.lt (h : NgAt b sv ov w) : b < w.heap.size := (Array.getElem?_eq_some_iff.1 h).1
theorem NgAt.c0 (h : NgAt b sv ov w) : w.cell? ⟨b, 0, none⟩ = some sv := by rw [Lib.cell_of_heap h]; rfl
theorem NgAt.c1 (h : NgAt b sv ov w) : w.cell? ⟨b, 1, none⟩ = some ov := by rw [Lib.cell_of_heap h]; rfl
theorem NgAt.fz (h : NgAt b sv ov w) (j : Nat) : w.frozen? ⟨b, j, none⟩ = false := Lib.frozen_of_heap h j
theorem NgAt.same (h : NgAt b sv ov w) (hb : w'.heap[b]? = w.heap[b]?) : NgAt b sv ov w' := hb.trans h
theorem NgAt.set0 (h : NgAt b sv ov w) (u : Value) : NgAt b u ov (w.setCell ⟨b, 0, none⟩ u) := by
  unfold NgAt at *
  simp [World.setCell, Array.getElem?_modify, h]
theorem NgAt.set1 (h : NgAt b sv ov w) (u : Value) : NgAt b sv u (w.setCell ⟨b, 1, none⟩ u) := by
  unfold NgAt at *
  simp [World.setCell, Array.getElem?_modify, h]
theorem Ng.lt (h : Ng b sps op w) : b < w.heap.size := by
  obtain ⟨_, _, _, _, _, _, h, _⟩ := h
  exact h.lt
theorem Ng.stays (h : Ng b sps op w) (hb : Below w.heap.size w w') : Ng b sps op w' := by
  obtain ⟨_, _, _, _, _, _, h1, h2, h3⟩ := h
  exact ⟨_, _, _, _, _, _, h1.same (hb.block b h1.lt), row_stays h2 hb, row_stays h3 hb⟩
end
theorem infoS : (Try.prog.info? 64).map (fun i => (i.zero, i.size, i.bytes)) = some (some (.agg #[.int .i64 0, .int .i64 0, .int .i64 0]), 3, 24) := by kernel_rfl
theorem infoN : (Try.prog.info? 3).map (fun i => (i.zero, i.size, i.bytes)) = some (some (.int .i64 0), 1, 8) := by kernel_rfl
theorem intsV_app (a b : List Nat) : intsV (a ++ b) = intsV a ++ intsV b := List.map_append
set_option maxRecDepth 100000 in
set_option maxHeartbeats 8000000 in
theorem begin_none (b : Nat) (sps : List Sp) (i : Nat) (W : World) (hG : Ng b sps [] W) (hl : sps.length ≤ 2000000) :
    Calls Try.prog 53 #[.pointer (some ⟨b, 0, none⟩), .int .i64 (i : Int)] W fun e w' => e = .returned (.tuple #[]) ∧ Ng b (sps ++ [⟨i, -1, -1⟩]) [sps.length] w' ∧ Below b W w' := by
  have HG : Hid (Ng b sps [] W) := hG
  have HSL : Hid (sps.length ≤ 2000000) := hl
  have HOL : Hid (([] : List Nat).length ≤ 2000000) := Nat.zero_le _
  obtain ⟨sa, sn, sc, oa, on, oc, k1, k2, k3⟩ := hG
  obtain rfl := slen k2
  obtain rfl := slen k3
  have c1 := k1.c1
  have HBW : Hid (Below b W W) := Below.refl _ _
  clear hl k1 k2 k3
  go_enter Try.func53, Try.ntmps53
  go_wp2_with fail
  clear c1
  -- behind the place around: both rows grow
  obtain ⟨sa, sn, sc, oa, on, oc, k1, k2, k3⟩ := HG.out
  obtain rfl := slen k2
  obtain rfl := slen k3
  have hlt := k1.lt
  obtain ⟨v5, w5, hrun5, hsl5, hown5, hbel5, hot5, hid5⟩ := push_own2 (P := Try.prog) Try.underlying55 infoN rfl (by decide) W.drew (b + 1) _ _ _ (World.ownsRow.drew k3) #[.int .i64 (sps.length : Int)] rfl (by intro u hu; simp at hu; subst hu; rfl) (by have := HOL.out; omega) (by omega) (by show b + 1 ≤ W.heap.size; omega) 55
  obtain ⟨a5, n5, c5, rfl⟩ := hsl5
  have hot5' : ∀ g, g < W.heap.size → (Value.slice oa ([] : List Nat).length oc).ownBlock ≠ some g → w5.heap[g]? = W.heap[g]? := hot5
  have z5 : W.heap.size ≤ w5.heap.size := hbel5.size
  have b5 : Below (b + 1) W w5 := ((Below.refl _ W).drew).trans hbel5
  have m1 : NgAt b (.slice sa sps.length sc) (.slice oa ([] : List Nat).length oc) w5 := k1.same (b5.block b (Nat.lt_succ_self b))
  have m2 : w5.ownsRow (b + 1) 64 3 (.slice sa sps.length sc) sps.length (rowsS sps) := row_block k2 (fun g hg => hot5' g (k2.lt g hg).2 (own_ne k2 k3 (by decide) hg))
  obtain ⟨w6, hw6⟩ : ∃ w6, w5.setCell ⟨b, 1, none⟩ (.slice a5 n5 c5) = w6 := ⟨_, rfl⟩
  have q1 : NgAt b (.slice sa sps.length sc) (.slice a5 n5 c5) w6 := by rw [← hw6]; exact m1.set1 _
  have q2 : w6.ownsRow (b + 1) 64 3 (.slice sa sps.length sc) sps.length (rowsS sps) := by rw [← hw6]; exact row_past' m2
  have q3 : w6.ownsRow (b + 1) 3 1 (.slice a5 n5 c5) (([] : List Nat).length + 1) (intsV (([] : List Nat).reverse) ++ [.int .i64 (sps.length : Int)]) := by rw [← hw6]; exact row_past' hown5
  have qB : Below b W w6 := by rw [← hw6]; exact (b5.mono (Nat.le_succ b)).trans (below_set w5)
  have hlt6 := q1.lt
  obtain ⟨v7, w7, hrun7, hsl7, hown7, hbel7, hot7, hid7⟩ := push_own2 (P := Try.prog) Try.underlying84 infoS rfl (by decide) w6 (b + 1) _ _ _ q2 #[.int .i64 (i : Int), .int .i64 (-1), .int .i64 (-1)] rfl (by intro u hu; simp at hu; rcases hu with rfl | rfl | rfl <;> rfl) (by have := HSL.out; omega) (by omega) (by omega) 84
  obtain ⟨a7, n7, c7, rfl⟩ := hsl7
  have r1 : NgAt b (.slice sa sps.length sc) (.slice a5 n5 c5) w7 := q1.same (hbel7.block b (Nat.lt_succ_self b))
  have r3 : w7.ownsRow (b + 1) 3 1 (.slice a5 n5 c5) (([] : List Nat).length + 1) (intsV (([] : List Nat).reverse) ++ [.int .i64 (sps.length : Int)]) := row_block q3 (fun g hg => hot7 g (q3.lt g hg).2 (own_ne q3 q2 (by decide) hg))
  have HQ : Hid (Ng b (sps ++ [⟨i, -1, -1⟩]) (sps.length :: []) (w7.setCell ⟨b, 0, none⟩ (.slice a7 n7 c7)) ∧ Below b W (w7.setCell ⟨b, 0, none⟩ (.slice a7 n7 c7))) := by
    refine ⟨⟨_, _, _, _, _, _, r1.set0 _, ?_, ?_⟩, qB.trans ((hbel7.mono (Nat.le_succ b)).trans (below_set w7))⟩
    · rw [rowsS_app, List.length_append]
      exact row_past' hown7
    · rw [List.reverse_cons, intsV_app, List.length_cons]
      exact row_past' r3
  have d0 := k1.c0
  have d1 := k1.c1
  have hA : NgAt b (.slice sa sps.length sc) (.slice oa ([] : List Nat).length oc) (W.alloc (.cells #[.int .i64 (sps.length : Int)] 3)) := k1.same (Below.heap_alloc W _ b hlt)
  have a0 := hA.c0
  have a1 := hA.c1
  have e0 := m1.c0
  have e1 := m1.c1
  have f1 := m1.fz 1
  have g0 := q1.c0
  have g1 := q1.c1
  have h0 := r1.c0
  have h1 := r1.c1
  have hf := r1.fz 0
  have hB6 : NgAt b (.slice sa sps.length sc) (.slice a5 n5 c5) (w6.alloc (.cells #[.int .i64 (i : Int), .int .i64 (-1), .int .i64 (-1)] 64)) := q1.same (Below.heap_alloc w6 _ b hlt6)
  have p0 := hB6.c0
  have nb : W.heap.size ≠ b := by omega
  have nb6 : w6.heap.size ≠ b := by omega
  have HW6 : Hid (w5.setCell ⟨b, 1, none⟩ (.slice a5 n5 c5) = w6) := hw6
  obtain ⟨S, hS⟩ : ∃ S : Nat, sps.length = S := ⟨_, rfl⟩
  have hSl : (S : Int) ≤ 2000000 := by have := HSL.out; omega
  rw [hS] at hrun5 d0 a0 a1 e0 g0 h0 p0 hrun7
  clear k1 k2 k3 hown5 hbel5 hot5 hid5 hot5' z5 b5 m1 m2 q1 q2 q3 qB hown7 hbel7 hot7 hid7 r1 r3 hA hB6 hlt hlt6 hw6
  go_region_law (refine step_append_runT (by rfl) _ _ 55 (by rfl) _ _ (by rfl) (by rfl) _ w5 hrun5 ?_)
  all_goals (
    rw [HW6.out]
    clear hrun5 d0 d1 a0 a1 e0 e1 f1 HW6
    go_wp2_with (at_builtin; refine append_run (by rfl) _ _ 84 (by rfl) _ _ (by rfl) (by rfl) _ w7 hrun7 ?_)
    go_end0
    exact ⟨rfl, HQ.out.1, HBW.out.trans HQ.out.2⟩)
set_option maxRecDepth 100000 in
set_option maxHeartbeats 8000000 in
theorem begin_some (b : Nat) (sps : List Sp) (p : Nat) (r : List Nat) (s : Sp) (i : Nat) (w : World) (hG : Ng b sps (p :: r) w) (hl : sps.length ≤ 2000000) (hol : r.length < 2000000) (hs : sps[p]? = some s) :
    Calls Try.prog 53 #[.pointer (some ⟨b, 0, none⟩), .int .i64 (i : Int)] w fun e w' => e = .returned (.tuple #[]) ∧ Ng b (sps ++ [⟨i, -1, (s.at_ : Int)⟩]) (sps.length :: p :: r) w' ∧ Below b w w' := by
  have HG0 : Hid (Ng b sps (p :: r) w) := hG
  have HSL : Hid (sps.length ≤ 2000000) := hl
  have HOL : Hid ((p :: r).length ≤ 2000000) := by show (p :: r).length ≤ 2000000; simp; omega
  obtain ⟨sa, sn, sc, oa, on, oc, k1, k2, k3⟩ := hG
  obtain rfl := slen k2
  have hrev : intsV (p :: r).reverse = intsV r.reverse ++ [.int .i64 (p : Int)] := by rw [List.reverse_cons, intsV_app]; rfl
  rw [hrev] at k3
  obtain ⟨g, cq, hv, hn, hg1, hg2, hcq, hcell, hfz, hset, hrow⟩ := row_top k3
  have hlen : (intsV r.reverse).length = r.length := by unfold intsV; rw [List.length_map, List.length_reverse]
  rw [hlen] at hv hcell
  injection hv with ha hn' hcp
  subst ha
  subst hcp
  subst hn'
  obtain ⟨gs, gc, cur, hsv, hs1, hs2, hs3, hs4, t0, t1, t2, _⟩ := rowS_at k2 hs
  injection hsv with hsa _ hsc
  subst hsa
  subst hsc
  have hp : (p : Int) < (sps.length : Int) := by have := (List.getElem?_eq_some_iff.1 hs).1; omega
  have c0 := k1.c0
  have c1 := k1.c1
  have nsb : gs ≠ b := by omega
  have ngb : g ≠ b := by omega
  obtain ⟨m, hm⟩ : ∃ m, r.length = m := ⟨_, rfl⟩
  have HM : Hid (r.length = m) := hm
  have hm6 : (m : Int) < 2000000 := by omega
  obtain ⟨up, hup⟩ : ∃ up : Int, (s.at_ : Int) = up := ⟨_, rfl⟩
  rw [hup] at t0 ⊢
  rw [hm] at hcell c1
  obtain ⟨S0, hS0⟩ : ∃ S0 : Nat, sps.length = S0 := ⟨_, rfl⟩
  have hSl0 : (S0 : Int) ≤ 2000000 := by omega
  rw [hS0] at c0 hp
  have HS0 : Hid (sps.length = S0) := hS0
  clear hl hol k1 k2 k3 hn hg1 hg2 hcq hfz hset hrow hlen hs1 hs2 hs3 hs4 t1 t2 hs hm hup hrev hS0
  go_enter Try.func53, Try.ntmps53
  go_wp2_with fail
  go_quiet (fail)
  clear c0 c1 hcell t0 nsb ngb hp hSl0 hm6
  have HG : Hid (Ng b sps (p :: r) (w.drewN nq)) := HG0.out.stays (below_drewN w nq)
  have HBW : Hid (Below b w (w.drewN nq)) := (below_drewN w nq).mono (Nat.le_of_lt HG0.out.lt)
  generalize w.drewN nq = W at HG HBW ⊢
  go_wp2_with fail
  -- behind the place around: both rows grow
  obtain ⟨sa, sn, sc, oa, on, oc, k1, k2, k3⟩ := HG.out
  obtain rfl := slen k2
  obtain rfl := slen k3
  have hlt := k1.lt
  obtain ⟨v5, w5, hrun5, hsl5, hown5, hbel5, hot5, hid5⟩ := push_own2 (P := Try.prog) Try.underlying55 infoN rfl (by decide) W.drew (b + 1) _ _ _ (World.ownsRow.drew k3) #[.int .i64 (sps.length : Int)] rfl (by intro u hu; simp at hu; subst hu; rfl) (by have := HOL.out; omega) (by omega) (by show b + 1 ≤ W.heap.size; omega) 55
  obtain ⟨a5, n5, c5, rfl⟩ := hsl5
  have hot5' : ∀ g, g < W.heap.size → (Value.slice oa (p :: r).length oc).ownBlock ≠ some g → w5.heap[g]? = W.heap[g]? := hot5
  have z5 : W.heap.size ≤ w5.heap.size := hbel5.size
  have b5 : Below (b + 1) W w5 := ((Below.refl _ W).drew).trans hbel5
  have m1 : NgAt b (.slice sa sps.length sc) (.slice oa (p :: r).length oc) w5 := k1.same (b5.block b (Nat.lt_succ_self b))
  have m2 : w5.ownsRow (b + 1) 64 3 (.slice sa sps.length sc) sps.length (rowsS sps) := row_block k2 (fun g hg => hot5' g (k2.lt g hg).2 (own_ne k2 k3 (by decide) hg))
  obtain ⟨w6, hw6⟩ : ∃ w6, w5.setCell ⟨b, 1, none⟩ (.slice a5 n5 c5) = w6 := ⟨_, rfl⟩
  have q1 : NgAt b (.slice sa sps.length sc) (.slice a5 n5 c5) w6 := by rw [← hw6]; exact m1.set1 _
  have q2 : w6.ownsRow (b + 1) 64 3 (.slice sa sps.length sc) sps.length (rowsS sps) := by rw [← hw6]; exact row_past' m2
  have q3 : w6.ownsRow (b + 1) 3 1 (.slice a5 n5 c5) ((p :: r).length + 1) (intsV ((p :: r).reverse) ++ [.int .i64 (sps.length : Int)]) := by rw [← hw6]; exact row_past' hown5
  have qB : Below b W w6 := by rw [← hw6]; exact (b5.mono (Nat.le_succ b)).trans (below_set w5)
  have hlt6 := q1.lt
  obtain ⟨v7, w7, hrun7, hsl7, hown7, hbel7, hot7, hid7⟩ := push_own2 (P := Try.prog) Try.underlying84 infoS rfl (by decide) w6 (b + 1) _ _ _ q2 #[.int .i64 (i : Int), .int .i64 (-1), .int .i64 up] rfl (by intro u hu; simp at hu; rcases hu with rfl | rfl | rfl <;> rfl) (by have := HSL.out; omega) (by omega) (by omega) 84
  obtain ⟨a7, n7, c7, rfl⟩ := hsl7
  have r1 : NgAt b (.slice sa sps.length sc) (.slice a5 n5 c5) w7 := q1.same (hbel7.block b (Nat.lt_succ_self b))
  have r3 : w7.ownsRow (b + 1) 3 1 (.slice a5 n5 c5) ((p :: r).length + 1) (intsV ((p :: r).reverse) ++ [.int .i64 (sps.length : Int)]) := row_block q3 (fun g hg => hot7 g (q3.lt g hg).2 (own_ne q3 q2 (by decide) hg))
  have HQ : Hid (Ng b (sps ++ [⟨i, -1, up⟩]) (sps.length :: p :: r) (w7.setCell ⟨b, 0, none⟩ (.slice a7 n7 c7)) ∧ Below b W (w7.setCell ⟨b, 0, none⟩ (.slice a7 n7 c7))) := by
    refine ⟨⟨_, _, _, _, _, _, r1.set0 _, ?_, ?_⟩, qB.trans ((hbel7.mono (Nat.le_succ b)).trans (below_set w7))⟩
    · rw [rowsS_app, List.length_append]
      exact row_past' hown7
    · rw [List.reverse_cons, intsV_app, List.length_cons]
      exact row_past' r3
  have d0 := k1.c0
  have d1 := k1.c1
  have hA : NgAt b (.slice sa sps.length sc) (.slice oa (p :: r).length oc) (W.alloc (.cells #[.int .i64 (sps.length : Int)] 3)) := k1.same (Below.heap_alloc W _ b hlt)
  have a0 := hA.c0
  have a1 := hA.c1
  have e0 := m1.c0
  have e1 := m1.c1
  have f1 := m1.fz 1
  have g0 := q1.c0
  have g1 := q1.c1
  have h0 := r1.c0
  have h1 := r1.c1
  have hf := r1.fz 0
  have hB6 : NgAt b (.slice sa sps.length sc) (.slice a5 n5 c5) (w6.alloc (.cells #[.int .i64 (i : Int), .int .i64 (-1), .int .i64 up] 64)) := q1.same (Below.heap_alloc w6 _ b hlt6)
  have p0 := hB6.c0
  have nb : W.heap.size ≠ b := by omega
  have nb6 : w6.heap.size ≠ b := by omega
  have HW6 : Hid (w5.setCell ⟨b, 1, none⟩ (.slice a5 n5 c5) = w6) := hw6
  obtain ⟨S, hS⟩ : ∃ S : Nat, sps.length = S := ⟨_, rfl⟩
  have hSl : (S : Int) ≤ 2000000 := by have := HSL.out; omega
  rw [hS] at hrun5 d0 a0 a1 e0 g0 h0 p0 hrun7
  clear k1 k2 k3 hown5 hbel5 hot5 hid5 hot5' z5 b5 m1 m2 q1 q2 q3 qB hown7 hbel7 hot7 hid7 r1 r3 hA hB6 hlt hlt6 hw6
  go_region_law (refine step_append_runT (by rfl) _ _ 55 (by rfl) _ _ (by rfl) (by rfl) _ w5 hrun5 ?_)
  all_goals (
    rw [HW6.out]
    clear hrun5 d0 d1 a0 a1 e0 e1 f1 HW6
    go_wp2_with (at_builtin; refine append_run (by rfl) _ _ 84 (by rfl) _ _ (by rfl) (by rfl) _ w7 hrun7 ?_)
    go_end0
    exact ⟨rfl, HQ.out.1, HBW.out.trans HQ.out.2⟩)
set_option maxRecDepth 100000 in
set_option maxHeartbeats 8000000 in
theorem nend_any (b : Nat) (sps : List Sp) (p : Nat) (r : List Nat) (s : Sp) (i : Nat) (w : World) (hG : Ng b sps (p :: r) w) (hl : sps.length ≤ 2000000) (hol : r.length < 2000000) (hs : sps[p]? = some s) :
    Calls Try.prog 54 #[.pointer (some ⟨b, 0, none⟩), .int .i64 (i : Int)] w fun e w' => e = .returned (.tuple #[]) ∧ Ng b (sps.set p ⟨s.at_, (i : Int), s.up⟩) r w' ∧ Below b w w' := by
  obtain ⟨sa, sn, sc, oa, on, oc, k1, k2, k3⟩ := hG
  obtain rfl := slen k2
  have hrev : intsV (p :: r).reverse = intsV r.reverse ++ [.int .i64 (p : Int)] := by rw [List.reverse_cons, intsV_app]; rfl
  rw [hrev] at k3
  obtain ⟨g, cq, hv, hn, hg1, hg2, hcq, hcell, hfz, hset, hrow⟩ := row_top k3
  have hlen : (intsV r.reverse).length = r.length := by unfold intsV; rw [List.length_map, List.length_reverse]
  rw [hlen] at hv hcell hrow
  injection hv with ha hn' hcp
  subst ha
  subst hcp
  subst hn'
  have hcq' : r.length + 1 ≤ oc := by simp at hcq; exact hcq
  obtain ⟨gs, gc, cur, hsv, hs1, hs2, hs3, hs4, t0, t1, t2, tset⟩ := rowS_at k2 hs
  injection hsv with hsa _ hsc
  subst hsa
  subst hsc
  have hp : (p : Int) < (sps.length : Int) := by have := (List.getElem?_eq_some_iff.1 hs).1; omega
  have c0 := k1.c0
  have c1 := k1.c1
  have nsb : gs ≠ b := by omega
  have ngb : g ≠ b := by omega
  have fs : w.frozen? ⟨gs, p * 3 + 1, none⟩ = false := Lib.frozen_of_heap hs4 _
  have hng : g ≠ gs := fun e => own_ne k3 k2 (by decide) (g := g) rfl (by rw [e]; rfl)
  obtain ⟨W, hW⟩ : ∃ W, (w.setCell ⟨gs, p * 3 + 1, none⟩ (.int .i64 (i : Int))).drew = W := ⟨_, rfl⟩
  have hWk : ∀ k, k ≠ gs → W.heap[k]? = w.heap[k]? := fun k hk => by rw [← hW]; exact Below.heap_setCell _ _ _ _ hk
  have l1 : NgAt b (.slice (some ⟨gs, 0, none⟩) sps.length sc) (.slice (some ⟨g, 0, none⟩) (r.length + 1) oc) W := k1.same (hWk b (Ne.symm nsb))
  have l2 : W.ownsRow (b + 1) 64 3 (.slice (some ⟨gs, 0, none⟩) sps.length sc) sps.length (rowsS (sps.set p ⟨s.at_, (i : Int), s.up⟩)) := by rw [← hW]; exact World.ownsRow.drew (tset (i : Int))
  have l3 : W.ownsRow (b + 1) 3 1 (.slice (some ⟨g, 0, none⟩) r.length oc) r.length (intsV r.reverse) := by
    refine row_block hrow (fun g' hg' => hWk g' ?_)
    have e : g = g' := by simpa [Value.ownBlock] using hg'
    rw [← e]
    exact hng
  have e1 := l1.c1
  have ef := l1.fz 1
  have HQ : Hid (Ng b (sps.set p ⟨s.at_, (i : Int), s.up⟩) r (W.setCell ⟨b, 1, none⟩ (.slice (some ⟨g, 0, none⟩) r.length oc)) ∧ Below b w (W.setCell ⟨b, 1, none⟩ (.slice (some ⟨g, 0, none⟩) r.length oc))) := by
    refine ⟨⟨_, _, _, _, _, _, l1.set1 _, ?_, row_past' l3⟩, ?_⟩
    · rw [List.length_set]; exact row_past' l2
    · rw [← hW]
      exact (((Below.refl b w).setCell (show b ≤ gs by omega) _).drew).trans (below_set _)
  obtain ⟨m, hm⟩ : ∃ m, r.length = m := ⟨_, rfl⟩
  have hm6 : (m : Int) < 2000000 := by omega
  obtain ⟨S0, hS0⟩ : ∃ S0 : Nat, sps.length = S0 := ⟨_, rfl⟩
  have hSl0 : (S0 : Int) ≤ 2000000 := by omega
  rw [hm] at hcell c1 e1 HQ hcq'
  rw [hS0] at c0 hp
  have HW : Hid ((w.setCell ⟨gs, p * 3 + 1, none⟩ (.int .i64 (i : Int))).drew = W) := hW
  clear hl hol k1 k2 k3 hn hg1 hg2 hcq hfz hset hrow hlen hs1 hs2 hs3 hs4 t0 t2 hs hm hrev hS0 hW hWk l1 l2 l3 tset
  go_enter Try.func54, Try.ntmps54
  go_wp2_with fail
  go_region
  all_goals (
    rw [HW.out]
    clear HW hcell c0 c1 fs hp t1
    go_wp2_with fail
    go_end0
    exact ⟨rfl, HQ.out⟩)
end Go.Proofs.Ytmbbmibkjnlkkaa
