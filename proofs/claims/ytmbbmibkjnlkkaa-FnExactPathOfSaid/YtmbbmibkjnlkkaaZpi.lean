/- Several texts in one: Ins Pnf. -/
import Derived.Test.YtmbbmibkjnlkkaaZph
import Derived.Test.YtmbbmibkjnlkkaaZpf
import Derived.BigRegion
import Derived.Lib.SmallJoins
/- impl's nesting, as it lies in memory, and its two methods. -/
namespace Go.Proofs.Ytmbbmibkjnlkkaa
open Go.ChangeShapes Go.WideShapes Go.ChangeAt Go.RowKit
def Sp.row (s : Sp) : List Value := [.int .i64 (s.at_ : Int), .int .i64 s.end_, .int .i64 s.up]
def rowsS : List Sp → List Value
  | [] => []
  | s :: t => .int .i64 (s.at_ : Int) :: .int .i64 s.end_ :: .int .i64 s.up :: rowsS t
theorem rowsS_len : ∀ (l : List Sp), (rowsS l).length = l.length * 3
  | [] => rfl
  | s :: t => by have := rowsS_len t; simp only [rowsS, List.length_cons]; omega
theorem rowsS_app : ∀ (a b : List Sp), rowsS (a ++ b) = rowsS a ++ rowsS b
  | [], b => rfl
  | s :: t, b => by have := rowsS_app t b; simp only [List.cons_append, rowsS, this]
theorem rowsS_at : ∀ (l : List Sp) (i : Nat) (s : Sp), l[i]? = some s → (rowsS l)[i * 3]? = some (.int .i64 (s.at_ : Int)) ∧ (rowsS l)[i * 3 + 1]? = some (.int .i64 s.end_) ∧ (rowsS l)[i * 3 + 2]? = some (.int .i64 s.up)
  | [], i, s, h => by simp at h
  | a :: t, 0, s, h => by
    simp at h
    subst h
    exact ⟨rfl, rfl, rfl⟩
  | a :: t, i + 1, s, h => by
    have ih := rowsS_at t i s (by simpa using h)
    rw [show (i + 1) * 3 = i * 3 + 1 + 1 + 1 by omega, show i * 3 + 1 + 1 + 1 + 1 = (i * 3 + 1) + 1 + 1 + 1 by omega, show i * 3 + 1 + 1 + 1 + 2 = (i * 3 + 2) + 1 + 1 + 1 by omega]
    simp only [rowsS, List.getElem?_cons_succ]
    exact ih
theorem rowsS_set : ∀ (l : List Sp) (i : Nat) (s : Sp) (x : Int), l[i]? = some s → rowsS (l.set i ⟨s.at_, x, s.up⟩) = (rowsS l).set (i * 3 + 1) (.int .i64 x)
  | [], i, s, x, h => by simp at h
  | a :: t, 0, s, x, h => by
    simp at h
    subst h
    rfl
  | a :: t, i + 1, s, x, h => by
    have ih := rowsS_set t i s x (by simpa using h)
    rw [show (i + 1) * 3 + 1 = (i * 3 + 1) + 1 + 1 + 1 by omega]
    simp only [List.set_cons_succ, rowsS]
    rw [ih]
/-- A row stays where its own block stays. -/
theorem row_block {w w' : World} {lo e sz : Nat} {v : Value} {n : Nat} {xs : List Value} (h : w.ownsRow lo e sz v n xs) (hb : ∀ g, v.ownBlock = some g → w'.heap[g]? = w.heap[g]?) : w'.ownsRow lo e sz v n xs := by
  refine ⟨h.1, ?_⟩
  rcases h.2 with hn | ⟨g, cap, cur, rfl, hlo, hg, rest⟩
  · exact .inl hn
  · exact .inr ⟨g, cap, cur, rfl, hlo, by rw [hb g rfl]; exact hg, rest⟩
/-- The node i of a row of them. -/
theorem rowS_at {w : World} {lo t : Nat} {v : Value} {l : List Sp} (h : w.ownsRow lo t 3 v l.length (rowsS l)) {i : Nat} {s : Sp} (hi : l[i]? = some s) :
    ∃ g c cur, v = .slice (some ⟨g, 0, none⟩) l.length c ∧ lo ≤ g ∧ g < w.heap.size ∧ l.length ≤ c ∧ w.heap[g]? = some (.cells cur t (0, 0)) ∧ w.cell? ⟨g, i * 3, none⟩ = some (.int .i64 (s.at_ : Int)) ∧ w.cell? ⟨g, i * 3 + 1, none⟩ = some (.int .i64 s.end_) ∧ w.cell? ⟨g, i * 3 + 2, none⟩ = some (.int .i64 s.up) ∧
      (∀ x, (w.setCell ⟨g, i * 3 + 1, none⟩ (.int .i64 x)).ownsRow lo t 3 v l.length (rowsS (l.set i ⟨s.at_, x, s.up⟩))) := by
  have hil : i < l.length := (List.getElem?_eq_some_iff.1 hi).1
  obtain ⟨r0, r1, r2⟩ := rowsS_at l i s hi
  rcases h.2 with ⟨_, hn⟩ | ⟨g, cap, cur, rfl, hb, hg, hn, hm, hs, ht⟩
  · omega
  · have hc : ∀ (j : Nat) (u : Value), j < l.length * 3 → (rowsS l)[j]? = some u → w.cell? ⟨g, j, none⟩ = some u := by
      intro j u hj hu
      have h1 : (cur.toList.take (l.length * 3))[j]? = some u := by rw [ht]; exact hu
      rw [List.getElem?_take, if_pos hj] at h1
      have h2 : cur[j]? = some u := by simpa using h1
      simp [World.cell?, hg, h2]
    refine ⟨g, cap, cur, rfl, hb, (Array.getElem?_eq_some_iff.1 hg).1, hn, hg, hc _ _ (by omega) r0, hc _ _ (by omega) r1, hc _ _ (by omega) r2, fun x => ?_⟩
    refine ⟨by rw [rowsS_len, List.length_set], .inr ⟨g, cap, cur.setIfInBounds (i * 3 + 1) (.int .i64 x), rfl, hb, ?_, hn, hm, by simpa using hs, ?_⟩⟩
    · simp [World.setCell, Array.getElem?_modify, hg]
    · rw [Array.toList_setIfInBounds, List.take_set, ht, rowsS_set l i s x hi]
theorem own_ne {w : World} {lo lo' t t' : Nat} {sz sz' : Nat} {v v' : Value} {n n' : Nat} {xs xs' : List Value} (h : w.ownsRow lo t sz v n xs) (h' : w.ownsRow lo' t' sz' v' n' xs') (hne : t ≠ t') {g : Nat} (hg : v.ownBlock = some g) : v'.ownBlock ≠ some g := by
  intro hg'
  rcases h.2 with ⟨e, _⟩ | ⟨g1, c1, cur1, rfl, _, h1, _⟩
  · rw [e] at hg; simp [Value.ownBlock] at hg
  · rcases h'.2 with ⟨e, _⟩ | ⟨g2, c2, cur2, rfl, _, h2, _⟩
    · rw [e] at hg'; simp [Value.ownBlock] at hg'
    · have e1 : g1 = g := by simpa [Value.ownBlock] using hg
      have e2 : g2 = g := by simpa [Value.ownBlock] using hg'
      subst e1
      subst e2
      rw [h1] at h2
      injection h2 with h2
      injection h2 with _ h2
      exact hne h2
theorem slen {w : World} {lo e sz : Nat} {a : Option Addr} {m c n : Nat} {xs : List Value} (h : w.ownsRow lo e sz (.slice a m c) n xs) : m = n := by
  rcases h.2 with ⟨e1, e2⟩ | ⟨g, cap, cur, e1, _⟩
  · injection e1 with _ e1 e3; omega
  · injection e1 with _ e1 e3
/-- The nesting at block b: the nodes that were met, those that are open (the innermost first). -/
def NgAt (b : Nat) (sv ov : Value) (w : World) : Prop := w.heap[b]? = some (.cells #[sv, ov] 97 (0, 0))
def Ng (b : Nat) (sps : List Sp) (op : List Nat) (w : World) : Prop := ∃ sa sn sc oa on oc, NgAt b (.slice sa sn sc) (.slice oa on oc) w ∧ w.ownsRow (b + 1) 64 3 (.slice sa sn sc) sps.length (rowsS sps) ∧ w.ownsRow (b + 1) 3 1 (.slice oa on oc) op.length (intsV op.reverse)
section
variable {b : Nat} {sv ov : Value} {w w' : World} {sps : List Sp} {op : List Nat}
theorem NgAt.lt (h : NgAt b sv ov w) : b < w.heap.size := (Array.getElem?_eq_some_iff.1 h).1
theorem NgAt.c0 (h : NgAt b sv ov w) : w.cell? ⟨b, 0, none⟩ = some sv := by rw [Lib.cell_of_heap h]; rfl
theorem NgAt.c1 (h : NgAt b sv ov w) : w.cell? ⟨b, 1, none⟩ = some ov := by rw [Lib.cell_of_heap h]; rfl
theorem NgAt.fz (h : NgAt b sv ov w) (j : Nat) : w.frozen? ⟨b, j, none⟩ = false := Lib.frozen_of_heap h j
theorem NgAt.same (h : NgAt b sv ov w) (hb : w'.heap[b]? = w.heap[b]?) : NgAt b sv ov w' := hb.trans h
theorem NgAt.set0 (h : NgAt b sv ov w) (u : Value) : NgAt b u ov (w.setCell ⟨b, 0, none⟩ u) := by
  unfold NgAt at *
  simp [World.setCell, Array.getElem?_modify, h]
theorem NgAt.set1 (h : NgAt b sv ov w) (u : Value) : NgAt b sv u (w.setCell ⟨b, 1, none⟩ u) := by
  unfold NgAt at *
  simp [World.setCell, Array.getElem?_modify, h]
theorem Ng.lt (h : Ng b sps op w) : b < w.heap.size := by
  obtain ⟨_, _, _, _, _, _, h, _⟩ := h
  exact h.lt
theorem Ng.stays (h : Ng b sps op w) (hb : Below w.heap.size w w') : Ng b sps op w' := by
  obtain ⟨_, _, _, _, _, _, h1, h2, h3⟩ := h
  exact ⟨_, _, _, _, _, _, h1.same (hb.block b h1.lt), row_stays h2 hb, row_stays h3 hb⟩
end
theorem infoS : (Try.prog.info? 64).map (fun i => (i.zero, i.size, i.bytes)) = some (some (.agg #[.int .i64 0, .int .i64 0, .int .i64 0]), 3, 24) := by kernel_rfl
theorem infoN : (Try.prog.info? 3).map (fun i => (i.zero, i.size, i.bytes)) = some (some (.int .i64 0), 1, 8) := by kernel_rfl
theorem intsV_app (a b : List Nat) : intsV (a ++ b) = intsV a ++ intsV b := List.map_append
set_option maxRecDepth 100000 in
set_option maxHeartbeats 8000000 in
theorem begin_none (b : Nat) (sps : List Sp) (i : Nat) (W : World) (hG : Ng b sps [] W) (hl : sps.length ≤ 2000000) :
    Calls Try.prog 53 #[.pointer (some ⟨b, 0, none⟩), .int .i64 (i : Int)] W fun e w' => e = .returned (.tuple #[]) ∧ Ng b (sps ++ [⟨i, -1, -1⟩]) [sps.length] w' ∧ Below b W w' := by
  have HG : Hid (Ng b sps [] W) := hG
  have HSL : Hid (sps.length ≤ 2000000) := hl
  have HOL : Hid (([] : List Nat).length ≤ 2000000) := Nat.zero_le _
  obtain ⟨sa, sn, sc, oa, on, oc, k1, k2, k3⟩ := hG
  obtain rfl := slen k2
  obtain rfl := slen k3
  have c1 := k1.c1
  have HBW : Hid (Below b W W) := Below.refl _ _
  clear hl k1 k2 k3
  go_enter Try.func53, Try.ntmps53
  go_wp2_with fail
  clear c1
  -- behind the place around: both rows grow
  obtain ⟨sa, sn, sc, oa, on, oc, k1, k2, k3⟩ := HG.out
  obtain rfl := slen k2
  obtain rfl := slen k3
  have hlt := k1.lt
  obtain ⟨v5, w5, hrun5, hsl5, hown5, hbel5, hot5, hid5⟩ := push_own2 (P := Try.prog) Try.underlying55 infoN rfl (by decide) W.drew (b + 1) _ _ _ (World.ownsRow.drew k3) #[.int .i64 (sps.length : Int)] rfl (by intro u hu; simp at hu; subst hu; rfl) (by have := HOL.out; omega) (by omega) (by show b + 1 ≤ W.heap.size; omega) 55
  obtain ⟨a5, n5, c5, rfl⟩ := hsl5
  have hot5' : ∀ g, g < W.heap.size → (Value.slice oa ([] : List Nat).length oc).ownBlock ≠ some g → w5.heap[g]? = W.heap[g]? := hot5
  have z5 : W.heap.size ≤ w5.heap.size := hbel5.size
  have b5 : Below (b + 1) W w5 := ((Below.refl _ W).drew).trans hbel5
  have m1 : NgAt b (.slice sa sps.length sc) (.slice oa ([] : List Nat).length oc) w5 := k1.same (b5.block b (Nat.lt_succ_self b))
  have m2 : w5.ownsRow (b + 1) 64 3 (.slice sa sps.length sc) sps.length (rowsS sps) := row_block k2 (fun g hg => hot5' g (k2.lt g hg).2 (own_ne k2 k3 (by decide) hg))
  obtain ⟨w6, hw6⟩ : ∃ w6, w5.setCell ⟨b, 1, none⟩ (.slice a5 n5 c5) = w6 := ⟨_, rfl⟩
  have q1 : NgAt b (.slice sa sps.length sc) (.slice a5 n5 c5) w6 := by rw [← hw6]; exact m1.set1 _
  have q2 : w6.ownsRow (b + 1) 64 3 (.slice sa sps.length sc) sps.length (rowsS sps) := by rw [← hw6]; exact row_past' m2
  have q3 : w6.ownsRow (b + 1) 3 1 (.slice a5 n5 c5) (([] : List Nat).length + 1) (intsV (([] : List Nat).reverse) ++ [.int .i64 (sps.length : Int)]) := by rw [← hw6]; exact row_past' hown5
  have qB : Below b W w6 := by rw [← hw6]; exact (b5.mono (Nat.le_succ b)).trans (below_set w5)
  have hlt6 := q1.lt
  obtain ⟨v7, w7, hrun7, hsl7, hown7, hbel7, hot7, hid7⟩ := push_own2 (P := Try.prog) Try.underlying84 infoS rfl (by decide) w6 (b + 1) _ _ _ q2 #[.int .i64 (i : Int), .int .i64 (-1), .int .i64 (-1)] rfl (by intro u hu; simp at hu; rcases hu with rfl | rfl | rfl <;> rfl) (by have := HSL.out; omega) (by omega) (by omega) 84
  obtain ⟨a7, n7, c7, rfl⟩ := hsl7
  have r1 : NgAt b (.slice sa sps.length sc) (.slice a5 n5 c5) w7 := q1.same (hbel7.block b (Nat.lt_succ_self b))
  have r3 : w7.ownsRow (b + 1) 3 1 (.slice a5 n5 c5) (([] : List Nat).length + 1) (intsV (([] : List Nat).reverse) ++ [.int .i64 (sps.length : Int)]) := row_block q3 (fun g hg => hot7 g (q3.lt g hg).2 (own_ne q3 q2 (by decide) hg))
  have HQ : Hid (Ng b (sps ++ [⟨i, -1, -1⟩]) (sps.length :: []) (w7.setCell ⟨b, 0, none⟩ (.slice a7 n7 c7)) ∧ Below b W (w7.setCell ⟨b, 0, none⟩ (.slice a7 n7 c7))) := by
    refine ⟨⟨_, _, _, _, _, _, r1.set0 _, ?_, ?_⟩, qB.trans ((hbel7.mono (Nat.le_succ b)).trans (below_set w7))⟩
    · rw [rowsS_app, List.length_append]
      exact row_past' hown7
    · rw [List.reverse_cons, intsV_app, List.length_cons]
      exact row_past' r3
  have d0 := k1.c0
  have d1 := k1.c1
  have hA : NgAt b (.slice sa sps.length sc) (.slice oa ([] : List Nat).length oc) (W.alloc (.cells #[.int .i64 (sps.length : Int)] 3)) := k1.same (Below.heap_alloc W _ b hlt)
  have a0 := hA.c0
  have a1 := hA.c1
  have e0 := m1.c0
  have e1 := m1.c1
  have f1 := m1.fz 1
  have g0 := q1.c0
  have g1 := q1.c1
  have h0 := r1.c0
  have h1 := r1.c1
  have hf := r1.fz 0
  have hB6 : NgAt b (.slice sa sps.length sc) (.slice a5 n5 c5) (w6.alloc (.cells #[.int .i64 (i : Int), .int .i64 (-1), .int .i64 (-1)] 64)) := q1.same (Below.heap_alloc w6 _ b hlt6)
  have p0 := hB6.c0
  have nb : W.heap.size ≠ b := by omega
  have nb6 : w6.heap.size ≠ b := by omega
  have HW6 : Hid (w5.setCell ⟨b, 1, none⟩ (.slice a5 n5 c5) = w6) := hw6
  obtain ⟨S, hS⟩ : ∃ S : Nat, sps.length = S := ⟨_, rfl⟩
  have hSl : (S : Int) ≤ 2000000 := by have := HSL.out; omega
  rw [hS] at hrun5 d0 a0 a1 e0 g0 h0 p0 hrun7
  clear k1 k2 k3 hown5 hbel5 hot5 hid5 hot5' z5 b5 m1 m2 q1 q2 q3 qB hown7 hbel7 hot7 hid7 r1 r3 hA hB6 hlt hlt6 hw6
  go_region_law (refine step_append_runT (by rfl) _ _ 55 (by rfl) _ _ (by rfl) (by rfl) _ w5 hrun5 ?_)
  all_goals (
    rw [HW6.out]
    clear hrun5 d0 d1 a0 a1 e0 e1 f1 HW6
    go_wp2_with (at_builtin; refine append_run (by rfl) _ _ 84 (by rfl) _ _ (by rfl) (by rfl) _ w7 hrun7 ?_)
    go_end0
    exact ⟨rfl, HQ.out.1, HBW.out.trans HQ.out.2⟩)
set_option maxRecDepth 100000 in
set_option maxHeartbeats 8000000 in
theorem begin_some (b : Nat) (sps : List Sp) (p : Nat) (r : List Nat) (s : Sp) (i : Nat) (w : World) (hG : Ng b sps (p :: r) w) (hl : sps.length ≤ 2000000) (hol : r.length < 2000000) (hs : sps[p]? = some s) :
    Calls Try.prog 53 #[.pointer (some ⟨b, 0, none⟩), .int .i64 (i : Int)] w fun e w' => e = .returned (.tuple #[]) ∧ Ng b (sps ++ [⟨i, -1, (s.at_ : Int)⟩]) (sps.length :: p :: r) w' ∧ Below b w w' := by
  have HG0 : Hid (Ng b sps (p :: r) w) := hG
  have HSL : Hid (sps.length ≤ 2000000) := hl
  have HOL : Hid ((p :: r).length ≤ 2000000) := by show (p :: r).length ≤ 2000000; simp; omega
  obtain ⟨sa, sn, sc, oa, on, oc, k1, k2, k3⟩ := hG
  obtain rfl := slen k2
  have hrev : intsV (p :: r).reverse = intsV r.reverse ++ [.int .i64 (p : Int)] := by rw [List.reverse_cons, intsV_app]; rfl
  rw [hrev] at k3
  obtain ⟨g, cq, hv, hn, hg1, hg2, hcq, hcell, hfz, hset, hrow⟩ := row_top k3
  have hlen : (intsV r.reverse).length = r.length := by unfold intsV; rw [List.length_map, List.length_reverse]
  rw [hlen] at hv hcell
  injection hv with ha hn' hcp
  subst ha
  subst hcp
  subst hn'
  obtain ⟨gs, gc, cur, hsv, hs1, hs2, hs3, hs4, t0, t1, t2, _⟩ := rowS_at k2 hs
  injection hsv with hsa _ hsc
  subst hsa
  subst hsc
  have hp : (p : Int) < (sps.length : Int) := by have := (List.getElem?_eq_some_iff.1 hs).1; omega
  have c0 := k1.c0
  have c1 := k1.c1
  have nsb : gs ≠ b := by omega
  have ngb : g ≠ b := by omega
  obtain ⟨m, hm⟩ : ∃ m, r.length = m := ⟨_, rfl⟩
  have HM : Hid (r.length = m) := hm
  have hm6 : (m : Int) < 2000000 := by omega
  obtain ⟨up, hup⟩ : ∃ up : Int, (s.at_ : Int) = up := ⟨_, rfl⟩
  rw [hup] at t0 ⊢
  rw [hm] at hcell c1
  obtain ⟨S0, hS0⟩ : ∃ S0 : Nat, sps.length = S0 := ⟨_, rfl⟩
  have hSl0 : (S0 : Int) ≤ 2000000 := by omega
  rw [hS0] at c0 hp
  have HS0 : Hid (sps.length = S0) := hS0
  clear hl hol k1 k2 k3 hn hg1 hg2 hcq hfz hset hrow hlen hs1 hs2 hs3 hs4 t1 t2 hs hm hup hrev hS0
  go_enter Try.func53, Try.ntmps53
  go_wp2_with fail
  go_quiet (fail)
  clear c0 c1 hcell t0 nsb ngb hp hSl0 hm6
  have HG : Hid (Ng b sps (p :: r) (w.drewN nq)) := HG0.out.stays (below_drewN w nq)
  have HBW : Hid (Below b w (w.drewN nq)) := (below_drewN w nq).mono (Nat.le_of_lt HG0.out.lt)
  generalize w.drewN nq = W at HG HBW ⊢
  go_wp2_with fail
  -- behind the place around: both rows grow
  obtain ⟨sa, sn, sc, oa, on, oc, k1, k2, k3⟩ := HG.out
  obtain rfl := slen k2
  obtain rfl := slen k3
  have hlt := k1.lt
  obtain ⟨v5, w5, hrun5, hsl5, hown5, hbel5, hot5, hid5⟩ := push_own2 (P := Try.prog) Try.underlying55 infoN rfl (by decide) W.drew (b + 1) _ _ _ (World.ownsRow.drew k3) #[.int .i64 (sps.length : Int)] rfl (by intro u hu; simp at hu; subst hu; rfl) (by have := HOL.out; omega) (by omega) (by show b + 1 ≤ W.heap.size; omega) 55
  obtain ⟨a5, n5, c5, rfl⟩ := hsl5
  have hot5' : ∀ g, g < W.heap.size → (Value.slice oa (p :: r).length oc).ownBlock ≠ some g → w5.heap[g]? = W.heap[g]? := hot5
  have z5 : W.heap.size ≤ w5.heap.size := hbel5.size
  have b5 : Below (b + 1) W w5 := ((Below.refl _ W).drew).trans hbel5
  have m1 : NgAt b (.slice sa sps.length sc) (.slice oa (p :: r).length oc) w5 := k1.same (b5.block b (Nat.lt_succ_self b))
  have m2 : w5.ownsRow (b + 1) 64 3 (.slice sa sps.length sc) sps.length (rowsS sps) := row_block k2 (fun g hg => hot5' g (k2.lt g hg).2 (own_ne k2 k3 (by decide) hg))
  obtain ⟨w6, hw6⟩ : ∃ w6, w5.setCell ⟨b, 1, none⟩ (.slice a5 n5 c5) = w6 := ⟨_, rfl⟩
  have q1 : NgAt b (.slice sa sps.length sc) (.slice a5 n5 c5) w6 := by rw [← hw6]; exact m1.set1 _
  have q2 : w6.ownsRow (b + 1) 64 3 (.slice sa sps.length sc) sps.length (rowsS sps) := by rw [← hw6]; exact row_past' m2
  have q3 : w6.ownsRow (b + 1) 3 1 (.slice a5 n5 c5) ((p :: r).length + 1) (intsV ((p :: r).reverse) ++ [.int .i64 (sps.length : Int)]) := by rw [← hw6]; exact row_past' hown5
  have qB : Below b W w6 := by rw [← hw6]; exact (b5.mono (Nat.le_succ b)).trans (below_set w5)
  have hlt6 := q1.lt
  obtain ⟨v7, w7, hrun7, hsl7, hown7, hbel7, hot7, hid7⟩ := push_own2 (P := Try.prog) Try.underlying84 infoS rfl (by decide) w6 (b + 1) _ _ _ q2 #[.int .i64 (i : Int), .int .i64 (-1), .int .i64 up] rfl (by intro u hu; simp at hu; rcases hu with rfl | rfl | rfl <;> rfl) (by have := HSL.out; omega) (by omega) (by omega) 84
  obtain ⟨a7, n7, c7, rfl⟩ := hsl7
  have r1 : NgAt b (.slice sa sps.length sc) (.slice a5 n5 c5) w7 := q1.same (hbel7.block b (Nat.lt_succ_self b))
  have r3 : w7.ownsRow (b + 1) 3 1 (.slice a5 n5 c5) ((p :: r).length + 1) (intsV ((p :: r).reverse) ++ [.int .i64 (sps.length : Int)]) := row_block q3 (fun g hg => hot7 g (q3.lt g hg).2 (own_ne q3 q2 (by decide) hg))
  have HQ : Hid (Ng b (sps ++ [⟨i, -1, up⟩]) (sps.length :: p :: r) (w7.setCell ⟨b, 0, none⟩ (.slice a7 n7 c7)) ∧ Below b W (w7.setCell ⟨b, 0, none⟩ (.slice a7 n7 c7))) := by
    refine ⟨⟨_, _, _, _, _, _, r1.set0 _, ?_, ?_⟩, qB.trans ((hbel7.mono (Nat.le_succ b)).trans (below_set w7))⟩
    · rw [rowsS_app, List.length_append]
      exact row_past' hown7
    · rw [List.reverse_cons, intsV_app, List.length_cons]
      exact row_past' r3
  have d0 := k1.c0
  have d1 := k1.c1
  have hA : NgAt b (.slice sa sps.length sc) (.slice oa (p :: r).length oc) (W.alloc (.cells #[.int .i64 (sps.length : Int)] 3)) := k1.same (Below.heap_alloc W _ b hlt)
  have a0 := hA.c0
  have a1 := hA.c1
  have e0 := m1.c0
  have e1 := m1.c1
  have f1 := m1.fz 1
  have g0 := q1.c0
  have g1 := q1.c1
  have h0 := r1.c0
  have h1 := r1.c1
  have hf := r1.fz 0
  have hB6 : NgAt b (.slice sa sps.length sc) (.slice a5 n5 c5) (w6.alloc (.cells #[.int .i64 (i : Int), .int .i64 (-1), .int .i64 up] 64)) := q1.same (Below.heap_alloc w6 _ b hlt6)
  have p0 := hB6.c0
  have nb : W.heap.size ≠ b := by omega
  have nb6 : w6.heap.size ≠ b := by omega
  have HW6 : Hid (w5.setCell ⟨b, 1, none⟩ (.slice a5 n5 c5) = w6) := hw6
  obtain ⟨S, hS⟩ : ∃ S : Nat, sps.length = S := ⟨_, rfl⟩
  have hSl : (S : Int) ≤ 2000000 := by have := HSL.out; omega
  rw [hS] at hrun5 d0 a0 a1 e0 g0 h0 p0 hrun7
  clear k1 k2 k3 hown5 hbel5 hot5 hid5 hot5' z5 b5 m1 m2 q1 q2 q3 qB hown7 hbel7 hot7 hid7 r1 r3 hA hB6 hlt hlt6 hw6
  go_region_law (refine step_append_runT (by rfl) _ _ 55 (by rfl) _ _ (by rfl) (by rfl) _ w5 hrun5 ?_)
  all_goals (
    rw [HW6.out]
    clear hrun5 d0 d1 a0 a1 e0 e1 f1 HW6
    go_wp2_with (at_builtin; refine append_run (by rfl) _ _ 84 (by rfl) _ _ (by rfl) (by rfl) _ w7 hrun7 ?_)
    go_end0
    exact ⟨rfl, HQ.out.1, HBW.out.trans HQ.out.2⟩)
set_option maxRecDepth 100000 in
set_option maxHeartbeats 8000000 in
theorem nend_any (b : Nat) (sps : List Sp) (p : Nat) (r : List Nat) (s : Sp) (i : Nat) (w : World) (hG : Ng b sps (p :: r) w) (hl : sps.length ≤ 2000000) (hol : r.length < 2000000) (hs : sps[p]? = some s) :
    Calls Try.prog 54 #[.pointer (some ⟨b, 0, none⟩), .int .i64 (i : Int)] w fun e w' => e = .returned (.tuple #[]) ∧ Ng b (sps.set p ⟨s.at_, (i : Int), s.up⟩) r w' ∧ Below b w w' := by
  obtain ⟨sa, sn, sc, oa, on, oc, k1, k2, k3⟩ := hG
  obtain rfl := slen k2
  have hrev : intsV (p :: r).reverse = intsV r.reverse ++ [.int .i64 (p : Int)] := by rw [List.reverse_cons, intsV_app]; rfl
  rw [hrev] at k3
  obtain ⟨g, cq, hv, hn, hg1, hg2, hcq, hcell, hfz, hset, hrow⟩ := row_top k3
  have hlen : (intsV r.reverse).length = r.length := by unfold intsV; rw [List.length_map, List.length_reverse]
  rw [hlen] at hv hcell hrow
  injection hv with ha hn' hcp
  subst ha
  subst hcp
  subst hn'
  have hcq' : r.length + 1 ≤ oc := by simp at hcq; exact hcq
  obtain ⟨gs, gc, cur, hsv, hs1, hs2, hs3, hs4, t0, t1, t2, tset⟩ := rowS_at k2 hs
  injection hsv with hsa _ hsc
  subst hsa
  subst hsc
  have hp : (p : Int) < (sps.length : Int) := by have := (List.getElem?_eq_some_iff.1 hs).1; omega
  have c0 := k1.c0
  have c1 := k1.c1
  have nsb : gs ≠ b := by omega
  have ngb : g ≠ b := by omega
  have fs : w.frozen? ⟨gs, p * 3 + 1, none⟩ = false := Lib.frozen_of_heap hs4 _
  have hng : g ≠ gs := fun e => own_ne k3 k2 (by decide) (g := g) rfl (by rw [e]; rfl)
  obtain ⟨W, hW⟩ : ∃ W, (w.setCell ⟨gs, p * 3 + 1, none⟩ (.int .i64 (i : Int))).drew = W := ⟨_, rfl⟩
  have hWk : ∀ k, k ≠ gs → W.heap[k]? = w.heap[k]? := fun k hk => by rw [← hW]; exact Below.heap_setCell _ _ _ _ hk
  have l1 : NgAt b (.slice (some ⟨gs, 0, none⟩) sps.length sc) (.slice (some ⟨g, 0, none⟩) (r.length + 1) oc) W := k1.same (hWk b (Ne.symm nsb))
  have l2 : W.ownsRow (b + 1) 64 3 (.slice (some ⟨gs, 0, none⟩) sps.length sc) sps.length (rowsS (sps.set p ⟨s.at_, (i : Int), s.up⟩)) := by rw [← hW]; exact World.ownsRow.drew (tset (i : Int))
  have l3 : W.ownsRow (b + 1) 3 1 (.slice (some ⟨g, 0, none⟩) r.length oc) r.length (intsV r.reverse) := by
    refine row_block hrow (fun g' hg' => hWk g' ?_)
    have e : g = g' := by simpa [Value.ownBlock] using hg'
    rw [← e]
    exact hng
  have e1 := l1.c1
  have ef := l1.fz 1
  have HQ : Hid (Ng b (sps.set p ⟨s.at_, (i : Int), s.up⟩) r (W.setCell ⟨b, 1, none⟩ (.slice (some ⟨g, 0, none⟩) r.length oc)) ∧ Below b w (W.setCell ⟨b, 1, none⟩ (.slice (some ⟨g, 0, none⟩) r.length oc))) := by
    refine ⟨⟨_, _, _, _, _, _, l1.set1 _, ?_, row_past' l3⟩, ?_⟩
    · rw [List.length_set]; exact row_past' l2
    · rw [← hW]
      exact (((Below.refl b w).setCell (show b ≤ gs by omega) _).drew).trans (below_set _)
  obtain ⟨m, hm⟩ : ∃ m, r.length = m := ⟨_, rfl⟩
  have hm6 : (m : Int) < 2000000 := by omega
  obtain ⟨S0, hS0⟩ : ∃ S0 : Nat, sps.length = S0 := ⟨_, rfl⟩
  have hSl0 : (S0 : Int) ≤ 2000000 := by omega
  rw [hm] at hcell c1 e1 HQ hcq'
  rw [hS0] at c0 hp
  have HW : Hid ((w.setCell ⟨gs, p * 3 + 1, none⟩ (.int .i64 (i : Int))).drew = W) := hW
  clear hl hol k1 k2 k3 hn hg1 hg2 hcq hfz hset hrow hlen hs1 hs2 hs3 hs4 t0 t2 hs hm hrev hS0 hW hWk l1 l2 l3 tset
  go_enter Try.func54, Try.ntmps54
  go_wp2_with fail
  go_region
  all_goals (
    rw [HW.out]
    clear HW hcell c0 c1 fs hp t1
    go_wp2_with fail
    go_end0
    exact ⟨rfl, HQ.out⟩)
end Go.Proofs.Ytmbbmibkjnlkkaa
/- Nodes within events: what the program gathers of all nodes is what the specification answers. -/
namespace Go.Proofs.Ytmbbmibkjnlkkaa
open Go.RowKit
def fEnd (i : Int) (f : Int) (n : Sp) : Int := if (n.at_ : Int) = i then n.end_ else f
def ahead (n : Sp) (i : Int) : Bool := decide (n.end_ ≠ -1) && decide (n.end_ < i)
def fUp (i : Int) (f : Int) (n : Sp) : Int := if (n.at_ : Int) < i ∧ ahead n i = false then (n.at_ : Int) else f
def fIn (u : Int) (f : List Nat) (n : Sp) : List Nat := if n.up = u then f ++ [n.at_] else f
/-- What is gathered of the nodes ahead of k. -/
def gat {α : Type} (l : List Ev) (F : α → Sp → α) (a : α) (k : Nat) : α := ((nodesTo l k).map (fin l)).foldl F a
section
variable {α : Type} {l : List Ev} {F : α → Sp → α} {a : α} {k : Nat}
theorem gat_zero : gat l F a 0 = a := rfl
theorem gat_yes (h : nodB l k = true) : gat l F a (k + 1) = F (gat l F a k) (fin l k) := by
  unfold gat
  rw [nodesTo_yes h, List.map_append, List.foldl_append]
  rfl
theorem gat_no (h : nodB l k = false) : gat l F a (k + 1) = gat l F a k := by
  unfold gat
  rw [nodesTo_no h]
theorem gat_all : (spansF l).foldl F a = gat l F a l.length := rfl
end
theorem gat_end (l : List Ev) (i : Int) : ∀ k, gat l (fEnd i) (-1) k = if 0 ≤ i ∧ i < (k : Int) ∧ nodB l i.toNat = true then endN l i.toNat else -1
  | 0 => by rw [gat_zero, if_neg (by omega)]
  | k + 1 => by
    have ih := gat_end l i k
    cases hb : nodB l k
    · rw [gat_no hb, ih]
      by_cases h : 0 ≤ i ∧ i < (k : Int) ∧ nodB l i.toNat = true
      · rw [if_pos h, if_pos ⟨h.1, by omega, h.2.2⟩]
      · rw [if_neg h, if_neg]
        rintro ⟨h1, h2, h3⟩
        by_cases e : i = (k : Int)
        · subst e
          rw [show (k : Int).toNat = k by omega, hb] at h3
          cases h3
        · exact h ⟨h1, by omega, h3⟩
    · rw [gat_yes hb, ih]
      unfold fEnd fin
      by_cases e : (k : Int) = i
      · subst e
        rw [if_pos rfl, if_pos ⟨by omega, by omega, by rw [show (k : Int).toNat = k by omega]; exact hb⟩]
        rw [show (k : Int).toNat = k by omega]
      · rw [if_neg e]
        by_cases h : 0 ≤ i ∧ i < (k : Int) ∧ nodB l i.toNat = true
        · rw [if_pos h, if_pos ⟨h.1, by omega, h.2.2⟩]
        · rw [if_neg h, if_neg (fun h' => h ⟨h'.1, by omega, h'.2.2⟩)]
theorem end_gat {l : List Ev} (h : nested l = true) (i : Int) : gat l (fEnd i) (-1) l.length = endOf l i := by
  rw [gat_end]
  unfold endOf
  by_cases hi : i < 0 ∨ (l.length : Int) ≤ i
  · rw [if_neg (by omega), if_pos (by omega)]
  · have hno : ¬ (nested l = false ∨ i < 0 ∨ (l.length : Int) ≤ i) := by rw [h]; simp; omega
    rw [if_neg (c := nested l = false ∨ i < 0 ∨ (l.length : Int) ≤ i) hno]
    by_cases hb : nodB l i.toNat = true
    · rw [if_pos ⟨by omega, by omega, hb⟩]
    · rw [if_neg (fun h' => hb h'.2.2)]
      unfold endN
      unfold nodB at hb
      split
      · rfl
      · rename_i e he
        rw [he] at hb
        simp at hb
        rw [if_pos hb]
theorem head_max {l : List Ev} {k x : Nat} (h : x ∈ stk l k) : (x : Int) ≤ headI (stk l k) := by
  have hp := stk_down l k
  cases hs : stk l k with
  | nil => rw [hs] at h; simp at h
  | cons a r =>
    rw [hs] at h hp
    rcases List.mem_cons.1 h with rfl | h'
    · exact Int.le_refl _
    · have := (List.pairwise_cons.1 hp).1 x h'
      show (x : Int) ≤ (a : Int)
      omega
theorem ahead_open {l : List Ev} {j i : Nat} {e : Ev} (he : l[j]? = some e) (hn : nodE e = true) (hji : j < i) (hi : i ≤ l.length) : ahead (fin l j) i = false ↔ j ∈ stk l i := by
  rw [open_iff he hn hji hi]
  have hj : j < l.length := (List.getElem?_eq_some_iff.1 he).1
  have := endN_le l j (by omega)
  unfold ahead fin
  simp
  omega
/-- The greatest one that is open at i, of those ahead of k. -/
theorem gat_up (l : List Ev) (i : Nat) (hi : i < l.length) : ∀ k, k ≤ i → ((gat l (fUp i) (-1) k = -1 ∧ ∀ x ∈ stk l i, ¬ x < k) ∨ ∃ m : Nat, gat l (fUp i) (-1) k = (m : Int) ∧ m ∈ stk l i ∧ m < k ∧ ∀ x ∈ stk l i, x < k → x ≤ m)
  | 0, _ => .inl ⟨rfl, fun x _ => by omega⟩
  | k + 1, hk => by
    have ih := gat_up l i hi k (by omega)
    obtain ⟨e, he⟩ : ∃ e, l[k]? = some e := ⟨_, List.getElem?_eq_getElem (by omega)⟩
    have hnb := nodB_some he
    by_cases hm : k ∈ stk l i
    · obtain ⟨e', he', hc'⟩ := stk_is l i k hm
      rw [he] at he'
      injection he' with he'
      subst he'
      have hn := col_node hc'
      right
      refine ⟨k, ?_, hm, by omega, fun x _ hx => by omega⟩
      rw [gat_yes (by rw [hnb]; exact hn)]
      unfold fUp
      rw [if_pos ⟨by show (k : Int) < i; omega, (ahead_open he hn (by omega) (by omega)).2 hm⟩]
      rfl
    · have hsame : gat l (fUp i) (-1) (k + 1) = gat l (fUp i) (-1) k := by
        cases hn : nodE e
        · exact gat_no (by rw [hnb]; exact hn)
        · rw [gat_yes (by rw [hnb]; exact hn)]
          unfold fUp
          rw [if_neg]
          rintro ⟨_, h⟩
          exact hm ((ahead_open he hn (by omega) (by omega)).1 h)
      rw [hsame]
      have hx : ∀ x ∈ stk l i, x < k + 1 → x < k := by
        intro x hx1 hx2
        have : x ≠ k := fun e => hm (e ▸ hx1)
        omega
      rcases ih with ⟨h1, h2⟩ | ⟨m, h1, h2, h3, h4⟩
      · exact .inl ⟨h1, fun x h h' => h2 x h (hx x h h')⟩
      · exact .inr ⟨m, h1, h2, by omega, fun x h h' => h4 x h (hx x h h')⟩
theorem gat_up_on (l : List Ev) (i : Int) : ∀ (d k : Nat), (k : Int) ≥ i → gat l (fUp i) (-1) (k + d) = gat l (fUp i) (-1) k
  | 0, k, _ => rfl
  | d + 1, k, hk => by
    rw [show k + (d + 1) = (k + d) + 1 by omega, ← gat_up_on l i d k hk]
    cases hb : nodB l (k + d)
    · exact gat_no hb
    · rw [gat_yes hb]
      unfold fUp
      rw [if_neg]
      rintro ⟨h, _⟩
      have : ((fin l (k + d)).at_ : Int) = ((k + d : Nat) : Int) := rfl
      omega
theorem up_gat {l : List Ev} (h : nested l = true) (i : Int) (hi : i < (l.length : Int)) : gat l (fUp i) (-1) l.length = upOf l i := by
  unfold upOf
  by_cases h0 : i < 0
  · rw [if_pos (by omega)]
    have := gat_up_on l i l.length 0 (by omega)
    rw [Nat.zero_add] at this
    rw [this]
    rfl
  · rw [if_neg (by rw [h]; simp; omega)]
    obtain ⟨n, rfl⟩ : ∃ n : Nat, i = (n : Int) := ⟨i.toNat, by omega⟩
    have h1 := gat_up_on l n (l.length - n) n (by omega)
    rw [show n + (l.length - n) = l.length by omega] at h1
    rw [h1, show (n : Int).toNat = n by omega, up_head l n (by omega)]
    rcases gat_up l n (by omega) n (Nat.le_refl _) with ⟨h2, h3⟩ | ⟨m, h2, h3, h4, h5⟩
    · rw [h2]
      cases hs : stk l n with
      | nil => rfl
      | cons a r => exact absurd (stk_lt l n a (by rw [hs]; exact List.mem_cons_self)) (h3 a (by rw [hs]; exact List.mem_cons_self))
    · rw [h2]
      have hmx := head_max h3
      cases hs : stk l n with
      | nil => rw [hs] at h3; simp at h3
      | cons a r =>
        have ha : a ∈ stk l n := by rw [hs]; exact List.mem_cons_self
        have := h5 a ha (stk_lt l n a ha)
        rw [hs] at hmx
        have hh : headI (a :: r) = (a : Int) := rfl
        rw [hh] at hmx ⊢
        omega
/-- The members are those that have it around them. -/
def inAt (l : List Ev) (u : Int) (j : Nat) : Bool := nodB l j && decide (upG l j 0 = u)
theorem gat_in (l : List Ev) (u : Int) : ∀ k, gat l (fIn u) [] k = (List.range k).filter (inAt l u)
  | 0 => rfl
  | k + 1 => by
    have ih := gat_in l u k
    rw [List.range_succ, List.filter_append, ← ih]
    cases hb : nodB l k
    · rw [gat_no hb]
      simp [inAt, hb]
    · rw [gat_yes hb]
      unfold fIn
      show (if upG l k 0 = u then gat l _ [] k ++ [k] else gat l _ [] k) = _
      by_cases e : upG l k 0 = u
      · simp [inAt, hb, e]
      · simp [inAt, hb, e]
theorem roots_gat {l : List Ev} (h : nested l = true) : gat l (fIn (-1)) [] l.length = rootsOf l := by
  rw [gat_in]
  unfold rootsOf rootsTo
  apply List.filter_congr
  intro j hj
  have hjl : j < l.length := by simpa using hj
  obtain ⟨e, he⟩ : ∃ e, l[j]? = some e := ⟨_, List.getElem?_eq_getElem hjl⟩
  have hN := ns_at h he
  unfold inAt rootAt
  rw [nodB_some he, he, h]
  cases hn : nodE e
  · simp [hn]
  · have hr := hN.root hn
    rw [up_head l j (by omega)]
    have hh : headI (stk l j) = -1 ↔ stk l j = [] := by
      cases stk l j with
      | nil => simp [headI]
      | cons a r => simp [headI]
    rw [← hh] at hr
    by_cases h1 : headI (stk l j) = -1
    · have := hr.1 h1
      simp [h1, this, hn]
    · have : ¬ (0 < j ∧ kindAt l (j - 1) = 2) := fun h' => h1 (hr.2 h')
      simp [h1, hn]
      intro h3 h4
      exact this ⟨h3, h4⟩
/-- .. from k on. -/
def seg (l : List Ev) (u : Int) (k : Nat) : List Nat := (List.range' k (l.length - k)).filter (inAt l u)
theorem seg_end (l : List Ev) (u : Int) (k : Nat) (h : l.length ≤ k) : seg l u k = [] := by
  unfold seg
  rw [show l.length - k = 0 by omega]
  rfl
theorem seg_yes {l : List Ev} {u : Int} {k : Nat} (hk : k < l.length) (h : inAt l u k = true) : seg l u k = k :: seg l u (k + 1) := by
  unfold seg
  rw [show l.length - k = (l.length - (k + 1)) + 1 by omega, List.range'_succ, List.filter_cons, if_pos h]
theorem seg_no {l : List Ev} {u : Int} {k : Nat} (h : inAt l u k = false) : seg l u k = seg l u (k + 1) := by
  by_cases hk : k < l.length
  · unfold seg
    rw [show l.length - k = (l.length - (k + 1)) + 1 by omega, List.range'_succ, List.filter_cons, if_neg (by simp [h])]
  · rw [seg_end l u k (by omega), seg_end l u (k + 1) (by omega)]
theorem seg_skip {l : List Ev} {u : Int} : ∀ (d k : Nat), (∀ j, k ≤ j → j < k + d → inAt l u j = false) → seg l u k = seg l u (k + d)
  | 0, k, _ => rfl
  | d + 1, k, h => by
    rw [seg_no (h k (Nat.le_refl _) (by omega)), seg_skip d (k + 1) (fun j h1 h2 => h j (by omega) (by omega))]
    congr 1
    omega
theorem stk_gone {l : List Ev} {i k : Nat} (hik : i < k) (h : i ∉ stk l k) : ∀ d, i ∉ stk l (k + d)
  | 0 => h
  | d + 1 => by
    have ih := stk_gone hik h d
    rw [show k + (d + 1) = (k + d) + 1 by omega, stk]
    split
    · exact ih
    · split
      · intro hm
        rcases List.mem_cons.1 hm with e | e
        · omega
        · exact ih e
      · split
        · exact fun hm => ih (List.mem_of_mem_tail hm)
        · exact ih
theorem not_in {l : List Ev} {i j : Nat} (hj : j ≤ l.length) (h : headI (stk l j) ≠ (i : Int)) : inAt l i j = false := by
  unfold inAt
  rw [up_head l j hj]
  simp [h]
/-- Behind the node k the stack is what it was ahead of it. -/
theorem stk_behind {l : List Ev} {k e : Nat} {ev : Ev} (he : l[k]? = some ev) (hn : nodE ev = true) (hE : endN l k = (e : Int)) : stk l (e + 1) = stk l k ∧ k ≤ e ∧ e < l.length := by
  have hk : k < l.length := (List.getElem?_eq_some_iff.1 he).1
  have hle := endN_le l k (by omega)
  have hek : k ≤ e ∧ e < l.length := by omega
  refine ⟨?_, hek⟩
  by_cases hc : colE ev = true
  · obtain ⟨e1, he1⟩ : ∃ e1, l[e]? = some e1 := ⟨_, List.getElem?_eq_getElem hek.2⟩
    have hne : k ≠ e := by
      intro h'
      subst h'
      rw [endN_col he hc] at hE
      rcases endG_le (l.drop (k + 1)) (k + 1) 1 with h | h
      · omega
      · omega
    obtain ⟨h7, hh⟩ := endN_hit he hn (by omega) he1 hE
    obtain ⟨_, hd⟩ := end_in l e 0 k (by omega) (by rw [← List.head?_eq_getElem?]; exact hh)
    rw [stk_end he1 h7, ← hd]
    simp
  · have hcf : colE ev = false := by simpa using hc
    have := endN_leaf he hn hcf
    have hke : e = k := by omega
    subst hke
    refine stk_else he hcf ?_
    unfold nodE at hn
    simp at hn
    omega
theorem kid_seg {l : List Ev} (h : nested l = true) (i : Nat) (r : List Nat) : ∀ (f k : Nat) (acc : List Nat), l.length < f + k → k ≤ l.length → stk l k = i :: r → kidG l f k acc = acc ++ seg l i k
  | 0, k, acc, hf, hk, _ => by omega
  | f + 1, k, acc, hf, hk, hs => by
    have hik : i < k := stk_lt l k i (by rw [hs]; exact List.mem_cons_self)
    rw [kidG]
    cases he : l[k]? with
    | none =>
      have : l.length ≤ k := List.getElem?_eq_none_iff.1 he
      simp [seg_end l i k this]
    | some e =>
      have hkl : k < l.length := (List.getElem?_eq_some_iff.1 he).1
      have hN := ns_at h he
      simp only []
      cases hn : nodE e
      · simp only [if_true]
        have hk0 : inAt l i k = false := by unfold inAt; rw [nodB_some he, hn]; rfl
        by_cases h7 : e.kind = 7
        · have hg : i ∉ stk l (k + 1) := by
            rw [stk_end he h7, hs]
            have hp := stk_down l k
            rw [hs] at hp
            intro hm
            have := (List.pairwise_cons.1 hp).1 i hm
            omega
          rw [seg_skip (l.length - k) k, seg_end _ _ _ (by omega), List.append_nil]
          intro j h1 h2
          by_cases e1 : j = k
          · rw [e1]; exact hk0
          · have hgj := stk_gone (by omega) hg (j - (k + 1))
            rw [show k + 1 + (j - (k + 1)) = j by omega] at hgj
            refine not_in (by omega) (fun hh => hgj ?_)
            cases hsj : stk l j with
            | nil => rw [hsj] at hh; simp [headI] at hh
            | cons a q =>
              rw [hsj] at hh
              have : (a : Int) = (i : Int) := hh
              rw [show i = a by omega]
              exact List.mem_cons_self
        · have hlast := hN.last hn h7 (by rw [hs]; simp)
          rw [seg_no hk0, seg_end _ _ _ (by omega), List.append_nil]
      · have hin : inAt l i k = true := by
          unfold inAt
          rw [nodB_some he, hn, up_head l k (by omega), hs]
          simp [headI]
        have hbusy : ∀ j, k < j → j ≤ l.length → (endN l k < 0 ∨ (j : Int) ≤ endN l k) → inAt l i j = false := by
          intro j h1 h2 h3
          have hm := (open_iff he hn h1 h2).2 h3
          have := head_max hm
          exact not_in h2 (by omega)
        rw [seg_yes hkl hin]
        simp only [Bool.true_eq_false, if_false]
        by_cases hneg : endN l k < 0
        · rw [if_pos hneg, seg_skip (l.length - (k + 1)) (k + 1), seg_end _ _ _ (by omega)]
          intro j h1 h2
          exact hbusy j (by omega) (by omega) (.inl hneg)
        · rw [if_neg hneg]
          obtain ⟨m, hm⟩ : ∃ m : Nat, endN l k = (m : Int) := ⟨(endN l k).toNat, by omega⟩
          obtain ⟨hst, hkm, hml⟩ := stk_behind he hn hm
          rw [hm, show (m : Int).toNat = m by omega]
          rw [kid_seg h i r f (m + 1) (acc ++ [k]) (by omega) (by omega) (by rw [hst]; exact hs)]
          rw [seg_skip (m - k) (k + 1), show k + 1 + (m - k) = m + 1 by omega]
          · simp
          · intro j h1 h2
            exact hbusy j (by omega) (by omega) (.inr (by omega))
theorem range_seg (l : List Ev) (u : Int) : (List.range l.length).filter (inAt l u) = seg l u 0 := by
  unfold seg
  rw [List.range_eq_range', Nat.sub_zero]
theorem kids_gat {l : List Ev} (h : nested l = true) (i : Int) (h0 : 0 ≤ i) : gat l (fIn i) [] l.length = kidsOfE l i := by
  rw [gat_in]
  have hup : ∀ j, j < l.length → inAt l i j = true → ∃ n : Nat, i = (n : Int) ∧ n ∈ stk l j := by
    intro j hj hin
    unfold inAt at hin
    rw [up_head l j (by omega)] at hin
    simp at hin
    cases hs : stk l j with
    | nil => rw [hs] at hin; have := hin.2; simp [headI] at this; omega
    | cons a q =>
      rw [hs] at hin
      exact ⟨a, hin.2.symm, List.mem_cons_self⟩
  unfold kidsOfE
  by_cases hi : (l.length : Int) ≤ i
  · rw [if_pos (by omega), List.filter_eq_nil_iff]
    intro j hj hin
    have hjl : j < l.length := by simpa using hj
    obtain ⟨n, rfl, hm⟩ := hup j hjl hin
    have := stk_lt l j n hm
    omega
  · rw [if_neg (by rw [h]; simp; omega)]
    obtain ⟨n, rfl⟩ : ∃ n : Nat, i = (n : Int) := ⟨i.toNat, by omega⟩
    rw [show (n : Int).toNat = n by omega]
    obtain ⟨e, he⟩ : ∃ e, l[n]? = some e := ⟨_, List.getElem?_eq_getElem (by omega)⟩
    unfold kidN
    rw [he]
    simp only []
    cases hc : colE e
    · simp only [if_true]
      rw [List.filter_eq_nil_iff]
      intro j hj hin
      have hjl : j < l.length := by simpa using hj
      obtain ⟨m, hm1, hm⟩ := hup j hjl hin
      obtain ⟨e', he', hc'⟩ := stk_is l j m hm
      rw [show m = n by omega, he] at he'
      injection he' with he'
      subst he'
      rw [hc] at hc'
      cases hc'
    · simp only [Bool.true_eq_false, if_false]
      rw [kid_seg h n (stk l n) (l.length + 1) (n + 1) [] (by omega) (by omega) (stk_col he hc), List.nil_append, range_seg]
      have := seg_skip (l := l) (u := (n : Int)) (n + 1) 0
      rw [Nat.zero_add] at this
      refine this ?_
      intro j _ hj
      cases hin : inAt l n j
      · rfl
      · obtain ⟨m, hm1, hm⟩ := hup j (by omega) hin
        have := stk_lt l j m hm
        omega
end Go.Proofs.Ytmbbmibkjnlkkaa
