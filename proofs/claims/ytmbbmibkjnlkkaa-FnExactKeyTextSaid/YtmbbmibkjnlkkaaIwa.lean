/- impl's walk over a stream, as it lies in memory, and its methods but leave. -/
import Derived.Test.YtmbbmibkjnlkkaaPwk
import Derived.Test.YtmbbmibkjnlkkaaRwi
import Derived.Test.YtmbbmibkjnlkkaaProg
import Derived.Deep.Light
import Derived.Lib.Builder
import Derived.OwnWalk
import Derived.WalkMore
import Derived.WalkLawsBesides
import Derived.WalkSpells
import Derived.Deep.QuietTactic
import Derived.BigQuiet
namespace Go.Proofs.Ytmbbmibkjnlkkaa
open Go.ChangeShapes Go.WideShapes Go.ChangeAt Go.RowKit
theorem step_append_runT {P : Program} {ops : Array Oper} {o : Oper} {a : Act} {w : World} {K : Act → World → Prop} {Q : Exit → Act → World → Prop} {E : Prop}
    (hg : o.guard = none) (s x : Operand) (t : TypeId) (hop : o.op = Op.call { callee := Callee.builtin Builtin.append, args := #[s, x], argTypes := #[t, t] })
    (v u : Value) (hs : a.eval s = v) (hx : a.eval x = u) (r : Value) (w' : World) (hrun : (Builtin.append_ #[t, t] o.type #[v, u]).run P w = .ok r w')
    (hK : K (a.put o.dst r) w') :
    if Region.wanted o (yielded ops a.tmps) = true then Oper.wp P o a w K Q else E := by
  have hw : Region.wanted o (yielded ops a.tmps) = true := by simp [Region.wanted, hg]
  rw [if_pos hw]
  unfold Oper.wp execOp
  simp only [hop, resolve, invoke, builtin, Sem.run_bind, Sem.run_pure, Result.andThen_ok, List.map_toArray, List.map_cons, List.map_nil, hs, hx, hrun]
  exact hK
def intV (l : List Int) : List Value := l.map fun x => Value.int .i64 x
/-- The walk at block b: the kind of its place, and those around it as they lie. -/
def WkAt (b : Nat) (c : Int) (v : Value) (w : World) : Prop := w.heap[b]? = some (.cells #[.int .i64 c, v] 95 (0, 0))
def Wk (b : Nat) (c : Int) (ar : List Int) (w : World) : Prop := ∃ a n cp, WkAt b c (.slice a n cp) w ∧ w.ownsRow (b + 1) 92 1 (.slice a n cp) ar.length (intV ar.reverse)
theorem WkAt.lt {b : Nat} {c : Int} {v : Value} {w : World} (h : WkAt b c v w) : b < w.heap.size := (Array.getElem?_eq_some_iff.1 h).1
theorem WkAt.c0 {b : Nat} {c : Int} {v : Value} {w : World} (h : WkAt b c v w) : w.cell? ⟨b, 0, none⟩ = some (.int .i64 c) := by rw [Lib.cell_of_heap h]; rfl
theorem WkAt.c1 {b : Nat} {c : Int} {v : Value} {w : World} (h : WkAt b c v w) : w.cell? ⟨b, 1, none⟩ = some v := by rw [Lib.cell_of_heap h]; rfl
theorem WkAt.fz {b : Nat} {c : Int} {v : Value} {w : World} (h : WkAt b c v w) (j : Nat) : w.frozen? ⟨b, j, none⟩ = false := Lib.frozen_of_heap h j
theorem WkAt.stays {b B : Nat} {c : Int} {v : Value} {w w' : World} (h : WkAt b c v w) (hb : Below B w w') (hB : b < B) : WkAt b c v w' := (hb.block b hB).trans h
theorem WkAt.set0 {b : Nat} {c : Int} {v : Value} {w : World} (h : WkAt b c v w) (d : Int) : WkAt b d v (w.setCell ⟨b, 0, none⟩ (.int .i64 d)) := by
  unfold WkAt at *
  simp [World.setCell, Array.getElem?_modify, h]
theorem WkAt.set1 {b : Nat} {c : Int} {v : Value} {w : World} (h : WkAt b c v w) (u : Value) : WkAt b c u (w.setCell ⟨b, 1, none⟩ u) := by
  unfold WkAt at *
  simp [World.setCell, Array.getElem?_modify, h]
theorem row_past' {w : World} {b e sz j : Nat} {v u : Value} {n : Nat} {xs : List Value} (h : w.ownsRow (b + 1) e sz v n xs) : (w.setCell ⟨b, j, none⟩ u).ownsRow (b + 1) e sz v n xs :=
  row_same h (fun k hk _ => Below.heap_setCell _ _ _ _ (by simp; omega))
theorem below_set {b j : Nat} {u : Value} (w : World) : Below b w (w.setCell ⟨b, j, none⟩ u) := by
  have := (Below.refl b w).setCell (show b ≤ (⟨b, j, none⟩ : Addr).block from Nat.le_refl b) u
  exact this
theorem Wk.lt {b : Nat} {c : Int} {ar : List Int} {w : World} (h : Wk b c ar w) : b < w.heap.size := by
  obtain ⟨_, _, _, h, _⟩ := h
  exact h.lt
theorem Wk.stays {b : Nat} {c : Int} {ar : List Int} {w w' : World} (h : Wk b c ar w) (hb : Below w.heap.size w w') : Wk b c ar w' := by
  obtain ⟨a, n, cp, h1, h2⟩ := h
  exact ⟨a, n, cp, h1.stays hb h1.lt, row_stays h2 hb⟩
theorem Wk.set0 {b : Nat} {c : Int} {ar : List Int} {w : World} (h : Wk b c ar w) (d : Int) : Wk b d ar (w.setCell ⟨b, 0, none⟩ (.int .i64 d)) := by
  obtain ⟨a, n, cp, h1, h2⟩ := h
  exact ⟨a, n, cp, h1.set0 d, row_past' h2⟩
set_option maxHeartbeats 2000000 in
theorem turn_yes (b : Nat) (c d : Int) (ar : List Int) (w : World) (hW : Wk b c ar w) :
    Calls Try.prog 61 #[.pointer (some ⟨b, 0, none⟩), .int .i64 c, .int .i64 d] w fun e w' => e = .returned (.bool true) ∧ Wk b d ar w' ∧ Below b w w' := by
  have HW : Hid (Wk b c ar w) := hW
  obtain ⟨a, n, cp, h1, _⟩ := hW
  have c0 := h1.c0
  have f0 := h1.fz 0
  have t0 : (c != c) = false := by simp
  clear h1
  go_enter Try.func61, Try.ntmps61
  go_wp2_with fail
  go_ret
  exact ⟨rfl, HW.out.set0 d, below_set w⟩
set_option maxHeartbeats 2000000 in
theorem turn_no (b : Nat) (c f d : Int) (ar : List Int) (w : World) (hW : Wk b c ar w) (hn : c ≠ f) :
    Calls Try.prog 61 #[.pointer (some ⟨b, 0, none⟩), .int .i64 f, .int .i64 d] w fun e w' => e = .returned (.bool false) ∧ Below b w w' := by
  obtain ⟨a, n, cp, h1, _⟩ := hW
  have c0 := h1.c0
  have t0 : (c != f) = true := by rw [bne_iff_ne]; exact hn
  clear h1 hn
  go_enter Try.func61, Try.ntmps61
  go_wp2_with fail
  go_ret
  exact ⟨rfl, Below.refl _ _⟩
set_option maxHeartbeats 2000000 in
theorem node_yes (b : Nat) (c d : Int) (ar : List Int) (w : World) (hW : Wk b c ar w) (hd : nd c = some d) :
    Calls Try.prog 62 #[.pointer (some ⟨b, 0, none⟩)] w fun e w' => e = .returned (.bool true) ∧ Wk b d ar w' ∧ Below b w w' := by
  have HW : Hid (Wk b c ar w) := hW
  obtain ⟨a, n, cp, h1, _⟩ := hW
  have c0 := h1.c0
  have f0 := h1.fz 0
  clear h1
  have hc : (c = 2 ∧ d = 3) ∨ (c = 5 ∧ d = 6) ∨ (c = 6 ∧ d = 5) ∨ (c = 4 ∧ d = 4) := by
    unfold nd at hd
    split at hd
    · injection hd with hd; omega
    · split at hd
      · injection hd with hd; omega
      · split at hd
        · injection hd with hd; omega
        · split at hd
          · injection hd with hd; omega
          · cases hd
  clear hd
  rcases hc with ⟨rfl, rfl⟩ | ⟨rfl, rfl⟩ | ⟨rfl, rfl⟩ | ⟨rfl, rfl⟩
  · go_enter Try.func62, Try.ntmps62
    go_wp2_with fail
    go_ret
    exact ⟨rfl, HW.out.set0 3, below_set w⟩
  · go_enter Try.func62, Try.ntmps62
    go_wp2_with fail
    go_ret
    exact ⟨rfl, HW.out.set0 6, below_set w⟩
  · go_enter Try.func62, Try.ntmps62
    go_wp2_with fail
    go_ret
    exact ⟨rfl, HW.out.set0 5, below_set w⟩
  · go_enter Try.func62, Try.ntmps62
    go_wp2_with fail
    go_ret
    exact ⟨rfl, HW.out, Below.refl _ _⟩
set_option maxHeartbeats 2000000 in
theorem node_no (b : Nat) (c : Int) (ar : List Int) (w : World) (hW : Wk b c ar w) (hd : nd c = none) :
    Calls Try.prog 62 #[.pointer (some ⟨b, 0, none⟩)] w fun e w' => e = .returned (.bool false) ∧ Below b w w' := by
  obtain ⟨a, n, cp, h1, _⟩ := hW
  have c0 := h1.c0
  clear h1
  have hc : c ≠ 2 ∧ c ≠ 5 ∧ c ≠ 6 ∧ c ≠ 4 := by
    unfold nd at hd
    split at hd
    · cases hd
    · split at hd
      · cases hd
      · split at hd
        · cases hd
        · split at hd
          · cases hd
          · omega
  have t2 : (c == 2) = false := by rw [beq_eq_false_iff_ne]; omega
  have t5 : (c == 5) = false := by rw [beq_eq_false_iff_ne]; omega
  have t6 : (c == 6) = false := by rw [beq_eq_false_iff_ne]; omega
  have t4 : (c == 4) = false := by rw [beq_eq_false_iff_ne]; omega
  clear hd hc
  go_enter Try.func62, Try.ntmps62
  go_wp2_with fail
  go_ret
  exact ⟨rfl, Below.refl _ _⟩
set_option maxHeartbeats 2000000 in
theorem fail_yes (b : Nat) (c : Int) (ar : List Int) (w : World) (hW : Wk b c ar w) (h0 : c ≠ 0) (h7 : c ≠ 7) :
    Calls Try.prog 65 #[.pointer (some ⟨b, 0, none⟩)] w fun e w' => e = .returned (.bool true) ∧ Wk b 7 ar w' ∧ Below b w w' := by
  have HW : Hid (Wk b c ar w) := hW
  obtain ⟨a, n, cp, h1, _⟩ := hW
  have c0 := h1.c0
  have f0 := h1.fz 0
  have t0 : (c == 0) = false := by rw [beq_eq_false_iff_ne]; omega
  have t7 : (c == 7) = false := by rw [beq_eq_false_iff_ne]; omega
  clear h1 h0 h7
  go_enter Try.func65, Try.ntmps65
  go_wp2_with fail
  go_ret
  exact ⟨rfl, HW.out.set0 7, below_set w⟩
set_option maxHeartbeats 2000000 in
theorem fail_no (b : Nat) (c : Int) (ar : List Int) (w : World) (hW : Wk b c ar w) (hc : c = 0 ∨ c = 7) :
    Calls Try.prog 65 #[.pointer (some ⟨b, 0, none⟩)] w fun e w' => e = .returned (.bool false) ∧ Below b w w' := by
  obtain ⟨a, n, cp, h1, _⟩ := hW
  have c0 := h1.c0
  clear h1
  rcases hc with rfl | rfl
  · go_enter Try.func65, Try.ntmps65
    go_wp2_with fail
    go_ret
    exact ⟨rfl, Below.refl _ _⟩
  · go_enter Try.func65, Try.ntmps65
    go_wp2_with fail
    go_ret
    exact ⟨rfl, Below.refl _ _⟩
theorem infoW : (Try.prog.info? 92).map (fun i => (i.zero, i.size, i.bytes)) = some (some (.int .i64 0), 1, 8) := by kernel_rfl
set_option maxHeartbeats 8000000 in
theorem enter_any (b : Nat) (c d : Int) (ar : List Int) (w : World) (hW : Wk b c ar w) (hl : ar.length ≤ 100000000) :
    Calls Try.prog 63 #[.pointer (some ⟨b, 0, none⟩), .int .i64 d] w fun e w' => e = .returned (.bool true) ∧ Wk b d (c :: ar) w' ∧ Below b w w' := by
  obtain ⟨a, n, cp, h1, h2⟩ := hW
  have hlt := h1.lt
  obtain ⟨v5, w5, hrun5, hsl5, hown5, hbel5, hot5⟩ := push_own (P := Try.prog) Try.underlying93 infoW rfl (by decide) w.drew (b + 1) _ _ _ (World.ownsRow.drew h2) #[.int .i64 c] rfl (by intro u hu; simp at hu; subst hu; rfl) hl (by omega) (by show b + 1 ≤ w.heap.size; omega) 93
  obtain ⟨a5, n5, c5, rfl⟩ := hsl5
  have b5 : Below (b + 1) w w5 := ((Below.refl _ w).drew).trans hbel5
  have m1 := h1.stays b5 (Nat.lt_succ_self b)
  have m2 : w5.ownsRow (b + 1) 92 1 (.slice a5 n5 c5) (c :: ar).length (intV (c :: ar).reverse) := by
    rw [List.length_cons, List.reverse_cons, show intV (ar.reverse ++ [c]) = intV ar.reverse ++ [.int .i64 c] from List.map_append]
    exact hown5
  have c0 := h1.c0
  have c1 := h1.c1
  have hA : WkAt b c (.slice a n cp) (w.alloc (.cells #[.int .i64 c] 92)) := h1.stays ((Below.refl w.heap.size w).alloc (Nat.le_refl _) _) hlt
  have a0 := hA.c0
  have a1 := hA.c1
  have d0 := m1.c0
  have d1 := m1.c1
  have f1 := m1.fz 1
  have n1 : w.heap.size ≠ b := by omega
  obtain ⟨w6, hw6⟩ : ∃ w6, w5.setCell ⟨b, 1, none⟩ (.slice a5 n5 c5) = w6 := ⟨_, rfl⟩
  have q1 : WkAt b c (.slice a5 n5 c5) w6 := by rw [← hw6]; exact m1.set1 _
  have q2 : w6.ownsRow (b + 1) 92 1 (.slice a5 n5 c5) (c :: ar).length (intV (c :: ar).reverse) := by rw [← hw6]; exact row_past' m2
  have qB : Below b w w6 := by rw [← hw6]; exact (b5.mono (Nat.le_succ b)).trans (below_set w5)
  have e0 := q1.c0
  have g0 := q1.fz 0
  have HQ : Hid (Wk b d (c :: ar) (w6.setCell ⟨b, 0, none⟩ (.int .i64 d)) ∧ Below b w (w6.setCell ⟨b, 0, none⟩ (.int .i64 d))) := ⟨⟨_, _, _, q1.set0 d, row_past' q2⟩, qB.trans (below_set w6)⟩
  have HW6 : Hid (w5.setCell ⟨b, 1, none⟩ (.slice a5 n5 c5) = w6) := hw6
  clear h1 h2 hown5 hbel5 hot5 b5 m1 m2 hA hw6 q1 q2 qB hl hlt
  go_enter Try.func63, Try.ntmps63
  go_wp2_with fail
  go_region_law (refine step_append_runT (by rfl) _ _ 93 (by rfl) _ _ (by rfl) (by rfl) _ w5 hrun5 ?_)
  all_goals (
    rw [HW6.out]
    clear hrun5 c0 c1 a0 a1 d0 d1 f1 n1 HW6
    go_wp2_with fail
    go_ret
    exact ⟨rfl, HQ.out⟩)
end Go.Proofs.Ytmbbmibkjnlkkaa
