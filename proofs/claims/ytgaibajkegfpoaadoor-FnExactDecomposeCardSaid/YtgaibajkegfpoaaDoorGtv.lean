/- The program's teller, in memory; tell. -/
import Derived.Test.YtgaibajkegfpoaaDoorGtu
namespace Go.Proofs.YtgaibajkegfpoaaDoor
open Go.ChangeShapes Go.WideShapes Go.ChangeAt Go.RowKit Go.Deep
theorem step_append_runG {P : Program} {ops : Array Oper} {o : Oper} {a : Act} {w : World} {K : Act → World → Prop} {Q : Exit → Act → World → Prop} {E : Prop}
    (hg : o.guard = none) (s x : Operand) (t : TypeId) (hop : o.op = Op.call { callee := Callee.builtin Builtin.append, args := #[s, x], argTypes := #[t, t] })
    (v u : Value) (hs : a.eval s = v) (hx : a.eval x = u) (r : Value) (w' : World) (hrun : (Builtin.append_ #[t, t] o.type #[v, u]).run P w = .ok r w')
    (hK : K (a.put o.dst r) w') :
    if Region.wanted o (yielded ops a.tmps) = true then Oper.wp P o a w K Q else E := by
  have hw : Region.wanted o (yielded ops a.tmps) = true := by simp [Region.wanted, hg]
  rw [if_pos hw]
  unfold Oper.wp execOp
  simp only [hop, resolve, invoke, builtin, Sem.run_bind, Sem.run_pure, Result.andThen_ok, List.map_toArray, List.map_cons, List.map_nil, hs, hx, hrun]
  exact hK
/-- The program's teller at block B. -/
structure TeAt (P0 : World) (B : Nat) (Ps : List Nat) (S : List Int) (t : Td) (w : World) : Prop where
  tr : ∃ (sa : Option Addr) (sc : Nat) (oa : Option Addr) (on oc : Nat), TrAt B 57 [.slice sa S.length sc, .slice oa on oc] P0.heap.size (bks Ps t.met) w ∧ IlAt P0 (.slice sa S.length sc) S ∧ w.ownsRow P0.heap.size 44 8 (.slice oa on oc) t.out.length (rowsE t.out)
  lo : P0.heap.size ≤ B
  below : Below P0.heap.size P0 w
section
variable {P0 w w' : World} {B : Nat} {Ps : List Nat} {S : List Int} {t : Td}
theorem TeAt.stays (h : TeAt P0 B Ps S t w) (hb : Below w.heap.size w w') : TeAt P0 B Ps S t w' := by
  obtain ⟨sa, sc, oa, on, oc, h1, h2, h3⟩ := h.tr
  exact ⟨⟨sa, sc, oa, on, oc, h1.stays hb, h2, g_row_below h3 hb⟩, h.lo, h.below.trans (hb.mono h.below.size)⟩
theorem TeAt.of (h : TeAt P0 B Ps S t w) {t' : Td} (hm : t'.met = t.met) (ho : t'.out = t.out) : TeAt P0 B Ps S t' w := by
  obtain ⟨m, o, r⟩ := t
  obtain ⟨m', o', r'⟩ := t'
  simp only at hm ho
  subst hm
  subst ho
  exact ⟨h.tr, h.lo, h.below⟩
/-- An event is told: w5 is the world behind the append. -/
theorem TeAt.push {w5 : World} {e : Ev} {sa oa a5 : Option Addr} {sc on oc n5 c5 : Nat} (h1 : TrAt B 57 [.slice sa S.length sc, .slice oa on oc] P0.heap.size (bks Ps t.met) w) (h2 : IlAt P0 (.slice sa S.length sc) S) (h3 : w.ownsRow P0.heap.size 44 8 (.slice oa on oc) t.out.length (rowsE t.out)) (hlo : P0.heap.size ≤ B) (hbl : Below P0.heap.size P0 w)
    (hown : w5.ownsRow P0.heap.size 44 8 (.slice a5 n5 c5) (t.out ++ [e]).length (rowsE (t.out ++ [e]))) (hbel : Below P0.heap.size w w5) (hot : ∀ b, b < w.heap.size → (Value.slice oa on oc).ownBlock ≠ some b → w5.heap[b]? = w.heap[b]?) :
    TeAt P0 B Ps S { t with out := t.out ++ [e] } (w5.setCell ⟨B, 3, none⟩ (.slice a5 n5 c5)) ∧ w5.cell? ⟨B, 3, none⟩ = some (.slice oa on oc) ∧ w5.frozen? ⟨B, 3, none⟩ = false := by
  obtain ⟨nv, ma, mn, mc, k1, k2, k3⟩ := h1.ex
  have hB := h1.lt
  have k1' : w5.heap[B]? = some (.cells (nv :: .slice ma mn mc :: [.slice sa S.length sc, .slice oa on oc]).toArray 57 (0, 0)) := (hot B hB (row_apart h3 k1 (by decide))).trans k1
  have k2' : w5.ownsRow P0.heap.size 78 1 (.slice ma mn mc) (bks Ps t.met).length (plV (bks Ps t.met)) := g_row_block k2 (fun x hx => hot x (k2.lt x hx).2 (by
    rcases k2.2 with ⟨e1, _⟩ | ⟨g, cap, cur, e1, _, hg, _⟩
    · rw [e1] at hx; simp [Value.ownBlock] at hx
    · rw [e1] at hx
      have e2 : g = x := by simpa [Value.ownBlock] using hx
      subst e2
      exact row_apart h3 hg (by decide)))
  have hT : TrAt B 57 [.slice sa S.length sc, .slice oa on oc] P0.heap.size (bks Ps t.met) w5 := by
    refine ⟨nv, ma, mn, mc, k1', k2', ?_⟩
    rcases k3 with k3 | ⟨M, e, hl, hm⟩
    · exact .inl k3
    · refine .inr ⟨M, e, hl, hm.same (hot M hm.lt (fun hx => ?_))⟩
      obtain ⟨es, clock, he⟩ := hm.isMap
      rcases h3.2 with ⟨e1, _⟩ | ⟨g, cap, cur, e1, _, hg, _⟩
      · rw [e1] at hx; simp [Value.ownBlock] at hx
      · rw [e1] at hx
        have e2 : g = M := by simpa [Value.ownBlock] using hx
        subst e2
        rw [he] at hg
        cases hg
  refine ⟨⟨⟨sa, sc, a5, n5, c5, tr_cell hT (by decide) (fun _ _ hh => sv_set3 hh _), h2, row_set hown (row_apart hown k1' (by decide)) _ _⟩, hlo, (hbl.trans hbel).setCell hlo _⟩, sv_3 k1', sv_f k1' 3⟩
end
set_option maxRecDepth 100000 in
set_option maxHeartbeats 8000000 in
theorem tell_any (e : Ev) (P0 : World) (B : Nat) (Ps : List Nat) (S : List Int) (t : Td) (w : World) (hT : TeAt P0 B Ps S t w) (hl : t.out.length ≤ 100000000) :
    Calls Tryd.prog 39 #[.pointer (some ⟨B, 0, none⟩), .agg e.row] w fun r w' => r = .returned (.tuple #[]) ∧ TeAt P0 B Ps S { t with out := t.out ++ [e] } w' := by
  obtain ⟨V, hV⟩ : ∃ V, w.alloc (.cells e.row 44) = V := ⟨_, rfl⟩
  have hB0 : Below w.heap.size w V := by rw [← hV]; exact al_belowG w _
  have hVE : V.heap[w.heap.size]? = some (.cells e.row 44 (0, 0)) := by rw [← hV]; exact heap_alloc_new w _
  have hTV := hT.stays hB0
  obtain ⟨sa, sc, oa, on, oc, h1, h2, h3⟩ := hTV.tr
  have hlo := hTV.lo
  obtain ⟨nv, ma, mn, mc, k1, _, _⟩ := h1.ex
  obtain ⟨a5, n5, c5, w5, hrun5, hown5, hbel5, hot5⟩ := push_ev V.drew P0.heap.size _ t.out e (World.ownsRow.drew h3) hl (by show P0.heap.size ≤ V.heap.size; exact hTV.below.size)
  have hbel5' : Below P0.heap.size V w5 := ((Below.refl _ V).drew).trans hbel5
  obtain ⟨hF, f1, f2⟩ := TeAt.push (e := e) h1 h2 h3 hlo hTV.below hown5 hbel5' hot5
  have HF := hidG hF
  have d0 := sv_3 k1
  have hBV : B < V.heap.size := h1.lt
  have a0 : (V.alloc (.cells e.row 44)).cell? ⟨B, 3, none⟩ = some (.slice oa on oc) := by rw [World.cell?_of_block (Below.heap_alloc V _ B hBV)]; exact d0
  have HV := hidG hV
  obtain ⟨kind, style, flag, text, anchor, tag, at_, code⟩ := e
  unfold Ev.row at hVE hrun5 a0 HV ⊢
  simp only [] at hVE hrun5 a0 HV ⊢
  have e0 : V.cell? ⟨w.heap.size, 0, none⟩ = some (.int .i64 kind) := by simp [World.cell?, hVE]
  have e1 : V.cell? ⟨w.heap.size, 1, none⟩ = some (.int .i64 style) := by simp [World.cell?, hVE]
  have e2 : V.cell? ⟨w.heap.size, 2, none⟩ = some (.bool flag) := by simp [World.cell?, hVE]
  have e3 : V.cell? ⟨w.heap.size, 3, none⟩ = some (.string text) := by simp [World.cell?, hVE]
  have e4 : V.cell? ⟨w.heap.size, 4, none⟩ = some (.string anchor) := by simp [World.cell?, hVE]
  have e5 : V.cell? ⟨w.heap.size, 5, none⟩ = some (.string tag) := by simp [World.cell?, hVE]
  have e6 : V.cell? ⟨w.heap.size, 6, none⟩ = some (.int .i64 at_) := by simp [World.cell?, hVE]
  have e7 : V.cell? ⟨w.heap.size, 7, none⟩ = some (.int .i64 code) := by simp [World.cell?, hVE]
  have nb : V.heap.size ≠ B := by omega
  clear hT hV hB0 hVE hTV h1 h2 h3 hlo k1 hown5 hbel5 hot5 hbel5' hF hl
  go_enter Tryd.func39, Tryd.ntmps39
  go_wp2_with fail
  rw [HV.out]
  go_region_law (refine step_append_runG (by rfl) _ _ 27 (by rfl) _ _ (by rfl) (by rfl) _ w5 hrun5 ?_)
  all_goals (
    go_wp2_with fail
    go_end0
    exact ⟨rfl, HF.out⟩)
end Go.Proofs.YtgaibajkegfpoaaDoor
