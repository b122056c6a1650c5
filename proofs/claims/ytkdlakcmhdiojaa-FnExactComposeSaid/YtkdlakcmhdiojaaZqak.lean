/- Several texts in one: Gcv Gcy Pwk. -/
import Derived.Test.YtkdlakcmhdiojaaZqad
import Derived.Test.YtkdlakcmhdiojaaZqaj
import Derived.Deep.RegionHeld3
import Derived.Test.YtkdlakcmhdiojaaZqab
/- spec.l15Put at an alias and at a text: what a walk of it stands on. -/
namespace Go.Proofs.Ytkdlakcmhdiojaa
open Go.ChangeShapes Go.WideShapes Go.ChangeAt Go.RowKit Go.Deep
theorem step_append_runP {P : Program} {ops : Array Oper} {o : Oper} {a : Act} {w : World} {K : Act → World → Prop} {Q : Exit → Act → World → Prop} {E : Prop}
    (hg : o.guard = none) (s x : Operand) (t : TypeId) (hop : o.op = Op.call { callee := Callee.builtin Builtin.append, args := #[s, x], argTypes := #[t, t] })
    (v u : Value) (hs : a.eval s = v) (hx : a.eval x = u) (r : Value) (w' : World) (hrun : (Builtin.append_ #[t, t] o.type #[v, u]).run P w = .ok r w')
    (hK : K (a.put o.dst r) w') :
    if Region.wanted o (yielded ops a.tmps) = true then Oper.wp P o a w K Q else E := by
  have hw : Region.wanted o (yielded ops a.tmps) = true := by simp [Region.wanted, hg]
  rw [if_pos hw]
  unfold Oper.wp execOp
  simp only [hop, resolve, invoke, builtin, Sem.run_bind, Sem.run_pure, Result.andThen_ok, List.map_toArray, List.map_cons, List.map_nil, hs, hx, hrun]
  exact hK
theorem slenC {w : World} {lo e sz : Nat} {a : Option Addr} {m c n : Nat} {xs : List Value} (h : w.ownsRow lo e sz (.slice a m c) n xs) : m = n := by
  rcases h.2 with ⟨e1, e2⟩ | ⟨g, cap, cur, e1, _⟩
  · injection e1 with _ e1 e3; omega
  · injection e1 with _ e1 e3
theorem CsAt.numAt {P0 w : World} {B A N : Nat} {rv : Value} {ns : List Nd} {ats : List Int} {vs : List Value} (h : CsAt P0 B A N rv ns ats vs w) {m : Nat} {x : Int} (hx : ats[m]? = some x) : w.cell? ⟨A, m, none⟩ = some (.int .i64 x) ∧ w.frozen? ⟨A, m, none⟩ = false := by
  refine ⟨?_, h.nums.frozenAt m⟩
  have h1 := h.nums.cells (g := A) rfl m (.int .i64 x) (by unfold ilV; rw [List.getElem?_map, hx]; rfl)
  have hadd : (⟨A, 0, none⟩ : Addr).add m = ⟨A, m, none⟩ := by unfold Addr.add; split <;> simp_all
  rw [hadd] at h1
  exact h1
theorem cntR_le (l : List Ev) (k : Nat) : cntR l k ≤ k := by
  unfold cntR realsTo
  exact Nat.le_trans (List.length_filter_le _ _) (by rw [List.length_range]; exact Nat.le_refl _)
/-- What is promised of spec.l15Put, with so much fuel. -/
def PutC (P0 : World) (lv : Value) (B A : Nat) (rv : Value) (l : List Ev) (f : Nat) : Prop := ∀ (i : Nat) (e : Ev) (vs : List Value) (w : World), l[i]? = some e → nodE e = true → l.length < f + i → CsAt P0 B A l.length rv (nodesS l i) (atS l i) vs w →
  Calls Try.prog 23 #[lv, .int .i64 (i : Int), .slice (some ⟨A, 0, none⟩) l.length l.length, .pointer (some ⟨B, 0, none⟩)] w fun r w' => ∃ m : Nat, endN l i = (m : Int) ∧ r = .returned (.tuple #[.int .i64 (numI l i), .int .i64 ((m : Int) + 1)]) ∧ ∃ news, CsAt P0 B A l.length rv (nodesS l (m + 1)) (atS l (m + 1)) (vs ++ news) w' ∧ (∀ v ∈ news, ∀ x, v.ownBlock = some x → w.heap.size ≤ x) ∧ FrI A w w'
set_option maxHeartbeats 8000000 in
set_option maxRecDepth 100000 in
theorem put_alias {P0 : World} {lv : Value} {B A : Nat} {rv : Value} {l : List Ev} (hS : SlE P0 lv l) (hn : nested l = true) (hl : l.length ≤ 1048576) (i : Nat) (e : Ev) (vs : List Value) (w : World) (he : l[i]? = some e) (h6 : e.kind = 6) (ht : tiedAt l i = true) (hC : CsAt P0 B A l.length rv (nodesS l i) (atS l i) vs w) :
    Calls Try.prog 23 #[lv, .int .i64 (i : Int), .slice (some ⟨A, 0, none⟩) l.length l.length, .pointer (some ⟨B, 0, none⟩)] w fun r w' => ∃ m : Nat, endN l i = (m : Int) ∧ r = .returned (.tuple #[.int .i64 (numI l i), .int .i64 ((m : Int) + 1)]) ∧ ∃ news, CsAt P0 B A l.length rv (nodesS l (m + 1)) (atS l (m + 1)) (vs ++ news) w' ∧ (∀ v ∈ news, ∀ x, v.ownBlock = some x → w.heap.size ≤ x) ∧ FrI A w w' := by
  have hi : i < l.length := (List.getElem?_eq_some_iff.1 he).1
  obtain ⟨m, hm, hmi, hmr, hnum⟩ := alias_to hn he h6 ht
  have hnod : nodE e = true := by unfold nodE; simp [h6]
  have hcol : colE e = false := by unfold colE; simp [h6]
  have hrl : realB l i = false := by rw [real_node he]; simp [h6]
  have hE : endN l i = (i : Int) := endN_leaf he hnod hcol
  have hS1 : nodesS l (i + 1) = nodesS l i := nodesS_else he hrl hcol (by omega)
  have hA1 : atS l (i + 1) = atS l i := atS_same hrl
  obtain ⟨la, lc, rfl⟩ := hS.sl
  obtain ⟨bb, off, rfl, hbb, ⟨c0, c1, c2, c3, c4, c5, c6, c7⟩⟩ := hS.at hC.below he
  have hbw : bb < w.heap.size := Nat.lt_of_lt_of_le hbb hC.below.size
  obtain ⟨V, hV⟩ : ∃ V, w.alloc (.cells e.row 47) = V := ⟨_, rfl⟩
  have hBV : Below w.heap.size w V := by rw [← hV]; exact al_belowG w _
  have hVE : V.heap[w.heap.size]? = some (.cells e.row 47 (0, 0)) := by rw [← hV]; exact heap_alloc_new w _
  have hCV := hC.stays hBV
  have cD := def_any V _ l (hS.stays hCV.below) hl i hi (m : Int) hm
  have HD : Hid (∀ w', Below V.heap.size V w' → w'.cell? ⟨A, m, none⟩ = some (.int .i64 (cntR l m : Int)) ∧ CsAt P0 B A l.length rv (nodesS l (i + 1)) (atS l (i + 1)) (vs ++ []) w' ∧ FrI A w w') := fun w' hb => by
    refine ⟨((hCV.stays hb).numAt (atS_at hmi (by omega) hmr)).1, ?_, FrI.of (hBV.trans (hb.mono hBV.size))⟩
    rw [hS1, hA1, List.append_nil]
    exact hCV.stays hb
  have HE := hidG hE
  have HNU := hidG hnum
  have hiI : (i : Int) < (l.length : Int) := by omega
  have hmI : (m : Int) < (l.length : Int) := by omega
  have hlI : (l.length : Int) ≤ 1048576 := by omega
  have HV := hidG hV
  obtain ⟨kind, style, flag, text, anchor, tag, at_, code⟩ := e
  simp only at c0 c1 c2 c3 c4 c5 c6 c7 h6
  unfold Ev.row at hVE HV
  simp only [] at hVE HV
  have k0 : V.cell? ⟨w.heap.size, 0, none⟩ = some (.int .i64 kind) := by simp [World.cell?, hVE]
  have t6 : (kind == 6) = true := by rw [beq_iff_eq]; exact h6
  clear he h6 ht hC hm hmi hmr hnum hnod hcol hrl hE hS1 hA1 hbb hV hBV hVE hCV hS hn hi
  go_enter Try.func23, Try.ntmps23
  go_wp2_with fail
  rw [HV.out]
  go_wp2_with fail
  refine cD.mono ?_
  rintro r w1 ⟨rfl, hb1⟩
  obtain ⟨z1, z2, z3⟩ := HD.out w1 hb1
  have HZ := hidG (And.intro z2 z3)
  clear hb1 cD HD z2 z3 k0
  go_wp2_with fail
  go_ret2
  exact ⟨i, HE.out, by
    show Ending.returned (.tuple #[.int .i64 (cntR l m : Int), .int .i64 ((i : Int) + 1)]) = _
    rw [HNU.out], [], HZ.out.1, fun v h => absurd h (by simp), HZ.out.2⟩
end Go.Proofs.Ytkdlakcmhdiojaa
/- spec.l15Put at a collection. -/
namespace Go.Proofs.Ytkdlakcmhdiojaa
open Go.ChangeShapes Go.WideShapes Go.ChangeAt Go.RowKit Go.Deep
theorem CsAt.far {P0 w w' : World} {B A N : Nat} {rv : Value} {ns : List Nd} {ats : List Int} {vs : List Value} (h : CsAt P0 B A N rv ns ats vs w) {kv : Value} {n : Nat} {xs : List Value} (hr : w.ownsRow P0.heap.size 3 1 kv n xs) (hbel : Below P0.heap.size w w') (hot : ∀ b, b < w.heap.size → kv.ownBlock ≠ some b → w'.heap[b]? = w.heap[b]?) (hA : kv.ownBlock ≠ some A) (hv : ∀ (i : Nat) (v : Value) (x : Nat), vs[i]? = some v → v.ownBlock = some x → kv.ownBlock ≠ some x) : CsAt P0 B A N rv ns ats vs w' := by
  obtain ⟨na, nn, nc, h1, h2⟩ := h.box
  refine ⟨⟨na, nn, nc, (hot B (Array.getElem?_eq_some_iff.1 h1).1 (row_apart hr h1 (by decide))).trans h1, g_row_block h2 (fun x hx => ?_)⟩, h.kids.block (fun i v x hi hx => hot x (h.kids.lt hi hx).2 (hv i v x hi hx)), g_row_block h.nums (fun x hx => ?_), h.apart, h.lo, h.below.trans hbel⟩
  · obtain ⟨cs, fr, e⟩ := own_type h2 hx
    exact hot x (h2.lt x hx).2 (row_apart hr e (by decide))
  · have e : A = x := by simpa [Value.ownBlock] using hx
    subst e
    exact hot A (h.nums.lt A rfl).2 hA
theorem push_i (w : World) (lo : Nat) (v : Value) (l : List Int) (x : Int) (hown : w.ownsRow lo 3 1 v l.length (ilV l)) (hl : l.length ≤ 100000000) (hlo : lo ≤ w.heap.size) :
    ∃ a n c w', (Builtin.append_ #[25, 25] 25 #[v, .slice (some ⟨w.heap.size, 0, none⟩) 1 1]).run Try.prog (w.alloc (.cells #[.int .i64 x] 3)) = .ok (.slice a n c) w' ∧ w'.ownsRow lo 3 1 (.slice a n c) (l ++ [x]).length (ilV (l ++ [x])) ∧ Below lo w w' ∧ (∀ b, b < w.heap.size → v.ownBlock ≠ some b → w'.heap[b]? = w.heap[b]?) ∧ ((Value.slice a n c).ownBlock = v.ownBlock ∨ (Value.slice a n c).ownBlock = some (w.heap.size + 1)) := by
  obtain ⟨v5, w5, hrun5, hsl5, hown5, hbel5, hot5, hid5⟩ := push_own2 (P := Try.prog) Try.underlying25 infoIt rfl (by decide) w lo v l.length (ilV l) hown #[.int .i64 x] rfl (by intro u hu; simp at hu; subst hu; rfl) hl (by omega) hlo 25
  obtain ⟨a5, n5, c5, rfl⟩ := hsl5
  refine ⟨a5, n5, c5, w5, hrun5, ?_, hbel5, hot5, hid5⟩
  rw [List.length_append, show ilV (l ++ [x]) = ilV l ++ [.int .i64 x] by unfold ilV; simp]
  exact hown5
theorem kidsTo_len (l : List Ev) (u : Int) (k : Nat) : (kidsTo l u k).length ≤ k := by
  unfold kidsTo
  rw [List.length_map]
  exact Nat.le_trans (List.length_filter_le _ _) (by rw [List.length_range]; exact Nat.le_refl _)
theorem nodesS_at {l : List Ev} {i k : Nat} {e : Ev} (hr : realB l i = true) (hik : i < k) (he : l[i]? = some e) (hm : i ∈ stk l k) : (nodesS l k)[cntR l i]? = some ⟨e.kind, e.tag, e.text, []⟩ := by
  have h := reals_at hr (k - (i + 1))
  rw [show i + 1 + (k - (i + 1)) = k by omega] at h
  unfold nodesS
  rw [List.getElem?_map, h]
  simp only [Option.map_some]
  rw [if_pos hm, ndOf_at he]
set_option maxHeartbeats 8000000 in
set_option maxRecDepth 100000 in
theorem put_coll {P0 : World} {lv : Value} {B A : Nat} {rv : Value} {l : List Ev} (hS : SlE P0 lv l) (hn : nested l = true) (h0 : stk l l.length = []) (hl : l.length ≤ 1048576) {f : Nat} (IH : PutC P0 lv B A rv l f) (i : Nat) (hf : l.length < f + 1 + i) (e : Ev) (vs : List Value) (w : World) (he : l[i]? = some e) (hcol : colE e = true) (hC : CsAt P0 B A l.length rv (nodesS l i) (atS l i) vs w) :
    Calls Try.prog 23 #[lv, .int .i64 (i : Int), .slice (some ⟨A, 0, none⟩) l.length l.length, .pointer (some ⟨B, 0, none⟩)] w fun r w' => ∃ m : Nat, endN l i = (m : Int) ∧ r = .returned (.tuple #[.int .i64 (numI l i), .int .i64 ((m : Int) + 1)]) ∧ ∃ news, CsAt P0 B A l.length rv (nodesS l (m + 1)) (atS l (m + 1)) (vs ++ news) w' ∧ (∀ v ∈ news, ∀ x, v.ownBlock = some x → w.heap.size ≤ x) ∧ FrI A w w' := by
  have hi : i < l.length := (List.getElem?_eq_some_iff.1 he).1
  have hk34 : e.kind = 3 ∨ e.kind = 4 := by unfold colE at hcol; simp at hcol; exact hcol
  have hnod : nodE e = true := col_node hcol
  have hrl : realB l i = true := by rw [real_node he, hnod]; simp; omega
  have hnum := num_real he (by omega)
  have hS1 := nodesS_col he hcol
  have hst1 := stk_col he hcol
  have HS := hidG hS
  have HLV : Hid (∃ la lc, lv = .slice la l.length lc) := hS.sl
  have hA1 := atS_real hrl hi
  obtain ⟨la, lc, hlv⟩ := hS.sl
  subst hlv
  obtain ⟨bb, off, rfl, hbb, ⟨c0, c1, c2, c3, c4, c5, c6, c7⟩⟩ := hS.at hC.below he
  have hbw : bb < w.heap.size := Nat.lt_of_lt_of_le hbb hC.below.size
  obtain ⟨V, hV⟩ : ∃ V, w.alloc (.cells e.row 47) = V := ⟨_, rfl⟩
  have hBV : Below w.heap.size w V := by rw [← hV]; exact al_belowG w _
  have hVE : V.heap[w.heap.size]? = some (.cells e.row 47 (0, 0)) := by rw [← hV]; exact heap_alloc_new w _
  have hCV := hC.stays hBV
  obtain ⟨na, nn, nc, b1v, b2v⟩ := hCV.box
  obtain rfl := slenC b2v
  have hAB : A ≠ B := own_neC hCV.nums rfl b1v (by decide)
  obtain ⟨cs, fr, hA⟩ := own_type hCV.nums (x := A) rfl
  have hAE : A ≠ w.heap.size := own_neC hCV.nums rfl hVE (by decide)
  obtain ⟨z0, hz0⟩ : ∃ z, V.cell? ⟨A, i, none⟩ = some z := (row_cellX hCV.nums i (by rw [ilV_len, atS_len]; exact hi)).1
  have hz1 := (row_cellX hCV.nums i (by rw [ilV_len, atS_len]; exact hi)).2
  obtain ⟨hCY, hFY⟩ := hCV.num (i := i) (by rw [atS_len]; exact hi) (cntR l i : Int)
  rw [← hA1] at hCY
  obtain ⟨Y, hY⟩ : ∃ Y, V.setCell ⟨A, i, none⟩ (.int .i64 (cntR l i : Int)) = Y := ⟨_, rfl⟩
  have b1 : Y.heap[B]? = some (.cells #[.slice na (nodesS l i).length nc, rv] 27 (0, 0)) := by rw [← hY]; exact (heap_setCell_other _ _ _ _ (Ne.symm hAB)).trans b1v
  have b2 : Y.ownsRow P0.heap.size 70 4 (.slice na (nodesS l i).length nc) (nodesS l i).length (cellsN (nodesS l i) vs) := by rw [← hY]; exact row_set b2v (row_apart b2v hA (by decide)) _ _
  have hYE : Y.heap[w.heap.size]? = some (.cells e.row 47 (0, 0)) := by rw [← hY]; exact (heap_setCell_other _ _ _ _ (Ne.symm hAE)).trans hVE
  rw [hY] at hCY hFY
  have hcl : (nodesS l i).length = cntR l i := nodesS_len l i
  have hci := cntR_le l i
  obtain ⟨a5, m5, c5', w5, hrun5, hown5, hbel5, hot5⟩ := push_nd Y.drew P0.heap.size _ (nodesS l i) vs ⟨e.kind, e.tag, e.text, []⟩ hCY.kids.len (World.ownsRow.drew b2) (by omega) (by show P0.heap.size ≤ Y.heap.size; exact hCY.below.size)
  have hbel5' : Below P0.heap.size Y w5 := ((Below.refl _ Y).drew).trans hbel5
  obtain ⟨hC6, hF6, f1, f2⟩ := hCY.push (n := ⟨e.kind, e.tag, e.text, []⟩) rfl b1 b2 hown5 hbel5' hot5
  rw [← hS1] at hC6
  have HO : Hid (CsAt P0 B A l.length rv (nodesS l (i + 1)) (atS l (i + 1)) (vs ++ [.slice none 0 0]) (w5.setCell ⟨B, 0, none⟩ (.slice a5 m5 c5')) ∧ FrI A w (w5.setCell ⟨B, 0, none⟩ (.slice a5 m5 c5'))) := ⟨hC6, (FrI.of hBV).trans (hFY.trans hF6)⟩
  have h6e : w5.heap[w.heap.size]? = some (.cells e.row 47 (0, 0)) := (hot5 w.heap.size (Array.getElem?_eq_some_iff.1 hYE).1 (row_apart b2 hYE (by decide))).trans hYE
  have hBE : B ≠ w.heap.size := fun e2 => by
    rw [e2] at b1
    rw [hYE] at b1
    injection b1 with b1
    injection b1 with _ b1
    exact absurd b1 (by decide)
  have HNU := hidG hnum
  have hAw : A < w.heap.size := (hC.nums.lt A rfl).2
  have hY2 : (w.setCell ⟨A, i, none⟩ (.int .i64 (cntR l i : Int))).alloc (.cells e.row 47) = Y := by
    rw [← hY, ← hV]
    exact (World.setCell_alloc_past _ _ _ _ hAw).symm
  have HY := hidG hY2
  have y0 := n2_0 b1
  have v0 := n2_0 b1v
  rw [← hV] at v0 hz0 hz1
  have hBY : B < Y.heap.size := (Array.getElem?_eq_some_iff.1 b1).1
  have hiI : (i : Int) < (l.length : Int) := by omega
  have hlI : (l.length : Int) ≤ 1048576 := by omega
  have hcI : (cntR l i : Int) ≤ 1048576 := by omega
  rw [hcl] at y0 v0 hrun5 f1
  obtain ⟨kind, style, flag, text, anchor, tag, at_, code⟩ := e
  simp only at c0 c1 c2 c3 c4 c5 c6 c7 hk34 hrun5
  unfold Ev.row at hVE HY hYE h6e v0 hz0 hz1
  unfold knV at hrun5
  simp only [] at hVE HY hYE h6e hrun5 v0 hz0 hz1
  have a0 : (Y.alloc (.cells #[.int .i64 kind, .string tag, .string text, .slice none 0 0] 70)).cell? ⟨B, 0, none⟩ = some (.slice na (cntR l i) nc) := by rw [World.cell?_of_block (Below.heap_alloc Y _ B hBY)]; exact y0
  have y1 : Y.cell? ⟨w.heap.size, 0, none⟩ = some (.int .i64 kind) := by simp [World.cell?, hYE]
  have y2 : Y.cell? ⟨w.heap.size, 5, none⟩ = some (.string tag) := by simp [World.cell?, hYE]
  have y3 : Y.cell? ⟨w.heap.size, 3, none⟩ = some (.string text) := by simp [World.cell?, hYE]
  have w1e : w5.cell? ⟨w.heap.size, 0, none⟩ = some (.int .i64 kind) := by simp [World.cell?, h6e]
  have w2e : w5.cell? ⟨w.heap.size, 5, none⟩ = some (.string tag) := by simp [World.cell?, h6e]
  have w3e : w5.cell? ⟨w.heap.size, 3, none⟩ = some (.string text) := by simp [World.cell?, h6e]
  have t6 : (kind == 6) = false := by rw [beq_eq_false_iff_ne]; omega
  have t5 : (kind == 5) = false := by rw [beq_eq_false_iff_ne]; omega
  obtain ⟨W6, hW6⟩ : ∃ W6, w5.setCell ⟨B, 0, none⟩ (.slice a5 m5 c5') = W6 := ⟨_, rfl⟩
  rw [hW6] at HO
  have g1 : W6.cell? ⟨w.heap.size, 0, none⟩ = some (.int .i64 kind) := by rw [← hW6]; rw [World.cell?_setCell_other _ _ _ _ (by intro e2; injection e2 with e2 _; exact hBE e2)]; exact w1e
  have HIH := hidG IH
  have HN := hidG hn
  have H0 := hidG h0
  have HF := hidG hf
  have HST1 := hidG hst1
  have HIE : Hid (∃ e, l[i]? = some e ∧ colE e = true) := ⟨_, he, hcol⟩
  have HAW : Hid (A < w.heap.size) := hAw
  have HLO : Hid (P0.heap.size ≤ w.heap.size) := hC.below.size
  have HVL : Hid (vs.length = cntR l i) := by show _ = _; rw [hC.kids.len, nodesS_len]
  have HVB : Hid (∀ (j : Nat) (v : Value) (x : Nat), vs[j]? = some v → v.ownBlock = some x → x < w.heap.size) := fun j v x h1 h2 => (hC.kids.lt h1 h2).2
  have HCI : Hid (cntR l i ≤ i) := hci
  have HRI : Hid (realB l i = true) := hrl
  have HL := hidG hl
  have HW6 := hidG hW6
  have HWC : Hid (w.heap.size ≤ W6.heap.size) := by
    show _ ≤ _
    have h1 := (Array.getElem?_eq_some_iff.1 h6e).1
    rw [← hW6]
    simp only [World.size_setCell]
    omega
  clear IH hn h0 hf hst1 hk34 hW6
  clear he hC hnum hnod hcol hrl hS1 hA1 hbb hV hBV hVE hCV hS hi hY hY2 hCY hFY hC6 hF6 hown5 hbel5 hot5 hbel5' b1 b2 b1v b2v hA hYE h6e hcl hci hl
  go_enter Try.func23, Try.ntmps23
  go_upto_region 6 with fail
  rw [HY.out]
  go_cut [] from 40 to 55 (fun wx => wx = W6)
  case first =>
    have HWE : Hid (w5.setCell ⟨B, 0, none⟩ (.slice a5 m5 c5') = W6) := HW6
    clear HW6 HO g1 HWC HN H0 HS HIH HF HST1 HIE HVL HVB HCI HRI HL HNU HLV
    go_region_law (refine step_append_runP (by rfl) _ _ 24 (by rfl) _ _ (by rfl) (by rfl) _ w5 hrun5 ?_)
    all_goals (
      go_wp2_with fail
      go_meet
      exact HWE.out)
  case rest =>
    subst hcut
    clear y0 y1 y2 y3 a0 v0 hz0 hz1 f1 f2 w1e w2e w3e hrun5 c0 c1 c2 c3 c4 c5 c6 c7 HY t6 HW6
    go_wp2_with fail
    clear g1 t5 hbw hBY hBE
    obtain ⟨P, hP⟩ : ∃ P, wc.alloc (.cells #[] 3) = P := ⟨_, rfl⟩
    have hBP : Below wc.heap.size wc P := by rw [← hP]; exact al_belowG wc _
    have hwc : w.heap.size ≤ wc.heap.size := HWC.out
    have hP0 : P0.heap.size ≤ wc.heap.size := Nat.le_trans HLO.out hwc
    have HC1 : Hid (CsAt P0 B A l.length rv (nodesS l (i + 1)) (atS l (i + 1)) (vs ++ [.slice none 0 0] ++ []) P) := by show CsAt _ _ _ _ _ _ _ _ _; rw [List.append_nil]; exact HO.out.1.stays hBP
    have HF1 : Hid (FrI A w P) := HO.out.2.trans (FrI.of hBP)
    have HK1 : Hid (P.ownsRow P0.heap.size 3 1 (.slice (some ⟨wc.heap.size, 0, none⟩) 0 0) (kidsTo l (i : Int) (i + 1)).length (ilV (kidsTo l (i : Int) (i + 1))) ∧ (∀ x, (Value.slice (some ⟨wc.heap.size, 0, none⟩) 0 0).ownBlock = some x → w.heap.size ≤ x) ∧ ∀ v ∈ ([] : List Value), ∀ x, v.ownBlock = some x → (Value.slice (some ⟨wc.heap.size, 0, none⟩) 0 0).ownBlock ≠ some x) := by
      refine ⟨?_, fun x hx => ?_, fun v h => absurd h (List.not_mem_nil)⟩
      · rw [kidsTo_early (by have := hiI; omega) (Nat.le_refl _), ← hP]
        exact ⟨rfl, .inr ⟨wc.heap.size, 0, #[], rfl, hP0, heap_alloc_new wc _, Nat.le_refl _, by unfold maxLen; omega, rfl, rfl⟩⟩
      · have e2 : wc.heap.size = x := by simpa [Value.ownBlock] using hx
        omega
    rw [hP]
    clear hP hBP hP0 hwc HO
    go_loopw [12, 13] (fun kv iv wr => ∃ (k : Nat) (ka : Option Addr) (kn kc : Nat) (news : List Value), kv = .slice ka kn kc ∧ iv = .int .i64 (k : Int) ∧ k ≤ l.length ∧ Hid (i < k ∧ stk l k = i :: stk l i) ∧ Hid (CsAt P0 B A l.length rv (nodesS l k) (atS l k) (vs ++ [.slice none 0 0] ++ news) wr) ∧ Hid (∀ v ∈ news, ∀ x, v.ownBlock = some x → w.heap.size ≤ x) ∧ Hid (wr.ownsRow P0.heap.size 3 1 (.slice ka kn kc) (kidsTo l (i : Int) k).length (ilV (kidsTo l (i : Int) k)) ∧ (∀ x, (Value.slice ka kn kc).ownBlock = some x → w.heap.size ≤ x) ∧ ∀ v ∈ news, ∀ x, v.ownBlock = some x → (Value.slice ka kn kc).ownBlock ≠ some x) ∧ Hid (FrI A w wr)) (fun _ iv _ => l.length - (intOf iv).toNat)
    case atStart => exact ⟨i + 1, _, _, _, [], rfl, by go_num, by omega, ⟨Nat.lt_succ_self _, HST1.out⟩, HC1, fun v h => absurd h (List.not_mem_nil), HK1, HF1⟩
    case round =>
      obtain ⟨k, ka, kn, kc, news, rfl, rfl, hk, HSK, HCK, HNW, HKK, HFK⟩ := hrel
      clear HC1 HF1 HK1
      obtain ⟨e2, he2, hor⟩ := kid_or_end HN.out H0.out HSK.out.2 hk
      have hkl : k < l.length := (List.getElem?_eq_some_iff.1 he2).1
      obtain ⟨b', off', hadr, hbb', ⟨d0, -, -, -, -, -, -, -⟩⟩ := HS.out.at HCK.out.below he2
      injection hadr with hadr
      injection hadr with hadr1 hadr2
      subst hadr1
      subst hadr2
      obtain rfl := slenC HKK.out.1
      have hkI : (k : Int) < (l.length : Int) := by omega
      have hAK : (Value.slice ka (kidsTo l (i : Int) k).length kc).ownBlock ≠ some A := fun hx => by
        have h1 := HKK.out.2.1 A hx
        have h2 := HAW.out
        omega
      have hVK : ∀ (j : Nat) (v : Value) (x : Nat), (vs ++ [.slice none 0 0] ++ news)[j]? = some v → v.ownBlock = some x → (Value.slice ka (kidsTo l (i : Int) k).length kc).ownBlock ≠ some x := fun j v x hj hx hkx => by
        rcases List.mem_append.1 (List.mem_of_getElem? hj) with h1 | h1
        · rcases List.mem_append.1 h1 with h2 | h2
          · obtain ⟨j2, hj2⟩ := List.mem_iff_getElem?.1 h2
            have h3 := HVB.out j2 v x hj2 hx
            have h4 := HKK.out.2.1 x hkx
            omega
          · obtain rfl := List.mem_singleton.1 h2
            simp [Value.ownBlock] at hx
        · exact HKK.out.2.2 v h1 x hx hkx
      have hlen2 := kidsTo_len l (i : Int) k
      by_cases h7 : e2.kind = 7
      · have t7 : (e2.kind != 7) = false := by rw [h7]; rfl
        obtain ⟨ei, hei, hci2⟩ := HIE.out
        have hat := nodesS_at HRI.out HSK.out.1 hei (by rw [HSK.out.2]; exact List.mem_cons_self)
        obtain ⟨na, nn, nc, b1, b2⟩ := HCK.out.box
        obtain rfl := slenC b2
        have hpos : 0 < (nodesS l k).length := by have := (List.getElem?_eq_some_iff.1 hat).1; omega
        obtain ⟨nb, cap, hsv, _, _⟩ := World.ownsRow.form b2 hpos
        injection hsv with hsv _ hcap
        subst hsv
        subst hcap
        obtain ⟨hKD, hFD⟩ := HCK.out.kid hat b1 b2 rfl HKK.out.1 hAK hVK
        have hrk : realB l k = false := by rw [real_node he2]; unfold nodE; simp [h7]
        have hvs : (vs ++ [Value.slice none 0 0] ++ news).set (cntR l i) (Value.slice ka (kidsTo l (i : Int) k).length kc) = vs ++ ([Value.slice ka (kidsTo l (i : Int) k).length kc] ++ news) := by
          rw [← HVL.out, List.append_assoc, List.set_append_right _ _ (Nat.le_refl _), Nat.sub_self]
          rfl
        have HR : Hid (∃ m : Nat, endN l i = (m : Int) ∧ Ending.returned (.tuple #[.int .i64 (cntR l i : Int), .int .i64 ((k : Int) + 1)]) = .returned (.tuple #[.int .i64 (numI l i), .int .i64 ((m : Int) + 1)]) ∧ ∃ nw, CsAt P0 B A l.length rv (nodesS l (m + 1)) (atS l (m + 1)) (vs ++ nw) (wr.setCell ⟨nb, cntR l i * 4 + 3, none⟩ (.slice ka (kidsTo l (i : Int) k).length kc)) ∧ (∀ v ∈ nw, ∀ x, v.ownBlock = some x → w.heap.size ≤ x) ∧ FrI A w (wr.setCell ⟨nb, cntR l i * 4 + 3, none⟩ (.slice ka (kidsTo l (i : Int) k).length kc))) := by
          refine ⟨k, endN_top he2 h7 HSK.out.2, by rw [HNU.out], [Value.slice ka (kidsTo l (i : Int) k).length kc] ++ news, ?_, fun v hv x hx => ?_, HFK.out.trans hFD⟩
          · rw [atS_same hrk, nodesS_end he2 h7 HSK.out.2 hei, ← hvs]
            exact hKD
          · rcases List.mem_append.1 hv with h1 | h1
            · obtain rfl := List.mem_singleton.1 h1
              exact HKK.out.2.1 x hx
            · exact HNW.out v h1 x hx
        have hcl : cntR l i < (nodesS l k).length := (List.getElem?_eq_some_iff.1 hat).1
        have hnl : (nodesS l k).length ≤ 1048576 := by rw [nodesS_len]; have := cntR_le l k; omega
        obtain ⟨NL, hNL⟩ : ∃ NL, (nodesS l k).length = NL := ⟨_, rfl⟩
        have q0 := n2_0 b1
        obtain ⟨⟨z3, hz3⟩, hf3⟩ := row_cellX b2 (cntR l i * 4 + 3) (by rw [cellsN_len _ _ HCK.out.kids.len]; omega)
        rw [hNL] at q0 hcl hnl
        have hclI : (cntR l i : Int) < (NL : Int) := by omega
        have hnlI : (NL : Int) ≤ 1048576 := by omega
        clear he2 hor hbb' hAK hVK h7 hei hci2 hat b1 b2 hpos hKD hFD hrk hvs hcl hnl hNL HSK HCK HNW HKK HFK hk hkl
        go_wp2_with fail
        go_ret2
        exact HR.out
      · have hn2 : nodE e2 = true := hor.resolve_left h7
        have t7 : (e2.kind != 7) = true := by rw [bne_iff_ne]; exact h7
        have cI := HIH.out k e2 _ wr he2 hn2 (by have := HF.out; have := HSK.out.1; omega) HCK.out
        have HE2 := hidG he2
        have HN2 := hidG hn2
        have HAK := hidG hAK
        have HVK := hidG hVK
        have HKL := hidG hkl
        obtain ⟨L, hL⟩ : ∃ L, kidsTo l (i : Int) k = L := ⟨_, rfl⟩
        rw [hL] at HKK HAK HVK hlen2 ⊢
        have HLK := hidG hL
        have HLEN := hidG hlen2
        clear he2 hor hbb' hAK hVK h7 hn2 hL hlen2 hk hkl
        go_wp2_with fail
        refine cI.mono ?_
        rintro r w3 ⟨m, hE3, rfl, news3, hC3, hB3, hF3⟩
        have hkr : w3.ownsRow P0.heap.size 3 1 (.slice ka L.length kc) L.length (ilV L) := hF3.row HKK.out.1 HAK.out
        obtain ⟨a5, n5, c5, w5, hrun5, hown5, hbel5, hot5, hid5⟩ := push_i w3 P0.heap.size _ L (numI l k) hkr (by have := HLEN.out; have := HKL.out; have := HL.out; omega) hC3.below.size
        obtain ⟨hst3, hkm, hml⟩ := stk_behind HE2.out HN2.out hE3
        have hnext := kids_next HSK.out.2 HE2.out HN2.out hE3
        rw [HLK.out] at hnext
        have hkw3 : ∀ x, (Value.slice ka L.length kc).ownBlock = some x → x < wr.heap.size := fun x hx => (HKK.out.1.lt x hx).2
        have hsz3 : wr.heap.size ≤ w3.heap.size := hF3.1
        have hv3 : ∀ (j : Nat) (v : Value) (x : Nat), (vs ++ [.slice none 0 0] ++ news ++ news3)[j]? = some v → v.ownBlock = some x → (Value.slice ka L.length kc).ownBlock ≠ some x := fun j v x hj hx hkx => by
          rcases List.mem_append.1 (List.mem_of_getElem? hj) with h1 | h1
          · obtain ⟨j2, hj2⟩ := List.mem_iff_getElem?.1 h1
            exact HVK.out j2 v x hj2 hx hkx
          · have h2 := hB3 v h1 x hx
            have h3 := hkw3 x hkx
            omega
        have hC5 := hC3.far hkr hbel5 hot5 HAK.out hv3
        have HST : Hid (i < m + 1 ∧ stk l (m + 1) = i :: stk l i) := ⟨by have := HSK.out.1; omega, by rw [hst3]; exact HSK.out.2⟩
        have HC5 : Hid (CsAt P0 B A l.length rv (nodesS l (m + 1)) (atS l (m + 1)) (vs ++ [.slice none 0 0] ++ (news ++ news3)) w5) := by
          show CsAt _ _ _ _ _ _ _ _ _
          rw [← List.append_assoc]
          exact hC5
        have HN5 : Hid (∀ v ∈ news ++ news3, ∀ x, v.ownBlock = some x → w.heap.size ≤ x) := fun v hv x hx => by
          rcases List.mem_append.1 hv with h1 | h1
          · exact HNW.out v h1 x hx
          · exact Nat.le_trans HFK.out.1 (hB3 v h1 x hx)
        have HK5 : Hid (w5.ownsRow P0.heap.size 3 1 (.slice a5 n5 c5) (kidsTo l (i : Int) (m + 1)).length (ilV (kidsTo l (i : Int) (m + 1))) ∧ (∀ x, (Value.slice a5 n5 c5).ownBlock = some x → w.heap.size ≤ x) ∧ ∀ v ∈ news ++ news3, ∀ x, v.ownBlock = some x → (Value.slice a5 n5 c5).ownBlock ≠ some x) := by
          refine ⟨by rw [hnext]; exact hown5, fun x hx => ?_, fun v hv x hx hkx => ?_⟩
          · rcases hid5 with h1 | h1
            · exact HKK.out.2.1 x (by rw [← h1]; exact hx)
            · rw [h1] at hx
              injection hx with hx
              have := HFK.out.1
              omega
          · rcases hid5 with h1 | h1
            · rw [h1] at hkx
              rcases List.mem_append.1 hv with h2 | h2
              · exact HKK.out.2.2 v h2 x hx hkx
              · have h3 := hB3 v h2 x hx
                have h4 := hkw3 x hkx
                omega
            · rw [h1] at hkx
              injection hkx with hkx
              obtain ⟨j2, hj2⟩ := List.mem_iff_getElem?.1 (show v ∈ vs ++ [Value.slice none 0 0] ++ news ++ news3 by
                rw [List.append_assoc (vs ++ [Value.slice none 0 0])]
                exact List.mem_append.2 (.inr hv))
              have := (hC3.kids.lt hj2 hx).2
              omega
        have HF5 : Hid (FrI A w w5) := ⟨Nat.le_trans HFK.out.1 (Nat.le_trans hF3.1 hbel5.size), fun x cs fr hx hn => (hot5 x (by
            have h1 := (Array.getElem?_eq_some_iff.1 hx).1
            have h2 := HFK.out.1
            omega) (fun hk => by
            have h1 := (Array.getElem?_eq_some_iff.1 hx).1
            have h2 := HKK.out.2.1 x hk
            omega)).trans ((HFK.out.trans hF3).2 x cs fr hx hn)⟩
        have HML : Hid (k ≤ m ∧ m + 1 ≤ l.length) := ⟨hkm, hml⟩
        have hmI : (m : Int) ≤ 1048576 := by omega
        clear hC5 hC3 hB3 hF3 hkr hown5 hbel5 hot5 hid5 hst3 hkm hml hnext hkw3 hsz3 hv3 hE3 cI HSK HCK HNW HKK HFK
        go_wp2_with (at_builtin; refine append_run rfl _ _ 25 rfl _ _ rfl rfl _ w5 hrun5 ?_)
        go_roundw
        case rel => exact ⟨m + 1, a5, n5, c5, news ++ news3, rfl, by go_num, HML.out.2, HST, HC5, HN5, HK5, HF5⟩
        case measure => simp [intOf]; have := HML.out; omega
end Go.Proofs.Ytkdlakcmhdiojaa
/- How impl walks over a stream, as a plain function on the kind of its place and on those around it; it goes as Nested does. -/
namespace Go.Proofs.Ytkdlakcmhdiojaa
/-- The kind of a place in a collection that has x nodes (-1: a list). -/
def cod (x : Int) : Int := if x < 0 then 4 else if x % 2 = 0 then 5 else 6
def nd (c : Int) : Option Int := if c = 2 then some 3 else if c = 5 then some 6 else if c = 6 then some 5 else if c = 4 then some 4 else none
def tk (c : Int) (ar : List Int) (k : Int) : Option (Int × List Int) :=
  if k = 1 then (if c = 0 then some (1, ar) else none)
  else if k = 2 then (if c = 1 then some (2, ar) else none)
  else if k = 3 then (nd c).map fun d => (4, d :: ar)
  else if k = 4 then (nd c).map fun d => (5, d :: ar)
  else if k = 5 ∨ k = 6 then (nd c).map fun d => (d, ar)
  else if k = 7 then (if c = 4 ∨ c = 5 then some (ar.headD 0, ar.tail) else none)
  else if k = 8 then (if c = 3 then some (1, ar) else none)
  else if k = 9 then (if c = 1 then some (7, ar) else none)
  else (if c ≠ 0 ∧ c ≠ 7 then some (7, ar) else none)
/-- The place of the walk and what the specification keeps. -/
def Rel (first : Bool) (doc : Int) (st : List Int) (c : Int) (ar : List Int) : Prop :=
  (first = true ∧ doc = 0 ∧ st = [] ∧ c = 0 ∧ ar = []) ∨ (first = false ∧ doc = 0 ∧ st = [] ∧ c = 1 ∧ ar = []) ∨ (first = false ∧ doc = 1 ∧ st = [] ∧ c = 2 ∧ ar = []) ∨ (first = false ∧ doc = 2 ∧ st = [] ∧ c = 3 ∧ ar = []) ∨
  (first = false ∧ doc = 2 ∧ ∃ x t, st = x :: t ∧ c = cod x ∧ ar = t.map cod ++ [3])
theorem Rel.at0 : Rel true 0 [] 0 [] := .inl ⟨rfl, rfl, rfl, rfl, rfl⟩
theorem Rel.out : Rel false 0 [] 1 [] := .inr (.inl ⟨rfl, rfl, rfl, rfl, rfl⟩)
theorem Rel.doc : Rel false 1 [] 2 [] := .inr (.inr (.inl ⟨rfl, rfl, rfl, rfl, rfl⟩))
theorem Rel.full : Rel false 2 [] 3 [] := .inr (.inr (.inr (.inl ⟨rfl, rfl, rfl, rfl, rfl⟩)))
theorem Rel.more (x : Int) (t : List Int) : Rel false 2 (x :: t) (cod x) (t.map cod ++ [3]) := .inr (.inr (.inr (.inr ⟨rfl, rfl, x, t, rfl, rfl, rfl⟩)))
theorem nd_cod (x : Int) : nd (cod x) = some (cod (stI x)) := by
  unfold cod stI nd
  by_cases h : x < 0
  · rw [if_pos h, if_neg (show ¬ 0 ≤ x by omega), if_pos h]
    rfl
  · rw [if_neg h, if_pos (show 0 ≤ x by omega), if_neg (show ¬ x + 1 < 0 by omega)]
    by_cases h2 : x % 2 = 0
    · rw [if_pos h2, if_neg (show ¬ (x + 1) % 2 = 0 by omega)]; rfl
    · rw [if_neg h2, if_pos (show (x + 1) % 2 = 0 by omega)]; rfl
theorem cod_in (x : Int) : cod x = 4 ∨ cod x = 5 ∨ cod x = 6 := by
  unfold cod
  split
  · exact .inl rfl
  · split
    · exact .inr (.inl rfl)
    · exact .inr (.inr rfl)
theorem cod_odd (x : Int) : cod x = 6 ↔ 0 < x ∧ x % 2 = 1 := by
  unfold cod
  split
  · constructor
    · intro h; cases h
    · intro h; omega
  · split
    · constructor
      · intro h; cases h
      · intro h; omega
    · constructor
      · intro _; omega
      · intro _; rfl
/-- What one event does. -/
def stepK (first : Bool) (doc : Int) (st : List Int) (e : Ev) (t : List Ev) : Option (Int × List Int) → Prop
  | none => nst first doc st (e :: t) = false
  | some p => (p.1 = 7 ∧ nst first doc st (e :: t) = t.isEmpty) ∨ (∃ f d s, Rel f d s p.1 p.2 ∧ nst first doc st (e :: t) = nst f d s t)
theorem step_walk {first : Bool} {doc : Int} {st : List Int} {c : Int} {ar : List Int} (h : Rel first doc st c ar) (e : Ev) (t : List Ev) (hok : evOk e = true) : stepK first doc st e t (tk c ar e.kind) := by
  obtain ⟨k1, k10⟩ := evOk_kind hok
  have hk : e.kind = 1 ∨ e.kind = 2 ∨ e.kind = 3 ∨ e.kind = 4 ∨ e.kind = 5 ∨ e.kind = 6 ∨ e.kind = 7 ∨ e.kind = 8 ∨ e.kind = 9 ∨ e.kind = 10 := by omega
  have hne : ¬ evOk e = false := by rw [hok]; simp
  rcases h with ⟨rfl, rfl, rfl, rfl, rfl⟩ | ⟨rfl, rfl, rfl, rfl, rfl⟩ | ⟨rfl, rfl, rfl, rfl, rfl⟩ | ⟨rfl, rfl, rfl, rfl, rfl⟩ | ⟨rfl, rfl, x, s, rfl, rfl, rfl⟩
  case inl =>
    rcases hk with h | h | h | h | h | h | h | h | h | h
    · rw [h]
      refine .inr ⟨_, _, _, Rel.out, ?_⟩
      rw [nst, if_neg hne]
      simp [h]
    all_goals
      rw [h]
      show nst true 0 [] (e :: t) = false
      rw [nst, if_neg hne]
      simp [h]
  case inr.inl =>
    rcases hk with h | h | h | h | h | h | h | h | h | h
    · rw [h]
      show nst false 0 [] (e :: t) = false
      rw [nst, if_neg hne]
      simp [h]
    · rw [h]
      refine .inr ⟨_, _, _, Rel.doc, ?_⟩
      rw [nst, if_neg hne]
      simp [h]
    case inr.inr.inr.inr.inr.inr.inr.inr.inl =>
      rw [h]
      refine .inl ⟨rfl, ?_⟩
      rw [nst, if_neg hne]
      simp [h]
    case inr.inr.inr.inr.inr.inr.inr.inr.inr =>
      rw [h]
      refine .inl ⟨rfl, ?_⟩
      rw [nst, if_neg hne]
      simp [h]
    all_goals
      rw [h]
      show nst false 0 [] (e :: t) = false
      rw [nst, if_neg hne]
      simp [h]
  case inr.inr.inl =>
    rcases hk with h | h | h | h | h | h | h | h | h | h
    case inr.inr.inl =>
      rw [h]
      refine .inr ⟨_, _, _, Rel.more (-1) [], ?_⟩
      rw [nst, if_neg hne]
      simp [h, pushK]
    case inr.inr.inr.inl =>
      rw [h]
      refine .inr ⟨_, _, _, Rel.more 0 [], ?_⟩
      rw [nst, if_neg hne]
      simp [h, pushK]
    case inr.inr.inr.inr.inl =>
      rw [h]
      refine .inr ⟨_, _, _, Rel.full, ?_⟩
      rw [nst, if_neg hne]
      simp [h, pushK]
    case inr.inr.inr.inr.inr.inl =>
      rw [h]
      refine .inr ⟨_, _, _, Rel.full, ?_⟩
      rw [nst, if_neg hne]
      simp [h, pushK]
    case inr.inr.inr.inr.inr.inr.inr.inr.inr =>
      rw [h]
      refine .inl ⟨rfl, ?_⟩
      rw [nst, if_neg hne]
      simp [h]
    all_goals
      rw [h]
      show nst false 1 [] (e :: t) = false
      rw [nst, if_neg hne]
      simp [h]
  case inr.inr.inr.inl =>
    rcases hk with h | h | h | h | h | h | h | h | h | h
    case inr.inr.inr.inr.inr.inr.inr.inl =>
      rw [h]
      refine .inr ⟨_, _, _, Rel.out, ?_⟩
      rw [nst, if_neg hne]
      simp [h]
    case inr.inr.inr.inr.inr.inr.inr.inr.inr =>
      rw [h]
      refine .inl ⟨rfl, ?_⟩
      rw [nst, if_neg hne]
      simp [h]
    all_goals
      rw [h]
      show nst false 2 [] (e :: t) = false
      rw [nst, if_neg hne]
      simp [h]
  case inr.inr.inr.inr =>
    have hc := cod_in x
    rcases hk with h | h | h | h | h | h | h | h | h | h
    case inr.inr.inl =>
      rw [h, show tk (cod x) (s.map cod ++ [3]) 3 = some (4, cod (stI x) :: (s.map cod ++ [3])) from by show (nd (cod x)).map _ = _; rw [nd_cod]; rfl]
      refine .inr ⟨_, _, _, Rel.more (-1) (stI x :: s), ?_⟩
      rw [nst, if_neg hne]
      simp [h, pushK]
    case inr.inr.inr.inl =>
      rw [h, show tk (cod x) (s.map cod ++ [3]) 4 = some (5, cod (stI x) :: (s.map cod ++ [3])) from by show (nd (cod x)).map _ = _; rw [nd_cod]; rfl]
      refine .inr ⟨_, _, _, Rel.more 0 (stI x :: s), ?_⟩
      rw [nst, if_neg hne]
      simp [h, pushK]
    case inr.inr.inr.inr.inl =>
      rw [h, show tk (cod x) (s.map cod ++ [3]) 5 = some (cod (stI x), s.map cod ++ [3]) from by show (nd (cod x)).map _ = _; rw [nd_cod]; rfl]
      refine .inr ⟨_, _, _, Rel.more (stI x) s, ?_⟩
      rw [nst, if_neg hne]
      simp [h, pushK]
    case inr.inr.inr.inr.inr.inl =>
      rw [h, show tk (cod x) (s.map cod ++ [3]) 6 = some (cod (stI x), s.map cod ++ [3]) from by show (nd (cod x)).map _ = _; rw [nd_cod]; rfl]
      refine .inr ⟨_, _, _, Rel.more (stI x) s, ?_⟩
      rw [nst, if_neg hne]
      simp [h, pushK]
    case inr.inr.inr.inr.inr.inr.inl =>
      rw [h]
      by_cases h6 : cod x = 6
      · rw [show tk (cod x) (s.map cod ++ [3]) 7 = none from by show (if cod x = 4 ∨ cod x = 5 then _ else none) = _; rw [if_neg (by omega)]]
        show nst false 2 (x :: s) (e :: t) = false
        have ho := (cod_odd x).1 h6
        rw [nst, if_neg hne]
        simp [h, ho]
      · rw [show tk (cod x) (s.map cod ++ [3]) 7 = some ((s.map cod ++ [3]).headD 0, (s.map cod ++ [3]).tail) from by show (if cod x = 4 ∨ cod x = 5 then _ else none) = _; rw [if_pos (by omega)]]
        have ho : ¬ (0 < x ∧ x % 2 = 1) := fun hh => h6 ((cod_odd x).2 hh)
        have hn : nst false 2 (x :: s) (e :: t) = nst false 2 s t := by
          rw [nst, if_neg hne]
          simp [h, ho]
        cases s with
        | nil => exact .inr ⟨_, _, _, Rel.full, hn⟩
        | cons y u => exact .inr ⟨_, _, _, Rel.more y u, hn⟩
    case inr.inr.inr.inr.inr.inr.inr.inr.inr =>
      rw [h, show tk (cod x) (s.map cod ++ [3]) 10 = some (7, s.map cod ++ [3]) from by show (if cod x ≠ 0 ∧ cod x ≠ 7 then _ else none) = _; rw [if_pos (by omega)]]
      refine .inl ⟨rfl, ?_⟩
      rw [nst, if_neg hne]
      simp [h]
    · rw [h, show tk (cod x) (s.map cod ++ [3]) 1 = none from by show (if cod x = 0 then _ else none) = _; rw [if_neg (by omega)]]
      show nst false 2 (x :: s) (e :: t) = false
      rw [nst, if_neg hne]
      simp [h]
    · rw [h, show tk (cod x) (s.map cod ++ [3]) 2 = none from by show (if cod x = 1 then _ else none) = _; rw [if_neg (by omega)]]
      show nst false 2 (x :: s) (e :: t) = false
      rw [nst, if_neg hne]
      simp [h]
    · rw [h, show tk (cod x) (s.map cod ++ [3]) 8 = none from by show (if cod x = 3 then _ else none) = _; rw [if_neg (by omega)]]
      show nst false 2 (x :: s) (e :: t) = false
      rw [nst, if_neg hne]
      simp [h]
    · rw [h, show tk (cod x) (s.map cod ++ [3]) 9 = none from by show (if cod x = 1 then _ else none) = _; rw [if_neg (by omega)]]
      show nst false 2 (x :: s) (e :: t) = false
      rw [nst, if_neg hne]
      simp [h]
theorem tk_end (ar : List Int) (k : Int) (h1 : 1 ≤ k) (h2 : k ≤ 10) : tk 7 ar k = none := by
  have hk : k = 1 ∨ k = 2 ∨ k = 3 ∨ k = 4 ∨ k = 5 ∨ k = 6 ∨ k = 7 ∨ k = 8 ∨ k = 9 ∨ k = 10 := by omega
  rcases hk with rfl | rfl | rfl | rfl | rfl | rfl | rfl | rfl | rfl | rfl <;> rfl
theorem Rel.no7 {first : Bool} {doc : Int} {st : List Int} {c : Int} {ar : List Int} (h : Rel first doc st c ar) : c ≠ 7 := by
  rcases h with ⟨_, _, _, h, _⟩ | ⟨_, _, _, h, _⟩ | ⟨_, _, _, h, _⟩ | ⟨_, _, _, h, _⟩ | ⟨_, _, x, t, _, h, _⟩
  · omega
  · omega
  · omega
  · omega
  · have := cod_in x
    omega
theorem Rel.some {first : Bool} {doc : Int} {st : List Int} {c : Int} {ar : List Int} (h : Rel first doc st c ar) (hc : c = 4 ∨ c = 5) : ∃ x t, ar = x :: t := by
  rcases h with ⟨_, _, _, h, _⟩ | ⟨_, _, _, h, _⟩ | ⟨_, _, _, h, _⟩ | ⟨_, _, _, h, _⟩ | ⟨_, _, x, t, _, _, h⟩
  · omega
  · omega
  · omega
  · omega
  · subst h
    cases t with
    | nil => exact ⟨_, _, rfl⟩
    | cons y u => exact ⟨_, _, rfl⟩
end Go.Proofs.Ytkdlakcmhdiojaa
