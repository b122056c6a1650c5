/- The contract of impl's shelve: the map of the pages by number, and the list of use. -/
import Derived.Test.YtopmboioojedbacFet
namespace Go.Proofs.Ytopmboioojedbac
open Go.Maps Go.RowKit
/-- The slice value v holds the pages ps, in a block below B. -/
def SlP (B : Nat) (w : World) (v : Value) (ps : List Pv) : Prop :=
  (ps = [] ∧ ∃ a c, v = .slice a 0 c) ∨
  (ps ≠ [] ∧ ∃ b off c, v = .slice (some ⟨b, off, none⟩) ps.length c ∧ b < B ∧ ps.length ≤ c ∧ ∀ i p, ps[i]? = some p → w.cell? ⟨b, off + i * 2, none⟩ = some (.int .i64 p.1) ∧ w.cell? ⟨b, off + i * 2 + 1, none⟩ = some p.2)
theorem SlP.stays {B : Nat} {w w' : World} {v : Value} {zs : List Pv} (h : SlP B w v zs) (hb : Below B w w') : SlP B w' v zs := by
  rcases h with h | ⟨h, b, off, c, e, hlt, hlc, hc⟩
  · exact .inl h
  · exact .inr ⟨h, b, off, c, e, hlt, hlc, fun i p hi => by rw [hb.cell hlt, hb.cell hlt]; exact hc i p hi⟩
theorem SlP.mono {B B' : Nat} {w : World} {v : Value} {zs : List Pv} (h : SlP B w v zs) (hb : B ≤ B') : SlP B' w v zs := by
  rcases h with h | ⟨h, b, off, c, e, hlt, hlc, hc⟩
  · exact .inl h
  · exact .inr ⟨h, b, off, c, e, Nat.lt_of_lt_of_le hlt hb, hlc, hc⟩
def isSl (v : Value) : Prop := ∃ a n c, v = .slice a n c
/-- A shelf as shelve leaves it, whether or not two numbers are alike. -/
def ShT (B : Nat) (w : World) (size f : Int) (ps : List Pv) : Prop :=
  ∃ u D, w.heap[B + 2]? = some (.cells #[.int .i64 size, .map (some (B + 1)), u, .int .i64 f] 50 (0, 0)) ∧
    w.ownsMap Try.prog 3 R0 (B + 1) (Maps.size D) D ∧ MapTo D ps ∧ w.ownsRow (B + 3) 3 1 u ps.length (ps.map numV)
theorem ShT.is {B : Nat} {w : World} {size f : Int} {ps : List Pv} (h : ShT B w size f ps) (hn : (ps.map (·.1)).Nodup) : Sh B w size f ps := by
  obtain ⟨u, D, h1, h2, h3, h4⟩ := h
  exact ⟨u, D, h1, h2, h3.is hn, h4⟩
theorem size_take {ps : List Pv} {k : Nat} {D : DataW Value} (h : MapTo D (ps.take k)) (hl : ps.length ≤ 6) : Maps.size D < maxLen := by
  have h1 := dz_le ((ps.take k).map (·.1)).reverse
  rw [h.size]
  simp only [List.length_reverse, List.length_map, List.length_take] at h1
  unfold maxLen
  omega
/-- append as one step of a region that draws, its run being known. -/
theorem step_append_run {P : Program} {ops : Array Oper} {o : Oper} {a : Act} {w : World} {K : Act → World → Prop} {Q : Exit → Act → World → Prop} {E : Prop}
    (hg : o.guard = none) (s x : Operand) (t : TypeId) (hop : o.op = Op.call { callee := Callee.builtin Builtin.append, args := #[s, x], argTypes := #[t, t] })
    (v u : Value) (hs : a.eval s = v) (hx : a.eval x = u) (r : Value) (w' : World) (hrun : (Builtin.append_ #[t, t] o.type #[v, u]).run P w = .ok r w')
    (hK : K (a.put o.dst r) w') :
    if Region.wanted o (yielded ops a.tmps) = true then Oper.wp P o a w K Q else E := by
  have hw : Region.wanted o (yielded ops a.tmps) = true := by simp [Region.wanted, hg]
  rw [if_pos hw]
  unfold Oper.wp execOp
  simp only [hop, resolve, invoke, builtin, Sem.run_bind, Sem.run_pure, Result.andThen_ok, List.map_toArray, List.map_cons, List.map_nil, hs, hx, hrun]
  exact hK
theorem take_snoc {ps : List Pv} {k : Nat} {p : Pv} (h : ps[k]? = some p) : ps.take (k + 1) = ps.take k ++ [p] := by
  rw [List.take_add_one, h]
  rfl
theorem start_ (w : World) (o : Obj) (size f : Int) (ps : List Pv) :
    ShT w.heap.size (((w.alloc o).alloc (.map #[] 0)).alloc (.cells #[.int .i64 size, .map (some (w.heap.size + 1)), .slice none 0 0, .int .i64 f] 50)) size f (ps.take 0) := by
  have e1 : (w.alloc o).heap.size = w.heap.size + 1 := by simp
  have e2 : ((w.alloc o).alloc (.map #[] 0)).heap.size = w.heap.size + 2 := by simp
  refine ⟨.slice none 0 0, .map [], ?_, ?_, MapTo.empty, World.ownsRow_nil _ _ _ _⟩
  · have := heap_alloc_new ((w.alloc o).alloc (.map #[] 0)) (.cells #[.int .i64 size, .map (some (w.heap.size + 1)), .slice none 0 0, .int .i64 f] 50)
    rw [e2] at this
    exact this
  · have := (World.ownsMap_made (w.alloc o) Try.prog 3 R0).alloc (.cells #[.int .i64 size, .map (some (w.heap.size + 1)), .slice none 0 0, .int .i64 f] 50)
    rw [e1] at this
    exact this
set_option maxHeartbeats 1000000 in
theorem shelve_nil (w : World) (size f : Int) (a : Option Addr) (c : Nat) :
    Calls Try.prog 13 #[.agg #[.int .i64 size, .slice a 0 c, .int .i64 f]] w fun e w' =>
      e = .returned (.pointer (some ⟨w.heap.size + 2, 0, none⟩)) ∧ ShT w.heap.size w' size f [] ∧ Below w.heap.size w w' := by
  have hmm := @run_makeMap Try.prog
  go_enter Try.func13, Try.ntmps13
  go_wp2_with fail
  refine wp_loop_rounds 1 ?_
  rw [rounds_succ]
  go_wp2_with fail
  go_ret
  exact ⟨rfl, start_ _ _ _ _ [], (((Below.refl _ w).alloc (Nat.le_refl _) _).alloc (by simp) _).alloc (by simp; omega) _⟩
set_option maxHeartbeats 4000000 in
theorem shelve_ (w : World) (size f : Int) (b off c : Nat) (ps : List Pv) (hlen : ps.length ≤ 6) (hblt : b < w.heap.size)
    (hc : ∀ i p, ps[i]? = some p → w.cell? ⟨b, off + i * 2, none⟩ = some (.int .i64 p.1) ∧ w.cell? ⟨b, off + i * 2 + 1, none⟩ = some p.2) (hsl : ∀ p ∈ ps, isSl p.2) (hwf : ∀ p ∈ ps, (Lit.int .i64 p.1).wf = true) :
    Calls Try.prog 13 #[.agg #[.int .i64 size, .slice (some ⟨b, off, none⟩) ps.length c, .int .i64 f]] w fun e w' =>
      e = .returned (.pointer (some ⟨w.heap.size + 2, 0, none⟩)) ∧ ShT w.heap.size w' size f ps ∧ Below w.heap.size w w' := by
  obtain ⟨ti, hti, hz0, hz1, hz2⟩ := info_parts info3
  have HC : Hid (∀ i p, ps[i]? = some p → w.cell? ⟨b, off + i * 2, none⟩ = some (.int .i64 p.1) ∧ w.cell? ⟨b, off + i * 2 + 1, none⟩ = some p.2) := hc
  have HS : Hid (∀ p ∈ ps, isSl p.2) := hsl
  have HW : Hid (∀ p ∈ ps, (Lit.int .i64 p.1).wf = true) := hwf
  clear hc hsl hwf
  have hmm := @run_makeMap Try.prog
  go_enter Try.func13, Try.ntmps13
  go_wp2_with fail
  go_loopw [16] (fun i wr => ∃ k : Nat, k ≤ ps.length ∧ i = .int .i64 k ∧ ShT w.heap.size wr size f (ps.take k) ∧ Below w.heap.size w wr) (fun i _ => ps.length - (intOf i).toNat)
  case atStart =>
    refine ⟨0, Nat.zero_le _, rfl, start_ _ _ _ _ _, ?_⟩
    exact (((Below.refl _ w).alloc (Nat.le_refl _) _).alloc (by simp) _).alloc (by simp; omega) _
  case round =>
    obtain ⟨k, hk, rfl, hS, hb⟩ := hrel
    by_cases hlt : k < ps.length
    · obtain ⟨⟨x, vv⟩, hp⟩ : ∃ p, ps[k]? = some p := ⟨_, List.getElem?_eq_getElem hlt⟩
      obtain ⟨a0, n0, c0, rfl⟩ : isSl vv := HS.out (x, vv) (List.mem_of_getElem? hp)
      have hlt' : (k : Int) < (ps.length : Int) := by omega
      have hc1 : wr.cell? ⟨b, off + k * 2, none⟩ = some (.int .i64 x) := by rw [hb.cell hblt]; exact (HC.out k _ hp).1
      have hc2 : wr.cell? ⟨b, off + k * 2 + 1, none⟩ = some (.slice a0 n0 c0) := by rw [hb.cell hblt]; exact (HC.out k _ hp).2
      have HP : Hid (ps[k]? = some (x, .slice a0 n0 c0)) := hp
      clear hp
      obtain ⟨u, D, h1, h2, h3, h4⟩ := hS
      have hxw := HW.out (x, .slice a0 n0 c0) (List.mem_of_getElem? HP.out)
      have hszr : w.heap.size + 3 ≤ wr.heap.size := lt_of_get h1
      have htk : (ps.take k).length = k := by rw [List.length_take]; omega
      rw [htk] at h4
      -- the world behind the round's variable
      obtain ⟨w0, hw0⟩ : ∃ w0, w0 = wr.alloc (.cells #[.int .i64 x, .slice a0 n0 c0] 46) := ⟨_, rfl⟩
      have b1 : w0.heap[w.heap.size + 2]? = some (.cells #[.int .i64 size, .map (some (w.heap.size + 1)), u, .int .i64 f] 50 (0, 0)) := by rw [hw0, Below.heap_alloc _ _ _ (by omega)]; exact h1
      have b2 : w0.ownsMap Try.prog 3 R0 (w.heap.size + 1) (Maps.size D) D := by rw [hw0]; exact h2.alloc _
      have b4 : w0.ownsRow (w.heap.size + 3) 3 1 u k ((ps.take k).map numV) := by rw [hw0]; exact h4.alloc _
      have bP : w0.heap[wr.heap.size]? = some (.cells #[.int .i64 x, .slice a0 n0 c0] 46 (0, 0)) := by rw [hw0]; exact heap_alloc_new wr _
      have bB : Below w.heap.size w w0 := by rw [hw0]; exact hb.alloc (by omega) _
      -- behind the store into the map
      obtain ⟨w1, hup, hown1, hgr1⟩ := World.ownsMap.update (w := w0.drew) b2 keyed3 Try.underlying47 (size_take h3 hlen) (key := .int .i64 x) (val := .slice a0 n0 c0) (keyOf_int_mk Try.underlying3 hxw) rfl
      have hsz0 : w.heap.size + 3 ≤ w0.heap.size := lt_of_get b1
      have d1 := (hgr1.block (w.heap.size + 2) (by show _ < w0.heap.size; omega) (by simp)).trans b1
      have d2 : w1.ownsMap Try.prog 3 R0 (w.heap.size + 1) (Maps.size (D.put (key x) (.held (.slice a0 n0 c0)))) (D.put (key x) (.held (.slice a0 n0 c0))) := own_tight hown1
      have d3 : MapTo (D.put (key x) (.held (.slice a0 n0 c0))) (ps.take k ++ [(x, .slice a0 n0 c0)]) := h3.put x _
      have d4 : w1.ownsRow (w.heap.size + 3) 3 1 u k ((ps.take k).map numV) := row_block b4 (fun j hj hj2 => hgr1.block j hj2 (by simp; omega))
      have dP := (hgr1.block wr.heap.size (lt_of_get bP) (by simp; omega)).trans bP
      have dB : Below w.heap.size w w1 := bB.trans ⟨hgr1.os, hgr1.tape, hgr1.output, hgr1.size, fun j hj => hgr1.block j (by show j < w0.heap.size; omega) (by simp; omega)⟩
      have hsz1 : w.heap.size + 3 ≤ w1.heap.size := lt_of_get d1
      -- behind the append
      obtain ⟨g, cap, w2, hap, hown2, hgr2, _, _⟩ := run_append_lies (P := Try.prog) ((w1.drew).alloc (.cells #[.int .i64 x] 3)) 48 48 (w.heap.size + 3) 3 ti (.int .i64 0) 1 8 Try.underlying48 hti hz0 hz1 hz2 rfl (by decide) u k _ (d4.alloc _) ⟨w1.heap.size, 0, none⟩ 1 1 [.int .i64 x] rfl (cell_one_new _ _ _) (one_cellV _ rfl) (by omega) (by unfold maxLen; omega) (by omega) (by simp; omega) _ rfl
      have eB : Below (w.heap.size + 3) w1 w2 := (((Below.refl _ w1).drew).alloc (w := w1.drew) hsz1 _).grown hgr2 (by simp; omega) (fun j hj => ((d4.lt j hj).1))
      obtain ⟨e1, e2⟩ := Sh.keep d1 d2 eB
      have e4 : w2.ownsRow (w.heap.size + 3) 3 1 (.slice (some ⟨g, 0, none⟩) (k + 1) cap) (ps.take k ++ [(x, Value.slice a0 n0 c0)]).length ((ps.take k ++ [(x, Value.slice a0 n0 c0)]).map numV) := own_snoc hown2 (by simp [numV]) htk
      have fB : Below w.heap.size w w2 := dB.trans (eB.mono (by omega))
      -- the cells
      have cm0 : w0.cell? ⟨w.heap.size + 1 + 1, 1, none⟩ = some (.map (some (w.heap.size + 1))) := c4_1 b1
      have cx0 : w0.cell? ⟨wr.heap.size, 0, none⟩ = some (.int .i64 x) := by simp [World.cell?, bP]
      have cv0 : w0.cell? ⟨wr.heap.size, 1, none⟩ = some (.slice a0 n0 c0) := by simp [World.cell?, bP]
      have cu1 : w1.cell? ⟨w.heap.size + 1 + 1, 2, none⟩ = some u := c4_2 d1
      have cx1 : w1.cell? ⟨wr.heap.size, 0, none⟩ = some (.int .i64 x) := by simp [World.cell?, dP]
      have cu2 : w2.cell? ⟨w.heap.size + 1 + 1, 2, none⟩ = some u := c4_2 e1
      have fu2 : w2.frozen? ⟨w.heap.size + 1 + 1, 2, none⟩ = false := c4_f e1 2
      have n1 : w1.heap.size ≠ w.heap.size + 1 + 1 := by omega
      have n2 : w1.heap.size ≠ wr.heap.size := by have := lt_of_get dP; omega
      have cu1a : (w1.alloc (.cells #[.int .i64 x] 3)).cell? ⟨w.heap.size + 1 + 1, 2, none⟩ = some u := by rw [World.cell?_of_block (Below.heap_alloc w1 _ (w.heap.size + 2) (by omega))]; exact cu1
      have RA : ShT w.heap.size (w2.setCell ⟨w.heap.size + 1 + 1, 2, none⟩ (.slice (some ⟨g, 0, none⟩) (k + 1) cap)) size f (ps.take (k + 1)) := by
        rw [take_snoc HP.out]
        exact ⟨_, _, c4_set2 e1 _, map_block e2 (Below.heap_setCell _ _ _ _ (by simp)), d3, row_block e4 (fun j hj _ => Below.heap_setCell _ _ _ _ (by simp; omega))⟩
      have RB : Below w.heap.size w (w2.setCell ⟨w.heap.size + 1 + 1, 2, none⟩ (.slice (some ⟨g, 0, none⟩) (k + 1) cap)) := fB.setCell (by simp; omega) _
      have HRA : Hid _ := RA
      clear RA
      have HW0 : Hid (w0 = wr.alloc (.cells #[.int .i64 x, .slice a0 n0 c0] 46)) := hw0
      clear hw0 h1 h2 h4 b1 b2 b4 bP bB hown1 hgr1 d1 d2 d4 dP dB hown2 hgr2 eB htk h3
      go_wp2_with fail
      rw [← HW0.out]
      go_region
      go_wp2_with fail
      go_region_law (refine step_append_run (by rfl) _ _ 48 (by rfl) _ _ (by rfl) (by rfl) _ w2 hap ?_)
      all_goals go_wp2_with fail
      all_goals go_roundw
      all_goals first | exact ⟨k + 1, hlt, by go_num, HRA.out, RB⟩ | (simp [intOf]; omega)
    · go_wp2_with fail
      go_ret
      have ek : k = ps.length := by omega
      rw [ek, List.take_length] at hS
      exact ⟨rfl, hS, hb⟩
theorem shelve_any (w : World) (size f : Int) (v : Value) (ps : List Pv) (hP : SlP w.heap.size w v ps) (hlen : ps.length ≤ 6) (hsl : ∀ p ∈ ps, isSl p.2) (hwf : ∀ p ∈ ps, (Lit.int .i64 p.1).wf = true) :
    Calls Try.prog 13 #[.agg #[.int .i64 size, v, .int .i64 f]] w fun e w' =>
      e = .returned (.pointer (some ⟨w.heap.size + 2, 0, none⟩)) ∧ ShT w.heap.size w' size f ps ∧ Below w.heap.size w w' := by
  rcases hP with ⟨rfl, a, c, rfl⟩ | ⟨hne, b, off, c, rfl, hb, hc, hcell⟩
  · exact shelve_nil w size f a c
  · exact shelve_ w size f b off c ps hlen hb hcell hsl hwf
end Go.Proofs.Ytopmboioojedbac
