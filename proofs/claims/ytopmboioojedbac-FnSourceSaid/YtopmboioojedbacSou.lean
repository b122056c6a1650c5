/- The contract of impl's source: the shelf told as a source in new memory. -/
import Derived.Test.YtopmboioojedbacOut
import Derived.Handy
import Derived.Laws.ResultCell
namespace Go.Proofs.Ytopmboioojedbac
open Go.Maps Go.RowKit
theorem Sh.below {B : Nat} {w w' : World} {size f : Int} {ps : List Pv} (h : Sh B w size f ps) (hb : Below w.heap.size w w') : Sh B w' size f ps := by
  obtain ⟨u, D, h1, h2, h3, h4⟩ := h
  exact ⟨u, D, (hb.block _ (lt_of_get h1)).trans h1, map_block h2 (hb.block _ h2.lt), h3, row_block h4 (fun k _ hk => hb.block k hk)⟩
section
variable {w : World} {b : Nat} {x0 x1 x2 : Value} {t : TypeId}
theorem c3_0 (h : w.heap[b]? = some (.cells #[x0, x1, x2] t (0, 0))) : w.cell? ⟨b, 0, none⟩ = some x0 := by simp [World.cell?, h]
theorem c3_1 (h : w.heap[b]? = some (.cells #[x0, x1, x2] t (0, 0))) : w.cell? ⟨b, 1, none⟩ = some x1 := by simp [World.cell?, h]
theorem c3_2 (h : w.heap[b]? = some (.cells #[x0, x1, x2] t (0, 0))) : w.cell? ⟨b, 2, none⟩ = some x2 := by simp [World.cell?, h]
theorem c3_f (h : w.heap[b]? = some (.cells #[x0, x1, x2] t (0, 0))) (i : Nat) : w.frozen? ⟨b, i, none⟩ = false := by simp [World.frozen?, h]
theorem c3_set1 (h : w.heap[b]? = some (.cells #[x0, x1, x2] t (0, 0))) (v : Value) : (w.setCell ⟨b, 1, none⟩ v).heap[b]? = some (.cells #[x0, v, x2] t (0, 0)) := by
  simp [World.setCell, Array.getElem?_modify, h]
end
theorem c3_setAll {w : World} {b : Nat} {x0 x1 x2 : Value} {t : TypeId} (h : w.heap[b]? = some (.cells #[x0, x1, x2] t (0, 0))) (a0 a1 a2 : Value) :
    (((w.setCell ⟨b, 0, none⟩ a0).setCell ⟨b, 1, none⟩ a1).setCell ⟨b, 2, none⟩ a2).heap[b]? = some (.cells #[a0, a1, a2] t (0, 0)) := by
  simp [World.setCell, Array.getElem?_modify, h]
theorem results_cell_tmp_row {P : Program} {fn : Func} {p u : Tmp} {ty : TypeId} (h : fn.results = #[.cell p ty, .tmp u]) (tmps : Array Value) (w : World) (g : Nat) (t : TypeId) (cs : Array Value) (fr : Nat × Nat) (d : TypeDesc)
    (hp : tmps.getD p undef = .pointer (some ⟨g, 0, none⟩)) (hg : w.heap[g]? = some (.cells cs t fr))
    (hu : P.underlying ty = some d) (hd : (match d with | .struct _ | .array _ _ => true | _ => false) = true) (hi : (P.info? ty).map (·.size) = some cs.size) :
    (results fn tmps).run P w = .ok (.tuple #[.agg cs, tmps.getD u undef]) w := by
  have hp' : tmps[p]?.getD undef = .pointer (some ⟨g, 0, none⟩) := by simpa using hp
  rw [results_cell_tmp h]
  simp [hp', asAddr, run_loadVar_row w g t ty cs fr d hg hu hd hi, Result.andThen]
/-- How far the answer is built. -/
def Bld (H : Nat) (w : World) (size f : Int) (v : Value) (qs : List Pg) : Prop :=
  w.heap[H]? = some (.cells #[.int .i64 0, .slice none 0 0, .int .i64 0] 27 (0, 0)) ∧
  w.heap[H + 1]? = some (.cells #[.int .i64 size, v, .int .i64 f] 27 (0, 0)) ∧ Own (H + 2) w v qs
theorem Apart.snoc {v : Value} {ps : List Pv} (h : Apart v ps) {p : Pv} {v' : Value} (h1 : far p.2 v') (h2 : ∀ x ∈ ps, far x.2 v') (h3 : ∀ x ∈ ps, far x.2 p.2) : Apart v' (ps ++ [p]) := by
  refine ⟨fun x hx => ?_, ?_⟩
  · rcases List.mem_append.1 hx with hx | hx
    · exact h2 x hx
    · obtain rfl : x = p := by simpa using hx
      exact h1
  · rw [List.pairwise_append]
    exact ⟨h.each, by simp, fun x hx y hy => by
      obtain rfl : y = p := by simpa using hy
      exact h3 x hx⟩
/-- One page more: its bytes appended to nothing, and the page to the pages. -/
theorem page_more {lo B : Nat} {w : World} {v pd : Value} {qs : List Pg} {x : Int} {zs : List Int} (hO : Own lo w v qs) (hS : Sl B w pd zs) (hl : zs.length ≤ 1048576) (hq : qs.length ≤ 100) (hlo : lo ≤ w.heap.size) (ty ty2 : TypeId) :
    ∃ d w1, (Builtin.append_ #[22, 22] ty #[.slice none 0 0, pd]).run Try.prog w = .ok d w1 ∧ w.grownBy w1 none ∧ isSl d ∧
      ∃ v2 w2, (Builtin.append_ #[25, 25] ty2 #[v, .slice (some ⟨w1.heap.size, 0, none⟩) 1 1]).run Try.prog (w1.alloc (.cells #[.int .i64 x, d] 46)) = .ok v2 w2 ∧
        (w1.alloc (.cells #[.int .i64 x, d] 46)).grownBy w2 v.ownBlock ∧ Own lo w2 v2 (qs ++ [(x, zs)]) ∧ (∀ k, v.ownBlock = some k → lo ≤ k) ∧ isSl v2 := by
  obtain ⟨ti, hti, hz0, hz1, hz2⟩ := info_parts infoPg
  obtain ⟨ps, h1, h2, h3⟩ := hO
  obtain ⟨d, w1, hr1, hd, hg1, hloc, hsl⟩ := app_bytes hS lo (.slice none 0 0) [] (World.ownsRow_nil w lo 5 1) (by simp; omega) hlo ty
  rw [List.nil_append] at hd
  have hg1' : w.grownBy w1 none := hg1
  refine ⟨d, w1, hr1, hg1', hsl, ?_⟩
  have hlo1 : lo ≤ w1.heap.size := Nat.le_trans hlo hg1'.size
  have hp1 : w1.ownsRow lo 46 2 v ps.length (cellsP ps) := h1.kept hg1' (by cases v.ownBlock <;> simp)
  have hd1 : DO lo w1 ps qs := h2.kept hg1' (fun p _ => by cases p.2.ownBlock <;> simp)
  have hpl : ps.length ≤ 100 := by rw [h2.len]; exact hq
  have hd1c : d.oneCell' = true := by obtain ⟨a, n, c, rfl⟩ := hsl; rfl
  obtain ⟨v2, w2, hr2, ho2, hg2, hnil, hl2⟩ := run_append_own_at (P := Try.prog) (w1.alloc (.cells #[.int .i64 x, d] 46)) lo 25 ty2 46 ti _ 2 32 Try.underlying25 hti hz0 hz1 hz2 rfl (by decide) v ps.length _ (hp1.alloc _) ⟨w1.heap.size, 0, none⟩ 1 1 [.int .i64 x, d] rfl
    (World.news_of_block (cs := #[.int .i64 x, d]) (t := 46) (fr := (0, 0)) (heap_alloc_new w1 _)) (by intro u hu; simp at hu; rcases hu with rfl | rfl; rfl; exact hd1c) (by unfold maxLen; omega) (by omega) (by simp; omega)
  have hshape : isSl v2 := by
    rcases ho2.2 with ⟨e, _⟩ | ⟨g, cap, cur, e, _⟩
    · exact ⟨_, _, _, e⟩
    · exact ⟨_, _, _, e⟩
  have hltp : ∀ p ∈ ps, ∀ b, p.2.ownBlock = some b → b < w.heap.size := fun p hp b hb => (h2.lt p hp b hb).2
  have hdf : ∀ b, d.ownBlock = some b → b = w.heap.size := by
    intro b hb
    rcases hloc with e | e
    · rw [e] at hb; cases hb
    · rw [e] at hb; simpa using hb.symm
  refine ⟨v2, w2, hr2, hg2, ⟨ps ++ [(x, d)], ?_, ?_, ?_⟩, fun k hk => (h1.lt k hk).1, hshape⟩
  · have e : cellsP (ps ++ [(x, d)]) = cellsP ps ++ [.int .i64 x, d] := by simp [cellsP]
    rw [e, List.length_append]
    exact ho2
  · have a1 : DO lo (w1.alloc (.cells #[.int .i64 x, d] 46)) ps qs := hd1.kept (World.grownBy_alloc _ _ none) (fun p _ => by cases p.2.ownBlock <;> simp)
    have a2 : DO lo w2 ps qs := a1.kept hg2 (fun p hp => by
      cases hb : p.2.ownBlock with
      | none => exact .inl rfl
      | some b => exact .inr (fun e => h3.row p hp b hb e.symm))
    refine a2.snoc rfl ?_
    refine (hd.alloc _).kept hg2 ?_
    cases hb : d.ownBlock with
    | none => exact .inl rfl
    | some b =>
      right
      intro e
      have := (h1.lt b e.symm).2
      have := hdf b hb
      omega
  · have hv2 : ∀ b, v2.ownBlock = some b → v.ownBlock = some b ∨ w1.heap.size < b := by
      intro b hb
      rcases hl2 with e | e
      · left; rw [← e]; exact hb
      · right
        rw [e] at hb
        have : (w1.alloc (.cells #[.int .i64 x, d] 46)).heap.size = b := by simpa using hb
        simp at this
        omega
    have hsz := hg1'.size
    refine h3.snoc ?_ ?_ ?_
    · intro b hb hb2
      have e1 := hdf b hb
      rcases hv2 b hb2 with e | e
      · have := (h1.lt b e).2; omega
      · rcases hd.lt b hb with ⟨_, h⟩; omega
    · intro p hp b hb hb2
      have e1 := hltp p hp b hb
      rcases hv2 b hb2 with e | e
      · exact h3.row p hp b hb e
      · omega
    · intro p hp b hb hb2
      have e1 := hltp p hp b hb
      have e2 := hdf b hb2
      omega
def SrcPost (size f : Int) (qs : List Pg) (w : World) (e : Ending) (w' : World) : Prop :=
  ∃ v, e = .returned (.agg #[.int .i64 size, v, .int .i64 f]) ∧ Own w.heap.size w' v qs ∧ Below w.heap.size w w'
theorem Own.mono {lo lo' : Nat} {w : World} {v : Value} {qs : List Pg} (h : Own lo w v qs) (hl : lo' ≤ lo) : Own lo' w v qs := by
  obtain ⟨ps, h1, h2, h3⟩ := h
  exact ⟨ps, ⟨h1.1, h1.2.imp id (fun ⟨g, cap, cur, e, hb, r⟩ => ⟨g, cap, cur, e, Nat.le_trans hl hb, r⟩)⟩, h2.mono hl, h3⟩
theorem Own.block {lo : Nat} {w w' : World} {v : Value} {qs : List Pg} (h : Own lo w v qs) (hw : ∀ k, lo ≤ k → k < w.heap.size → w'.heap[k]? = w.heap[k]?) : Own lo w' v qs := by
  obtain ⟨ps, h1, h2, h3⟩ := h
  refine ⟨ps, row_block h1 hw, ?_, h3⟩
  clear h1 h3
  induction ps generalizing qs with
  | nil => cases qs with
    | nil => trivial
    | cons _ _ => exact h2.elim
  | cons p ps ih => cases qs with
    | nil => exact h2.elim
    | cons q qs => exact ⟨h2.1, row_block h2.2.1 hw, ih h2.2.2⟩
theorem own_nil (lo : Nat) (w : World) : Own lo w (.slice none 0 0) [] := ⟨[], World.ownsRow_nil _ _ _ _, trivial, ⟨fun p hp => by (cases hp), List.Pairwise.nil⟩⟩
theorem PQ.nth {B : Nat} {w : World} : ∀ {ps : List Pv} {qs : List Pg}, PQ B w ps qs → ∀ {k : Nat} {p : Pv} {q : Pg}, ps[k]? = some p → qs[k]? = some q → p.1 = q.1 ∧ Sl B w p.2 q.2
  | [], [], _, k, p, q, h1, h2 => by simp at h1
  | x :: ps, y :: qs, h, 0, p, q, h1, h2 => by
    obtain rfl : x = p := by simpa using h1
    obtain rfl : y = q := by simpa using h2
    exact ⟨h.1, h.2.1⟩
  | x :: ps, y :: qs, h, k + 1, p, q, h1, h2 => PQ.nth h.2.2 (by simpa using h1) (by simpa using h2)
  | [], _ :: _, h, _, _, _, _, _ => h.elim
  | _ :: _, [], h, _, _, _, _, _ => h.elim
theorem bld_start (w : World) (size f : Int) (qs : List Pg) : Hid (Bld w.heap.size ((w.alloc (.cells #[.int .i64 0, .slice none 0 0, .int .i64 0] 27)).drew.alloc (.cells #[.int .i64 size, .slice none 0 0, .int .i64 f] 27)) size f (.slice none 0 0) (qs.take 0)) := by
  refine ⟨?_, ?_, own_nil _ _⟩
  · rw [Below.heap_alloc _ _ _ (by simp)]
    exact heap_alloc_new w _
  · have := heap_alloc_new ((w.alloc (.cells #[.int .i64 0, .slice none 0 0, .int .i64 0] 27)).drew) (.cells #[.int .i64 size, .slice none 0 0, .int .i64 f] 27)
    simpa using this
set_option maxHeartbeats 4000000 in
theorem source_ (B : Nat) (w : World) (size f : Int) (ps : List Pv) (qs : List Pg) (hS : Sh B w size f ps) (hQ : PQ B w ps qs) (hlen : qs.length ≤ 6) (hdl : ∀ q ∈ qs, q.2.length ≤ 1048576) (hwf : ∀ q ∈ qs, (Lit.int .i64 q.1).wf = true) :
    Calls Try.prog 15 #[.pointer (some ⟨B + 2, 0, none⟩)] w fun e w' => SrcPost size f qs w e w' := by
  have hS' := hS
  obtain ⟨u, D, h1, h2, h3, h4⟩ := hS'
  have c0 := c4_0 h1
  have c1 := c4_1 h1
  have c2 := c4_2 h1
  have c3 := c4_3 h1
  have hltB := lt_of_get h1
  have hn : ps.length = qs.length := hQ.len
  obtain ⟨ua, ucap, rfl⟩ : ∃ a cap, u = .slice a ps.length cap := by
    rcases h4.2 with ⟨e, e2⟩ | ⟨g, cap, cur, e, _⟩
    · rw [e2]; exact ⟨_, _, e⟩
    · exact ⟨_, _, e⟩
  have HQ : Hid (PQ B w ps qs) := hQ
  have HS : Hid (Sh B w size f ps) := hS
  have H4 : Hid (w.ownsRow (B + 3) 3 1 (.slice ua ps.length ucap) ps.length (ps.map numV)) := h4
  have HDL : Hid (∀ q ∈ qs, q.2.length ≤ 1048576) := hdl
  have HWF : Hid (∀ q ∈ qs, (Lit.int .i64 q.1).wf = true) := hwf
  clear hQ hS h2 h3 h4 hdl hwf
  have nB : w.heap.size ≠ B + 2 := by omega
  have HN : Hid (ps.length = qs.length) := hn
  have hlen2 : ps.length ≤ 6 := by omega
  clear hn h1
  go_enter Try.func15, Try.ntmps15
  go_wp2_with fail
  go_region
  go_wp2_with fail
  go_loopw [21] (fun i wr => ∃ (k : Nat) (v : Value), k ≤ ps.length ∧ i = .int .i64 k ∧ Hid (Bld w.heap.size wr size f v (qs.take k)) ∧ Below w.heap.size w wr) (fun i _ => ps.length - (intOf i).toNat)
  case atStart =>
    refine ⟨0, .slice none 0 0, Nat.zero_le _, rfl, bld_start w size f qs, ?_⟩
    exact ((Below.refl _ w).alloc (Nat.le_refl _) _).drew.alloc (by simp) _
  case round =>
    obtain ⟨k, v, hk, rfl, HB, hb⟩ := hrel
    obtain ⟨r0, r1, hO⟩ := HB.out
    by_cases hlt : k < ps.length
    · obtain ⟨⟨x, pd⟩, hp⟩ : ∃ p, ps[k]? = some p := ⟨_, List.getElem?_eq_getElem hlt⟩
      obtain ⟨⟨qx, zs⟩, hq⟩ : ∃ q, qs[k]? = some q := ⟨_, List.getElem?_eq_getElem (by have := HN.out; omega)⟩
      obtain ⟨ex, hsl⟩ := PQ.nth HQ.out hp hq
      obtain rfl : x = qx := ex
      have hqm := List.mem_of_getElem? hq
      have hSr := Sh.below HS.out hb
      have hwfx := HWF.out _ hqm
      have hlk := look_ hSr (List.mem_of_getElem? hp) hwfx
      have hslr : Sl B wr pd zs := hsl.stays (hb.mono (by omega))
      have hszr : w.heap.size + 2 ≤ wr.heap.size := lt_of_get r1
      obtain ⟨d, w1, hap1, hg1, hsd, v2, w2, hap2, hg2, hO2, hvlo, hsv2⟩ := page_more (x := x) hO hslr (HDL.out _ hqm) (by rw [List.length_take]; omega) hszr 22 25
      obtain ⟨da, dn, dc, rfl⟩ := hsd
      obtain ⟨va, vn, vc, rfl⟩ := hsv2
      obtain ⟨g, rfl⟩ : ∃ g, ua = some ⟨g, 0, none⟩ := by
        rcases H4.out.2 with ⟨_, e⟩ | ⟨g, _, _, e, _⟩
        · omega
        · injection e with e; exact ⟨g, e⟩
      have cg : wr.cell? ⟨g, k, none⟩ = some (.int .i64 x) := by
        have hc := H4.out.cells (g := g) rfl k (.int .i64 x) (by rw [List.getElem?_map, hp]; rfl)
        have hadd : (⟨g, 0, none⟩ : Addr).add k = ⟨g, k, none⟩ := by unfold Addr.add; split <;> simp_all
        rw [hadd] at hc
        rw [hb.cell (World.block_lt_of_cell? w _ hc)]
        exact hc
      have cm : wr.cell? ⟨B + 2, 1, none⟩ = some (.map (some (B + 1))) := by rw [hb.cell (by show B + 2 < _; omega)]; exact c1
      have s1 : w1.heap[w.heap.size + 1]? = some (.cells #[.int .i64 size, v, .int .i64 f] 27 (0, 0)) := (hg1.block _ (by omega) (by simp)).trans r1
      have s0 : w1.heap[w.heap.size]? = some (.cells #[.int .i64 0, .slice none 0 0, .int .i64 0] 27 (0, 0)) := (hg1.block _ (by omega) (by simp)).trans r0
      have hsz1 := lt_of_get s1
      have ne1 : some (w.heap.size + 1) ≠ v.ownBlock := fun e => by have := hvlo _ e.symm; omega
      have ne0 : some w.heap.size ≠ v.ownBlock := fun e => by have := hvlo _ e.symm; omega
      have t1 : w2.heap[w.heap.size + 1]? = some (.cells #[.int .i64 size, v, .int .i64 f] 27 (0, 0)) := (hg2.block _ (by simp; omega) ne1).trans ((Below.heap_alloc _ _ _ hsz1).trans s1)
      have t0 : w2.heap[w.heap.size]? = some (.cells #[.int .i64 0, .slice none 0 0, .int .i64 0] 27 (0, 0)) := (hg2.block _ (by simp; omega) ne0).trans ((Below.heap_alloc _ _ _ (by omega)).trans s0)
      have hbw : Below w.heap.size w w2 := by
        have q1 := hb.grown hg1 (by omega) (fun j hj => by cases hj)
        have q2 := q1.alloc (by omega) (.cells #[.int .i64 x, .slice da dn dc] 46)
        exact q2.grown hg2 (by simp; omega) (fun j hj => by have := hvlo j hj; omega)
      have d1 := c3_1 s1
      have d2 := c3_1 t1
      have d3 := c3_f t1 1
      have RA : Hid (Bld w.heap.size (w2.setCell ⟨w.heap.size + 1, 1, none⟩ (.slice va vn vc)) size f (.slice va vn vc) (qs.take (k + 1))) := by
        show Bld w.heap.size (w2.setCell ⟨w.heap.size + 1, 1, none⟩ (.slice va vn vc)) size f (.slice va vn vc) (qs.take (k + 1))
        have e : qs.take (k + 1) = qs.take k ++ [(x, zs)] := by rw [List.take_add_one, hq]; rfl
        rw [e]
        exact ⟨(Below.heap_setCell _ _ _ _ (by simp)).trans t0, c3_set1 t1 _, hO2.block (fun j hj _ => Below.heap_setCell _ _ _ _ (by simp; omega))⟩
      have RB := hbw.setCell (p := ⟨w.heap.size + 1, 1, none⟩) (by simp) (.slice va vn vc)
      have hlt' : (k : Int) < (ps.length : Int) := by omega
      have vsh : isSl v := by
        obtain ⟨_, h, _⟩ := hO
        rcases h.2 with ⟨e, _⟩ | ⟨g, cap, cur, e, _⟩
        · exact ⟨_, _, _, e⟩
        · exact ⟨_, _, _, e⟩
      obtain ⟨v0, v1, v2, rfl⟩ := vsh
      clear hp hq hqm hSr hwfx hslr hsl hO hO2 hg1 hg2 hvlo s0 s1 t0 t1 r0 r1 hbw HB ne0 ne1
      go_wp2_with (at_builtin; first | refine wpList_append_run rfl _ _ 22 rfl _ _ rfl rfl _ w1 hap1 ?_ | refine wpList_append_run rfl _ _ 25 rfl _ _ rfl rfl _ w2 hap2 ?_)
      go_roundw
      case rel => exact ⟨k + 1, _, hlt, by go_num, RA, RB⟩
      case measure => simp [intOf]; omega
    · have ek : k = ps.length := by omega
      have hO' : Own (w.heap.size + 2) wr v qs := by
        have e : qs.take k = qs := by rw [ek, HN.out, List.take_length]
        rw [e] at hO
        exact hO
      have vsh : isSl v := by
        obtain ⟨_, h, _⟩ := hO
        rcases h.2 with ⟨e, _⟩ | ⟨g, cap, cur, e, _⟩
        · exact ⟨_, _, _, e⟩
        · exact ⟨_, _, _, e⟩
      obtain ⟨v0, v1, v2, rfl⟩ := vsh
      have e0 := c3_0 r1
      have e1 := c3_1 r1
      have e2 := c3_2 r1
      have z0 := c3_0 r0
      have z1 := c3_1 r0
      have z2 := c3_2 r0
      have y0 := c3_f r0 0
      have y1 := c3_f r0 1
      have y2 := c3_f r0 2
      have HO : Hid _ := hO'
      clear hO hO' HB r1 ek
      go_wp2_with fail
      have hF := c3_setAll r0 (.int .i64 size) (.slice v0 v1 v2) (.int .i64 f)
      have hFb := ((hb.setCell (p := ⟨w.heap.size, 0, none⟩) (Nat.le_refl _) (.int .i64 size)).setCell (p := ⟨w.heap.size, 1, none⟩) (Nat.le_refl _) (.slice v0 v1 v2)).setCell (p := ⟨w.heap.size, 2, none⟩) (Nat.le_refl _) (.int .i64 f)
      have hFo : Own (w.heap.size + 2) (((wr.setCell ⟨w.heap.size, 0, none⟩ (.int .i64 size)).setCell ⟨w.heap.size, 1, none⟩ (.slice v0 v1 v2)).setCell ⟨w.heap.size, 2, none⟩ (.int .i64 f)) (.slice v0 v1 v2) qs :=
        Own.block HO.out (fun j hj _ => by rw [Below.heap_setCell _ _ _ _ (by simp; omega), Below.heap_setCell _ _ _ _ (by simp; omega), Below.heap_setCell _ _ _ _ (by simp; omega)])
      try simp only [Exit.inBlock, Exit.then]
      refine bodyPost_ret (results_cell_row rfl _ _ w.heap.size 27 _ (0, 0) _ rfl hF Try.underlying27 rfl (by kernel_rfl)) rfl ?_
      exact ⟨_, rfl, hFo.mono (by omega), hFb⟩
end Go.Proofs.Ytopmboioojedbac
