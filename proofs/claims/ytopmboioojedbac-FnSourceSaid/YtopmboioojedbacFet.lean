/- The contract of impl's fetch: a page of the stream comes in as the last one; the first one goes where there would be more than six. -/
import Derived.Test.YtopmboioojedbacShf
import Derived.Deep.RegionLaw
namespace Go.Proofs.Ytopmboioojedbac
open Go.Maps Go.RowKit
def shiftV (ps : List Pv) : List Pv := if ps.length = 6 then ps.tail else ps
theorem keyed3 : Keyed Try.prog 3 := int_keyed Try.underlying3
theorem wfi {x : Int} (h0 : -9223372036854775808 ≤ x) (h1 : x ≤ 9223372036854775807) : (Lit.int .i64 x).wf = true := WalkArith.wf_i64 (by omega)
/-- delete as one step of a region that draws. -/
theorem step_delete {P : Program} {ops : Array Oper} {o : Oper} {a : Act} {w : World} {K : Act → World → Prop} {Q : Exit → Act → World → Prop} {E : Prop}
    (hg : o.guard = none) (m x : Operand) (t k : TypeId) (hop : o.op = Op.call { callee := Callee.builtin Builtin.delete, args := #[m, x], argTypes := #[t, k] })
    (b : Nat) (key : Value) (hm : a.eval m = .map (some b)) (hx : a.eval x = key) (w' : World) (hrun : (Builtin.delete_ #[t, k] o.type #[.map (some b), key]).run P w = .ok (.tuple #[]) w')
    (hK : K (a.put o.dst (.tuple #[])) w') :
    if Region.wanted o (yielded ops a.tmps) = true then Oper.wp P o a w K Q else E := by
  have hw : Region.wanted o (yielded ops a.tmps) = true := by simp [Region.wanted, hg]
  rw [if_pos hw]
  unfold Oper.wp
  simp [execOp, hop, resolve, invoke, builtin, hm, hx, hrun, Result.andThen]
  exact hK
/-- The slice that the page of number num is of the stream. -/
def cutV (ad : Option Addr) (n c : Nat) (num size : Int) : Value :=
  .slice (if c = (min (num * size) n).toNat then ad else Option.map (fun x => x.add (min (num * size) n).toNat) ad) ((min (min (num * size) n + size) n).toNat - (min (num * size) n).toNat) (c - (min (num * size) n).toNat)
set_option maxHeartbeats 2000000 in
theorem fetch_ (B : Nat) (w : World) (size f num : Int) (ps : List Pv) (ad : Option Addr) (n c : Nat) (hS : Sh B w size f ps) (hnm : num ∉ ps.map (·.1)) (hnd : (ps.map (·.1)).Nodup) (hlen : ps.length ≤ 6)
    (s1 : 1 ≤ size) (s2 : size ≤ 60000) (f0 : 0 ≤ f) (f1 : f ≤ 4294967295) (n0 : 0 ≤ num) (n2 : num ≤ 60000) (n1 : num * size ≤ 60000)
    (hc : n ≤ c) (hzl : n ≤ 1048576) (hwp : ∀ p ∈ ps, (Lit.int .i64 p.1).wf = true) :
    Calls Try.prog 18 #[.pointer (some ⟨B + 2, 0, none⟩), .slice ad n c, .int .i64 num] w fun e w' =>
      e = .returned (.tuple #[]) ∧ Sh B w' size (min (f + 1) 4294967295) (shiftV ps ++ [(num, cutV ad n c num size)]) ∧ Below B w w' := by
  have hlt := hS.lt
  obtain ⟨u, D, h1, h2, h3, h4⟩ := hS
  obtain ⟨ti, hti, hz0, hz1, hz2⟩ := info_parts info3
  have c0 := c4_0 h1
  have c1 := c4_1 h1
  have c2 := c4_2 h1
  have c3 := c4_3 h1
  have f2 := c4_f h1 2
  have f3 := c4_f h1 3
  have hp0 : 0 ≤ num * size := Int.mul_nonneg n0 (by omega)
  have HV : Hid (cutV ad n c num size = .slice (if c = (min (num * size) n).toNat then ad else Option.map (fun x => x.add (min (num * size) n).toNat) ad) ((min (min (num * size) n + size) n).toNat - (min (num * size) n).toNat) (c - (min (num * size) n).toNat)) := rfl
  generalize hpr : num * size = pr at *
  have HP : Hid (num * size = pr) := hpr
  have hb0 : (0 : Int) ≤ min pr (n : Int) := by omega
  have hb1 : min pr (n : Int) ≤ min (min pr (n : Int) + size) n := by omega
  have hb2 : min (min pr (n : Int) + size) n ≤ (c : Int) := by omega
  have hb3 : min pr (n : Int) ≤ 60000 := by omega
  obtain ⟨w1, hup, hown1, hgr1⟩ := World.ownsMap.update (w := w.drew) h2 keyed3 Try.underlying47 (by have := h3.size; unfold maxLen; omega) (key := .int .i64 num) (val := cutV ad n c num size) (keyOf_int_mk Try.underlying3 (wfi (by omega) (by omega))) rfl
  rw [HV.out] at hup
  go_enter Try.func18, Try.ntmps18
  go_wp2_with fail
  generalize min pr (n : Int) = fa at *
  generalize min (fa + size) (n : Int) = ta at *
  go_region
  clear hup HV
  generalize (Value.slice (if c = fa.toNat then ad else Option.map (fun x => x.add fa.toNat) ad) (ta.toNat - fa.toNat) (c - fa.toNat)) = vv
  generalize hpv : (num, cutV ad n c num size) = pv at *
  have h1' : w1.heap[B + 2]? = some (.cells #[.int .i64 size, .map (some (B + 1)), u, .int .i64 f] 50 (0, 0)) := (hgr1.block (B + 2) (by show B + 2 < w.heap.size; omega) (by simp)).trans h1
  have h3' : MapIs (D.put (key num) (.held (cutV ad n c num size))) (ps ++ [pv]) := by rw [← hpv]; exact h3.put hnm _
  have h2' : w1.ownsMap Try.prog 3 R0 (B + 1) (Maps.size (D.put (key num) (.held (cutV ad n c num size)))) (D.put (key num) (.held (cutV ad n c num size))) := own_tight hown1
  have h4' : w1.ownsRow (B + 3) 3 1 u ps.length (ps.map numV) := row_block h4 (fun k hk hk2 => hgr1.block k hk2 (by simp; omega))
  have hB1 : Below B w w1 := ⟨hgr1.os, hgr1.tape, hgr1.output, hgr1.size, fun k hk => hgr1.block k (by show k < w.heap.size; omega) (by simp; omega)⟩
  have hlt1 : B + 3 ≤ w1.heap.size := lt_of_get h1'
  generalize D.put (key num) (.held (cutV ad n c num size)) = D1 at *
  have hpn : numV pv = .int .i64 num := by rw [← hpv]; rfl
  have HPN : Hid (numV pv = .int .i64 num) := hpn
  have HPV : Hid ((num, cutV ad n c num size) = pv) := hpv
  have HNM : Hid (num ∉ ps.map (·.1)) := hnm
  have HND : Hid ((ps.map (·.1)).Nodup) := hnd
  have HPF : Hid (pv.1 = num) := by rw [← hpv]; rfl
  clear hnd
  clear hown1 hgr1 h1 h2 h3 h4 c0 c1 c2 c3 f2 f3 hpn hpv hnm hpr
  have c2 := c4_2 h1'
  have f2 := c4_f h1' 2
  have hne : w1.heap.size ≠ B + 2 := by omega
  go_wp2_with (at_builtin; refine wpList_append_own _ rfl _ _ 48 rfl (B + 3) 3 ti (.int .i64 0) 1 8 Try.underlying48 hti hz0 hz1 hz2 rfl (by decide) _ _ _ rfl (h4'.alloc _) ⟨w1.heap.size, 0, none⟩ 1 1 [.int .i64 num] rfl rfl (cell_one_new _ _ _) (one_cellV _ rfl) (by unfold maxLen; omega) (by omega) (by simp; omega) ?_)
  intro v' w2 hown2 hgrow _
  have hB2 : Below (B + 3) w1 w2 := ((Below.refl _ _).alloc hlt1 _).grown hgrow (by simp; omega) (fun j hj => ((h4'.lt j hj).1))
  have h1'' := (hB2.block (B + 2) (by omega)).trans h1'
  have h2'' := map_block h2' (hB2.block (B + 1) (by omega))
  have hown3 := own_snoc (p := pv) hown2 (by simp [HPN.out]) rfl
  obtain ⟨g, cap, rfl, hg, hgl⟩ := World.ownsRow.form hown2 (by omega)
  have hBw2 : Below B w w2 := hB1.trans (hB2.mono (by omega))
  clear hown2 hgrow h1' h2' h4' c2 f2 hne hB2 hB1 hlt1
  have c2 := c4_2 h1''
  have f2 := c4_f h1'' 2
  have c3 := c4_3 h1''
  have f3 := c4_f h1'' 3
  rcases Nat.lt_or_eq_of_le hlen with h6 | h6
  · have h6' : ¬ (6 : Int) < (ps.length : Int) + 1 := by omega
    go_wp2_with fail
    go_end0
    have hsh : shiftV ps = ps := by unfold shiftV; rw [if_neg (by omega)]
    rw [hsh, HPV.out]
    have k1 := c4_set3 (c4_set2 h1'' (.slice (some ⟨g, 0, none⟩) (ps.length + 1) cap)) (.int .i64 (min (f + 1) 4294967295))
    refine ⟨rfl, ⟨_, D1, k1, ?_, h3', ?_⟩, ?_⟩
    · exact map_block (map_block h2'' (Below.heap_setCell _ _ _ _ (by simp))) (Below.heap_setCell _ _ _ _ (by simp))
    · exact row_block (row_block hown3 (fun k hk _ => Below.heap_setCell _ _ _ _ (by simp; omega))) (fun k hk _ => Below.heap_setCell _ _ _ _ (by simp; omega))
    · exact (hBw2.setCell (by simp) _).setCell (by simp) _
  · have h6' : (6 : Int) < (ps.length : Int) + 1 := by omega
    have H6 : Hid (ps.length = 6) := h6
    clear h6
    go_wp2_with fail
    have k1 := c4_set3 (c4_set2 h1'' (.slice (some ⟨g, 0, none⟩) (ps.length + 1) cap)) (.int .i64 (min (f + 1) 4294967295))
    have k2 := map_block (map_block h2'' (Below.heap_setCell w2 ⟨B + 2, 2, none⟩ (.slice (some ⟨g, 0, none⟩) (ps.length + 1) cap) _ (by simp))) (Below.heap_setCell _ ⟨B + 2, 3, none⟩ (.int .i64 (min (f + 1) 4294967295)) _ (by simp))
    have k4 := row_block (row_block hown3 (fun k hk _ => Below.heap_setCell w2 ⟨B + 2, 2, none⟩ (.slice (some ⟨g, 0, none⟩) (ps.length + 1) cap) _ (by simp; omega))) (fun k hk _ => Below.heap_setCell _ ⟨B + 2, 3, none⟩ (.int .i64 (min (f + 1) 4294967295)) _ (by simp; omega))
    have kB := (hBw2.setCell (p := ⟨B + 2, 2, none⟩) (by simp) (.slice (some ⟨g, 0, none⟩) (ps.length + 1) cap)).setCell (p := ⟨B + 2, 3, none⟩) (by simp) (.int .i64 (min (f + 1) 4294967295))
    generalize ((w2.setCell ⟨B + 2, 2, none⟩ (.slice (some ⟨g, 0, none⟩) (ps.length + 1) cap)).setCell ⟨B + 2, 3, none⟩ (.int .i64 (min (f + 1) 4294967295))) = wA at *
    generalize hf' : min (f + 1) 4294967295 = f' at *
    have HF : Hid (min (f + 1) 4294967295 = f') := hf'
    clear hf'
    clear c2 c3 f2 f3 h1'' h2'' hown3 hBw2 hgl
    obtain ⟨p0, rest, hps⟩ : ∃ p0 rest, ps = p0 :: rest := by
      cases ps with
      | nil => exact absurd H6.out (by simp)
      | cons a b => exact ⟨a, b, rfl⟩
    subst hps
    have hp0 : p0.1 ∉ (rest ++ [pv]).map (·.1) := by
      have h := HND.out
      have h2 := HNM.out
      rw [List.map_cons, List.nodup_cons] at h
      rw [List.map_append, List.mem_append]
      rintro (e | e)
      · exact h.1 e
      · have e2 : p0.1 = pv.1 := by simpa using e
        exact h2 (by rw [List.map_cons, e2, HPF.out]; exact List.mem_cons_self ..)
    have hwf : (Lit.int .i64 p0.1).wf = true := hwp p0 (List.mem_cons_self ..)
    obtain ⟨w3, hdel, hown3, hturn⟩ := World.ownsMap.drop (w := wA.drew) k2 keyed3 Try.underlying47 (key := .int .i64 p0.1) (keyOf_int_mk Try.underlying3 hwf) 0
    have m3 : MapIs (D1.del (key p0.1)) (rest ++ [pv]) := MapIs.del (n := p0.1) (v := p0.2) h3' hp0
    have c1 := c4_1 k1
    have c2 := c4_2 k1
    have cg : wA.cell? ⟨g, 0, none⟩ = some (.int .i64 p0.1) := k4.cells (g := g) rfl 0 _ rfl
    have HP0 : Hid (p0.1 ∉ (rest ++ [pv]).map (·.1)) := hp0
    clear hp0 hwf
    generalize hx0 : p0.1 = x0 at *
    have HX0 : Hid (p0.1 = x0) := hx0
    clear hx0
    have hpos : (0 : Int) < (rest.length : Int) + 1 + 1 := by omega
    have hgr3 := hturn.grown
    have j1 := (hgr3.block (B + 2) (lt_of_get k1) (by simp)).trans k1
    have j2 := own_tight hown3
    have j4 := row_block (w' := w3) k4 (fun k hk hk2 => hgr3.block k hk2 (by simp; omega))
    have jB : Below B w w3 := kB.trans ⟨hgr3.os, hgr3.tape, hgr3.output, hgr3.size, fun k hk => hgr3.block k (by have := lt_of_get k1; show k < wA.heap.size; omega) (by simp; omega)⟩
    have d1 := c4_1 j1
    have d2 := c4_2 j1
    have dg : w3.cell? ⟨g, 0, none⟩ = some (.int .i64 x0) := by
      have h : w3.cell? ⟨g, 0, none⟩ = some (.int .i64 p0.1) := j4.cells (g := g) rfl 0 _ rfl
      rw [HX0.out] at h
      exact h
    go_region_held3 (fun w' => w'.cell? ⟨B + 2, 1, none⟩ = some (.map (some (B + 1))) ∧ w'.cell? ⟨B + 2, 2, none⟩ = some (.slice (some ⟨g, 0, none⟩) ((p0 :: rest).length + 1) cap) ∧ w'.cell? ⟨g, 0, none⟩ = some (.int .i64 x0))
      (first | exact ⟨d1, d2, dg⟩ | exact ⟨c1, c2, cg⟩ | go_keep)
      (refine step_delete (by rfl) _ _ 47 3 (by rfl) (B + 1) _ (by rfl) (by rfl) w3 hdel ?_)
    have j4' := j4
    rw [nums_map] at j4'
    obtain ⟨g', cap', ev, hg', hgl', hnc', hcm', hzl', hH⟩ := Lib.holds_of_ownsRow j4' (by simp)
    obtain ⟨rfl, rfl⟩ : g' = g ∧ cap' = cap := by
      injection ev with a b c
      injection a with a
      injection a with a
      exact ⟨a.symm, c.symm⟩
    have ez : (p0 :: rest ++ [pv]).map (·.1) = x0 :: (rest ++ [pv]).map (·.1) := by rw [List.cons_append, List.map_cons, HX0.out]
    rw [ez] at j4' hH hzl'
    have hDel := delete_ g' cap' 0 1 (x0 :: (rest ++ [pv]).map (·.1)) w3 hH (by rw [hzl']; exact hnc') (by simp [maxLen] at hcm'; omega) (by omega) (by simp)
    have el : (x0 :: (rest ++ [pv]).map (·.1)).length = rest.length + 1 + 1 := by simp
    rw [el] at hDel
    have c2' := c4_2 j1
    have f2' := c4_f j1 2
    have hlt3 := lt_of_get j1
    clear hdel hown3 hturn hgr3 k1 k2 k4 kB c1 c2 cg d1 d2 dg ez el hzl' hH h3' ev
    go_wp2_with fail
    refine hDel.mono ?_
    rintro e w4 ⟨rfl, q, hw4⟩
    have hB4 : Below (B + 3) w3 w4 := by rw [hw4]; exact Lib.below_putRow (Below.refl _ _) hg
    have hown4 : w4.ownsRow (B + 3) 3 1 (.slice (some ⟨g', 0, none⟩) (rest.length + 1) cap') (rest.length + 1) ((rest ++ [pv]).map numV) := by
      have := Lib.ownsRow_putRow (q := q) (k := rest.length + 1) (ys := (x0 :: (rest ++ [pv]).map (·.1)).take 0 ++ (x0 :: (rest ++ [pv]).map (·.1)).drop 1 ++ List.replicate 1 0) (n := (p0 :: rest ++ [pv]).length) (zs := x0 :: (rest ++ [pv]).map (·.1)) (by simpa using j4') (by simp) (by simp)
      have e2 : ((x0 :: (rest ++ [pv]).map (fun p : Pv => p.1)).take 0 ++ (x0 :: (rest ++ [pv]).map (fun p : Pv => p.1)).drop 1 ++ List.replicate 1 0).take (rest.length + 1) = (rest ++ [pv]).map (fun p : Pv => p.1) := by
        rw [List.take_zero, List.nil_append, List.drop_one, List.tail_cons, List.take_append_of_le_length (by simp), List.take_of_length_le (by simp)]
      rw [← hw4, e2, ← nums_map] at this
      exact this
    clear hDel hw4
    obtain ⟨i1, i2⟩ := Sh.keep j1 j2 hB4
    have c2'' := c4_2 i1
    have f2'' := c4_f i1 2
    go_wp2_with fail
    go_end0
    have hsh : shiftV (p0 :: rest) = rest := by unfold shiftV; rw [if_pos H6.out]; rfl
    rw [hsh, HPV.out, HF.out]
    refine ⟨rfl, Sh.setUsed i1 i2 m3 ?_, (jB.trans (hB4.mono (by omega))).setCell (by simp) _⟩
    rw [List.length_append]
    exact hown4
end Go.Proofs.Ytopmboioojedbac
