/- The shelf's use and fetch, told sharper: no block of bytes is changed. -/
import Derived.Test.YtopmboioojedbacRd
namespace Go.Proofs.Ytopmboioojedbac
open Go.Maps Go.RowKit Go.Sort
def KeepB (w w' : World) : Prop := ∀ (b : Nat) (cs : Array Value) (fr : Nat × Nat), w.heap[b]? = some (.cells cs 5 fr) → w'.heap[b]? = some (.cells cs 5 fr)
theorem KeepB.refl (w : World) : KeepB w w := fun _ _ _ h => h
theorem KeepB.trans {a b c : World} (h : KeepB a b) (k : KeepB b c) : KeepB a c := fun x cs fr e => k x cs fr (h x cs fr e)
theorem KeepB.oth {w w' : World} {g : Nat} (hb : ∀ b, b < w.heap.size → b ≠ g → w'.heap[b]? = w.heap[b]?) (hg : ∀ cs fr, w.heap[g]? ≠ some (.cells cs 5 fr)) : KeepB w w' := by
  intro b cs fr e
  rw [hb b (Array.getElem?_eq_some_iff.1 e).1 (fun e2 => hg cs fr (by rw [← e2]; exact e))]
  exact e
theorem KeepB.alloc (w : World) (o : Obj) : KeepB w (w.alloc o) := fun b _ _ e => (Below.heap_alloc w o b (Array.getElem?_eq_some_iff.1 e).1).trans e
theorem KeepB.cell {w : World} {b : Nat} {cs : Array Value} {t : TypeId} {fr : Nat × Nat} (h : w.heap[b]? = some (.cells cs t fr)) (ht : t ≠ 5) (o : Nat) (v : Value) : KeepB w (w.setCell ⟨b, o, none⟩ v) :=
  KeepB.oth (g := b) (fun x _ hne => Below.heap_setCell _ _ _ _ (by simpa using hne)) (fun cs' fr' e => by rw [h] at e; injection e with e; injection e with _ e; exact ht e)
theorem notB_row {w : World} {lo g n cap m : Nat} {xs : List Value} (h : w.ownsRow lo 3 1 (.slice (some ⟨g, 0, none⟩) n cap) m xs) : ∀ cs fr, w.heap[g]? ≠ some (.cells cs 5 fr) := by
  intro cs fr e
  rcases h.2 with ⟨e1, _⟩ | ⟨g', cap', cur, e1, _, hg, _⟩
  · cases e1
  · injection e1 with e1
    injection e1 with e1
    injection e1 with e1
    rw [e1, hg] at e
    injection e with e
    injection e with _ e
    exact absurd e (by decide)
theorem notB_map {w : World} {P : Program} {k : TypeId} {R : Value → Option (DataW Value × List MemPlace)} {b n : Nat} {D : DataW Value} (h : w.ownsMap P k R b n D) : ∀ cs fr, w.heap[b]? ≠ some (.cells cs 5 fr) := by
  intro cs fr e
  obtain ⟨es, clock, hb, _⟩ := h
  rw [hb] at e
  cases e
theorem KeepB.grownV {w w' : World} {lo m : Nat} {u : Value} {xs : List Value} (h : w.ownsRow lo 3 1 u m xs) (hg : w.grownBy w' u.ownBlock) : KeepB w w' := by
  intro b cs fr e
  have hlt := (Array.getElem?_eq_some_iff.1 e).1
  rw [hg.block b hlt ?_]
  · exact e
  · intro e2
    rcases h.2 with ⟨e1, _⟩ | ⟨g', cap', cur, e1, _, hgg, _⟩
    · rw [e1] at e2; cases e2
    · rw [e1] at e2
      have e3 : b = g' := by simpa [Value.ownBlock] using e2
      rw [e3, hgg] at e
      injection e with e
      injection e with _ e
      exact absurd e (by decide)
set_option maxHeartbeats 4000000 in
theorem use2_ (B : Nat) (w : World) (size f num : Int) (l r : List Pv) (v : Value) (hS : Sh B w size f (l ++ (num, v) :: r)) (hnd : num ∉ l.map (·.1)) (hlen : (l ++ (num, v) :: r).length ≤ 6) :
    Calls Try.prog 17 #[.pointer (some ⟨B + 2, 0, none⟩), .int .i64 num] w fun e w' => e = .returned (.tuple #[]) ∧ Sh B w' size f (l ++ r ++ [(num, v)]) ∧ Below B w w' ∧ KeepB w w' := by
  have hlt := hS.lt
  obtain ⟨u, D, h1, h2, h3, h4⟩ := hS
  obtain ⟨ti, hti, hz0, hz1, hz2⟩ := info_parts info3
  have hu : u ≠ .slice none 0 0 := by
    intro e
    subst e
    rcases h4.2 with ⟨_, e⟩ | ⟨g, _, _, e, _⟩
    · simp at e
    · cases e
  have h4' := h4
  rw [nums_map] at h4'
  obtain ⟨g, cap, rfl, hg, hgl, hnc, hcm, hzl, hH⟩ := Lib.holds_of_ownsRow h4' hu
  have ez : (l ++ (num, v) :: r).map (·.1) = l.map (·.1) ++ num :: r.map (·.1) := by simp
  rw [ez] at hzl hH h4'
  clear ez
  have hcell : ∀ i, i < (l ++ (num, v) :: r).length → w.cell? ⟨g, i, none⟩ = some (.int .i64 (((l.map (·.1)) ++ num :: r.map (·.1))[i]!)) := by
    intro i hi
    have := (hH i (by simpa using hi)).1
    simpa using this
  have hxk : ((l.map (·.1)) ++ num :: r.map (·.1))[l.length]! = num := by simp
  have hxn : ∀ i, i < l.length → ((l.map (·.1)) ++ num :: r.map (·.1))[i]! ≠ num := by
    intro i hi e
    apply hnd
    rw [← e]
    rw [getElem!_pos _ i (by simp; omega), List.getElem_append_left (by simpa using hi)]
    exact List.getElem_mem _
  have hIdx := index_ g (l ++ (num, v) :: r).length cap l.length num _ w (by simp) (by omega) hcell hxk hxn
  have hDel := delete_ g cap l.length (l.length + 1) ((l.map (·.1)) ++ num :: r.map (·.1)) w hH (by omega) (by simp [maxLen] at hcm; omega) (by omega) (by simp)
  have c2 := c4_2 h1
  have f2 := c4_f h1 2
  have ed : ((l.length + 1 : Nat) : Int) = (l.length : Int) + 1 := by omega
  rw [ed, hzl] at hDel
  have hn6 : (l.length : Int) < 6 := by simp at hlen; omega
  have HZ : Hid (((l.map (·.1)) ++ num :: r.map (·.1)).length = (l ++ (num, v) :: r).length) := hzl
  have HT := take_del (l.map (·.1)) (r.map (·.1)) num
  rw [List.length_map, List.length_map] at HT
  have HT' : Hid _ := HT
  clear HT ed hzl hxk hxn hcell hH hnd
  generalize hm : (l ++ (num, v) :: r).length = n at *
  have HM : Hid ((l ++ (num, v) :: r).length = n) := hm
  clear hm
  generalize hk : l.length = k at *
  have HK : Hid (l.length = k) := hk
  clear hk
  rw [show k + 1 - k = 1 by omega] at hDel
  have HN : Hid (n = k + (r.length + 1)) := by
    have h1 := HM.out
    have h2 := HK.out
    show n = k + (r.length + 1)
    simp only [List.length_append, List.length_cons] at h1
    omega
  go_enter Try.func17, Try.ntmps17
  go_wp2_with fail
  refine hIdx.mono ?_
  rintro e w ⟨rfl, rfl⟩
  clear hIdx
  go_wp2_with fail
  refine hDel.mono ?_
  rintro e w1 ⟨rfl, q, hw1⟩
  have hB3 : Below (B + 3) w w1 := by rw [hw1]; exact Lib.below_putRow (Below.refl _ _) hg
  have hown1 : w1.ownsRow (B + 3) 3 1 (.slice (some ⟨g, 0, none⟩) (n - 1) cap) (n - 1) ((l ++ r).map numV) := by
    have hln : k + r.length = n - 1 := by have := HN.out; omega
    have := Lib.ownsRow_putRow (q := q) (k := n - 1) (ys := (l.map (·.1) ++ num :: r.map (·.1)).take k ++ (l.map (·.1) ++ num :: r.map (·.1)).drop (k + 1) ++ List.replicate 1 0) h4' (by
      have := HN.out
      have := HK.out
      simp
      omega) (by omega)
    rw [← hw1, ← hln, HT'.out, ← List.map_append, ← nums_map] at this
    rw [← hln]
    exact this
  have K1 : Hid (KeepB w w1) := by
    show KeepB w w1
    rw [hw1]
    exact KeepB.oth (g := g) (fun b hb hne => by simp [putRow, mapBlock, Sort.ahead, Array.getElem?_modify, Ne.symm hne]) (notB_row h4)
  clear hDel hw1
  obtain ⟨h1', h2'⟩ := Sh.keep h1 h2 hB3
  have c2' := c4_2 h1'
  have f2' := c4_f h1' 2
  have hlt1 : B + 3 ≤ w1.heap.size := Nat.le_trans hlt hB3.size
  have hne : w1.heap.size ≠ B + 2 := by omega
  go_wp2_with (at_builtin; refine wpList_append_own _ rfl _ _ 48 rfl (B + 3) 3 ti (.int .i64 0) 1 8 Try.underlying48 hti hz0 hz1 hz2 rfl (by decide) _ _ _ rfl (hown1.alloc _) ⟨w1.heap.size, 0, none⟩ 1 1 [.int .i64 num] rfl rfl (cell_one_new _ _ _) (one_cellV _ rfl) (by unfold maxLen; omega) (by omega) (by simp; omega) ?_)
  intro v' w2 hown2 hgrow _
  have K2 : Hid (KeepB w1 w2) := (KeepB.alloc w1 _).trans (KeepB.grownV (hown1.alloc _) hgrow)
  have hB3' : Below (B + 3) w1 w2 := ((Below.refl _ _).alloc hlt1 _).grown hgrow (by simp; omega) (fun j hj => by cases hj; exact hg)
  obtain ⟨h1'', h2''⟩ := Sh.keep h1' h2' hB3'
  have c2'' := c4_2 h1''
  have f2'' := c4_f h1'' 2
  have hlen2 : (l ++ r).length = n - 1 := by
    have := HN.out
    have := HK.out
    simp
    omega
  obtain ⟨g2, cap2, rfl, _⟩ := World.ownsRow.form hown2 (by omega)
  go_wp2_with fail
  go_end0
  refine ⟨rfl, Sh.setUsed h1'' h2'' (h3.perm ?_) (own_snoc (p := (num, v)) hown2 (by simp [numV]) hlen2), ?_, (K1.out.trans K2.out).trans (KeepB.cell h1'' (by decide) _ _)⟩
  · rw [List.append_assoc]
    exact (List.perm_append_left_iff l).2 ((List.perm_append_singleton (num, v) r).symm)
  · exact ((hB3.trans hB3').mono (by omega)).setCell (by simp) _
set_option maxHeartbeats 4000000 in
theorem fetch2_ (B : Nat) (w : World) (size f num : Int) (ps : List Pv) (ad : Option Addr) (n c : Nat) (hS : Sh B w size f ps) (hnm : num ∉ ps.map (·.1)) (hnd : (ps.map (·.1)).Nodup) (hlen : ps.length ≤ 6)
    (s1 : 1 ≤ size) (s2 : size ≤ 60000) (f0 : 0 ≤ f) (f1 : f ≤ 4294967295) (n0 : 0 ≤ num) (n2 : num ≤ 60000) (n1 : num * size ≤ 60000)
    (hc : n ≤ c) (hzl : n ≤ 1048576) (hwp : ∀ p ∈ ps, (Lit.int .i64 p.1).wf = true) :
    Calls Try.prog 18 #[.pointer (some ⟨B + 2, 0, none⟩), .slice ad n c, .int .i64 num] w fun e w' =>
      e = .returned (.tuple #[]) ∧ Sh B w' size (min (f + 1) 4294967295) (shiftV ps ++ [(num, cutV ad n c num size)]) ∧ Below B w w' ∧ KeepB w w' := by
  have hlt := hS.lt
  obtain ⟨u, D, h1, h2, h3, h4⟩ := hS
  obtain ⟨ti, hti, hz0, hz1, hz2⟩ := info_parts info3
  have c0 := c4_0 h1
  have c1 := c4_1 h1
  have c2 := c4_2 h1
  have c3 := c4_3 h1
  have f2 := c4_f h1 2
  have f3 := c4_f h1 3
  have hp0 : 0 ≤ num * size := Int.mul_nonneg n0 (by omega)
  have HV : Hid (cutV ad n c num size = .slice (if c = (min (num * size) n).toNat then ad else Option.map (fun x => x.add (min (num * size) n).toNat) ad) ((min (min (num * size) n + size) n).toNat - (min (num * size) n).toNat) (c - (min (num * size) n).toNat)) := rfl
  generalize hpr : num * size = pr at *
  have HP : Hid (num * size = pr) := hpr
  have hb0 : (0 : Int) ≤ min pr (n : Int) := by omega
  have hb1 : min pr (n : Int) ≤ min (min pr (n : Int) + size) n := by omega
  have hb2 : min (min pr (n : Int) + size) n ≤ (c : Int) := by omega
  have hb3 : min pr (n : Int) ≤ 60000 := by omega
  obtain ⟨w1, hup, hown1, hgr1⟩ := World.ownsMap.update (w := w.drew) h2 keyed3 Try.underlying47 (by have := h3.size; unfold maxLen; omega) (key := .int .i64 num) (val := cutV ad n c num size) (keyOf_int_mk Try.underlying3 (wfi (by omega) (by omega))) rfl
  rw [HV.out] at hup
  go_enter Try.func18, Try.ntmps18
  go_wp2_with fail
  generalize min pr (n : Int) = fa at *
  generalize min (fa + size) (n : Int) = ta at *
  go_region
  clear hup HV
  generalize (Value.slice (if c = fa.toNat then ad else Option.map (fun x => x.add fa.toNat) ad) (ta.toNat - fa.toNat) (c - fa.toNat)) = vv
  generalize hpv : (num, cutV ad n c num size) = pv at *
  have h1' : w1.heap[B + 2]? = some (.cells #[.int .i64 size, .map (some (B + 1)), u, .int .i64 f] 50 (0, 0)) := (hgr1.block (B + 2) (by show B + 2 < w.heap.size; omega) (by simp)).trans h1
  have h3' : MapIs (D.put (key num) (.held (cutV ad n c num size))) (ps ++ [pv]) := by rw [← hpv]; exact h3.put hnm _
  have h2' : w1.ownsMap Try.prog 3 R0 (B + 1) (Maps.size (D.put (key num) (.held (cutV ad n c num size)))) (D.put (key num) (.held (cutV ad n c num size))) := own_tight hown1
  have h4' : w1.ownsRow (B + 3) 3 1 u ps.length (ps.map numV) := row_block h4 (fun k hk hk2 => hgr1.block k hk2 (by simp; omega))
  have hB1 : Below B w w1 := ⟨hgr1.os, hgr1.tape, hgr1.output, hgr1.size, fun k hk => hgr1.block k (by show k < w.heap.size; omega) (by simp; omega)⟩
  have K1 : Hid (KeepB w w1) := KeepB.oth (g := B + 1) (fun b hb hne => hgr1.block b hb (by simp; exact hne)) (notB_map h2)
  have hlt1 : B + 3 ≤ w1.heap.size := lt_of_get h1'
  generalize D.put (key num) (.held (cutV ad n c num size)) = D1 at *
  have hpn : numV pv = .int .i64 num := by rw [← hpv]; rfl
  have HPN : Hid (numV pv = .int .i64 num) := hpn
  have HPV : Hid ((num, cutV ad n c num size) = pv) := hpv
  have HNM : Hid (num ∉ ps.map (·.1)) := hnm
  have HND : Hid ((ps.map (·.1)).Nodup) := hnd
  have HPF : Hid (pv.1 = num) := by rw [← hpv]; rfl
  clear hnd
  clear hown1 hgr1 h1 h2 h3 h4 c0 c1 c2 c3 f2 f3 hpn hpv hnm hpr
  have c2 := c4_2 h1'
  have f2 := c4_f h1' 2
  have hne : w1.heap.size ≠ B + 2 := by omega
  go_wp2_with (at_builtin; refine wpList_append_own _ rfl _ _ 48 rfl (B + 3) 3 ti (.int .i64 0) 1 8 Try.underlying48 hti hz0 hz1 hz2 rfl (by decide) _ _ _ rfl (h4'.alloc _) ⟨w1.heap.size, 0, none⟩ 1 1 [.int .i64 num] rfl rfl (cell_one_new _ _ _) (one_cellV _ rfl) (by unfold maxLen; omega) (by omega) (by simp; omega) ?_)
  intro v' w2 hown2 hgrow _
  have K2 : Hid (KeepB w1 w2) := (KeepB.alloc w1 _).trans (KeepB.grownV (h4'.alloc _) hgrow)
  have hB2 : Below (B + 3) w1 w2 := ((Below.refl _ _).alloc hlt1 _).grown hgrow (by simp; omega) (fun j hj => ((h4'.lt j hj).1))
  have h1'' := (hB2.block (B + 2) (by omega)).trans h1'
  have h2'' := map_block h2' (hB2.block (B + 1) (by omega))
  have hown3 := own_snoc (p := pv) hown2 (by simp [HPN.out]) rfl
  obtain ⟨g, cap, rfl, hg, hgl⟩ := World.ownsRow.form hown2 (by omega)
  have hBw2 : Below B w w2 := hB1.trans (hB2.mono (by omega))
  have K12 : Hid (KeepB w w2) := K1.out.trans K2.out
  clear K1 K2
  clear hown2 hgrow h1' h2' h4' c2 f2 hne hB2 hB1 hlt1
  have c2 := c4_2 h1''
  have f2 := c4_f h1'' 2
  have c3 := c4_3 h1''
  have f3 := c4_f h1'' 3
  rcases Nat.lt_or_eq_of_le hlen with h6 | h6
  · have h6' : ¬ (6 : Int) < (ps.length : Int) + 1 := by omega
    go_wp2_with fail
    go_end0
    have hsh : shiftV ps = ps := by unfold shiftV; rw [if_neg (by omega)]
    rw [hsh, HPV.out]
    have k1 := c4_set3 (c4_set2 h1'' (.slice (some ⟨g, 0, none⟩) (ps.length + 1) cap)) (.int .i64 (min (f + 1) 4294967295))
    refine ⟨rfl, ⟨_, D1, k1, ?_, h3', ?_⟩, ?_, (K12.out.trans (KeepB.cell h1'' (by decide) 2 (.slice (some ⟨g, 0, none⟩) (ps.length + 1) cap))).trans (KeepB.cell (c4_set2 h1'' (.slice (some ⟨g, 0, none⟩) (ps.length + 1) cap)) (by decide) 3 _)⟩
    · exact map_block (map_block h2'' (Below.heap_setCell _ _ _ _ (by simp))) (Below.heap_setCell _ _ _ _ (by simp))
    · exact row_block (row_block hown3 (fun k hk _ => Below.heap_setCell _ _ _ _ (by simp; omega))) (fun k hk _ => Below.heap_setCell _ _ _ _ (by simp; omega))
    · exact (hBw2.setCell (by simp) _).setCell (by simp) _
  · have h6' : (6 : Int) < (ps.length : Int) + 1 := by omega
    have H6 : Hid (ps.length = 6) := h6
    clear h6
    go_wp2_with fail
    have k1 := c4_set3 (c4_set2 h1'' (.slice (some ⟨g, 0, none⟩) (ps.length + 1) cap)) (.int .i64 (min (f + 1) 4294967295))
    have k2 := map_block (map_block h2'' (Below.heap_setCell w2 ⟨B + 2, 2, none⟩ (.slice (some ⟨g, 0, none⟩) (ps.length + 1) cap) _ (by simp))) (Below.heap_setCell _ ⟨B + 2, 3, none⟩ (.int .i64 (min (f + 1) 4294967295)) _ (by simp))
    have k4 := row_block (row_block hown3 (fun k hk _ => Below.heap_setCell w2 ⟨B + 2, 2, none⟩ (.slice (some ⟨g, 0, none⟩) (ps.length + 1) cap) _ (by simp; omega))) (fun k hk _ => Below.heap_setCell _ ⟨B + 2, 3, none⟩ (.int .i64 (min (f + 1) 4294967295)) _ (by simp; omega))
    have kB := (hBw2.setCell (p := ⟨B + 2, 2, none⟩) (by simp) (.slice (some ⟨g, 0, none⟩) (ps.length + 1) cap)).setCell (p := ⟨B + 2, 3, none⟩) (by simp) (.int .i64 (min (f + 1) 4294967295))
    have KA : Hid (KeepB w ((w2.setCell ⟨B + 2, 2, none⟩ (.slice (some ⟨g, 0, none⟩) (ps.length + 1) cap)).setCell ⟨B + 2, 3, none⟩ (.int .i64 (min (f + 1) 4294967295)))) := (K12.out.trans (KeepB.cell h1'' (by decide) 2 (.slice (some ⟨g, 0, none⟩) (ps.length + 1) cap))).trans (KeepB.cell (c4_set2 h1'' (.slice (some ⟨g, 0, none⟩) (ps.length + 1) cap)) (by decide) 3 _)
    clear K12
    generalize ((w2.setCell ⟨B + 2, 2, none⟩ (.slice (some ⟨g, 0, none⟩) (ps.length + 1) cap)).setCell ⟨B + 2, 3, none⟩ (.int .i64 (min (f + 1) 4294967295))) = wA at *
    generalize hf' : min (f + 1) 4294967295 = f' at *
    have HF : Hid (min (f + 1) 4294967295 = f') := hf'
    clear hf'
    clear c2 c3 f2 f3 h1'' h2'' hown3 hBw2 hgl
    obtain ⟨p0, rest, hps⟩ : ∃ p0 rest, ps = p0 :: rest := by
      cases ps with
      | nil => exact absurd H6.out (by simp)
      | cons a b => exact ⟨a, b, rfl⟩
    subst hps
    have hp0 : p0.1 ∉ (rest ++ [pv]).map (·.1) := by
      have h := HND.out
      have h2 := HNM.out
      rw [List.map_cons, List.nodup_cons] at h
      rw [List.map_append, List.mem_append]
      rintro (e | e)
      · exact h.1 e
      · have e2 : p0.1 = pv.1 := by simpa using e
        exact h2 (by rw [List.map_cons, e2, HPF.out]; exact List.mem_cons_self ..)
    have hwf : (Lit.int .i64 p0.1).wf = true := hwp p0 (List.mem_cons_self ..)
    obtain ⟨w3, hdel, hown3, hturn⟩ := World.ownsMap.drop (w := wA.drew) k2 keyed3 Try.underlying47 (key := .int .i64 p0.1) (keyOf_int_mk Try.underlying3 hwf) 0
    have m3 : MapIs (D1.del (key p0.1)) (rest ++ [pv]) := MapIs.del (n := p0.1) (v := p0.2) h3' hp0
    have c1 := c4_1 k1
    have c2 := c4_2 k1
    have cg : wA.cell? ⟨g, 0, none⟩ = some (.int .i64 p0.1) := k4.cells (g := g) rfl 0 _ rfl
    have HP0 : Hid (p0.1 ∉ (rest ++ [pv]).map (·.1)) := hp0
    clear hp0 hwf
    generalize hx0 : p0.1 = x0 at *
    have HX0 : Hid (p0.1 = x0) := hx0
    clear hx0
    have hpos : (0 : Int) < (rest.length : Int) + 1 + 1 := by omega
    have hgr3 := hturn.grown
    have j1 := (hgr3.block (B + 2) (lt_of_get k1) (by simp)).trans k1
    have j2 := own_tight hown3
    have j4 := row_block (w' := w3) k4 (fun k hk hk2 => hgr3.block k hk2 (by simp; omega))
    have jB : Below B w w3 := kB.trans ⟨hgr3.os, hgr3.tape, hgr3.output, hgr3.size, fun k hk => hgr3.block k (by have := lt_of_get k1; show k < wA.heap.size; omega) (by simp; omega)⟩
    have K3 : Hid (KeepB w w3) := KA.out.trans (KeepB.oth (g := B + 1) (fun b hb hne => hgr3.block b hb (by simp; exact hne)) (notB_map k2))
    clear KA
    have d1 := c4_1 j1
    have d2 := c4_2 j1
    have dg : w3.cell? ⟨g, 0, none⟩ = some (.int .i64 x0) := by
      have h : w3.cell? ⟨g, 0, none⟩ = some (.int .i64 p0.1) := j4.cells (g := g) rfl 0 _ rfl
      rw [HX0.out] at h
      exact h
    go_region_held3 (fun w' => w'.cell? ⟨B + 2, 1, none⟩ = some (.map (some (B + 1))) ∧ w'.cell? ⟨B + 2, 2, none⟩ = some (.slice (some ⟨g, 0, none⟩) ((p0 :: rest).length + 1) cap) ∧ w'.cell? ⟨g, 0, none⟩ = some (.int .i64 x0))
      (first | exact ⟨d1, d2, dg⟩ | exact ⟨c1, c2, cg⟩ | go_keep)
      (refine step_delete (by rfl) _ _ 47 3 (by rfl) (B + 1) _ (by rfl) (by rfl) w3 hdel ?_)
    have j4' := j4
    rw [nums_map] at j4'
    obtain ⟨g', cap', ev, hg', hgl', hnc', hcm', hzl', hH⟩ := Lib.holds_of_ownsRow j4' (by simp)
    obtain ⟨rfl, rfl⟩ : g' = g ∧ cap' = cap := by
      injection ev with a b c
      injection a with a
      injection a with a
      exact ⟨a.symm, c.symm⟩
    have ez : (p0 :: rest ++ [pv]).map (·.1) = x0 :: (rest ++ [pv]).map (·.1) := by rw [List.cons_append, List.map_cons, HX0.out]
    rw [ez] at j4' hH hzl'
    have hDel := delete_ g' cap' 0 1 (x0 :: (rest ++ [pv]).map (·.1)) w3 hH (by rw [hzl']; exact hnc') (by simp [maxLen] at hcm'; omega) (by omega) (by simp)
    have el : (x0 :: (rest ++ [pv]).map (·.1)).length = rest.length + 1 + 1 := by simp
    rw [el] at hDel
    have c2' := c4_2 j1
    have f2' := c4_f j1 2
    have hlt3 := lt_of_get j1
    clear hdel hown3 hturn hgr3 k1 k2 k4 kB c1 c2 cg d1 d2 dg ez el hzl' hH h3' ev
    go_wp2_with fail
    refine hDel.mono ?_
    rintro e w4 ⟨rfl, q, hw4⟩
    have hB4 : Below (B + 3) w3 w4 := by rw [hw4]; exact Lib.below_putRow (Below.refl _ _) hg
    have hown4 : w4.ownsRow (B + 3) 3 1 (.slice (some ⟨g', 0, none⟩) (rest.length + 1) cap') (rest.length + 1) ((rest ++ [pv]).map numV) := by
      have := Lib.ownsRow_putRow (q := q) (k := rest.length + 1) (ys := (x0 :: (rest ++ [pv]).map (·.1)).take 0 ++ (x0 :: (rest ++ [pv]).map (·.1)).drop 1 ++ List.replicate 1 0) (n := (p0 :: rest ++ [pv]).length) (zs := x0 :: (rest ++ [pv]).map (·.1)) (by simpa using j4') (by simp) (by simp)
      have e2 : ((x0 :: (rest ++ [pv]).map (fun p : Pv => p.1)).take 0 ++ (x0 :: (rest ++ [pv]).map (fun p : Pv => p.1)).drop 1 ++ List.replicate 1 0).take (rest.length + 1) = (rest ++ [pv]).map (fun p : Pv => p.1) := by
        rw [List.take_zero, List.nil_append, List.drop_one, List.tail_cons, List.take_append_of_le_length (by simp), List.take_of_length_le (by simp)]
      rw [← hw4, e2, ← nums_map] at this
      exact this
    have K4 : Hid (KeepB w3 w4) := by
      show KeepB w3 w4
      rw [hw4]
      exact KeepB.oth (g := g') (fun b hb hne => by simp [putRow, mapBlock, Sort.ahead, Array.getElem?_modify, Ne.symm hne]) (notB_row j4)
    clear hDel hw4
    obtain ⟨i1, i2⟩ := Sh.keep j1 j2 hB4
    have c2'' := c4_2 i1
    have f2'' := c4_f i1 2
    go_wp2_with fail
    go_end0
    have hsh : shiftV (p0 :: rest) = rest := by unfold shiftV; rw [if_pos H6.out]; rfl
    rw [hsh, HPV.out, HF.out]
    refine ⟨rfl, Sh.setUsed i1 i2 m3 ?_, (jB.trans (hB4.mono (by omega))).setCell (by simp) _, (K3.out.trans K4.out).trans (KeepB.cell i1 (by decide) _ _)⟩
    rw [List.length_append]
    exact hown4
end Go.Proofs.Ytopmboioojedbac
