/- The contracts of impl.SourceNew and impl.SourceByte. -/
import Derived.Test.YtopmboioojedbacIok
namespace Go.Proofs.Ytopmboioojedbac
open Go.Maps Go.RowKit
theorem Own.sl {lo : Nat} {w : World} {v : Value} {qs : List Pg} (h : Own lo w v qs) : isSl v := by
  obtain ⟨_, h, _⟩ := h
  rcases h.2 with ⟨e, _⟩ | ⟨g, cap, cur, e, _⟩
  · exact ⟨_, _, _, e⟩
  · exact ⟨_, _, _, e⟩
def srcV (size : Int) (v : Value) (f : Int) : Value := .agg #[.int .i64 size, v, .int .i64 f]
def newM (size : Int) : Int := if okS size [] 0 then size else 0
theorem slp_nil (B : Nat) (w : World) : SlP B w (.slice none 0 0) [] := .inl ⟨rfl, _, _, rfl⟩
set_option maxHeartbeats 2000000 in
theorem inew_ (w : World) (size : Int) :
    Calls Try.prog 6 #[.int .i64 size] w fun e w' => e = .returned (.tuple #[.agg #[.int .i64 (newM size), .slice none 0 0, .int .i64 0], .bool (okS size [] 0)]) ∧ Below w.heap.size w w' := by
  have hok := fun w => iok_ w size 0 (.slice none 0 0) [] [] (slp_nil _ _) trivial (fun p hp => by cases hp)
  unfold newM
  cases hb : okS size [] 0 with
  | true =>
    rw [hb] at hok
    clear hb
    go_enter Try.func6, Try.ntmps6
    go_wp2_with fail
    refine (hok _).mono ?_
    rintro e w1 ⟨rfl, hb1⟩
    have r0 : w1.heap[w.heap.size]? = some (.cells #[.int .i64 0, .slice none 0 0, .int .i64 0] 27 (0, 0)) := by
      rw [hb1.block _ (by simp; omega), Below.heap_alloc _ _ _ (by simp)]
      exact heap_alloc_new w _
    have r1 : w1.heap[w.heap.size + 1]? = some (.cells #[.int .i64 size, .slice none 0 0, .int .i64 0] 27 (0, 0)) := by
      rw [hb1.block _ (by simp)]
      have := heap_alloc_new (w.alloc (.cells #[.int .i64 0, .slice none 0 0, .int .i64 0] 27)) (.cells #[.int .i64 size, .slice none 0 0, .int .i64 0] 27)
      simpa using this
    have hB : Below w.heap.size w w1 := (((Below.refl _ w).alloc (Nat.le_refl _) _).alloc (by simp) _).trans (hb1.mono (by simp; omega))
    have e0 := c3_0 r1
    have e1 := c3_1 r1
    have e2 := c3_2 r1
    have z0 := c3_0 r0
    have z1 := c3_1 r0
    have z2 := c3_2 r0
    have y0 := c3_f r0 0
    have y1 := c3_f r0 1
    have y2 := c3_f r0 2
    clear hok r1 hb1
    go_wp2_with fail
    have hF := c3_setAll r0 (.int .i64 size) (.slice none 0 0) (.int .i64 0)
    try simp only [Exit.inBlock, Exit.then]
    refine bodyPost_ret (results_cell_tmp_row rfl _ _ w.heap.size 27 _ (0, 0) _ rfl hF Try.underlying27 rfl (by kernel_rfl)) rfl ?_
    exact ⟨rfl, ((hB.setCell (Nat.le_refl _) _).setCell (Nat.le_refl _) _).setCell (Nat.le_refl _) _⟩
  | false =>
    rw [hb] at hok
    clear hb
    go_enter Try.func6, Try.ntmps6
    go_wp2_with fail
    refine (hok _).mono ?_
    rintro e w1 ⟨rfl, hb1⟩
    have r0 : w1.heap[w.heap.size]? = some (.cells #[.int .i64 0, .slice none 0 0, .int .i64 0] 27 (0, 0)) := by
      rw [hb1.block _ (by simp; omega), Below.heap_alloc _ _ _ (by simp)]
      exact heap_alloc_new w _
    have hB : Below w.heap.size w w1 := (((Below.refl _ w).alloc (Nat.le_refl _) _).alloc (by simp) _).trans (hb1.mono (by simp; omega))
    have z0 := c3_0 r0
    have z1 := c3_1 r0
    have z2 := c3_2 r0
    have y0 := c3_f r0 0
    have y1 := c3_f r0 1
    have y2 := c3_f r0 2
    clear hok hb1
    go_wp2_with fail
    have hF := c3_setAll r0 (.int .i64 0) (.slice none 0 0) (.int .i64 0)
    try simp only [Exit.inBlock, Exit.then]
    refine bodyPost_ret (results_cell_tmp_row rfl _ _ w.heap.size 27 _ (0, 0) _ rfl hF Try.underlying27 rfl (by kernel_rfl)) rfl ?_
    exact ⟨rfl, ((hB.setCell (Nat.le_refl _) _).setCell (Nat.le_refl _) _).setCell (Nat.le_refl _) _⟩
def byteM (size f : Int) (qs : List Pg) (zs : List Int) (at_ : Int) : (Int × List Pg × Int) × Int :=
  if okS size qs f = true ∧ 0 ≤ at_ ∧ at_ ≤ 60000 then ((size, (readM size f qs zs at_).1.2, (readM size f qs zs at_).1.1), (readM size f qs zs at_).2) else ((0, [], 0), -1)
def BytePost (r : (Int × List Pg × Int) × Int) (w : World) (e : Ending) (w' : World) : Prop :=
  ∃ v, e = .returned (.tuple #[.agg #[.int .i64 r.1.1, v, .int .i64 r.1.2.2], .int .i64 r.2]) ∧ Own w.heap.size w' v r.1.2.1 ∧ Below w.heap.size w w'
/-- What comes in: a source and a stream. -/
structure Arg (w : World) (v : Value) (ps : List Pv) (qs : List Pg) (vb : Value) (zs : List Int) : Prop where
  p : SlP w.heap.size w v ps
  q : PQ w.heap.size w ps qs
  wf : ∀ p ∈ ps, (Lit.int .i64 p.1).wf = true
  d : okd qs
  b : Sl w.heap.size w vb zs
  z : okz zs
  l : zs.length ≤ 1048576
theorem Arg.later {w w' : World} {v : Value} {ps : List Pv} {qs : List Pg} {vb : Value} {zs : List Int} (h : Arg w v ps qs vb zs) (hb : Below w.heap.size w w') : Arg w' v ps qs vb zs :=
  ⟨(h.p.stays hb).mono hb.size, (h.q.stays hb).mono hb.size, h.wf, h.d, (h.b.stays hb).mono hb.size, h.z, h.l⟩
theorem Arg.sl {w : World} {v : Value} {ps : List Pv} {qs : List Pg} {vb : Value} {zs : List Int} (h : Arg w v ps qs vb zs) : isSl v := by
  rcases h.p with ⟨_, a, c, e⟩ | ⟨_, b, off, c, e, _⟩
  · exact ⟨_, _, _, e⟩
  · exact ⟨_, _, _, e⟩
theorem Arg.top {w : World} {v : Value} {ps : List Pv} {qs : List Pg} {vb : Value} {zs : List Int} (h : Arg w v ps qs vb zs) : ∀ q ∈ qs, (Lit.int .i64 q.1).wf = true := by
  intro q hq
  have : q.1 ∈ ps.map (·.1) := by rw [h.q.nums]; exact List.mem_map.2 ⟨q, hq, rfl⟩
  obtain ⟨p, hp, e⟩ := List.mem_map.1 this
  rw [← e]
  exact h.wf p hp
theorem wf_top {x : Int} (h : (Lit.int .i64 x).wf = true) : x ≤ 9223372036854775807 := by
  have := bounds_i64 h
  omega
theorem readM_wf {size f : Int} {qs : List Pg} {zs : List Int} {at_ : Int} (h : ∀ q ∈ qs, (Lit.int .i64 q.1).wf = true) (h0 : 0 ≤ at_) (h1 : at_ ≤ 60000) (s1 : 1 ≤ size) : ∀ q ∈ (readM size f qs zs at_).1.2, (Lit.int .i64 q.1).wf = true := by
  have n0 : 0 ≤ at_ / size := Int.ediv_nonneg h0 (by omega)
  have n1 : at_ / size ≤ at_ := Int.ediv_le_self _ h0
  unfold readM
  cases e : qs.find? (hit (at_ / size)) with
  | some q =>
    intro p hp
    rcases List.mem_append.1 hp with hp | hp
    · exact h p (List.mem_filter.1 hp).1
    · obtain rfl : p = q := by simpa using hp
      exact h p (hit_find e).1
  | none =>
    intro p hp
    rcases List.mem_append.1 hp with hp | hp
    · exact h p ((shift_sub qs).mem hp)
    · obtain rfl : p = _ := by simpa using hp
      exact wfi (by simp; omega) (by simp; omega)
set_option maxHeartbeats 4000000 in
theorem ibyte_ (w : World) (size f at_ : Int) (v : Value) (ps : List Pv) (qs : List Pg) (vb : Value) (zs : List Int) (hA : Arg w v ps qs vb zs) :
    Calls Try.prog 9 #[.agg #[.int .i64 size, v, .int .i64 f], vb, .int .i64 at_] w fun e w' => BytePost (byteM size f qs zs at_) w e w' := by
  have hok := fun (w' : World) (h : Below w.heap.size w w') => iok_ w' size f v ps qs (hA.later h).p (hA.later h).q hA.wf
  have HA : Hid (Arg w v ps qs vb zs) := hA
  obtain ⟨v0, v1, v2, rfl⟩ := hA.sl
  clear hA
  have hW2 : Below w.heap.size w ((w.alloc (.cells #[.int .i64 size, .slice v0 v1 v2, .int .i64 f] 27)).alloc (.cells #[.int .i64 0, .slice none 0 0, .int .i64 0] 27)) := ((Below.refl _ w).alloc (Nat.le_refl _) _).alloc (by simp) _
  have hok2 := hok _ hW2
  clear hok
  have fact : ∀ w1, Below ((w.alloc (.cells #[.int .i64 size, .slice v0 v1 v2, .int .i64 f] 27)).alloc (.cells #[.int .i64 0, .slice none 0 0, .int .i64 0] 27)).heap.size ((w.alloc (.cells #[.int .i64 size, .slice v0 v1 v2, .int .i64 f] 27)).alloc (.cells #[.int .i64 0, .slice none 0 0, .int .i64 0] 27)) w1 →
      w1.heap[w.heap.size + 1]? = some (.cells #[.int .i64 0, .slice none 0 0, .int .i64 0] 27 (0, 0)) ∧ w1.heap[w.heap.size]? = some (.cells #[.int .i64 size, .slice v0 v1 v2, .int .i64 f] 27 (0, 0)) ∧ Below w.heap.size w w1 := by
    intro w1 hb1
    refine ⟨?_, ?_, hW2.trans (hb1.mono (by simp; omega))⟩
    · rw [hb1.block _ (by simp)]
      have := heap_alloc_new (w.alloc (.cells #[.int .i64 size, .slice v0 v1 v2, .int .i64 f] 27)) (.cells #[.int .i64 0, .slice none 0 0, .int .i64 0] 27)
      simpa using this
    · rw [hb1.block _ (by simp; omega), Below.heap_alloc _ _ _ (by simp)]
      exact heap_alloc_new w _
  have FACT : Hid _ := fact
  clear fact hW2
  by_cases hg : okS size qs f = true ∧ 0 ≤ at_ ∧ at_ ≤ 60000
  · have hM : byteM size f qs zs at_ = ((size, (readM size f qs zs at_).1.2, (readM size f qs zs at_).1.1), (readM size f qs zs at_).2) := by unfold byteM; rw [if_pos hg]
    have HM : Hid _ := hM
    obtain ⟨g1, g2, g3⟩ := hg
    have HO : Hid (OkS size qs f) := okS_iff.1 g1
    rw [g1] at hok2
    have g2' : ¬ at_ < 0 := by omega
    have g3' : ¬ 60000 < at_ := by omega
    clear hM g1
    go_enter Try.func9, Try.ntmps9
    go_wp2_with fail
    refine hok2.mono ?_
    rintro e w1 ⟨rfl, hb1⟩
    obtain ⟨r0, r1, hB⟩ := FACT.out w1 hb1
    have e0 := c3_0 r1
    have e1 := c3_1 r1
    have e2 := c3_2 r1
    have hsz1 := lt_of_get r0
    clear hok2 hb1 r1 FACT
    go_wp2_with fail
    have hA1 := HA.out.later hB
    refine (shelve_any w1 size f (.slice v0 v1 v2) ps hA1.p (by rw [hA1.q.len]; exact HO.out.len) hA1.q.isSl_all hA1.wf).mono ?_
    rintro e w2 ⟨rfl, hT, hb2⟩
    have hS2 := hT.is (by rw [hA1.q.nums]; exact HO.out.nd)
    go_wp2_with fail
    refine (read_any w1.heap.size w2 size f at_ ps qs vb zs hS2 (hA1.q.stays hb2) HO.out hA1.d (hA1.b.stays hb2) hA1.z hA1.l (fun q hq => wf_top (hA1.top q hq)) g2 g3).mono ?_
    rintro e w3 ⟨rfl, ⟨ps3, hS3, hQ3⟩, hb3⟩
    have hO3 := readM_ok (zs := zs) HO.out g2
    go_wp2_with fail
    refine (source_ w1.heap.size w3 size _ ps3 _ hS3 hQ3 hO3.len (fun q hq => by have := (hO3.each q hq).2; have := hO3.s2; omega) (readM_wf hA1.top g2 g3 HO.out.s1)).mono ?_
    rintro e w4 ⟨vv, rfl, hOw, hb4⟩
    obtain ⟨x0, x1, x2, rfl⟩ := hOw.sl
    have hb14 : Below w1.heap.size w1 w4 := (hb2.trans hb3).trans (hb4.mono (Nat.le_trans hb2.size hb3.size))
    have r0' := (hb14.block _ hsz1).trans r0
    have z0 := c3_0 r0'
    have z1 := c3_1 r0'
    have z2 := c3_2 r0'
    have y0 := c3_f r0' 0
    have y1 := c3_f r0' 1
    have y2 := c3_f r0' 2
    have hsz3 : w1.heap.size ≤ w3.heap.size := Nat.le_trans hb2.size hb3.size
    have HOW : Hid _ := hOw
    have hBw : Below w.heap.size w w4 := hB.trans (hb14.mono hB.size)
    clear hA1 hT hS2 hS3 hQ3 hb2 hb3 hb4 hOw hO3 hb14 e0 e1 e2 r0
    go_wp2_with fail
    generalize (readM size f qs zs at_).1.1 = f' at *
    have hF := c3_setAll r0' (.int .i64 size) (.slice x0 x1 x2) (.int .i64 f')
    try simp only [Exit.inBlock, Exit.then]
    refine bodyPost_ret (results_cell_tmp_row rfl _ _ (w.heap.size + 1) 27 _ (0, 0) _ rfl hF Try.underlying27 rfl (by kernel_rfl)) rfl ?_
    rw [HM.out]
    refine ⟨_, rfl, ?_, ((hBw.setCell (by simp) _).setCell (by simp) _).setCell (by simp) _⟩
    refine Own.mono (Own.block HOW.out (fun j hj _ => ?_)) (by omega)
    rw [Below.heap_setCell _ _ _ _ (by simp; omega), Below.heap_setCell _ _ _ _ (by simp; omega), Below.heap_setCell _ _ _ _ (by simp; omega)]
  · have hM : byteM size f qs zs at_ = ((0, [], 0), -1) := by unfold byteM; rw [if_neg hg]
    have HM : Hid _ := hM
    have HG : Hid _ := hg
    clear hM hg HA
    have fin : ∀ w1 : World, w1.heap[w.heap.size + 1]? = some (.cells #[.int .i64 0, .slice none 0 0, .int .i64 0] 27 (0, 0)) → w1.cell? ⟨w.heap.size + 1, 0, none⟩ = some (.int .i64 0) ∧ w1.cell? ⟨w.heap.size + 1, 1, none⟩ = some (.slice none 0 0) ∧ w1.cell? ⟨w.heap.size + 1, 2, none⟩ = some (.int .i64 0) ∧
        w1.frozen? ⟨w.heap.size + 1, 0, none⟩ = false ∧ w1.frozen? ⟨w.heap.size + 1, 1, none⟩ = false ∧ w1.frozen? ⟨w.heap.size + 1, 2, none⟩ = false := fun w1 r0 => ⟨c3_0 r0, c3_1 r0, c3_2 r0, c3_f r0 0, c3_f r0 1, c3_f r0 2⟩
    have FIN : Hid _ := fin
    clear fin
    generalize hbv : okS size qs f = bb at *
    clear hbv
    have key3 : bb = false ∨ (bb = true ∧ at_ < 0) ∨ (bb = true ∧ ¬ at_ < 0 ∧ 60000 < at_) := by
      have := HG.out
      cases bb
      · exact .inl rfl
      · by_cases c : at_ < 0
        · exact .inr (.inl ⟨rfl, c⟩)
        · exact .inr (.inr ⟨rfl, c, by simp at this; omega⟩)
    clear HG
    rcases key3 with rfl | ⟨rfl, c1⟩ | ⟨rfl, c1, c2⟩
    all_goals
      go_enter Try.func9, Try.ntmps9
      go_wp2_with fail
      refine hok2.mono ?_
      rintro e w1 ⟨rfl, hb1⟩
      obtain ⟨r0, r1, hB⟩ := FACT.out w1 hb1
      obtain ⟨z0, z1, z2, y0, y1, y2⟩ := FIN.out w1 r0
      clear hok2 hb1 r1 FACT FIN
      go_wp2_with fail
      have hF := c3_setAll r0 (.int .i64 0) (.slice none 0 0) (.int .i64 0)
      try simp only [Exit.inBlock, Exit.then]
      refine bodyPost_ret (results_cell_tmp_row rfl _ _ (w.heap.size + 1) 27 _ (0, 0) _ rfl hF Try.underlying27 rfl (by kernel_rfl)) rfl ?_
      rw [HM.out]
      exact ⟨_, rfl, own_nil _ _, ((hB.setCell (by simp) _).setCell (by simp) _).setCell (by simp) _⟩
end Go.Proofs.Ytopmboioojedbac
