/- The contract of impl.SourceRun, walked. -/
import Derived.Test.YtopmboioojedbacIrr
namespace Go.Proofs.Ytopmboioojedbac
open Go.Maps Go.RowKit
set_option maxHeartbeats 16000000 in
theorem irun_ok (w : World) (size f from_ to_ : Int) (v : Value) (ps : List Pv) (qs : List Pg) (vb : Value) (zs : List Int) (hA : Arg w v ps qs vb zs) (g1 : okS size qs f = true) (g2 : 0 ≤ from_) (g3 : to_ ≤ 60000) :
    Calls Try.prog 7 #[.agg #[.int .i64 size, v, .int .i64 f], vb, .int .i64 from_, .int .i64 to_] w fun e w' => RunPost2 ((size, (runM size zs (to_ - from_).toNat from_ f qs).1.2, (runM size zs (to_ - from_).toNat from_ f qs).1.1), (runM size zs (to_ - from_).toNat from_ f qs).2) w e w' := by
  have hok := fun (w' : World) (h : Below w.heap.size w w') => iok_ w' size f v ps qs (hA.later h).p (hA.later h).q hA.wf
  have HA : Hid (Arg w v ps qs vb zs) := hA
  obtain ⟨v0, v1, v2, rfl⟩ := hA.sl
  clear hA
  have hW2 : Below w.heap.size w ((w.alloc (.cells #[.int .i64 size, .slice v0 v1 v2, .int .i64 f] 27)).alloc (.cells #[.int .i64 0, .slice none 0 0, .int .i64 0] 27)) := ((Below.refl _ w).alloc (Nat.le_refl _) _).alloc (by simp) _
  have hok2 := hok _ hW2
  rw [g1] at hok2
  clear hok
  have fact : ∀ w1, Below ((w.alloc (.cells #[.int .i64 size, .slice v0 v1 v2, .int .i64 f] 27)).alloc (.cells #[.int .i64 0, .slice none 0 0, .int .i64 0] 27)).heap.size ((w.alloc (.cells #[.int .i64 size, .slice v0 v1 v2, .int .i64 f] 27)).alloc (.cells #[.int .i64 0, .slice none 0 0, .int .i64 0] 27)) w1 →
      w1.heap[w.heap.size + 1]? = some (.cells #[.int .i64 0, .slice none 0 0, .int .i64 0] 27 (0, 0)) ∧ w1.heap[w.heap.size]? = some (.cells #[.int .i64 size, .slice v0 v1 v2, .int .i64 f] 27 (0, 0)) ∧ Below w.heap.size w w1 := by
    intro w1 hb1
    refine ⟨?_, ?_, hW2.trans (hb1.mono (by simp; omega))⟩
    · rw [hb1.block _ (by simp)]
      have := heap_alloc_new (w.alloc (.cells #[.int .i64 size, .slice v0 v1 v2, .int .i64 f] 27)) (.cells #[.int .i64 0, .slice none 0 0, .int .i64 0] 27)
      simpa using this
    · rw [hb1.block _ (by simp; omega), Below.heap_alloc _ _ _ (by simp)]
      exact heap_alloc_new w _
  have FACT : Hid (∀ w1, Below ((w.alloc (.cells #[.int .i64 size, .slice v0 v1 v2, .int .i64 f] 27)).alloc (.cells #[.int .i64 0, .slice none 0 0, .int .i64 0] 27)).heap.size ((w.alloc (.cells #[.int .i64 size, .slice v0 v1 v2, .int .i64 f] 27)).alloc (.cells #[.int .i64 0, .slice none 0 0, .int .i64 0] 27)) w1 →
      w1.heap[w.heap.size + 1]? = some (.cells #[.int .i64 0, .slice none 0 0, .int .i64 0] 27 (0, 0)) ∧ w1.heap[w.heap.size]? = some (.cells #[.int .i64 size, .slice v0 v1 v2, .int .i64 f] 27 (0, 0)) ∧ Below w.heap.size w w1) := fact
  have HO : Hid (OkS size qs f) := okS_iff.1 g1
  obtain ⟨R, hR⟩ : ∃ R, runM size zs (to_ - from_).toNat from_ f qs = R := ⟨_, rfl⟩
  have HM : Hid (runM size zs (to_ - from_).toNat from_ f qs = R) := hR
  have g2' : ¬ from_ < 0 := by omega
  have g3' : ¬ 60000 < to_ := by omega
  clear fact hW2 g1 hR
  go_enter Try.func7, Try.ntmps7
  go_wp2_with fail
  refine hok2.mono ?_
  rintro e w1 ⟨rfl, hb1⟩
  obtain ⟨r0, r1, hB⟩ := FACT.out w1 hb1
  have e0 := c3_0 r1
  have e1 := c3_1 r1
  have e2 := c3_2 r1
  have hsz1 := lt_of_get r0
  clear hok2 hb1 r1 FACT
  go_wp2_with fail
  have hA1 := HA.out.later hB
  refine (shelve_any w1 size f (.slice v0 v1 v2) ps hA1.p (by rw [hA1.q.len]; exact HO.out.len) hA1.q.isSl_all hA1.wf).mono ?_
  rintro e w2 ⟨rfl, hT, hb2⟩
  have hS2 := hT.is (by rw [hA1.q.nums]; exact HO.out.nd)
  have HRI0 : Hid (Ri w1.heap.size w2 size f qs (.slice none 0 0) []) := ⟨⟨ps, hS2, hA1.q.stays hb2⟩, HO.out, hA1.d, hA1.top, World.ownsRow_nil _ _ _ _⟩
  have hB2 : Below w.heap.size w w2 := hB.trans (hb2.mono hB.size)
  have HVB : Hid (Sl w1.heap.size w2 vb zs) := hA1.b.stays hb2
  have HZ : Hid (okz zs ∧ zs.length ≤ 1048576) := ⟨hA1.z, hA1.l⟩
  have R0 : Hid (∀ W, Below w1.heap.size w2 W → W.heap[w.heap.size + 1]? = some (.cells #[.int .i64 0, .slice none 0 0, .int .i64 0] 27 (0, 0))) := fun W h => ((h.block _ hsz1).trans (hb2.block _ hsz1)).trans r0
  clear hT hS2 hA1 r0 hb2 e0 e1 e2
  go_wp2_with fail
  go_loopw [11, 12] (fun rv av wr => ∃ (at_ f' : Int) (qs' : List Pg) (acc : List Int), from_ ≤ at_ ∧ av = .int .i64 at_ ∧ isSl rv ∧ Hid (acc.length ≤ 60000 ∧ (acc.length : Int) ≤ at_) ∧ Hid (Ri w1.heap.size wr size f' qs' rv acc) ∧ Hid (goal_ size zs to_ at_ f' qs' acc R) ∧ Below w1.heap.size w2 wr) (fun _ av _ => (to_ - intOf av).toNat)
  case atStart => exact ⟨from_, f, qs, [], Int.le_refl _, rfl, ⟨_, _, _, rfl⟩, ⟨by simp, by simpa using g2⟩, HRI0, ⟨by rw [HM.out], by rw [HM.out]; rfl⟩, Below.refl _ _⟩
  case round =>
    obtain ⟨at_, f', qs', acc, hfa, rfl, ⟨rv0, rv1, rv2, rfl⟩, HAC, HRI, HG, hb⟩ := hrel
    by_cases hlt : at_ < to_
    · have ha0 : 0 ≤ at_ := by omega
      have ha1 : at_ ≤ 60000 := by omega
      have hRI := HRI.out
      obtain ⟨psr, hSr, hQr⟩ := hRI.sh
      have hst := goal_step HG.out hlt
      have hbd := readM_byte (size := size) (f := f') (at_ := at_) hRI.okd HZ.out.1
      have hok3 := readM_ok (zs := zs) hRI.ok ha0
      have hod3 := readM_okd (size := size) (f := f') (at_ := at_) hRI.okd HZ.out.1
      have hwf3 := readM_wf (f := f') (zs := zs) hRI.wf ha0 ha1 hRI.ok.s1
      have hrow := hRI.row
      have cR := read2_any w1.heap.size wr size f' at_ psr qs' vb zs hSr hQr hRI.ok hRI.okd (HVB.out.stays hb) HZ.out.1 HZ.out.2 (fun q hq => wf_top (hRI.wf q hq)) ha0 ha1
      clear hSr hQr hRI
      obtain ⟨⟨⟨f3, qs3⟩, x⟩, hrd⟩ : ∃ r, readM size f' qs' zs at_ = r := ⟨_, rfl⟩
      rw [hrd] at hst hbd hok3 hod3 hwf3 cR
      obtain ⟨hst1, hst2⟩ := hst
      have HST1 : Hid (x < 0 → (f3, qs3) = R.1 ∧ acc = R.2) := hst1
      have HST2 : Hid (¬ x < 0 → goal_ size zs to_ (at_ + 1) f3 qs3 (acc ++ [x]) R) := hst2
      have HP3 : Hid (OkS size qs3 f3 ∧ okd qs3 ∧ ∀ q ∈ qs3, (Lit.int .i64 q.1).wf = true) := ⟨hok3, hod3, hwf3⟩
      have HROW : Hid (wr.ownsRow (w1.heap.size + 3) 5 1 (.slice rv0 rv1 rv2) acc.length (u8s acc)) := hrow
      obtain ⟨hx0, hx1⟩ := hbd
      have hx0 : -1 ≤ x := hx0
      have hx1 : x < 256 := hx1
      clear hst1 hst2 hrd hok3 hod3 hwf3 hrow
      go_wp2_with fail
      refine cR.mono ?_
      rintro e w3 ⟨rfl, hsh3, hb3, hk3⟩
      have HRI3 : Hid (Ri w1.heap.size w3 size f3 qs3 (.slice rv0 rv1 rv2) acc) := ⟨hsh3, HP3.out.1, HP3.out.2.1, HP3.out.2.2, row_keepB HROW.out hk3⟩
      have hb23 : Below w1.heap.size w2 w3 := hb.trans hb3
      clear cR hsh3 hb3 hk3
      by_cases hx : x < 0
      · have HGE : Hid ((f3, qs3) = R.1 ∧ acc = R.2) := HST1.out hx
        have HRIE : Hid (Ri w1.heap.size w3 size f3 qs3 (.slice rv0 rv1 rv2) acc) := HRI3
        have hbE := hb23
        have hA := HRIE.out
        obtain ⟨pse, hSe, hQe⟩ := hA.sh
        have hrowE := hA.row
        have hszE : w1.heap.size + 3 ≤ w3.heap.size := hSe.lt
        have cS := source_ w1.heap.size w3 size f3 pse qs3 hSe hQe hA.ok.len (fun q hq => by have h1 := (hA.ok.each q hq).2; have h2 := hA.ok.s2; omega) hA.wf
        have hrun := R0.out w3 hbE
        have hBE : Below w.heap.size w w3 := hB2.trans (hbE.mono (by have := hB.size; omega))
        clear hSe hQe hA
        go_wp2_with fail
        refine cS.mono ?_
        rintro e w9 ⟨vv, rfl, hOw, hb9⟩
        obtain ⟨x0, x1, x2, rfl⟩ := hOw.sl
        have r9 := (hb9.block _ (lt_of_get hrun)).trans hrun
        have z0 := c3_0 r9
        have z1 := c3_1 r9
        have z2 := c3_2 r9
        have y0 := c3_f r9 0
        have y1 := c3_f r9 1
        have y2 := c3_f r9 2
        have hB9 : Below w.heap.size w w9 := hBE.trans (hb9.mono hBE.size)
        have hrow9 := row_block hrowE (fun k _ hk => hb9.block k hk)
        have HOW : Hid (Own w3.heap.size w9 (.slice x0 x1 x2) qs3) := hOw
        have HRW : Hid (w9.ownsRow (w1.heap.size + 3) 5 1 (.slice rv0 rv1 rv2) acc.length (u8s acc)) := hrow9
        have hrlt : Hid (∀ b, (Value.slice rv0 rv1 rv2).ownBlock = some b → b < w3.heap.size) := fun b e => (hrowE.lt b e).2
        have hz9 := hb9.size
        clear cS hOw hb9 hrowE hrow9
        go_wp2_with fail
        have hF := c3_setAll r9 (.int .i64 size) (.slice x0 x1 x2) (.int .i64 f3)
        try simp only [Exit.inBlock, Exit.then]
        refine bodyPost_ret (results_cell_tmp_row rfl _ _ (w.heap.size + 1) 27 _ (0, 0) _ rfl hF Try.underlying27 rfl (by kernel_rfl)) rfl ?_
        have hoth : ∀ j, w1.heap.size ≤ j → (((w9.setCell ⟨w.heap.size + 1, 0, none⟩ (.int .i64 size)).setCell ⟨w.heap.size + 1, 1, none⟩ (.slice x0 x1 x2)).setCell ⟨w.heap.size + 1, 2, none⟩ (.int .i64 f3)).heap[j]? = w9.heap[j]? := fun j hj => by
          rw [Below.heap_setCell _ _ _ _ (by simp; omega), Below.heap_setCell _ _ _ _ (by simp; omega), Below.heap_setCell _ _ _ _ (by simp; omega)]
        rw [HM.out]
        obtain ⟨ge1, ge2⟩ := HGE.out
        rw [← ge1, ← ge2]
        refine ⟨_, .slice rv0 rv1 rv2, w3.heap.size, rfl, HOW.out.block (fun j hj _ => hoth j (by omega)), by have := hBE.size; omega, by simp; omega, ?_, hrlt.out, ((hB9.setCell (by simp) _).setCell (by simp) _).setCell (by simp) _⟩
        have hr1 := row_block HRW.out (fun j hj _ => hoth j (by omega))
        exact ⟨hr1.1, hr1.2.imp id (fun ⟨g, cap, cur, e, hb, r⟩ => ⟨g, cap, cur, e, by have := hB.size; omega, r⟩)⟩
      · have HG4 : Hid (goal_ size zs to_ (at_ + 1) f3 qs3 (acc ++ [x]) R) := HST2.out (by omega)
        have hx' : 0 ≤ x := by omega
        have hsz3 : w1.heap.size + 3 ≤ w3.heap.size := by obtain ⟨p, h1, _⟩ := HRI3.out.sh; exact h1.lt
        obtain ⟨v4, w4, hrun, ⟨s0, s1, s2, rfl⟩, hRI4, hb4⟩ := run_more (x := x) HRI3.out hsz3 (by have := HAC.out.1; omega) 22
        have HRI4 : Hid (Ri w1.heap.size w4 size f3 qs3 (.slice s0 s1 s2) (acc ++ [x])) := hRI4
        have HAC4 : Hid ((acc ++ [x]).length ≤ 60000 ∧ ((acc ++ [x]).length : Int) ≤ at_ + 1) := by
          have h1 := HAC.out.2
          rw [show (acc ++ [x]).length = acc.length + 1 by simp]
          exact ⟨by omega, by omega⟩
        have hb24 : Below w1.heap.size w2 w4 := hb23.trans (hb4.mono (by omega))
        clear hRI4 hb4 hx
        go_wp2_with (at_builtin; refine wpList_append_run rfl _ _ 22 rfl _ _ rfl rfl _ w4 hrun ?_)
        go_roundw
        case rel =>
          go_light
          exact ⟨at_ + 1, f3, qs3, acc ++ [x], by omega, by go_num, ⟨_, _, _, rfl⟩, HAC4, HRI4, HG4, hb24⟩
        case measure =>
          go_light
          simp [intOf]; omega
    · have HGE : Hid ((f', qs') = R.1 ∧ acc = R.2) := goal_end HG.out hlt
      have HRIE : Hid (Ri w1.heap.size wr size f' qs' (.slice rv0 rv1 rv2) acc) := HRI
      have hbE := hb
      have hA := HRIE.out
      obtain ⟨pse, hSe, hQe⟩ := hA.sh
      have hrowE := hA.row
      have hszE : w1.heap.size + 3 ≤ wr.heap.size := hSe.lt
      have cS := source_ w1.heap.size wr size f' pse qs' hSe hQe hA.ok.len (fun q hq => by have h1 := (hA.ok.each q hq).2; have h2 := hA.ok.s2; omega) hA.wf
      have hrun := R0.out wr hbE
      have hBE : Below w.heap.size w wr := hB2.trans (hbE.mono (by have := hB.size; omega))
      clear hSe hQe hA
      go_wp2_with fail
      refine cS.mono ?_
      rintro e w9 ⟨vv, rfl, hOw, hb9⟩
      obtain ⟨x0, x1, x2, rfl⟩ := hOw.sl
      have r9 := (hb9.block _ (lt_of_get hrun)).trans hrun
      have z0 := c3_0 r9
      have z1 := c3_1 r9
      have z2 := c3_2 r9
      have y0 := c3_f r9 0
      have y1 := c3_f r9 1
      have y2 := c3_f r9 2
      have hB9 : Below w.heap.size w w9 := hBE.trans (hb9.mono hBE.size)
      have hrow9 := row_block hrowE (fun k _ hk => hb9.block k hk)
      have HOW : Hid (Own wr.heap.size w9 (.slice x0 x1 x2) qs') := hOw
      have HRW : Hid (w9.ownsRow (w1.heap.size + 3) 5 1 (.slice rv0 rv1 rv2) acc.length (u8s acc)) := hrow9
      have hrlt : Hid (∀ b, (Value.slice rv0 rv1 rv2).ownBlock = some b → b < wr.heap.size) := fun b e => (hrowE.lt b e).2
      have hz9 := hb9.size
      clear cS hOw hb9 hrowE hrow9
      go_wp2_with fail
      have hF := c3_setAll r9 (.int .i64 size) (.slice x0 x1 x2) (.int .i64 f')
      try simp only [Exit.inBlock, Exit.then]
      refine bodyPost_ret (results_cell_tmp_row rfl _ _ (w.heap.size + 1) 27 _ (0, 0) _ rfl hF Try.underlying27 rfl (by kernel_rfl)) rfl ?_
      have hoth : ∀ j, w1.heap.size ≤ j → (((w9.setCell ⟨w.heap.size + 1, 0, none⟩ (.int .i64 size)).setCell ⟨w.heap.size + 1, 1, none⟩ (.slice x0 x1 x2)).setCell ⟨w.heap.size + 1, 2, none⟩ (.int .i64 f')).heap[j]? = w9.heap[j]? := fun j hj => by
        rw [Below.heap_setCell _ _ _ _ (by simp; omega), Below.heap_setCell _ _ _ _ (by simp; omega), Below.heap_setCell _ _ _ _ (by simp; omega)]
      rw [HM.out]
      obtain ⟨ge1, ge2⟩ := HGE.out
      rw [← ge1, ← ge2]
      refine ⟨_, .slice rv0 rv1 rv2, wr.heap.size, rfl, HOW.out.block (fun j hj _ => hoth j (by omega)), by have := hBE.size; omega, by simp; omega, ?_, hrlt.out, ((hB9.setCell (by simp) _).setCell (by simp) _).setCell (by simp) _⟩
      have hr1 := row_block HRW.out (fun j hj _ => hoth j (by omega))
      exact ⟨hr1.1, hr1.2.imp id (fun ⟨g, cap, cur, e, hb, r⟩ => ⟨g, cap, cur, e, by have := hB.size; omega, r⟩)⟩
set_option maxHeartbeats 8000000 in
theorem irun_ (w : World) (size f from_ to_ : Int) (v : Value) (ps : List Pv) (qs : List Pg) (vb : Value) (zs : List Int) (hA : Arg w v ps qs vb zs) :
    Calls Try.prog 7 #[.agg #[.int .i64 size, v, .int .i64 f], vb, .int .i64 from_, .int .i64 to_] w fun e w' => RunPost2 (runR size f qs zs from_ to_) w e w' := by
  by_cases hg : okS size qs f = true ∧ 0 ≤ from_ ∧ to_ ≤ 60000
  · unfold runR
    rw [if_pos hg]
    exact irun_ok w size f from_ to_ v ps qs vb zs hA hg.1 hg.2.1 hg.2.2
  have HM : Hid (runR size f qs zs from_ to_ = ((0, [], 0), [])) := by show runR size f qs zs from_ to_ = _; unfold runR; rw [if_neg hg]
  have hok := fun (w' : World) (h : Below w.heap.size w w') => iok_ w' size f v ps qs (hA.later h).p (hA.later h).q hA.wf
  have HA : Hid (Arg w v ps qs vb zs) := hA
  obtain ⟨v0, v1, v2, rfl⟩ := hA.sl
  clear hA
  have hW2 : Below w.heap.size w ((w.alloc (.cells #[.int .i64 size, .slice v0 v1 v2, .int .i64 f] 27)).alloc (.cells #[.int .i64 0, .slice none 0 0, .int .i64 0] 27)) := ((Below.refl _ w).alloc (Nat.le_refl _) _).alloc (by simp) _
  have hok2 := hok _ hW2
  clear hok
  have fact : ∀ w1, Below ((w.alloc (.cells #[.int .i64 size, .slice v0 v1 v2, .int .i64 f] 27)).alloc (.cells #[.int .i64 0, .slice none 0 0, .int .i64 0] 27)).heap.size ((w.alloc (.cells #[.int .i64 size, .slice v0 v1 v2, .int .i64 f] 27)).alloc (.cells #[.int .i64 0, .slice none 0 0, .int .i64 0] 27)) w1 →
      w1.heap[w.heap.size + 1]? = some (.cells #[.int .i64 0, .slice none 0 0, .int .i64 0] 27 (0, 0)) ∧ w1.heap[w.heap.size]? = some (.cells #[.int .i64 size, .slice v0 v1 v2, .int .i64 f] 27 (0, 0)) ∧ Below w.heap.size w w1 := by
    intro w1 hb1
    refine ⟨?_, ?_, hW2.trans (hb1.mono (by simp; omega))⟩
    · rw [hb1.block _ (by simp)]
      have := heap_alloc_new (w.alloc (.cells #[.int .i64 size, .slice v0 v1 v2, .int .i64 f] 27)) (.cells #[.int .i64 0, .slice none 0 0, .int .i64 0] 27)
      simpa using this
    · rw [hb1.block _ (by simp; omega), Below.heap_alloc _ _ _ (by simp)]
      exact heap_alloc_new w _
  have FACT : Hid (∀ w1, Below ((w.alloc (.cells #[.int .i64 size, .slice v0 v1 v2, .int .i64 f] 27)).alloc (.cells #[.int .i64 0, .slice none 0 0, .int .i64 0] 27)).heap.size ((w.alloc (.cells #[.int .i64 size, .slice v0 v1 v2, .int .i64 f] 27)).alloc (.cells #[.int .i64 0, .slice none 0 0, .int .i64 0] 27)) w1 →
      w1.heap[w.heap.size + 1]? = some (.cells #[.int .i64 0, .slice none 0 0, .int .i64 0] 27 (0, 0)) ∧ w1.heap[w.heap.size]? = some (.cells #[.int .i64 size, .slice v0 v1 v2, .int .i64 f] 27 (0, 0)) ∧ Below w.heap.size w w1) := fact
  clear fact hW2 HA
  generalize okS size qs f = bb at *
  have key3 : bb = false ∨ (bb = true ∧ from_ < 0) ∨ (bb = true ∧ ¬ from_ < 0 ∧ 60000 < to_) := by
    cases bb
    · exact .inl rfl
    · by_cases c : from_ < 0
      · exact .inr (.inl ⟨rfl, c⟩)
      · exact .inr (.inr ⟨rfl, c, by simp at hg; omega⟩)
  clear hg
  rcases key3 with rfl | ⟨rfl, c1⟩ | ⟨rfl, c1, c2⟩
  all_goals
    go_enter Try.func7, Try.ntmps7
    go_wp2_with fail
    refine hok2.mono ?_
    rintro e w1 ⟨rfl, hb1⟩
    obtain ⟨r0, r1, hB⟩ := FACT.out w1 hb1
    have z0 := c3_0 r0
    have z1 := c3_1 r0
    have z2 := c3_2 r0
    have y0 := c3_f r0 0
    have y1 := c3_f r0 1
    have y2 := c3_f r0 2
    clear hok2 hb1 r1 FACT
    go_wp2_with fail
    have hF := c3_setAll r0 (.int .i64 0) (.slice none 0 0) (.int .i64 0)
    try simp only [Exit.inBlock, Exit.then]
    refine bodyPost_ret (results_cell_tmp_row rfl _ _ (w.heap.size + 1) 27 _ (0, 0) _ rfl hF Try.underlying27 rfl (by kernel_rfl)) rfl ?_
    rw [HM.out]
    exact ⟨_, _, w.heap.size, rfl, own_nil _ _, Nat.le_refl _, by have := hB.size; simp; omega, World.ownsRow_nil _ _ _ _, (fun b e => by cases e), ((hB.setCell (by simp) _).setCell (by simp) _).setCell (by simp) _⟩
end Go.Proofs.Ytopmboioojedbac
