/- Marking, told sharper: what lies from hi on is as it was. -/
import Derived.Test.YtlifedkieeogdagMrk
namespace Go.Proofs.Ytlifedkieeogdag
open Go.Maps Go.RowKit Go.Deep
/-- Own pages, all in blocks from lo on and below hi. -/
def Own2 (lo hi : Nat) (w : World) (v : Value) (qs : List Pg) : Prop :=
  ∃ ps, w.ownsRow lo 51 2 v ps.length (cellsP ps) ∧ DO lo w ps qs ∧ Apart v ps ∧ (∀ b, v.ownBlock = some b → b < hi) ∧ (∀ p ∈ ps, ∀ b, p.2.ownBlock = some b → b < hi)
theorem Own2.own {lo hi : Nat} {w : World} {v : Value} {qs : List Pg} (h : Own2 lo hi w v qs) : Own lo w v qs := by
  obtain ⟨ps, h1, h2, h3, _⟩ := h
  exact ⟨ps, h1, h2, h3⟩
theorem Own.two {lo : Nat} {w : World} {v : Value} {qs : List Pg} (h : Own lo w v qs) : Own2 lo w.heap.size w v qs := by
  obtain ⟨ps, h1, h2, h3⟩ := h
  exact ⟨ps, h1, h2, h3, fun b e => (h1.lt b e).2, fun p hp b e => (h2.lt p hp b e).2⟩
theorem Own2.block {lo hi : Nat} {w w' : World} {v : Value} {qs : List Pg} (h : Own2 lo hi w v qs) (hw : ∀ k, lo ≤ k → k < w.heap.size → w'.heap[k]? = w.heap[k]?) : Own2 lo hi w' v qs := by
  obtain ⟨ps, h1, h2, h3, h4, h5⟩ := h
  refine ⟨ps, row_block h1 hw, ?_, h3, h4, h5⟩
  clear h1 h3 h4 h5
  induction ps generalizing qs with
  | nil => cases qs with
    | nil => trivial
    | cons _ _ => exact h2.elim
  | cons p ps ih => cases qs with
    | nil => exact h2.elim
    | cons q qs => exact ⟨h2.1, row_block h2.2.1 hw, ih h2.2.2⟩
theorem Own2.later {lo hi : Nat} {w w' : World} {v : Value} {qs : List Pg} (h : Own2 lo hi w v qs) (hb : Below w.heap.size w w') : Own2 lo hi w' v qs := h.block (fun k _ hk => hb.block k hk)
def MkPost2 (lo hi : Nat) (v : Value) (k : Int) (qs : List Pg) (w : World) (e : Ending) (w' : World) : Prop :=
  e = .returned (.int .i64 (k + tlen qs)) ∧ Own2 lo hi w' v (markQ k qs) ∧ Below lo w w' ∧ ∀ b, hi ≤ b → b < w.heap.size → w'.heap[b]? = w.heap[b]?
set_option maxHeartbeats 4000000 in
theorem mark2Ps_ (w : World) (lo hi : Nat) (v : Value) (qs : List Pg) (k : Int) (hO : Own2 lo hi w v qs) (ht : tlen qs ≤ 2000000) (k0 : 0 ≤ k) (k1 : k ≤ 100) (hlo : lo ≤ w.heap.size) (hz : ∀ q ∈ qs, q.2.length ≤ 1048576) :
    Calls Try.prog 34 #[v, .int .i64 k] w fun e w' => MkPost2 lo hi v k qs w e w' := by
  by_cases h0 : qs = []
  · subst h0
    obtain ⟨a, c, rfl⟩ := hO.own.rdp.sl
    have HO : Hid (Own2 lo hi w (.slice a 0 c) []) := hO
    clear hO
    go_enter Try.func34, Try.ntmps34
    go_wp2_with fail
    refine wp_loop_rounds 1 ?_
    rw [rounds_succ]
    go_wp2_with fail
    go_ret
    exact ⟨by simp [tlen], HO.out, Below.refl _ _, fun _ _ _ => rfl⟩
  · obtain ⟨ps0, hp0, hd0, ha0, hu1, hu2⟩ := hO
    have hpos : 0 < ps0.length := by rw [hd0.len]; exact List.length_pos_iff.2 h0
    obtain ⟨g, cap, rfl, hg, hgl⟩ := World.ownsRow.form hp0 hpos
    have hl0 : ps0.length = qs.length := hd0.len
    have hgu : g < hi := hu1 g rfl
    rw [hl0] at hp0 ha0 ⊢
    have HS : Hid (w.ownsRow lo 51 2 (.slice (some ⟨g, 0, none⟩) qs.length cap) qs.length (cellsP ps0) ∧ DO lo w ps0 (mix k qs 0) ∧ Apart (.slice (some ⟨g, 0, none⟩) qs.length cap) ps0 ∧ (∀ p ∈ ps0, ∀ b, p.2.ownBlock = some b → b < hi)) := ⟨hp0, by simpa [mix, markQ] using hd0, ha0, hu2⟩
    have hll := tlen_len qs
    have HZ : Hid (∀ q ∈ qs, q.2.length ≤ 1048576) := hz
    clear hp0 hd0 ha0 hl0 hpos h0 hz hu1 hu2
    go_enter Try.func34, Try.ntmps34
    go_wp2_with fail
    go_loopw [1, 5] (fun kk ii wr => ∃ (i : Nat) (ps : List Pv), i ≤ qs.length ∧ ii = .int .i64 i ∧ kk = .int .i64 (k + tlen (qs.take i)) ∧
      Hid (wr.ownsRow lo 51 2 (.slice (some ⟨g, 0, none⟩) qs.length cap) qs.length (cellsP ps) ∧ DO lo wr ps (mix k qs i) ∧ Apart (.slice (some ⟨g, 0, none⟩) qs.length cap) ps ∧ (∀ p ∈ ps, ∀ b, p.2.ownBlock = some b → b < hi)) ∧ Below lo w wr ∧ Hid (∀ b, hi ≤ b → b < w.heap.size → wr.heap[b]? = w.heap[b]?)) (fun _ ii _ => qs.length - (intOf ii).toNat)
    case atStart => exact ⟨0, ps0, Nat.zero_le _, rfl, by simp [tlen], HS.out, Below.refl _ _, fun _ _ _ => rfl⟩
    case round =>
      obtain ⟨i, ps, hile, rfl, rfl, HR, hb, HFR⟩ := hrel
      by_cases hlt : i < qs.length
      · obtain ⟨q, hq⟩ : ∃ q, qs[i]? = some q := ⟨_, List.getElem?_eq_getElem hlt⟩
        obtain ⟨r1, r2, r3, r4⟩ := HR.out
        rw [mix_at hq] at r2
        obtain ⟨l, ⟨x, d⟩, r, rfl, hll2, hdl, hx, hdo, hdr⟩ := r2.split
        have hli : l.length = i := by rw [hll2, markQ_len, List.length_take]; omega
        have htl : tlen (qs.take i) ≤ 2000000 := Nat.le_trans (tlen_le qs i) ht
        have hzl := HZ.out q (List.mem_of_getElem? hq)
        have hlt' : (i : Int) < (qs.length : Int) := by omega
        generalize hkk : k + (tlen (qs.take i) : Int) = kk at *
        have hkk0 : 0 ≤ kk := by omega
        have hkk1 : kk ≤ 3000000 := by omega
        -- the page's number
        have hcl : (cellsP (l ++ (x, d) :: r)).length = qs.length * 2 := by rw [r1.1]
        have r1' : (wr.setCell ⟨g, i * 2, none⟩ (.int .i64 kk)).ownsRow lo 51 2 (.slice (some ⟨g, 0, none⟩) qs.length cap) qs.length (cellsP (l ++ (kk, d) :: r)) := by
          have := own_set r1 (i * 2) (.int .i64 kk) (by omega)
          rw [← hli, cellsP_set, hli] at this
          exact this
        have hfar := r3.row
        have hdu : Hid (∀ b, d.ownBlock = some b → b < hi) := r4 (x, d) (by simp)
        have R4 : Hid (∀ p ∈ l ++ (kk, d) :: r, ∀ b, p.2.ownBlock = some b → b < hi) := by
          show ∀ p ∈ l ++ (kk, d) :: r, ∀ b, p.2.ownBlock = some b → b < hi
          intro p hp
          rcases List.mem_append.1 hp with hp | hp
          · exact r4 p (by simp [hp])
          · rcases List.mem_cons.1 hp with rfl | hp
            · exact r4 (x, d) (by simp)
            · exact r4 p (by simp [hp])
        have hgA : wr.grownBy (wr.setCell ⟨g, i * 2, none⟩ (.int .i64 kk)) (some g) := ⟨rfl, rfl, rfl, by simp [World.setCell], fun j _ hj => Below.heap_setCell _ _ _ _ (fun e => hj (by rw [e]))⟩
        have notg : ∀ p ∈ l ++ (x, d) :: r, p.2.ownBlock = none ∨ p.2.ownBlock ≠ some g := fun p hp => by
          cases e : p.2.ownBlock with
          | none => exact .inl rfl
          | some bb => exact .inr (fun e2 => by injection e2 with e2; subst e2; exact hfar p hp _ e rfl)
        have hdlA := hdl.kept hgA (fun p hp => notg p (by simp [hp]))
        have hdrA := hdr.kept hgA (fun p hp => notg p (by simp [hp]))
        have hdoA := hdo.kept hgA (notg (x, d) (by simp))
        have r3' : Apart (.slice (some ⟨g, 0, none⟩) qs.length cap) (l ++ (kk, d) :: r) := r3.num
        have hBA : Below lo w (wr.setCell ⟨g, i * 2, none⟩ (.int .i64 kk)) := hb.setCell hg _
        have cx : wr.cell? ⟨g, i * 2, none⟩ = some (.int .i64 x) := by
          have := r1.cells (g := g) rfl (i * 2) (.int .i64 x) (cellsP_at (ps := l ++ (x, d) :: r) (i := i) (p := (x, d)) (by rw [← hli]; simp)).1
          rwa [addN] at this
        have cd : (wr.setCell ⟨g, i * 2, none⟩ (.int .i64 kk)).cell? ⟨g, i * 2 + 1, none⟩ = some d := by
          have := r1'.cells (g := g) rfl (i * 2 + 1) d (cellsP_at (ps := l ++ (kk, d) :: r) (i := i) (p := (kk, d)) (by rw [← hli]; simp)).2
          rwa [addN] at this
        have fx : wr.frozen? ⟨g, i * 2, none⟩ = false := by
          rcases r1.2 with ⟨e, _⟩ | ⟨g', cap', cur, e, _, hgg, _⟩
          · cases e
          · injection e with e1 _ _
            injection e1 with e1
            injection e1 with e1
            subst e1
            simp [World.frozen?, hgg]
        obtain ⟨d0, d1, d2, rfl⟩ : isSl d := by
          rcases hdo.2 with ⟨e, _⟩ | ⟨g, cap, cur, e, _⟩
          · exact ⟨_, _, _, e⟩
          · exact ⟨_, _, _, e⟩
        have hM := markB_ _ lo _ q.2 (kk + 1) hdoA hzl (by omega) (by omega)
        have HQ : Hid (qs[i]? = some q) := hq
        have HKK : Hid (k + (tlen (qs.take i) : Int) = kk) := hkk
        have H1 : Hid _ := r1'
        have H3 : Hid (Apart (.slice (some ⟨g, 0, none⟩) qs.length cap) (l ++ (kk, Value.slice d0 d1 d2) :: r)) := r3'
        have HL : Hid (DO lo (wr.setCell ⟨g, i * 2, none⟩ (.int .i64 kk)) l (markQ k (qs.take i))) := hdlA
        have HRr : Hid (DO lo (wr.setCell ⟨g, i * 2, none⟩ (.int .i64 kk)) r (qs.drop (i + 1))) := hdrA
        clear hq hkk r1 r2 r3 r4 r1' r3' hdl hdr hdo hdlA hdrA hdoA hfar hgA notg HR hx hll2
        go_wp2_with fail
        refine hM.mono ?_
        rintro e w1 ⟨rfl, hown1, hgr1⟩
        have hszA : lo ≤ (wr.setCell ⟨g, i * 2, none⟩ (.int .i64 kk)).heap.size := Nat.le_trans hlo hBA.size
        have hB1 : Below lo w w1 := hBA.grown hgr1 hszA (fun j hj => by
          have hr := hown1
          rcases hr.2 with ⟨e, _⟩ | ⟨g', cap', cur, e, hb', _⟩
          · rw [e] at hj; cases hj
          · rw [e] at hj; cases hj; exact hb')
        have HFR1 : Hid (∀ b, hi ≤ b → b < w.heap.size → w1.heap[b]? = w.heap[b]?) := by
          show ∀ b, hi ≤ b → b < w.heap.size → w1.heap[b]? = w.heap[b]?
          intro b hb1 hb2
          have hz1 : w.heap.size ≤ (wr.setCell ⟨g, i * 2, none⟩ (.int .i64 kk)).heap.size := hBA.size
          rw [hgr1.block b (by omega) (fun e => by have := hdu.out b e.symm; omega), Below.heap_setCell _ _ _ _ (by simp; omega)]
          exact HFR.out b hb1 hb2
        have notd : ∀ p ∈ l ++ r, p.2.ownBlock = none ∨ p.2.ownBlock ≠ (Value.slice d0 d1 d2).ownBlock := fun p hp => by
          cases e : p.2.ownBlock with
          | none => exact .inl rfl
          | some bb =>
            right
            intro e2
            have hpw := H3.out.each
            rw [List.pairwise_append, List.pairwise_cons] at hpw
            obtain ⟨_, ⟨hb1, _⟩, hb2⟩ := hpw
            rcases List.mem_append.1 hp with hp | hp
            · exact hb2 p hp (kk, .slice d0 d1 d2) (by simp) bb e e2.symm
            · exact hb1 p hp bb e2.symm e
        have N : Hid (w1.ownsRow lo 51 2 (.slice (some ⟨g, 0, none⟩) qs.length cap) qs.length (cellsP (l ++ (kk, .slice d0 d1 d2) :: r)) ∧ DO lo w1 (l ++ (kk, .slice d0 d1 d2) :: r) (mix k qs (i + 1)) ∧ Apart (.slice (some ⟨g, 0, none⟩) qs.length cap) (l ++ (kk, .slice d0 d1 d2) :: r) ∧ (∀ p ∈ l ++ (kk, .slice d0 d1 d2) :: r, ∀ b, p.2.ownBlock = some b → b < hi)) := by
          refine ⟨World.ownsRow.kept H1.out hgr1 (.inr (fun e => ?_)), ?_, H3.out, R4.out⟩
          · exact H3.out.row (kk, .slice d0 d1 d2) (by simp) g e.symm rfl
          · rw [mix_succ HQ.out, HKK.out]
            exact (HL.out.kept hgr1 (fun p hp => notd p (by simp [hp]))).join rfl hown1 (HRr.out.kept hgr1 (fun p hp => notd p (by simp [hp])))
        have hts : k + (tlen (qs.take (i + 1)) : Int) = kk + 1 + (q.2.length : Int) := by
          have h1 := tlen_take HQ.out
          have h2 := HKK.out
          omega
        have HTS : Hid _ := hts
        clear hM hown1 hgr1 notd hts
        go_wp2_with fail
        go_roundw
        case rel => exact ⟨i + 1, _, hlt, by go_num, by rw [HTS.out], N, hB1, HFR1⟩
        case measure => simp [intOf]; omega
      · have ei : i = qs.length := by omega
        subst ei
        go_wp2_with fail
        go_ret
        obtain ⟨r1, r2, r3, r4⟩ := HR.out
        unfold mix at r2
        rw [List.take_length, List.drop_length, List.append_nil] at r2
        have hpl : ps.length = qs.length := by rw [r2.len, markQ_len]
        refine ⟨by rw [List.take_length]; rfl, ⟨ps, ?_, r2, r3, fun b e => by cases e; exact hgu, r4⟩, hb, HFR.out⟩
        rw [hpl]
        exact r1
set_option maxHeartbeats 1000000 in
theorem mark2S_ (w : World) (lo hi : Nat) (a b : Int) (v : Value) (qs : List Pg) (k : Int) (hO : Own2 lo hi w v qs) (ht : tlen qs ≤ 2000000) (k0 : 0 ≤ k) (k1 : k ≤ 100) (hlo : lo ≤ w.heap.size) (hz : ∀ q ∈ qs, q.2.length ≤ 1048576) :
    Calls Try.prog 16 #[.agg #[.int .i64 a, v, .int .i64 b], .int .i64 k] w fun e w' => MkPost2 lo hi v k qs w e w' := by
  have hBa : Below lo w (w.alloc (.cells #[.int .i64 a, v, .int .i64 b] 29)) := (Below.refl _ _).alloc hlo _
  have hM := mark2Ps_ _ lo hi v qs k (hO.block (w' := w.alloc (.cells #[.int .i64 a, v, .int .i64 b] 29)) (fun j _ hj => Below.heap_alloc _ _ _ hj)) ht k0 k1 (Nat.le_trans hlo hBa.size) hz
  obtain ⟨v0, v1, v2, rfl⟩ := hO.own.sl
  have HB : Hid (Below lo w (w.alloc (.cells #[.int .i64 a, .slice v0 v1 v2, .int .i64 b] 29))) := hBa
  clear hO hBa hz
  go_enter Try.func16, Try.ntmps16
  go_wp2_with fail
  refine hM.mono ?_
  rintro e w1 ⟨rfl, hO1, hb1, hf1⟩
  have HO : Hid (Own2 lo hi w1 (.slice v0 v1 v2) (markQ k qs)) := hO1
  have HF : Hid (∀ b, hi ≤ b → b < w.heap.size → w1.heap[b]? = w.heap[b]?) := fun b h1 h2 => (hf1 b h1 (by simp; omega)).trans (Below.heap_alloc _ _ _ h2)
  have HB1 : Hid (Below lo w w1) := HB.out.trans hb1
  clear hO1 hb1 hM hf1
  go_wp2_with fail
  go_ret
  exact ⟨rfl, HO.out, HB1.out, HF.out⟩
end Go.Proofs.Ytlifedkieeogdag
