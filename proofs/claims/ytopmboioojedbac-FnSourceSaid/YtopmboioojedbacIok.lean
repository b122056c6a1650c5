/- The contract of impl.SourceOk: whether a source is right. -/
import Derived.Test.YtopmboioojedbacSou
namespace Go.Proofs.Ytopmboioojedbac
open Go.Maps Go.RowKit
/-- Of the first k pages none is wrong by itself. -/
def okTo (size : Int) (qs : List Pg) (k : Nat) : Prop := ∀ q ∈ qs.take k, 0 ≤ q.1 ∧ (q.2.length : Int) ≤ size
theorem okS_far {size : Int} {qs : List Pg} {f : Int} (h : ¬ (1 ≤ size ∧ size ≤ 60000 ∧ qs.length ≤ 6)) : okS size qs f = false := by
  cases e : okS size qs f
  · rfl
  · have := okS_iff.1 e
    exact absurd ⟨this.s1, this.s2, this.len⟩ h
theorem okS_each {size : Int} {qs : List Pg} {f : Int} {q : Pg} (hq : q ∈ qs) (h : ¬ (0 ≤ q.1 ∧ (q.2.length : Int) ≤ size)) : okS size qs f = false := by
  cases e : okS size qs f
  · rfl
  · exact absurd ((okS_iff.1 e).each q hq) h
theorem okS_end {size : Int} {qs : List Pg} {f : Int} (s1 : 1 ≤ size) (s2 : size ≤ 60000) (hl : qs.length ≤ 6) (he : okTo size qs qs.length) :
    okS size qs f = (!(decide ((dz (qs.map (·.1)).reverse : Int) < (qs.length : Int))) && (decide (0 ≤ f)) && decide (f ≤ 4294967295)) := by
  have h1 := dz_le (qs.map (·.1)).reverse
  have h2 := dz_nd (qs.map (·.1)).reverse
  have h3 : (qs.map (·.1)).reverse.Nodup ↔ (qs.map (·.1)).Nodup := by
    constructor
    · intro h
      have := List.pairwise_reverse.1 h
      exact List.Pairwise.imp (fun h => Ne.symm h) this
    · intro h
      exact List.pairwise_reverse.2 (List.Pairwise.imp (fun h => Ne.symm h) h)
  simp only [List.length_reverse, List.length_map] at h1 h2
  have hall : qs.all (fun q => decide (0 ≤ q.1) && decide ((q.2.length : Int) ≤ size)) = true := by
    rw [List.all_eq_true]
    intro q hq
    have := he q (by rw [List.take_length]; exact hq)
    simp [this.1, this.2]
  have hd : decide ((qs.map (·.1)).Nodup) = !(decide ((dz (qs.map (·.1)).reverse : Int) < (qs.length : Int))) := by
    by_cases c : (dz (qs.map (·.1)).reverse : Int) < (qs.length : Int)
    · rw [decide_eq_true c, decide_eq_false]
      · rfl
      · intro hn
        have := h2.2 (h3.2 hn)
        omega
    · rw [decide_eq_false c, decide_eq_true]
      · rfl
      · exact h3.1 (h2.1 (by omega))
  unfold okS
  rw [hall, hd]
  simp only [s1, s2, hl, decide_true, Bool.true_and, Bool.and_true]
  cases decide (0 ≤ f) <;> cases decide (f ≤ 4294967295) <;> cases (decide ((dz (qs.map (·.1)).reverse : Int) < (qs.length : Int))) <;> rfl
set_option maxHeartbeats 4000000 in
theorem iok_far (w : World) (size f : Int) (a : Option Addr) (n c : Nat) (qs : List Pg) (hn : n = qs.length) (h : ¬ (1 ≤ size ∧ size ≤ 60000 ∧ qs.length ≤ 6)) :
    Calls Try.prog 8 #[.agg #[.int .i64 size, .slice a n c, .int .i64 f]] w fun e w' => e = .returned (.bool (okS size qs f)) ∧ Below w.heap.size w w' := by
  rw [okS_far h]
  by_cases h1 : size < 1
  · clear h
    go_enter Try.func8, Try.ntmps8
    go_wp2_with fail
    go_ret
    exact ⟨rfl, (Below.refl _ _).alloc (Nat.le_refl _) _⟩
  · by_cases h2 : 60000 < size
    · clear h
      go_enter Try.func8, Try.ntmps8
      go_wp2_with fail
      go_ret
      exact ⟨rfl, (Below.refl _ _).alloc (Nat.le_refl _) _⟩
    · have h3 : (6 : Int) < (n : Int) := by omega
      clear h hn
      go_enter Try.func8, Try.ntmps8
      go_wp2_with fail
      go_ret
      exact ⟨rfl, (Below.refl _ _).alloc (Nat.le_refl _) _⟩
theorem okTo_snoc {size : Int} {qs : List Pg} {k : Nat} {q : Pg} (h : okTo size qs k) (hq : qs[k]? = some q) (h2 : 0 ≤ q.1 ∧ (q.2.length : Int) ≤ size) : okTo size qs (k + 1) := by
  intro x hx
  rw [List.take_add_one, hq] at hx
  rcases List.mem_append.1 hx with hx | hx
  · exact h x hx
  · obtain rfl : x = q := by simpa using hx
    exact h2
theorem sl_len {B : Nat} {w : World} {v : Value} {zs : List Int} (h : Sl B w v zs) : ∃ a c, v = .slice a zs.length c := by
  rcases h with ⟨rfl, a, c, e⟩ | ⟨_, b, off, c, e, _⟩
  · exact ⟨_, _, e⟩
  · exact ⟨_, _, e⟩
set_option maxHeartbeats 8000000 in
theorem iok_near (w : World) (size f : Int) (v : Value) (ps : List Pv) (qs : List Pg) (hP : SlP w.heap.size w v ps) (hQ : PQ w.heap.size w ps qs) (hwf : ∀ p ∈ ps, (Lit.int .i64 p.1).wf = true) (s1 : 1 ≤ size) (s2 : size ≤ 60000) (hlen : qs.length ≤ 6) :
    Calls Try.prog 8 #[.agg #[.int .i64 size, v, .int .i64 f]] w fun e w' => e = .returned (.bool (okS size qs f)) ∧ Below w.heap.size w w' := by
  have hn := hQ.len
  obtain ⟨a, c, rfl⟩ : ∃ a c, v = .slice a ps.length c := by
    rcases hP with ⟨rfl, a, c, e⟩ | ⟨_, b, off, c, e, _⟩
    · exact ⟨_, _, e⟩
    · exact ⟨_, _, e⟩
  have h1 : ¬ size < 1 := by omega
  have h2 : ¬ 60000 < size := by omega
  have h3 : ¬ (6 : Int) < (ps.length : Int) := by omega
  have HP : Hid (SlP w.heap.size w (.slice a ps.length c) ps) := hP
  have HQ : Hid (PQ w.heap.size w ps qs) := hQ
  have HW : Hid (∀ p ∈ ps, (Lit.int .i64 p.1).wf = true) := hwf
  have HN : Hid (ps.length = qs.length) := hn
  have hl6 : ps.length ≤ 6 := by omega
  clear hP hQ hwf hn
  go_enter Try.func8, Try.ntmps8
  go_wp2_with fail
  go_loopw [23] (fun i wr => ∃ k : Nat, k ≤ ps.length ∧ i = .int .i64 k ∧ Hid (okTo size qs k) ∧ wr.heap[w.heap.size]? = some (.cells #[.int .i64 size, .slice a ps.length c, .int .i64 f] 27 (0, 0)) ∧ Below w.heap.size w wr) (fun i _ => ps.length - (intOf i).toNat)
  case atStart => exact ⟨0, Nat.zero_le _, rfl, fun q hq => by simp at hq, heap_alloc_new w _, (Below.refl _ _).alloc (Nat.le_refl _) _⟩
  case round =>
    obtain ⟨k, hk, rfl, HK, hbx, hb⟩ := hrel
    have b0 := c3_0 hbx
    have b1 := c3_1 hbx
    have b2 := c3_2 hbx
    have hszr := lt_of_get hbx
    by_cases hlt : k < ps.length
    · obtain ⟨⟨x, pd⟩, hp⟩ : ∃ p, ps[k]? = some p := ⟨_, List.getElem?_eq_getElem hlt⟩
      obtain ⟨⟨qx, zs⟩, hq⟩ : ∃ q, qs[k]? = some q := ⟨_, List.getElem?_eq_getElem (by have := HN.out; omega)⟩
      obtain ⟨ex, hsl⟩ := PQ.nth HQ.out hp hq
      obtain rfl : x = qx := ex
      obtain ⟨da, dc, rfl⟩ := sl_len hsl
      have hqm := List.mem_of_getElem? hq
      obtain ⟨b, off, rfl, hblt, hc1, hc2⟩ : ∃ b off, a = some ⟨b, off, none⟩ ∧ b < w.heap.size ∧ w.cell? ⟨b, off + k * 2, none⟩ = some (.int .i64 x) ∧ w.cell? ⟨b, off + k * 2 + 1, none⟩ = some (.slice da zs.length dc) := by
        rcases HP.out with ⟨e, _⟩ | ⟨_, b, off, c', e, hbl, _, hcell⟩
        · rw [e] at hlt; simp at hlt
        · injection e with e
          exact ⟨b, off, e, hbl, (hcell k _ hp).1, (hcell k _ hp).2⟩
      have d1 : wr.cell? ⟨b, off + k * 2, none⟩ = some (.int .i64 x) := by rw [hb.cell hblt]; exact hc1
      have d2 : wr.cell? ⟨b, off + k * 2 + 1, none⟩ = some (.slice da zs.length dc) := by rw [hb.cell hblt]; exact hc2
      have hlt' : (k : Int) < (ps.length : Int) := by omega
      have nB : wr.heap.size ≠ w.heap.size := by omega
      have HX : Hid (qs[k]? = some (x, zs)) := hq
      have HXM : Hid ((x, zs) ∈ qs) := hqm
      clear hp hq hqm hsl hc1 hc2
      by_cases hx : x < 0
      · have HF : Hid (okS size qs f = false) := okS_each HXM.out (by simp; omega)
        go_wp2_with fail
        go_ret
        exact ⟨by rw [HF.out]; rfl, hb.alloc (by omega) _⟩
      · by_cases hz : size < (zs.length : Int)
        · have HF : Hid (okS size qs f = false) := okS_each HXM.out (by simp; omega)
          go_wp2_with fail
          go_ret
          exact ⟨by rw [HF.out]; rfl, hb.alloc (by omega) _⟩
        · have HK2 : Hid (okTo size qs (k + 1)) := okTo_snoc HK.out HX.out (by simp; omega)
          have hbx2 : (wr.alloc (.cells #[.int .i64 x, .slice da zs.length dc] 46)).heap[w.heap.size]? = some (.cells #[.int .i64 size, .slice (some ⟨b, off, none⟩) ps.length c, .int .i64 f] 27 (0, 0)) := (Below.heap_alloc _ _ _ hszr).trans hbx
          have hb2 := hb.alloc (o := .cells #[.int .i64 x, .slice da zs.length dc] 46) (by omega)
          go_wp2_with fail
          go_roundw
          case rel => exact ⟨k + 1, hlt, by go_num, HK2, hbx2, hb2⟩
          case measure => simp [intOf]; omega
    · have ek : k = ps.length := by omega
      have HE : Hid (okS size qs f = (!(decide ((dz (qs.map (·.1)).reverse : Int) < (qs.length : Int))) && (decide (0 ≤ f)) && decide (f ≤ 4294967295))) := okS_end s1 s2 hlen (by rw [← HN.out, ← ek]; exact HK.out)
      have hSh := fun n => shelve_any (wr.drewN n) size f (.slice a ps.length c) ps ((HP.out.stays hb).mono (by show w.heap.size ≤ wr.heap.size; omega)) hl6 (HQ.out.isSl_all) HW.out
      go_wp2_with fail
      go_region_with (go_at_call 13; refine (hSh 1).mono ?_; rintro e w5 ⟨rfl, hT, hb5⟩; obtain ⟨u, D, k1, k2, k3, k4⟩ := hT
                      have y0 : w5.cell? ⟨w.heap.size, 0, none⟩ = some (.int .i64 size) := (hb5.cell (by show w.heap.size < wr.heap.size; omega)).trans b0
                      have y1 : w5.cell? ⟨w.heap.size, 1, none⟩ = some (.slice a ps.length c) := (hb5.cell (by show w.heap.size < wr.heap.size; omega)).trans b1
                      have y2 : w5.cell? ⟨w.heap.size, 2, none⟩ = some (.int .i64 f) := (hb5.cell (by show w.heap.size < wr.heap.size; omega)).trans b2
                      have e1 : w5.cell? ⟨wr.heap.size + 2, 1, none⟩ = some (.map (some (wr.heap.size + 1))) := c4_1 k1
                      have hlm : (Builtin.len_ #[47] 3 #[.map (some (wr.heap.size + 1))]).run Try.prog w5 = .ok (.int .i64 (Maps.size D)) w5 := k2.len Try.underlying47 3
                      rw [k3.size, HQ.out.nums] at hlm
                      have hbf : Below w.heap.size w w5 := hb.trans ⟨hb5.os, hb5.tape, hb5.output, hb5.size, fun j hj => hb5.block j (by show j < wr.heap.size; omega)⟩
                      clear k1 k2 k3 k4 hb5 hSh)
      all_goals
        generalize dz (qs.map (·.1)).reverse = m at *
        have HE2 : Hid (okS size qs f = (!(decide (m < ps.length)) && (decide (0 ≤ f)) && decide (f ≤ 4294967295))) := by
          show okS size qs f = _
          rw [HE.out, HN.out]
          simp only [Int.ofNat_lt]
        clear HE
        by_cases g1 : m < ps.length
        · go_wp2_with fail
          go_ret
          exact ⟨by rw [HE2.out, decide_eq_true g1]; rfl, hbf⟩
        · by_cases g2 : 0 ≤ f
          · by_cases g3 : f ≤ 4294967295
            · go_wp2_with fail
              go_ret
              exact ⟨by rw [HE2.out, decide_eq_false g1, decide_eq_true g2, decide_eq_true g3]; rfl, hbf⟩
            · go_wp2_with fail
              go_ret
              exact ⟨by rw [HE2.out, decide_eq_false g1, decide_eq_true g2, decide_eq_false (by omega : ¬ f ≤ 4294967295)]; rfl, hbf⟩
          · go_wp2_with fail
            go_ret
            exact ⟨by rw [HE2.out, decide_eq_false g1, decide_eq_false (by omega : ¬ 0 ≤ f)]; rfl, hbf⟩
theorem iok_ (w : World) (size f : Int) (v : Value) (ps : List Pv) (qs : List Pg) (hP : SlP w.heap.size w v ps) (hQ : PQ w.heap.size w ps qs) (hwf : ∀ p ∈ ps, (Lit.int .i64 p.1).wf = true) :
    Calls Try.prog 8 #[.agg #[.int .i64 size, v, .int .i64 f]] w fun e w' => e = .returned (.bool (okS size qs f)) ∧ Below w.heap.size w w' := by
  by_cases h : 1 ≤ size ∧ size ≤ 60000 ∧ qs.length ≤ 6
  · exact iok_near w size f v ps qs hP hQ hwf h.1 h.2.1 h.2.2
  · obtain ⟨a, c, rfl⟩ : ∃ a c, v = .slice a ps.length c := by
      rcases hP with ⟨rfl, a, c, e⟩ | ⟨_, b, off, c, e, _⟩
      · exact ⟨_, _, e⟩
      · exact ⟨_, _, e⟩
    exact iok_far w size f a ps.length c qs hQ.len h
end Go.Proofs.Ytopmboioojedbac
