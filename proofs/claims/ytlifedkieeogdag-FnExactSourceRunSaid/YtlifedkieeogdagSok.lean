/- The contract of spec.SourceOk, and the law on SourceOk. -/
import Derived.Test.YtlifedkieeogdagCop
namespace Go.Proofs.Ytlifedkieeogdag
open Go.Maps Go.RowKit Go.Deep
theorem okS_farF {size : Int} {qs : List Pg} {f : Int} (h : f < 0 ∨ 4294967295 < f) : okS size qs f = false := by
  cases e : okS size qs f
  · rfl
  · have := okS_iff.1 e
    have := this.f0
    have := (okS_iff.1 e).f1
    omega
theorem okS_dup {size : Int} {qs : List Pg} {f : Int} {i k : Nat} {q p : Pg} (hik : i < k) (hi : qs[i]? = some q) (hk : qs[k]? = some p) (e : q.1 = p.1) : okS size qs f = false := by
  cases e2 : okS size qs f
  · rfl
  · exfalso
    have nd := (okS_iff.1 e2).nd
    have h1 : (qs.map (·.1))[i]? = some q.1 := by rw [List.getElem?_map, hi]; rfl
    have h2 : (qs.map (·.1))[k]? = some q.1 := by rw [List.getElem?_map, hk, e]; rfl
    obtain ⟨hl1, e1⟩ := List.getElem?_eq_some_iff.1 h1
    obtain ⟨hl2, e2⟩ := List.getElem?_eq_some_iff.1 h2
    have := (List.pairwise_iff_getElem.1 nd) i k hl1 hl2 hik
    exact this (by rw [e1, e2])
set_option maxHeartbeats 4000000 in
theorem sok_far (w : World) (size f : Int) (a : Option Addr) (n c : Nat) (qs : List Pg) (hn : n = qs.length) (h : ¬ (1 ≤ size ∧ size ≤ 60000 ∧ qs.length ≤ 6 ∧ 0 ≤ f ∧ f ≤ 4294967295)) :
    Calls Try.prog 10 #[.agg #[.int .i64 size, .slice a n c, .int .i64 f]] w fun e w' => e = .returned (.bool (okS size qs f)) ∧ Below w.heap.size w w' := by
  have hf : okS size qs f = false := by
    by_cases h1 : 1 ≤ size ∧ size ≤ 60000 ∧ qs.length ≤ 6
    · exact okS_farF (by omega)
    · exact okS_far h1
  rw [hf]
  have key4 : size < 1 ∨ (¬ size < 1 ∧ 60000 < size) ∨ (¬ size < 1 ∧ ¬ 60000 < size ∧ (6 : Int) < (n : Int)) ∨ (¬ size < 1 ∧ ¬ 60000 < size ∧ ¬ (6 : Int) < (n : Int) ∧ f < 0) ∨ (¬ size < 1 ∧ ¬ 60000 < size ∧ ¬ (6 : Int) < (n : Int) ∧ ¬ f < 0 ∧ 4294967295 < f) := by omega
  clear hf h hn
  rcases key4 with h1 | ⟨h1, h2⟩ | ⟨h1, h2, h3⟩ | ⟨h1, h2, h3, h4⟩ | ⟨h1, h2, h3, h4, h5⟩
  all_goals
    go_enter Try.func10, Try.ntmps10
    go_wp2_with fail
    go_ret
    exact ⟨rfl, (Below.refl _ _).alloc (Nat.le_refl _) _⟩
def noDup (qs : List Pg) (k : Nat) : Prop := ((qs.take k).map (·.1)).Nodup
theorem noDup_snoc {qs : List Pg} {k : Nat} {q : Pg} (h : noDup qs k) (hq : qs[k]? = some q) (hn : ∀ i p, i < k → qs[i]? = some p → p.1 ≠ q.1) : noDup qs (k + 1) := by
  unfold noDup at *
  rw [List.take_add_one, hq]
  simp only [Option.toList, List.map_append, List.map_cons, List.map_nil]
  rw [List.nodup_append]
  refine ⟨h, by simp, fun a ha b hb => ?_⟩
  obtain rfl : b = q.1 := by simpa using hb
  obtain ⟨p, hp, rfl⟩ := List.mem_map.1 ha
  obtain ⟨i, hi⟩ := List.getElem?_of_mem hp
  rw [List.getElem?_take] at hi
  split at hi
  · rename_i hik
    exact hn i p hik hi
  · cases hi
set_option maxHeartbeats 16000000 in
theorem sok_near (w : World) (size f : Int) (b off c : Nat) (ps : List Pv) (qs : List Pg) (hblt : b < w.heap.size) (hpc : ps.length ≤ c)
    (hcell : ∀ i p, ps[i]? = some p → w.cell? ⟨b, off + i * 2, none⟩ = some (.int .i64 p.1) ∧ w.cell? ⟨b, off + i * 2 + 1, none⟩ = some p.2) (hQ : PQ w.heap.size w ps qs)
    (s1 : 1 ≤ size) (s2 : size ≤ 60000) (hlen : qs.length ≤ 6) (f0 : 0 ≤ f) (f1 : f ≤ 4294967295) :
    Calls Try.prog 10 #[.agg #[.int .i64 size, .slice (some ⟨b, off, none⟩) ps.length c, .int .i64 f]] w fun e w' => e = .returned (.bool (okS size qs f)) ∧ Below w.heap.size w w' := by
  have hn := hQ.len
  have h1 : ¬ size < 1 := by omega
  have h2 : ¬ 60000 < size := by omega
  have h3 : ¬ (6 : Int) < (ps.length : Int) := by omega
  have h4 : ¬ f < 0 := by omega
  have h5 : ¬ 4294967295 < f := by omega
  have HC : Hid (∀ i p, ps[i]? = some p → w.cell? ⟨b, off + i * 2, none⟩ = some (.int .i64 p.1) ∧ w.cell? ⟨b, off + i * 2 + 1, none⟩ = some p.2) := hcell
  have HQ : Hid (PQ w.heap.size w ps qs) := hQ
  have HN : Hid (ps.length = qs.length) := hn
  have hl6 : ps.length ≤ 6 := by omega
  clear hcell hQ hn
  go_enter Try.func10, Try.ntmps10
  go_wp2_with fail
  go_loopw [34] (fun i wr => ∃ k : Nat, k ≤ ps.length ∧ i = .int .i64 k ∧ Hid (okTo size qs k ∧ noDup qs k) ∧ wr.heap[w.heap.size]? = some (.cells #[.int .i64 size, .slice (some ⟨b, off, none⟩) ps.length c, .int .i64 f] 29 (0, 0)) ∧ Below w.heap.size w wr) (fun i _ => ps.length - (intOf i).toNat)
  case atStart => exact ⟨0, Nat.zero_le _, rfl, ⟨fun q hq => by simp at hq, by simp [noDup]⟩, heap_alloc_new w _, (Below.refl _ _).alloc (Nat.le_refl _) _⟩
  case round =>
    obtain ⟨k, hk, rfl, HK, hbx, hb⟩ := hrel
    have b0 := c3_0 hbx
    have b1 := c3_1 hbx
    have hszr := lt_of_get hbx
    by_cases hlt : k < ps.length
    · obtain ⟨⟨x, pd⟩, hp⟩ : ∃ p, ps[k]? = some p := ⟨_, List.getElem?_eq_getElem hlt⟩
      obtain ⟨⟨qx, zs⟩, hq⟩ : ∃ q, qs[k]? = some q := ⟨_, List.getElem?_eq_getElem (by have := HN.out; omega)⟩
      obtain ⟨ex, hsl⟩ := PQ.nth HQ.out hp hq
      obtain rfl : x = qx := ex
      obtain ⟨da, dc, rfl⟩ := sl_len hsl
      have hqm := List.mem_of_getElem? hq
      have d1 : wr.cell? ⟨b, off + k * 2, none⟩ = some (.int .i64 x) := by rw [hb.cell hblt]; exact (HC.out k _ hp).1
      have d2 : wr.cell? ⟨b, off + k * 2 + 1, none⟩ = some (.slice da zs.length dc) := by rw [hb.cell hblt]; exact (HC.out k _ hp).2
      have hlt' : (k : Int) < (ps.length : Int) := by omega
      have nB : wr.heap.size ≠ w.heap.size := by omega
      have HX : Hid (qs[k]? = some (x, zs)) := hq
      have HXM : Hid ((x, zs) ∈ qs) := hqm
      clear hp hq hqm hsl
      by_cases hx : x < 0
      · have HF : Hid (okS size qs f = false) := okS_each HXM.out (by simp; omega)
        go_wp2_with fail
        go_ret
        exact ⟨by rw [HF.out]; rfl, hb.alloc (by omega) _⟩
      · by_cases hz : size < (zs.length : Int)
        · have HF : Hid (okS size qs f = false) := okS_each HXM.out (by simp; omega)
          go_wp2_with fail
          go_ret
          exact ⟨by rw [HF.out]; rfl, hb.alloc (by omega) _⟩
        · have hbx2 : (wr.alloc (.cells #[.int .i64 x, .slice da zs.length dc] 51)).heap[w.heap.size]? = some (.cells #[.int .i64 size, .slice (some ⟨b, off, none⟩) ps.length c, .int .i64 f] 29 (0, 0)) := (Below.heap_alloc _ _ _ hszr).trans hbx
          have hb2 := hb.alloc (o := .cells #[.int .i64 x, .slice da zs.length dc] 51) (by omega)
          have hvar : (wr.alloc (.cells #[.int .i64 x, .slice da zs.length dc] 51)).heap[wr.heap.size]? = some (.cells #[.int .i64 x, .slice da zs.length dc] 51 (0, 0)) := heap_alloc_new wr _
          have HOK2 : Hid (okTo size qs (k + 1)) := okTo_snoc HK.out.1 HX.out (by simp; omega)
          have hkc : (k : Int) ≤ (c : Int) := by omega
          have hk0 : (0 : Int) ≤ (k : Int) := by omega
          have HBX2 : Hid _ := hbx2
          have HVAR : Hid _ := hvar
          clear hbx2 hvar
          go_wp2_with fail
          clear b0 b1 d1 d2 hbx hb
          generalize (wr.alloc (.cells #[.int .i64 x, .slice da zs.length dc] 51)) = wi at *
          generalize wr.heap.size = pb at *
          go_loopw [55] (fun i w2 => ∃ j : Nat, j ≤ k ∧ i = .int .i64 j ∧ Hid (∀ i p, i < j → qs[i]? = some p → p.1 ≠ x) ∧ w2.heap[w.heap.size]? = some (.cells #[.int .i64 size, .slice (some ⟨b, off, none⟩) ps.length c, .int .i64 f] 29 (0, 0)) ∧
            w2.heap[pb]? = some (.cells #[.int .i64 x, .slice da zs.length dc] 51 (0, 0)) ∧ Below w.heap.size w w2) (fun i _ => k - (intOf i).toNat)
          case atStart => exact ⟨0, Nat.zero_le _, rfl, fun i p hi => absurd hi (Nat.not_lt_zero _), HBX2.out, HVAR.out, hb2⟩
          case round =>
            obtain ⟨j, hj, rfl, HJ, ibx, ivar, ib⟩ := hrel
            have v0 := c2_0 ivar
            have hpb := lt_of_get ivar
            have hszi := lt_of_get ibx
            by_cases hjk : j < k
            · obtain ⟨⟨x2, pd2⟩, hp2⟩ : ∃ p, ps[j]? = some p := ⟨_, List.getElem?_eq_getElem (by omega)⟩
              obtain ⟨⟨qx2, zs2⟩, hq2⟩ : ∃ q, qs[j]? = some q := ⟨_, List.getElem?_eq_getElem (by have := HN.out; omega)⟩
              obtain ⟨ex2, hsl2⟩ := PQ.nth HQ.out hp2 hq2
              obtain rfl : x2 = qx2 := ex2
              obtain ⟨da2, dc2, rfl⟩ := sl_len hsl2
              have d1 : wr.cell? ⟨b, off + j * 2, none⟩ = some (.int .i64 x2) := by rw [ib.cell hblt]; exact (HC.out j _ hp2).1
              have d2 : wr.cell? ⟨b, off + j * 2 + 1, none⟩ = some (.slice da2 zs2.length dc2) := by rw [ib.cell hblt]; exact (HC.out j _ hp2).2
              have HX2 : Hid (qs[j]? = some (x2, zs2)) := hq2
              have hjk' : (j : Int) < (k : Int) := by omega
              have v1 : (wr.alloc (.cells #[.int .i64 x2, .slice da2 zs2.length dc2] 51)).cell? ⟨pb, 0, none⟩ = some (.int .i64 x) := by
                rw [World.cell?_of_block (Below.heap_alloc wr _ pb hpb)]
                exact v0
              clear hp2 hq2 hsl2
              by_cases hee : x2 = x
              · have HF : Hid (okS size qs f = false) := okS_dup hjk HX2.out HX.out hee
                have hee' : (x2 == x) = true := by simp [hee]
                clear hee
                go_wp2_with fail
                go_ret
                exact ⟨by rw [HF.out]; rfl, ib.alloc (by omega) _⟩
              · have hee' : (x2 == x) = false := by simp [hee]
                have HJ2 : Hid (∀ i p, i < j + 1 → qs[i]? = some p → p.1 ≠ x) := by
                  intro i p hi hp
                  by_cases e : i = j
                  · subst e
                    rw [HX2.out] at hp
                    obtain rfl : (x2, zs2) = p := by simpa using hp
                    exact hee
                  · exact HJ.out i p (by omega) hp
                clear hee
                have n1 := (Below.heap_alloc wr (.cells #[.int .i64 x2, .slice da2 zs2.length dc2] 51) _ hszi).trans ibx
                have n2 := (Below.heap_alloc wr (.cells #[.int .i64 x2, .slice da2 zs2.length dc2] 51) _ hpb).trans ivar
                have n3 := ib.alloc (o := .cells #[.int .i64 x2, .slice da2 zs2.length dc2] 51) (by omega)
                go_wp2_with fail
                go_roundw
                case rel => exact ⟨j + 1, hjk, by go_num, HJ2, n1, n2, n3⟩
                case measure => simp [intOf]; omega
            · have ej : j = k := by omega
              have HK2 : Hid (okTo size qs (k + 1) ∧ noDup qs (k + 1)) := ⟨HOK2.out, noDup_snoc HK.out.2 HX.out (fun i p hi hp => HJ.out i p (by omega) hp)⟩
              have hjk' : ¬ (j : Int) < (k : Int) := by omega
              clear v0
              go_wp2_with fail
              go_roundw
              case rel => exact ⟨k + 1, hlt, by go_num, HK2, ibx, ib⟩
              case measure => simp [intOf]; omega
    · have ek : k = ps.length := by omega
      have HF : Hid (okS size qs f = true) := by
        obtain ⟨h1, h2⟩ := HK.out
        rw [ek, HN.out] at h1 h2
        unfold okTo at h1
        unfold noDup at h2
        rw [List.take_length] at h1 h2
        exact okS_iff.2 ⟨s1, s2, hlen, f0, f1, h1, h2⟩
      go_wp2_with fail
      go_ret
      exact ⟨by rw [HF.out]; rfl, hb⟩
set_option maxHeartbeats 1000000 in
theorem sok_nil (w : World) (size f : Int) (a : Option Addr) (c : Nat) (s1 : 1 ≤ size) (s2 : size ≤ 60000) (f0 : 0 ≤ f) (f1 : f ≤ 4294967295) :
    Calls Try.prog 10 #[.agg #[.int .i64 size, .slice a 0 c, .int .i64 f]] w fun e w' => e = .returned (.bool true) ∧ Below w.heap.size w w' := by
  have h1 : ¬ size < 1 := by omega
  have h2 : ¬ 60000 < size := by omega
  have h4 : ¬ f < 0 := by omega
  have h5 : ¬ 4294967295 < f := by omega
  go_enter Try.func10, Try.ntmps10
  go_wp2_with fail
  refine wp_loop_rounds 1 ?_
  rw [rounds_succ]
  go_wp2_with fail
  go_ret
  exact ⟨rfl, (Below.refl _ _).alloc (Nat.le_refl _) _⟩
theorem sok_ (w : World) (size f : Int) (v : Value) (ps : List Pv) (qs : List Pg) (hP : SlP w.heap.size w v ps) (hQ : PQ w.heap.size w ps qs) :
    Calls Try.prog 10 #[.agg #[.int .i64 size, v, .int .i64 f]] w fun e w' => e = .returned (.bool (okS size qs f)) ∧ Below w.heap.size w w' := by
  by_cases h : 1 ≤ size ∧ size ≤ 60000 ∧ qs.length ≤ 6 ∧ 0 ≤ f ∧ f ≤ 4294967295
  · obtain ⟨s1, s2, hl, f0, f1⟩ := h
    rcases hP with ⟨rfl, a, c, rfl⟩ | ⟨_, b, off, c, rfl, hblt, hlc, hcell⟩
    · have e : qs = [] := List.eq_nil_of_length_eq_zero (by rw [← hQ.len]; rfl)
      subst e
      have : okS size [] f = true := okS_iff.2 ⟨s1, s2, by simp, f0, f1, fun q hq => (by cases hq), by simp⟩
      rw [this]
      exact sok_nil w size f a c s1 s2 f0 f1
    · exact sok_near w size f b off c ps qs hblt hlc hcell hQ s1 s2 hl f0 f1
  · obtain ⟨a, c, rfl⟩ : ∃ a c, v = .slice a ps.length c := by
      rcases hP with ⟨rfl, a, c, e⟩ | ⟨_, b, off, c, e, _⟩
      · exact ⟨_, _, e⟩
      · exact ⟨_, _, e⟩
    exact sok_far w size f a ps.length c qs hQ.len h
end Go.Proofs.Ytlifedkieeogdag
