/- The contracts of the laws' own functions: a copy of a source in new memory, whether two sources are alike, how large one is. -/
import Derived.Test.YtlifedkieeogdagImp
import Derived.Deep.OwnRows
namespace Go.Proofs.Ytlifedkieeogdag
open Go.Maps Go.RowKit Go.Deep
def Rdp (w : World) (v : Value) (qs : List Pg) : Prop := ∃ ps, SlP w.heap.size w v ps ∧ PQ w.heap.size w ps qs
theorem Rdp.later {w w' : World} {v : Value} {qs : List Pg} (h : Rdp w v qs) (hb : Below w.heap.size w w') : Rdp w' v qs := by
  obtain ⟨ps, h1, h2⟩ := h
  exact ⟨ps, (h1.stays hb).mono hb.size, (h2.stays hb).mono hb.size⟩
theorem Sl.later {w w' : World} {v : Value} {zs : List Int} (h : Sl w.heap.size w v zs) (hb : Below w.heap.size w w') : Sl w'.heap.size w' v zs := (h.stays hb).mono hb.size
theorem Own.rdp {lo : Nat} {w : World} {v : Value} {qs : List Pg} (h : Own lo w v qs) : Rdp w v qs := by
  obtain ⟨ps, h1, h2, _⟩ := h
  exact ⟨ps, slp_of_own h1, pq_of_do h2⟩
theorem Rdp.sl {w : World} {v : Value} {qs : List Pg} (h : Rdp w v qs) : ∃ a c, v = .slice a qs.length c := by
  obtain ⟨ps, h1, h2⟩ := h
  rw [← h2.len]
  rcases h1 with ⟨rfl, a, c, e⟩ | ⟨_, b, off, c, e, _⟩
  · exact ⟨_, _, e⟩
  · exact ⟨_, _, e⟩
set_option maxHeartbeats 1000000 in
theorem eqB_ (B : Nat) (v u : Value) (zs : List Int) (w : World) (hS : Sl B w v zs) (hT : Sl B w u zs) (hz : zs.length ≤ 4000000) :
    Calls Try.prog 21 #[v, u] w fun e w' => e = .returned (.bool true) ∧ ∃ n, w' = w.drewN n := by
  rcases hS with ⟨rfl, a, c, rfl⟩ | ⟨hne, b, off, c, rfl, hlt, hlc, hc⟩
  · rcases hT with ⟨_, a', c', rfl⟩ | ⟨hne', _⟩
    · go_enter Try.func21, Try.ntmps21
      go_wp2_with fail
      refine wp_loop_rounds 1 ?_
      rw [rounds_succ]
      go_wp2_with fail
      go_ret
      exact ⟨rfl, 0, rfl⟩
    · exact absurd rfl hne'
  · rcases hT with ⟨e, _⟩ | ⟨_, b', off', c', rfl, hlt', hlc', hc'⟩
    · exact absurd e hne
    · have HC : Hid (∀ i, i < zs.length → w.cell? ⟨b, off + i, none⟩ = some (.int .u8 (zs.getD i 0))) := hc
      have HC' : Hid (∀ i, i < zs.length → w.cell? ⟨b', off' + i, none⟩ = some (.int .u8 (zs.getD i 0))) := hc'
      clear hc hc'
      go_enter Try.func21, Try.ntmps21
      go_wp2_with fail
      go_loopw [5] (fun i wr => ∃ k m : Nat, k ≤ zs.length ∧ i = .int .i64 k ∧ wr = w.drewN m) (fun i _ => zs.length - (intOf i).toNat)
      case atStart => exact ⟨0, 0, Nat.zero_le _, rfl, rfl⟩
      case round =>
        obtain ⟨k, m, hk, rfl, rfl⟩ := hrel
        by_cases hlt : k < zs.length
        · have h1 : w.cell? ⟨b, off + k, none⟩ = some (.int .u8 (zs.getD k 0)) := HC.out k hlt
          have h2 : w.cell? ⟨b', off' + k, none⟩ = some (.int .u8 (zs.getD k 0)) := HC'.out k hlt
          have hlt' : (k : Int) < (zs.length : Int) := by omega
          have hk0 : (0 : Int) ≤ (k : Int) := by omega
          generalize zs.getD k 0 = z at h1 h2
          go_wp2_with fail
          go_quiet (fail)
          go_wp2_with fail
          go_roundw
          case rel => exact ⟨k + 1, _, hlt, by go_num, rfl⟩
          case measure => simp [intOf]; omega
        · go_wp2_with fail
          go_ret
          exact ⟨rfl, m, rfl⟩
set_option maxHeartbeats 1000000 in
theorem eqP_ (w : World) (x : Int) (v u : Value) (zs : List Int) (hS : Sl w.heap.size w v zs) (hT : Sl w.heap.size w u zs) (hz : zs.length ≤ 4000000) :
    Calls Try.prog 44 #[.agg #[.int .i64 x, v], .agg #[.int .i64 x, u]] w fun e w' => e = .returned (.bool true) ∧ Below w.heap.size w w' := by
  have hB : Below w.heap.size w ((w.alloc (.cells #[.int .i64 x, v] 51)).alloc (.cells #[.int .i64 x, u] 51)) := ((Below.refl _ w).alloc (Nat.le_refl _) _).alloc (by simp) _
  have hE := eqB_ w.heap.size v u zs _ (hS.stays hB) (hT.stays hB) hz
  obtain ⟨va, vc, rfl⟩ := sl_len hS
  obtain ⟨ua, uc, rfl⟩ := sl_len hT
  have HB : Hid _ := hB
  clear hS hT hB
  go_enter Try.func44, Try.ntmps44
  go_wp2_with fail
  refine hE.mono ?_
  rintro e w1 ⟨rfl, n, rfl⟩
  go_wp2_with fail
  go_ret
  exact ⟨rfl, below_drewN HB.out n⟩
set_option maxHeartbeats 4000000 in
theorem eqPs_ (w : World) (v u : Value) (qs : List Pg) (hl : qs.length ≤ 1048576) (hz : ∀ q ∈ qs, q.2.length ≤ 4000000) (hV : Rdp w v qs) (hU : Rdp w u qs) :
    Calls Try.prog 33 #[v, u] w fun e w' => e = .returned (.bool true) ∧ Below w.heap.size w w' := by
  obtain ⟨a, c, rfl⟩ := hV.sl
  obtain ⟨a', c', rfl⟩ := hU.sl
  have HZ : Hid (∀ q ∈ qs, q.2.length ≤ 4000000) := hz
  clear hz
  have HV : Hid (Rdp w (.slice a qs.length c) qs) := hV
  have HU : Hid (Rdp w (.slice a' qs.length c') qs) := hU
  clear hV hU
  go_enter Try.func33, Try.ntmps33
  go_wp2_with fail
  go_loopw [5] (fun i wr => ∃ k : Nat, k ≤ qs.length ∧ i = .int .i64 k ∧ Below w.heap.size w wr) (fun i _ => qs.length - (intOf i).toNat)
  case atStart => exact ⟨0, Nat.zero_le _, rfl, Below.refl _ _⟩
  case round =>
    obtain ⟨k, hk, rfl, hb⟩ := hrel
    by_cases hlt : k < qs.length
    · obtain ⟨ps, hP, hQ⟩ := HV.out
      obtain ⟨ps', hP', hQ'⟩ := HU.out
      obtain ⟨⟨qx, zs⟩, hq⟩ : ∃ q, qs[k]? = some q := ⟨_, List.getElem?_eq_getElem hlt⟩
      obtain ⟨⟨x, pd⟩, hp⟩ : ∃ p, ps[k]? = some p := ⟨_, List.getElem?_eq_getElem (by rw [hQ.len]; exact hlt)⟩
      obtain ⟨⟨x', pd'⟩, hp'⟩ : ∃ p, ps'[k]? = some p := ⟨_, List.getElem?_eq_getElem (by rw [hQ'.len]; exact hlt)⟩
      obtain ⟨ex, hsl⟩ := PQ.nth hQ hp hq
      obtain ⟨ex', hsl'⟩ := PQ.nth hQ' hp' hq
      obtain rfl : x = qx := ex
      obtain rfl : x' = x := ex'
      have hne : ps ≠ [] := fun e => by rw [e] at hp; simp at hp
      have hne' : ps' ≠ [] := fun e => by rw [e] at hp'; simp at hp'
      obtain ⟨b, off, rfl, c1, c2⟩ : ∃ b off, a = some ⟨b, off, none⟩ ∧ wr.cell? ⟨b, off + k * 2, none⟩ = some (.int .i64 x') ∧ wr.cell? ⟨b, off + k * 2 + 1, none⟩ = some pd := by
        rcases hP with ⟨e, _⟩ | ⟨_, b, off, _, e, hbl, _, hcell⟩
        · exact absurd e hne
        · injection e with e
          exact ⟨b, off, e, by rw [hb.cell hbl]; exact (hcell k _ hp).1, by rw [hb.cell hbl]; exact (hcell k _ hp).2⟩
      obtain ⟨b', off', rfl, c1', c2'⟩ : ∃ b off, a' = some ⟨b, off, none⟩ ∧ wr.cell? ⟨b, off + k * 2, none⟩ = some (.int .i64 x') ∧ wr.cell? ⟨b, off + k * 2 + 1, none⟩ = some pd' := by
        rcases hP' with ⟨e, _⟩ | ⟨_, b, off, _, e, hbl, _, hcell⟩
        · exact absurd e hne'
        · injection e with e
          exact ⟨b, off, e, by rw [hb.cell hbl]; exact (hcell k _ hp').1, by rw [hb.cell hbl]; exact (hcell k _ hp').2⟩
      have hE := fun n => eqP_ (wr.drewN n) x' pd pd' zs (hsl.later (below_drewN hb n)) (hsl'.later (below_drewN hb n)) (HZ.out _ (List.mem_of_getElem? hq))
      obtain ⟨da, dc, rfl⟩ := sl_len hsl
      obtain ⟨da', dc', rfl⟩ := sl_len hsl'
      have hlt' : (k : Int) < (qs.length : Int) := by omega
      have hk0 : (0 : Int) ≤ (k : Int) := by omega
      have hszr := hb.size
      clear hP hQ hP' hQ' hp hp' hq hsl hsl' hne hne'
      go_wp2_with fail
      go_region_with (go_at_call 44; refine (hE 1).mono ?_; rintro e w1 ⟨rfl, hb1⟩)
      all_goals go_wp2_with fail
      all_goals go_roundw
      all_goals first | exact ⟨k + 1, hlt, by go_num, hb.trans ⟨hb1.os, hb1.tape, hb1.output, hb1.size, fun j hj => hb1.block j (by show j < wr.heap.size; omega)⟩⟩ | (simp [intOf]; omega)
    · go_wp2_with fail
      go_ret
      exact ⟨rfl, hb⟩
set_option maxHeartbeats 1000000 in
theorem eqS_ (w : World) (size f : Int) (v u : Value) (qs : List Pg) (hl : qs.length ≤ 1048576) (hz : ∀ q ∈ qs, q.2.length ≤ 4000000) (hV : Rdp w v qs) (hU : Rdp w u qs) :
    Calls Try.prog 13 #[.agg #[.int .i64 size, v, .int .i64 f], .agg #[.int .i64 size, u, .int .i64 f]] w fun e w' => e = .returned (.bool true) ∧ Below w.heap.size w w' := by
  have hB : Below w.heap.size w ((w.alloc (.cells #[.int .i64 size, v, .int .i64 f] 29)).alloc (.cells #[.int .i64 size, u, .int .i64 f] 29)) := ((Below.refl _ w).alloc (Nat.le_refl _) _).alloc (by simp) _
  have hE := eqPs_ _ v u qs hl hz (hV.later hB) (hU.later hB)
  obtain ⟨va, vc, rfl⟩ := hV.sl
  obtain ⟨ua, uc, rfl⟩ := hU.sl
  have HB : Hid _ := hB
  clear hV hU hB
  go_enter Try.func13, Try.ntmps13
  go_wp2_with fail
  refine hE.mono ?_
  rintro e w1 ⟨rfl, hb1⟩
  have r0 : w1.heap[w.heap.size]? = some (.cells #[.int .i64 size, .slice va qs.length vc, .int .i64 f] 29 (0, 0)) := by
    rw [hb1.block _ (by simp; omega), Below.heap_alloc _ _ _ (by simp)]
    exact heap_alloc_new w _
  have r1 : w1.heap[w.heap.size + 1]? = some (.cells #[.int .i64 size, .slice ua qs.length uc, .int .i64 f] 29 (0, 0)) := by
    rw [hb1.block _ (by simp)]
    have := heap_alloc_new (w.alloc (.cells #[.int .i64 size, .slice va qs.length vc, .int .i64 f] 29)) (.cells #[.int .i64 size, .slice ua qs.length uc, .int .i64 f] 29)
    simpa using this
  have e2 := c3_2 r0
  have e3 := c3_2 r1
  clear r0 r1
  have HB1 : Hid _ := hb1
  clear hE hb1
  go_wp2_with fail
  go_ret
  exact ⟨rfl, HB.out.trans (HB1.out.mono (by simp; omega))⟩
end Go.Proofs.Ytlifedkieeogdag
