/- The law on SourceOk, walked. -/
import Derived.Test.YtlifedkieeogdagSok
namespace Go.Proofs.Ytlifedkieeogdag
open Go.Maps Go.RowKit Go.Deep
theorem Rdp.args {w : World} {v : Value} {qs : List Pg} (h : Rdp w v qs) (hw : ∀ q ∈ qs, (Lit.int .i64 q.1).wf = true) : ∃ ps, SlP w.heap.size w v ps ∧ PQ w.heap.size w ps qs ∧ ∀ p ∈ ps, (Lit.int .i64 p.1).wf = true := by
  obtain ⟨ps, h1, h2⟩ := h
  refine ⟨ps, h1, h2, fun p hp => ?_⟩
  have : p.1 ∈ qs.map (·.1) := by rw [← h2.nums]; exact List.mem_map.2 ⟨p, hp, rfl⟩
  obtain ⟨q, hq, e⟩ := List.mem_map.1 this
  rw [← e]
  exact hw q hq
theorem sokR (w : World) (size f : Int) (v : Value) (qs : List Pg) (h : Rdp w v qs) :
    Calls Try.prog 10 #[.agg #[.int .i64 size, v, .int .i64 f]] w fun e w' => e = .returned (.bool (okS size qs f)) ∧ Below w.heap.size w w' := by
  obtain ⟨ps, h1, h2⟩ := h
  exact sok_ w size f v ps qs h1 h2
theorem iokR (w : World) (size f : Int) (v : Value) (qs : List Pg) (h : Rdp w v qs) (hw : ∀ q ∈ qs, (Lit.int .i64 q.1).wf = true) :
    Calls Try.prog 12 #[.agg #[.int .i64 size, v, .int .i64 f]] w fun e w' => e = .returned (.bool (okS size qs f)) ∧ Below w.heap.size w w' := by
  obtain ⟨ps, h1, h2, h3⟩ := h.args hw
  exact iok_ w size f v ps qs h1 h2 h3
def Atl (w : World) (b : Nat) (t : TypeId) (size : Int) (v : Value) (f : Int) : Prop := w.heap[b]? = some (.cells #[.int .i64 size, v, .int .i64 f] t (0, 0))
theorem Atl.later {w w' : World} {b : Nat} {t : TypeId} {size : Int} {v : Value} {f : Int} (h : Atl w b t size v f) (hb : Below w.heap.size w w') : Atl w' b t size v f := (hb.block _ (lt_of_get h)).trans h
theorem Atl.alloc {w : World} {b : Nat} {t : TypeId} {size : Int} {v : Value} {f : Int} (h : Atl w b t size v f) (o : Obj) : Atl (w.alloc o) b t size v f := (Below.heap_alloc _ _ _ (lt_of_get h)).trans h
theorem Atl.new (w : World) (t : TypeId) (size : Int) (v : Value) (f : Int) : Atl (w.alloc (.cells #[.int .i64 size, v, .int .i64 f] t)) w.heap.size t size v f := heap_alloc_new w _
theorem Atl.cells {w : World} {b : Nat} {t : TypeId} {size : Int} {v : Value} {f : Int} (h : Atl w b t size v f) : w.cell? ⟨b, 0, none⟩ = some (.int .i64 size) ∧ w.cell? ⟨b, 1, none⟩ = some v ∧ w.cell? ⟨b, 2, none⟩ = some (.int .i64 f) := ⟨c3_0 h, c3_1 h, c3_2 h⟩
set_option maxHeartbeats 8000000 in
theorem law_ok (w : World) (size f : Int) (v : Value) (qs : List Pg) (hV : Rdp w v qs) (hl : lens qs) (hq : qs.length ≤ 9223372036854775807) (hw : ∀ q ∈ qs, (Lit.int .i64 q.1).wf = true) :
    Calls Try.prog 3 #[.agg #[.int .i64 size, v, .int .i64 f]] w fun e w' => e = .returned (.bool true) ∧ Below w.heap.size w w' := by
  obtain ⟨v0, v2, rfl⟩ := hV.sl
  have hB0 : Below w.heap.size w (w.alloc (.cells #[.int .i64 size, .slice v0 qs.length v2, .int .i64 f] 24)) := (Below.refl _ w).alloc (Nat.le_refl _) _
  have a0 := Atl.new w 24 size (.slice v0 qs.length v2) f
  have HV : Hid (Rdp w (.slice v0 qs.length v2) qs) := hV
  have HW : Hid (∀ q ∈ qs, (Lit.int .i64 q.1).wf = true) := hw
  have hSz := szS_ _ size f (.slice v0 qs.length v2) qs (hV.later hB0) hl hq
  clear hV hl hq hw
  go_enter Try.func3, Try.ntmps3
  go_wp2_with fail
  generalize (w.alloc (.cells #[.int .i64 size, .slice v0 qs.length v2, .int .i64 f] 24)) = wa at *
  refine hSz.mono ?_
  rintro e w1 ⟨⟨r, rfl, hr⟩, hb1⟩
  have a1 := a0.later hb1
  have hB1 := hB0.stp hb1
  clear hSz a0 hB0 hb1
  rcases hr with rfl | ⟨hr0, hrt⟩
  · go_wp2_with fail
    go_ret
    exact ⟨rfl, hB1⟩
  · have hr0' : ¬ r < 0 := by omega
    have htot : tot qs ≤ 1048576 := by omega
    obtain ⟨p0, p1, p2⟩ := a1.cells
    go_wp2_with fail
    clear p0 p1 p2
    refine (toS_ w1 size f _ qs (HV.out.later hB1) htot).mono ?_
    rintro e w2 ⟨⟨va, rfl, hOa⟩, hb2⟩
    have a2 := a1.later hb2
    have hB2 := hB1.stp hb2
    clear a1 hB1 hb2
    have hRa := hOa.rdp
    obtain ⟨x0, x1, x2, rfl⟩ := hOa.sl
    clear hOa
    go_wp2_with fail
    refine (sokR w2 size f _ qs hRa).mono ?_
    rintro e w3 ⟨rfl, hb3⟩
    have a3 := a2.later hb3
    have hB3 := hB2.stp hb3
    clear a2 hB2 hb3 hRa
    obtain ⟨p0, p1, p2⟩ := a3.cells
    go_wp2_with fail
    clear p0 p1 p2
    refine (toS_ w3 size f _ qs (HV.out.later hB3) htot).mono ?_
    rintro e w4 ⟨⟨vb, rfl, hOb⟩, hb4⟩
    obtain ⟨y0, y1, y2, rfl⟩ := hOb.sl
    have hB4 := hB3.stp hb4
    have hBA : Below w4.heap.size w4 (w4.alloc (.cells #[.int .i64 size, .slice y0 y1 y2, .int .i64 f] 29)) := (Below.refl _ _).alloc (Nat.le_refl _) _
    have a4 := (a3.later hb4).later hBA
    have hR4 := hOb.rdp.later hBA
    have hB5 := hB4.stp hBA
    have c4 := Atl.new w4 29 size (.slice y0 y1 y2) f
    obtain ⟨p0, p1, p2⟩ := c4.cells
    clear a3 hB3 hb4 hOb hB4 hBA
    go_wp2_with fail
    clear p0 p1 p2
    generalize (w4.alloc (.cells #[.int .i64 size, .slice y0 y1 y2, .int .i64 f] 29)) = w5 at *
    generalize w4.heap.size = bx at *
    refine (iokR w5 size f _ qs hR4 HW.out).mono ?_
    rintro e w6 ⟨rfl, hb6⟩
    have a6 := a4.later hb6
    have c6 := c4.later hb6
    have hR6 := hR4.later hb6
    have hB6 := hB5.stp hb6
    clear a4 c4 hR4 hB5 hb6
    generalize okS size qs f = bb at *
    have hbb : (bb != bb) = false := by cases bb <;> rfl
    obtain ⟨p0, p1, p2⟩ := a6.cells
    obtain ⟨q0, q1, q2⟩ := c6.cells
    have hT := fun n => toS_ (w6.drewN n) size f _ qs (HV.out.later (below_drewN hB6 n)) htot
    go_wp2_with fail
    go_region_with (first
      | (go_at_call 11; refine (hT 1).mono ?_; rintro e w7 ⟨⟨vc, rfl, hOc⟩, hb7⟩; obtain ⟨z0, z1, z2, rfl⟩ := hOc.sl
         have hRc := hOc.rdp
         have hbb7 : Below w6.heap.size w6 w7 := ⟨hb7.os, hb7.tape, hb7.output, hb7.size, hb7.block⟩
         have hR7 := hR6.later hbb7
         have hB7 := hB6.stp hbb7
         have c7 := c6.later hbb7
         obtain ⟨s0, s1, s2⟩ := c7.cells
         clear hOc hb7 hbb7 c7)
      | (go_at_call 13; refine (eqS_ w7 size f _ _ qs (Nat.le_trans (tot_len qs) htot) (fun q hq => by have := tot_mem hq; omega) hR7 hRc).mono ?_; rintro e w8 ⟨rfl, hb8⟩; have hB8 := hB7.stp hb8; clear hb8))
    all_goals go_wp2_with fail
    all_goals go_ret
    all_goals exact ⟨rfl, hB8⟩
end Go.Proofs.Ytlifedkieeogdag
