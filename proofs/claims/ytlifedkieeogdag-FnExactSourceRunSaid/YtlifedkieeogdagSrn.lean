/- The contract of spec.SourceRun where the source is right. -/
import Derived.Test.YtlifedkieeogdagSbz
import Derived.Test.YtlifedkieeogdagIrn
import Derived.Deep.Light
namespace Go.Proofs.Ytlifedkieeogdag
open Go.Maps Go.RowKit Go.Deep
def SrPost (r : (Int × List Pg × Int) × List Int) (w : World) (e : Ending) (w' : World) : Prop :=
  (∃ v vb, e = .returned (.tuple #[.agg #[.int .i64 r.1.1, v, .int .i64 r.1.2.2], vb]) ∧ isSl v ∧ isSl vb ∧ Rdp w' v r.1.2.1 ∧ Sl w'.heap.size w' vb r.2) ∧ Below w.heap.size w w'
def Lq (H b8 : Nat) (size f : Int) (v : Value) (fs : List Pg) (vo : Value) (wr : World) : Prop :=
  wr.heap[H]? = some (.cells #[.int .i64 size, v, .int .i64 f] 29 (0, 0)) ∧ wr.heap[H + 1]? = some (.cells #[.int .i64 0, .slice none 0 0, .int .i64 0] 29 (0, 0)) ∧
  wr.heap[b8]? = some (.cells #[.int .i64 size, vo, .int .i64 f] 29 (0, 0)) ∧ Own (b8 + 1) wr vo fs ∧ H + 1 < b8
/-- How far the run is: the pages can be read whatever becomes of the run's own row. -/
structure Sq (H b8 : Nat) (size f : Int) (qs : List Pg) (rv : Value) (acc : List Int) (wr : World) : Prop where
  r1 : wr.heap[H + 1]? = some (.cells #[.int .i64 0, .slice none 0 0, .int .i64 0] 29 (0, 0))
  out : ∃ vo, isSl vo ∧ wr.heap[b8]? = some (.cells #[.int .i64 size, vo, .int .i64 f] 29 (0, 0)) ∧ ∀ W : World, (∀ b, b8 + 1 ≤ b → b < wr.heap.size → rv.ownBlock ≠ some b → W.heap[b]? = wr.heap[b]?) → wr.heap.size ≤ W.heap.size → Rdp W vo qs
  row : wr.ownsRow (b8 + 1) 5 1 rv acc.length (u8s acc)
  ok : OkS size qs f
  okd : okd qs
  lt : H + 1 < b8
theorem sq_more {H b8 : Nat} {w : World} {size f : Int} {qs : List Pg} {rv : Value} {acc : List Int} {x : Int} (h : Sq H b8 size f qs rv acc w) (hl : acc.length ≤ 100000) (ty : TypeId) :
    ∃ v2 w2, (Builtin.append_ #[37, 37] ty #[rv, .slice (some ⟨w.heap.size, 0, none⟩) 1 1]).run Try.prog (w.alloc (.cells #[.int .u8 x] 5)) = .ok v2 w2 ∧ isSl v2 ∧ Sq H b8 size f qs v2 (acc ++ [x]) w2 ∧ Below (b8 + 1) w w2 := by
  obtain ⟨ti, hti, hz0, hz1, hz2⟩ := info_parts info5
  obtain ⟨vo, hvo, hout, hrd⟩ := h.out
  have hsz8 := lt_of_get hout
  obtain ⟨v2, w2, hr2, ho2, hg2, hnil, hl2⟩ := run_append_own_at (P := Try.prog) (w.alloc (.cells #[.int .u8 x] 5)) (b8 + 1) 37 ty 5 ti _ 1 1 Try.underlying37 hti hz0 hz1 hz2 rfl (by decide) rv acc.length _ (h.row.alloc _) ⟨w.heap.size, 0, none⟩ 1 1 [.int .u8 x] rfl
    (World.news_of_block (cs := #[.int .u8 x]) (t := 5) (fr := (0, 0)) (heap_alloc_new w _)) (by intro u hu; simp at hu; subst hu; rfl) (by unfold maxLen; omega) (by omega) (by simp; omega)
  have hsl : isSl v2 := by
    rcases ho2.2 with ⟨e, _⟩ | ⟨g, cap, cur, e, _⟩
    · exact ⟨_, _, _, e⟩
    · exact ⟨_, _, _, e⟩
  have hsz : w.heap.size ≤ w2.heap.size := by have := hg2.size; simp at this; omega
  have hblk : ∀ b, b < w.heap.size → rv.ownBlock ≠ some b → w2.heap[b]? = w.heap[b]? := fun b hb hne => (hg2.block b (by simp; omega) (fun e => hne e.symm)).trans (Below.heap_alloc w _ b hb)
  have hlo : ∀ b, rv.ownBlock = some b → b8 + 1 ≤ b := fun b hb => (h.row.lt b hb).1
  have hbel : Below (b8 + 1) w w2 := ⟨hg2.os, hg2.tape, hg2.output, hsz, fun b hb => hblk b (by omega) (fun e => by have := hlo b e; omega)⟩
  have hnew : ∀ b, b < w.heap.size → v2.ownBlock = some b → rv.ownBlock = some b := by
    intro b hb e
    rcases hl2 with e1 | e1
    · rw [← e1]; exact e
    · rw [e1] at e
      have : (w.alloc (.cells #[.int .u8 x] 5)).heap.size = b := by simpa using e
      simp at this
      omega
  refine ⟨v2, w2, hr2, hsl, ⟨(hbel.block _ (by have := h.lt; omega)).trans h.r1, ⟨vo, hvo, (hbel.block _ (by omega)).trans hout, ?_⟩, ?_, h.ok, h.okd, h.lt⟩, hbel⟩
  · intro W hW hzW
    refine hrd W (fun b hb1 hb2 hb3 => ?_) (by omega)
    rw [hW b hb1 (by omega) (fun e => hb3 (hnew b hb2 e))]
    exact hblk b hb2 hb3
  · rw [List.length_append]
    have e : u8s (acc ++ [x]) = u8s acc ++ [.int .u8 x] := by simp [u8s]
    rw [e]
    exact ho2
set_option maxHeartbeats 64000000 in
theorem srun_ok (w : World) (size f from_ to_ : Int) (v : Value) (qs : List Pg) (vb : Value) (zs : List Int) (hR : Rdp w v qs) (hS : Sl w.heap.size w vb zs) (hz : zs.length ≤ 1048576) (hO : OkS size qs f) (hoz : okz zs) (hod : okd qs) (g2 : 0 ≤ from_) (g3 : to_ ≤ 60000) :
    Calls Try.prog 23 #[.agg #[.int .i64 size, v, .int .i64 f], vb, .int .i64 from_, .int .i64 to_] w fun e w' => SrPost ((size, (runM size zs (to_ - from_).toNat from_ f qs).1.2, (runM size zs (to_ - from_).toNat from_ f qs).1.1), (runM size zs (to_ - from_).toNat from_ f qs).2) w e w' := by
  obtain ⟨v0, v2, rfl⟩ := hR.sl
  have hW2 : Below w.heap.size w ((w.alloc (.cells #[.int .i64 size, .slice v0 qs.length v2, .int .i64 f] 29)).alloc (.cells #[.int .i64 0, .slice none 0 0, .int .i64 0] 29)) := ((Below.refl _ w).alloc (Nat.le_refl _) _).alloc (by simp) _
  have hok2 := sokR _ size f _ qs (hR.later hW2)
  rw [okS_iff.2 hO] at hok2
  have fact : ∀ w1, Below ((w.alloc (.cells #[.int .i64 size, .slice v0 qs.length v2, .int .i64 f] 29)).alloc (.cells #[.int .i64 0, .slice none 0 0, .int .i64 0] 29)).heap.size ((w.alloc (.cells #[.int .i64 size, .slice v0 qs.length v2, .int .i64 f] 29)).alloc (.cells #[.int .i64 0, .slice none 0 0, .int .i64 0] 29)) w1 →
      w1.heap[w.heap.size + 1]? = some (.cells #[.int .i64 0, .slice none 0 0, .int .i64 0] 29 (0, 0)) ∧ w1.heap[w.heap.size]? = some (.cells #[.int .i64 size, .slice v0 qs.length v2, .int .i64 f] 29 (0, 0)) ∧ Below w.heap.size w w1 := by
    intro w1 hb1
    refine ⟨?_, ?_, hW2.trans (hb1.mono (by simp; omega))⟩
    · rw [hb1.block _ (by simp)]
      have := heap_alloc_new (w.alloc (.cells #[.int .i64 size, .slice v0 qs.length v2, .int .i64 f] 29)) (.cells #[.int .i64 0, .slice none 0 0, .int .i64 0] 29)
      simpa using this
    · rw [hb1.block _ (by simp; omega), Below.heap_alloc _ _ _ (by simp)]
      exact heap_alloc_new w _
  have FACT : Hid (∀ w1, Below ((w.alloc (.cells #[.int .i64 size, .slice v0 qs.length v2, .int .i64 f] 29)).alloc (.cells #[.int .i64 0, .slice none 0 0, .int .i64 0] 29)).heap.size ((w.alloc (.cells #[.int .i64 size, .slice v0 qs.length v2, .int .i64 f] 29)).alloc (.cells #[.int .i64 0, .slice none 0 0, .int .i64 0] 29)) w1 →
      w1.heap[w.heap.size + 1]? = some (.cells #[.int .i64 0, .slice none 0 0, .int .i64 0] 29 (0, 0)) ∧ w1.heap[w.heap.size]? = some (.cells #[.int .i64 size, .slice v0 qs.length v2, .int .i64 f] 29 (0, 0)) ∧ Below w.heap.size w w1) := fact
  have HO : Hid (OkS size qs f) := hO
  have HOZ : Hid (okz zs) := hoz
  have HOD : Hid (okd qs) := hod
  have HR : Hid (Rdp w (.slice v0 qs.length v2) qs) := hR
  have HS : Hid (Sl w.heap.size w vb zs) := hS
  have HZ : Hid (zs.length ≤ 1048576) := hz
  have hs1 := hO.s1
  have hs2 := hO.s2
  have hlen : (qs.length : Int) ≤ 6 := by have := hO.len; omega
  clear fact hO hR hS hz hW2 hoz hod
  go_enter Try.func23, Try.ntmps23
  go_wp2_with fail
  refine hok2.mono ?_
  rintro e w1 ⟨rfl, hb1⟩
  obtain ⟨r1, r0, hB⟩ := FACT.out w1 hb1
  have e0 := c3_0 r0
  have e1 := c3_1 r0
  have e2 := c3_2 r0
  have hsz1 := lt_of_get r1
  clear hok2 hb1 FACT
  have n0 : w1.heap.size ≠ w.heap.size := by omega
  have e1a : (w1.alloc (.cells #[.int .i64 size, .slice none 0 0, .int .i64 f] 29)).cell? ⟨w.heap.size, 1, none⟩ = some (.slice v0 qs.length v2) := (World.cell?_of_block (Below.heap_alloc w1 _ w.heap.size (by omega))).trans e1
  go_wp2_with fail
  have HB8 : Hid (Lq w.heap.size w1.heap.size size f (.slice v0 qs.length v2) (qs.take 0) (.slice none 0 0) (w1.alloc (.cells #[.int .i64 size, .slice none 0 0, .int .i64 f] 29))) := by
    refine ⟨?_, ?_, heap_alloc_new w1 _, own_nil _ _, by omega⟩
    · rw [Below.heap_alloc _ _ _ (by omega)]; exact r0
    · rw [Below.heap_alloc _ _ _ (by omega)]; exact r1
  have hBl : Below w.heap.size w (w1.alloc (.cells #[.int .i64 size, .slice none 0 0, .int .i64 f] 29)) := hB.alloc (by omega) _
  generalize hws : (w1.alloc (.cells #[.int .i64 size, .slice none 0 0, .int .i64 f] 29)) = ws at *
  generalize hb8 : w1.heap.size = b8 at *
  clear hws hb8 e0 e1 e2 e1a r0 r1 hB n0
  go_loopw [37] (fun iv wr => ∃ (k : Nat) (vo : Value), k ≤ qs.length ∧ iv = .int .i64 k ∧ Hid (Lq w.heap.size b8 size f (.slice v0 qs.length v2) (qs.take k) vo wr) ∧ Below w.heap.size w wr) (fun iv _ => qs.length - (intOf iv).toNat)
  case atStart => exact ⟨0, _, Nat.zero_le _, rfl, HB8, hBl⟩
  case round =>
    obtain ⟨k, vo, hk, rfl, HL, hb⟩ := hrel
    obtain ⟨r0, r1, r2, hOw, hb8⟩ := HL.out
    by_cases hlt : k < qs.length
    · obtain ⟨ps, hP, hQ⟩ := HR.out
      obtain ⟨⟨qx, zz⟩, hq⟩ : ∃ q, qs[k]? = some q := ⟨_, List.getElem?_eq_getElem hlt⟩
      obtain ⟨⟨x, pd⟩, hp⟩ : ∃ p, ps[k]? = some p := ⟨_, List.getElem?_eq_getElem (by rw [hQ.len]; exact hlt)⟩
      obtain ⟨ex, hsl⟩ := PQ.nth hQ hp hq
      obtain rfl : x = qx := ex
      have hne : ps ≠ [] := fun e => by rw [e] at hp; simp at hp
      obtain ⟨da, dc, rfl⟩ := sl_len hsl
      obtain ⟨b, off, rfl, c1, c2⟩ : ∃ b off, v0 = some ⟨b, off, none⟩ ∧ wr.cell? ⟨b, off + k * 2, none⟩ = some (.int .i64 x) ∧ wr.cell? ⟨b, off + k * 2 + 1, none⟩ = some (.slice da zz.length dc) := by
        rcases hP with ⟨e, _⟩ | ⟨_, b, off, _, e, hbl, _, hcell⟩
        · exact absurd e hne
        · injection e with e
          exact ⟨b, off, e, by rw [hb.cell hbl]; exact (hcell k _ hp).1, by rw [hb.cell hbl]; exact (hcell k _ hp).2⟩
      have hzl : zz.length ≤ 1048576 := by have := (HO.out.each _ (List.mem_of_getElem? hq)).2; have := HO.out.s2; simp at *; omega
      have hlt' : (k : Int) < (qs.length : Int) := by omega
      have hsz2 := lt_of_get r2
      -- the world behind the round's variable
      obtain ⟨w0, hw0⟩ : ∃ w0, w0 = wr.alloc (.cells #[.int .i64 x, .slice da zz.length dc] 51) := ⟨_, rfl⟩
      have hA0 : Below wr.heap.size wr w0 := by rw [hw0]; exact (Below.refl _ wr).alloc (Nat.le_refl _) _
      have b2 : w0.heap[b8]? = some (.cells #[.int .i64 size, vo, .int .i64 f] 29 (0, 0)) := (hA0.block _ (lt_of_get r2)).trans r2
      have bP : w0.heap[wr.heap.size]? = some (.cells #[.int .i64 x, .slice da zz.length dc] 51 (0, 0)) := by rw [hw0]; exact heap_alloc_new wr _
      have cx0 : w0.cell? ⟨wr.heap.size, 0, none⟩ = some (.int .i64 x) := c2_0 bP
      have cv0 : w0.cell? ⟨wr.heap.size, 1, none⟩ = some (.slice da zz.length dc) := c2_1 bP
      have co0 : w0.cell? ⟨b8, 1, none⟩ = some vo := c3_1 b2
      have HW0 : Hid (w0 = wr.alloc (.cells #[.int .i64 x, .slice da zz.length dc] 51)) := hw0
      have hSl0 : Sl wr.heap.size w0 (.slice da zz.length dc) zz := (hsl.later hb).stays hA0
      have hO0 : Own (b8 + 1) w0 vo (qs.take k) := hOw.block (fun j hj hj2 => hA0.block j hj2)
      have hsz0 : wr.heap.size < w0.heap.size := lt_of_get bP
      have hb0 : Below w.heap.size w w0 := hb.trans (hA0.mono hb.size)
      clear hw0 hP hQ hp hne hsl
      have hSlD : Sl wr.heap.size w0.drew (.slice da zz.length dc) zz := hSl0
      have hOD : Own (b8 + 1) w0.drew vo (qs.take k) := hO0.block (fun _ _ _ => rfl)
      obtain ⟨d', wA, hap1, hown, hbel, hsd⟩ := copy_bytes (B := wr.heap.size) hSlD (by show _ ≤ w0.heap.size; omega) hzl 37
      have hbel0 : Below w0.heap.size w0 wA := ⟨hbel.os, hbel.tape, hbel.output, hbel.size, hbel.block⟩
      have hownL : wA.ownsRow (b8 + 1) 5 1 d' zz.length (u8s zz) := ⟨hown.1, hown.2.imp id (fun ⟨g, cap, cur, e, hb, r⟩ => ⟨g, cap, cur, e, by have h' : w0.heap.size ≤ g := hb; omega, r⟩)⟩
      obtain ⟨v2', wB, hap2, hg2, hO2, hvlo, hsv2, hv2loc⟩ := page_push (x := x) hOD hbel hownL (fun b hb => (hown.lt b hb).1) (by
        rw [List.length_take]
        have := HO.out.len
        omega) (by show _ ≤ w0.heap.size; omega) 27
      obtain ⟨d0, d1, d2, rfl⟩ := hsd
      obtain ⟨y0, y1, y2, rfl⟩ := hsv2
      have vsh : isSl vo := hOw.sl
      obtain ⟨o0, o1, o2, rfl⟩ := vsh
      have k2 : wA.heap[b8]? = _ := (hbel0.block _ (lt_of_get b2)).trans b2
      have kP : wA.heap[wr.heap.size]? = _ := (hbel0.block _ hsz0).trans bP
      have r0' : wA.heap[w.heap.size]? = _ := (hbel0.block _ (by have := lt_of_get r0; omega)).trans ((hA0.block _ (lt_of_get r0)).trans r0)
      have r1' : wA.heap[w.heap.size + 1]? = _ := (hbel0.block _ (by have := lt_of_get r1; omega)).trans ((hA0.block _ (lt_of_get r1)).trans r1)
      have hszA : w0.heap.size ≤ wA.heap.size := hbel.size
      have gB : ∀ j, j < wA.heap.size → j < b8 + 1 → wB.heap[j]? = wA.heap[j]? := fun j hj hj2 => (hg2.block j (by simp; omega) (fun e => by have := (hvlo j e.symm).1; omega)).trans (Below.heap_alloc wA _ j hj)
      have m2 := (gB b8 (by omega) (by omega)).trans k2
      have m0 := (gB w.heap.size (by omega) (by omega)).trans r0'
      have m1 := (gB (w.heap.size + 1) (by omega) (by omega)).trans r1'
      have hbB : Below w.heap.size w wB := by
        have q1 := hb0.trans (hbel0.mono hb0.size)
        have q2 := q1.alloc q1.size (.cells #[.int .i64 x, .slice d0 d1 d2] 51)
        exact q2.grown hg2 (by have := q1.size; simp; omega) (fun j hj => by have := (hvlo j hj).1; omega)
      have RA : Hid (Lq w.heap.size b8 size f (.slice (some ⟨b, off, none⟩) qs.length v2) (qs.take (k + 1)) (.slice y0 y1 y2) (wB.setCell ⟨b8, 1, none⟩ (.slice y0 y1 y2))) := by
        show Lq w.heap.size b8 size f (.slice (some ⟨b, off, none⟩) qs.length v2) (qs.take (k + 1)) (.slice y0 y1 y2) (wB.setCell ⟨b8, 1, none⟩ (.slice y0 y1 y2))
        rw [show qs.take (k + 1) = qs.take k ++ [(x, zz)] from by rw [List.take_add_one, hq]; rfl]
        exact ⟨(Below.heap_setCell _ _ _ _ (by simp; omega)).trans m0, (Below.heap_setCell _ _ _ _ (by simp; omega)).trans m1, c3_set1 m2 _, hO2.block (fun j hj _ => Below.heap_setCell _ _ _ _ (by simp; omega)), hb8⟩
      have RB := hbB.setCell (p := ⟨b8, 1, none⟩) (by simp; omega) (.slice y0 y1 y2)
      have cA : ∀ o : Obj, ∀ j u, j < w0.heap.size → w0.cell? ⟨j, u, none⟩ = (w0.alloc o).cell? ⟨j, u, none⟩ := fun o j u hj => (World.cell?_of_block (Below.heap_alloc w0 o j hj)).symm
      have co1 : (w0.alloc (.cells #[] 5)).cell? ⟨b8, 1, none⟩ = some (.slice o0 o1 o2) := (World.cell?_of_block (Below.heap_alloc w0 _ b8 (by omega))).trans co0
      have cx1 : (w0.alloc (.cells #[] 5)).cell? ⟨wr.heap.size, 0, none⟩ = some (.int .i64 x) := (World.cell?_of_block (Below.heap_alloc w0 _ _ hsz0)).trans cx0
      have cv1 : (w0.alloc (.cells #[] 5)).cell? ⟨wr.heap.size, 1, none⟩ = some (.slice da zz.length dc) := (World.cell?_of_block (Below.heap_alloc w0 _ _ hsz0)).trans cv0
      have co2 : wA.cell? ⟨b8, 1, none⟩ = some (.slice o0 o1 o2) := c3_1 k2
      have cx2 : wA.cell? ⟨wr.heap.size, 0, none⟩ = some (.int .i64 x) := c2_0 kP
      have co3 : (wA.alloc (.cells #[.int .i64 x, .slice d0 d1 d2] 51)).cell? ⟨b8, 1, none⟩ = some (.slice o0 o1 o2) := (World.cell?_of_block (Below.heap_alloc wA _ b8 (by omega))).trans co2
      have co4 : wB.cell? ⟨b8, 1, none⟩ = some (.slice o0 o1 o2) := c3_1 m2
      have fo4 : wB.frozen? ⟨b8, 1, none⟩ = false := c3_f m2 1
      have n1 : w0.heap.size ≠ b8 := by omega
      have n2 : w0.heap.size ≠ wr.heap.size := by omega
      have n3 : wA.heap.size ≠ b8 := by omega
      have n4 : wA.heap.size ≠ wr.heap.size := by omega
      have cx0' := cx0
      rw [HW0.out] at cx0'
      clear hzl cA b2 bP hSl0 hO0 hSlD hOD hown hownL hbel hbel0 k2 kP r0 r1 r2 r0' r1' m0 m1 m2 hOw HL hA0 hb0 hbB hq hg2 hO2 hvlo hv2loc gB
      go_wp2_with fail
      rw [← HW0.out]
      go_region_law (first | refine step_append_run (by rfl) _ _ 37 (by rfl) _ _ (by rfl) (by rfl) _ wA hap1 ?_ | refine step_append_run (by rfl) _ _ 27 (by rfl) _ _ (by rfl) (by rfl) _ wB hap2 ?_)
      all_goals go_wp2_with fail
      all_goals
        go_roundw
        case rel =>
          go_light
          exact ⟨k + 1, _, hlt, by go_num, RA, RB⟩
        case measure =>
          go_light
          simp [intOf]; omega
    · obtain rfl : k = qs.length := by omega
      rw [List.take_length] at hOw
      have hlt' : ¬ ((qs.length : Int) < (qs.length : Int)) := by omega
      have hsz2 := lt_of_get r2
      have hAl : Below wr.heap.size wr (wr.alloc (.cells #[] 5)) := (Below.refl _ _).alloc (Nat.le_refl _) _
      have HST : Hid (Sq w.heap.size b8 size f qs (.slice (some ⟨wr.heap.size, 0, none⟩) 0 0) [] (wr.alloc (.cells #[] 5))) := by
        refine ⟨(hAl.block _ (lt_of_get r1)).trans r1, ⟨vo, hOw.sl, (hAl.block _ hsz2).trans r2, ?_⟩, World.ownsRow_made wr #[] 0 (by omega) (Nat.zero_le _) rfl, HO.out, HOD.out, by omega⟩
        intro W hW hz
        have h1 : Own (b8 + 1) W vo qs := hOw.block (fun j hj hj2 => (hW j hj (by simp; omega) (by simp [Value.ownBlock]; omega)).trans (hAl.block j hj2))
        exact h1.rdp
      have hB2 : Below w.heap.size w (wr.alloc (.cells #[] 5)) := hb.trans (hAl.mono hb.size)
      obtain ⟨R, hR⟩ : ∃ R, runM size zs (to_ - from_).toNat from_ f qs = R := ⟨_, rfl⟩
      have HM : Hid (runM size zs (to_ - from_).toNat from_ f qs = R) := hR
      clear HL r0 r1 r2 hOw hAl hR hb HB8 hBl
      go_wp2_with fail
      generalize (wr.alloc (.cells #[] 5)) = w2 at *
      go_loopw [13, 14] (fun rv av wr => ∃ (at_ f' : Int) (qs' : List Pg) (acc : List Int), from_ ≤ at_ ∧ av = .int .i64 at_ ∧ isSl rv ∧ Hid ((acc.length : Int) ≤ at_) ∧ Hid (Sq w.heap.size b8 size f' qs' rv acc wr) ∧ Hid (goal_ size zs to_ at_ f' qs' acc R) ∧ Below w.heap.size w wr) (fun _ av _ => (to_ - intOf av).toNat)
      case atStart => exact ⟨from_, f, qs, [], Int.le_refl _, rfl, ⟨_, _, _, rfl⟩, (by show ((0 : Nat) : Int) ≤ from_; simpa using g2), HST, ⟨by rw [HM.out], by rw [HM.out]; rfl⟩, hB2⟩
      case round =>
        obtain ⟨at_, f', qs', acc, hfa, rfl, ⟨rv0, rv1, rv2, rfl⟩, HAC, HSQ, HG, hb⟩ := hrel
        by_cases hlt : at_ < to_
        · have ha0 : 0 ≤ at_ := by omega
          have ha1 : at_ ≤ 60000 := by omega
          have hSq := HSQ.out
          obtain ⟨vo, ⟨o0, o1, o2, rfl⟩, hout, hrd⟩ := hSq.out
          have hRd := hrd wr (fun _ _ _ _ => rfl) (Nat.le_refl _)
          have hst := goal_step HG.out hlt
          have hbd := readM_byte (size := size) (f := f') (at_ := at_) hSq.okd HOZ.out
          have hok3 := readM_ok (zs := zs) hSq.ok ha0
          have hod3 := readM_okd (size := size) (f := f') (at_ := at_) hSq.okd HOZ.out
          have cB := sbyte_ wr size f' at_ _ qs' vb zs hRd ((HS.out.stays hb).mono hb.size) HZ.out HOZ.out hSq.okd
          have hbm : byteM size f' qs' zs at_ = ((size, (readM size f' qs' zs at_).1.2, (readM size f' qs' zs at_).1.1), (readM size f' qs' zs at_).2) := by unfold byteM; rw [if_pos ⟨okS_iff.2 hSq.ok, ha0, ha1⟩]
          obtain ⟨⟨⟨f3, qs3⟩, x⟩, hrd3⟩ : ∃ r, readM size f' qs' zs at_ = r := ⟨_, rfl⟩
          rw [hbm, hrd3] at cB
          rw [hrd3] at hst hbd hok3 hod3
          obtain ⟨hst1, hst2⟩ := hst
          have HST1 : Hid (x < 0 → (f3, qs3) = R.1 ∧ acc = R.2) := hst1
          have HST2 : Hid (¬ x < 0 → goal_ size zs to_ (at_ + 1) f3 qs3 (acc ++ [x]) R) := hst2
          have HP3 : Hid (OkS size qs3 f3 ∧ okd qs3) := ⟨hok3, hod3⟩
          have HROW : Hid (wr.ownsRow (b8 + 1) 5 1 (.slice rv0 rv1 rv2) acc.length (u8s acc)) := hSq.row
          have HR1 : Hid (wr.heap[w.heap.size + 1]? = some (.cells #[.int .i64 0, .slice none 0 0, .int .i64 0] 29 (0, 0))) := hSq.r1
          have HOUT : Hid (wr.heap[b8]? = some (.cells #[.int .i64 size, .slice o0 o1 o2, .int .i64 f'] 29 (0, 0))) := hout
          have HLT : Hid (w.heap.size + 1 < b8) := hSq.lt
          obtain ⟨hx0, hx1⟩ := hbd
          have hx0 : -1 ≤ x := hx0
          have hx1 : x < 256 := hx1
          have q0 := c3_0 hout
          have q1 := c3_1 hout
          have q2 := c3_2 hout
          clear hst1 hst2 hrd3 hok3 hod3 hSq hrd hRd hbm hout
          go_wp2_with fail
          clear q0 q1 q2
          refine cB.mono ?_
          rintro e w3 ⟨⟨vn, rfl, ⟨n0, n1, n2, rfl⟩, hRL⟩, hb3⟩
          have hAl : Below w3.heap.size w3 (w3.alloc (.cells #[.int .i64 size, .slice n0 n1 n2, .int .i64 f3] 29)) := (Below.refl _ _).alloc (Nat.le_refl _) _
          have hb4 : Below wr.heap.size wr (w3.alloc (.cells #[.int .i64 size, .slice n0 n1 n2, .int .i64 f3] 29)) := hb3.trans (hAl.mono hb3.size)
          have h8 := lt_of_get HOUT.out
          have hout4 : (w3.alloc (.cells #[.int .i64 size, .slice n0 n1 n2, .int .i64 f3] 29)).heap[b8]? = some (.cells #[.int .i64 size, .slice o0 o1 o2, .int .i64 f'] 29 (0, 0)) := (hb4.block _ h8).trans HOUT.out
          have hr14 : (w3.alloc (.cells #[.int .i64 size, .slice n0 n1 n2, .int .i64 f3] 29)).heap[w.heap.size + 1]? = some (.cells #[.int .i64 0, .slice none 0 0, .int .i64 0] 29 (0, 0)) := (hb4.block _ (lt_of_get HR1.out)).trans HR1.out
          have p0 := c3_0 hout4
          have p1 := c3_1 hout4
          have p2 := c3_2 hout4
          have pf0 := c3_f hout4 0
          have pf1 := c3_f hout4 1
          have pf2 := c3_f hout4 2
          obtain ⟨w5, hw5⟩ : ∃ w5, w5 = ((((w3.alloc (.cells #[.int .i64 size, .slice n0 n1 n2, .int .i64 f3] 29)).setCell ⟨b8, 0, none⟩ (.int .i64 size)).setCell ⟨b8, 1, none⟩ (.slice n0 n1 n2)).setCell ⟨b8, 2, none⟩ (.int .i64 f3)) := ⟨_, rfl⟩
          have hz5 : w5.heap.size = w3.heap.size + 1 := by rw [hw5]; simp
          have hoth5 : ∀ j, j ≠ b8 → w5.heap[j]? = (w3.alloc (.cells #[.int .i64 size, .slice n0 n1 n2, .int .i64 f3] 29)).heap[j]? := fun j hj => by
            rw [hw5, Below.heap_setCell _ _ _ _ (by simpa using hj), Below.heap_setCell _ _ _ _ (by simpa using hj), Below.heap_setCell _ _ _ _ (by simpa using hj)]
          have HSQ5 : Hid (Sq w.heap.size b8 size f3 qs3 (.slice rv0 rv1 rv2) acc w5) := by
            have hl8 := HLT.out
            have hz3 := hb3.size
            refine ⟨(hoth5 _ (by omega)).trans hr14, ⟨_, ⟨_, _, _, rfl⟩, by rw [hw5]; exact c3_setAll hout4 _ _ _, ?_⟩, row_block HROW.out (fun j hj hj2 => (hoth5 j (by omega)).trans (hb4.block j hj2)), HP3.out.1, HP3.out.2, hl8⟩
            intro W hW hzW
            refine hRL W (fun k hk1 hk2 => ?_) (by omega)
            rw [hW k (by omega) (by omega) (fun e => by have := (HROW.out.lt k e).2; omega), hoth5 k (by omega)]
            exact hAl.block k hk2
          have hB5 : Below w.heap.size w w5 := by
            have hl8 := HLT.out
            have h4 : Below w.heap.size w (w3.alloc (.cells #[.int .i64 size, .slice n0 n1 n2, .int .i64 f3] 29)) := hb.trans (hb4.mono hb.size)
            rw [hw5]
            exact ((h4.setCell (by simp; omega) _).setCell (by simp; omega) _).setCell (by simp; omega) _
          have HW5 : Hid (w5 = ((((w3.alloc (.cells #[.int .i64 size, .slice n0 n1 n2, .int .i64 f3] 29)).setCell ⟨b8, 0, none⟩ (.int .i64 size)).setCell ⟨b8, 1, none⟩ (.slice n0 n1 n2)).setCell ⟨b8, 2, none⟩ (.int .i64 f3))) := hw5
          have hne8 : w3.heap.size ≠ b8 := by have := hb3.size; omega
          clear cB hw5 hoth5 hRL hb3 hAl hb4
          by_cases hx : x < 0
          · have HGE : Hid ((f3, qs3) = R.1 ∧ acc = R.2) := HST1.out hx
            have HSQE : Hid (Sq w.heap.size b8 size f3 qs3 (.slice rv0 rv1 rv2) acc w5) := HSQ5
            have hBE := hB5
            have hsqE := HSQE.out
            obtain ⟨voE, ⟨i0, i1, i2, rfl⟩, houtE, hrdE⟩ := hsqE.out
            have hr1E := hsqE.r1
            have hrowE := hsqE.row
            have hltE := hsqE.lt
            have x0 := c3_0 houtE
            have x1 := c3_1 houtE
            have x2 := c3_2 houtE
            have z0 := c3_0 hr1E
            have z1 := c3_1 hr1E
            have z2 := c3_2 hr1E
            have y0 := c3_f hr1E 0
            have y1 := c3_f hr1E 1
            have y2 := c3_f hr1E 2
            have HRDE : Hid (∀ W : World, (∀ b, b8 + 1 ≤ b → b < w5.heap.size → (Value.slice rv0 rv1 rv2).ownBlock ≠ some b → W.heap[b]? = w5.heap[b]?) → w5.heap.size ≤ W.heap.size → Rdp W (.slice i0 i1 i2) qs3) := hrdE
            have HROWE : Hid (w5.ownsRow (b8 + 1) 5 1 (.slice rv0 rv1 rv2) acc.length (u8s acc)) := hrowE
            have HR1E : Hid (w5.heap[w.heap.size + 1]? = some (.cells #[.int .i64 0, .slice none 0 0, .int .i64 0] 29 (0, 0))) := hr1E
            have HLTE : Hid (w.heap.size + 1 < b8) := hltE
            clear hrdE hrowE hr1E hsqE houtE
            rw [HW5.out] at x0 x1 x2 z0 z1 z2 y0 y1 y2
            go_wp2_with fail
            rw [← HW5.out]
            have hF := c3_setAll HR1E.out (.int .i64 size) (.slice i0 i1 i2) (.int .i64 f3)
            try simp only [Exit.inBlock, Exit.then]
            refine bodyPost_ret (results_cell_tmp_row rfl _ _ (w.heap.size + 1) 29 _ (0, 0) _ rfl hF Try.underlying29 rfl (by kernel_rfl)) rfl ?_
            have hoth : ∀ j, b8 + 1 ≤ j → (((w5.setCell ⟨w.heap.size + 1, 0, none⟩ (.int .i64 size)).setCell ⟨w.heap.size + 1, 1, none⟩ (.slice i0 i1 i2)).setCell ⟨w.heap.size + 1, 2, none⟩ (.int .i64 f3)).heap[j]? = w5.heap[j]? := fun j hj => by
              have := HLTE.out
              rw [Below.heap_setCell _ _ _ _ (by simp; omega), Below.heap_setCell _ _ _ _ (by simp; omega), Below.heap_setCell _ _ _ _ (by simp; omega)]
            rw [HM.out]
            obtain ⟨ge1, ge2⟩ := HGE.out
            rw [← ge1, ← ge2]
            refine ⟨⟨_, _, rfl, ⟨_, _, _, rfl⟩, ⟨_, _, _, rfl⟩, HRDE.out _ (fun b hb1 _ _ => hoth b hb1) (by simp), ?_⟩, ((hBE.setCell (by simp) _).setCell (by simp) _).setCell (by simp) _⟩
            exact sl_of_own (row_block HROWE.out (fun j hj _ => hoth j hj))
          · have HG4 : Hid (goal_ size zs to_ (at_ + 1) f3 qs3 (acc ++ [x]) R) := HST2.out (by omega)
            have hx' : 0 ≤ x := by omega
            obtain ⟨v6, w6, hrun, ⟨s0, s1, s2, rfl⟩, hSq6, hb6⟩ := sq_more (x := x) HSQ5.out (by have := HAC.out; omega) 37
            have HSQ6 : Hid (Sq w.heap.size b8 size f3 qs3 (.slice s0 s1 s2) (acc ++ [x]) w6) := hSq6
            have HAC4 : Hid (((acc ++ [x]).length : Int) ≤ at_ + 1) := by
              have h1 := HAC.out
              show ((acc ++ [x]).length : Int) ≤ at_ + 1
              rw [show (acc ++ [x]).length = acc.length + 1 by simp]
              omega
            have hB6 : Below w.heap.size w w6 := hB5.trans (hb6.mono (by have := HLT.out; omega))
            rw [hz5] at hrun
            rw [HW5.out] at hrun
            clear hSq6 hb6 hx
            go_wp2_with (at_builtin; refine wpList_append_run rfl _ _ 37 rfl _ _ rfl rfl _ w6 hrun ?_)
            go_roundw
            case rel =>
              go_light
              exact ⟨at_ + 1, f3, qs3, acc ++ [x], by omega, by go_num, ⟨_, _, _, rfl⟩, HAC4, HSQ6, HG4, hB6⟩
            case measure =>
              go_light
              simp [intOf]; omega
        · have HGE : Hid ((f', qs') = R.1 ∧ acc = R.2) := goal_end HG.out hlt
          have HSQE : Hid (Sq w.heap.size b8 size f' qs' (.slice rv0 rv1 rv2) acc wr) := HSQ
          have hBE := hb
          have hsqE := HSQE.out
          obtain ⟨voE, ⟨i0, i1, i2, rfl⟩, houtE, hrdE⟩ := hsqE.out
          have hr1E := hsqE.r1
          have hrowE := hsqE.row
          have hltE := hsqE.lt
          have x0 := c3_0 houtE
          have x1 := c3_1 houtE
          have x2 := c3_2 houtE
          have z0 := c3_0 hr1E
          have z1 := c3_1 hr1E
          have z2 := c3_2 hr1E
          have y0 := c3_f hr1E 0
          have y1 := c3_f hr1E 1
          have y2 := c3_f hr1E 2
          have HRDE : Hid (∀ W : World, (∀ b, b8 + 1 ≤ b → b < wr.heap.size → (Value.slice rv0 rv1 rv2).ownBlock ≠ some b → W.heap[b]? = wr.heap[b]?) → wr.heap.size ≤ W.heap.size → Rdp W (.slice i0 i1 i2) qs') := hrdE
          have HROWE : Hid (wr.ownsRow (b8 + 1) 5 1 (.slice rv0 rv1 rv2) acc.length (u8s acc)) := hrowE
          have HR1E : Hid (wr.heap[w.heap.size + 1]? = some (.cells #[.int .i64 0, .slice none 0 0, .int .i64 0] 29 (0, 0))) := hr1E
          have HLTE : Hid (w.heap.size + 1 < b8) := hltE
          clear hrdE hrowE hr1E hsqE houtE
          go_wp2_with fail
          have hF := c3_setAll HR1E.out (.int .i64 size) (.slice i0 i1 i2) (.int .i64 f')
          try simp only [Exit.inBlock, Exit.then]
          refine bodyPost_ret (results_cell_tmp_row rfl _ _ (w.heap.size + 1) 29 _ (0, 0) _ rfl hF Try.underlying29 rfl (by kernel_rfl)) rfl ?_
          have hoth : ∀ j, b8 + 1 ≤ j → (((wr.setCell ⟨w.heap.size + 1, 0, none⟩ (.int .i64 size)).setCell ⟨w.heap.size + 1, 1, none⟩ (.slice i0 i1 i2)).setCell ⟨w.heap.size + 1, 2, none⟩ (.int .i64 f')).heap[j]? = wr.heap[j]? := fun j hj => by
            have := HLTE.out
            rw [Below.heap_setCell _ _ _ _ (by simp; omega), Below.heap_setCell _ _ _ _ (by simp; omega), Below.heap_setCell _ _ _ _ (by simp; omega)]
          rw [HM.out]
          obtain ⟨ge1, ge2⟩ := HGE.out
          rw [← ge1, ← ge2]
          refine ⟨⟨_, _, rfl, ⟨_, _, _, rfl⟩, ⟨_, _, _, rfl⟩, HRDE.out _ (fun b hb1 _ _ => hoth b hb1) (by simp), ?_⟩, ((hBE.setCell (by simp) _).setCell (by simp) _).setCell (by simp) _⟩
          exact sl_of_own (row_block HROWE.out (fun j hj _ => hoth j hj))
end Go.Proofs.Ytlifedkieeogdag
