/- The contract of spec.SourceByte where the source is right, case 3 of five. -/
import Derived.Test.YtlifedkieeogdagSw0
namespace Go.Proofs.Ytlifedkieeogdag
open Go.Maps Go.RowKit Go.Deep
set_option maxHeartbeats 64000000 in
theorem sbyte_3 (w : World) (size f at_ : Int) (v : Value) (qs : List Pg) (vb : Value) (zs : List Int) (hR : Rdp w v qs) (hS : Sl w.heap.size w vb zs) (hz : zs.length ≤ 1048576) (hO : OkS size qs f) (hoz : okz zs) (hod : okd qs) (g2 : 0 ≤ at_) (g3 : at_ ≤ 60000) (hC : qs.find? (hit (at_ / size)) = none ∧ qs.length = 6 ∧ ¬ f < 4294967295) :
    Calls Try.prog 18 #[.agg #[.int .i64 size, v, .int .i64 f], vb, .int .i64 at_] w fun e w' => SbPost ((size, (readM size f qs zs at_).1.2, (readM size f qs zs at_).1.1), (readM size f qs zs at_).2) w e w' := by
  obtain ⟨v0, v2, rfl⟩ := hR.sl
  have hW2 : Below w.heap.size w ((w.alloc (.cells #[.int .i64 size, .slice v0 qs.length v2, .int .i64 f] 29)).alloc (.cells #[.int .i64 0, .slice none 0 0, .int .i64 0] 29)) := ((Below.refl _ w).alloc (Nat.le_refl _) _).alloc (by simp) _
  have hok2 := sokR _ size f _ qs (hR.later hW2)
  rw [okS_iff.2 hO] at hok2
  have fact : ∀ w1, Below ((w.alloc (.cells #[.int .i64 size, .slice v0 qs.length v2, .int .i64 f] 29)).alloc (.cells #[.int .i64 0, .slice none 0 0, .int .i64 0] 29)).heap.size ((w.alloc (.cells #[.int .i64 size, .slice v0 qs.length v2, .int .i64 f] 29)).alloc (.cells #[.int .i64 0, .slice none 0 0, .int .i64 0] 29)) w1 →
      w1.heap[w.heap.size + 1]? = some (.cells #[.int .i64 0, .slice none 0 0, .int .i64 0] 29 (0, 0)) ∧ w1.heap[w.heap.size]? = some (.cells #[.int .i64 size, .slice v0 qs.length v2, .int .i64 f] 29 (0, 0)) ∧ Below w.heap.size w w1 := by
    intro w1 hb1
    refine ⟨?_, ?_, hW2.trans (hb1.mono (by simp; omega))⟩
    · rw [hb1.block _ (by simp)]
      have := heap_alloc_new (w.alloc (.cells #[.int .i64 size, .slice v0 qs.length v2, .int .i64 f] 29)) (.cells #[.int .i64 0, .slice none 0 0, .int .i64 0] 29)
      simpa using this
    · rw [hb1.block _ (by simp; omega), Below.heap_alloc _ _ _ (by simp)]
      exact heap_alloc_new w _
  have FACT : Hid (∀ w1, Below ((w.alloc (.cells #[.int .i64 size, .slice v0 qs.length v2, .int .i64 f] 29)).alloc (.cells #[.int .i64 0, .slice none 0 0, .int .i64 0] 29)).heap.size ((w.alloc (.cells #[.int .i64 size, .slice v0 qs.length v2, .int .i64 f] 29)).alloc (.cells #[.int .i64 0, .slice none 0 0, .int .i64 0] 29)) w1 →
      w1.heap[w.heap.size + 1]? = some (.cells #[.int .i64 0, .slice none 0 0, .int .i64 0] 29 (0, 0)) ∧ w1.heap[w.heap.size]? = some (.cells #[.int .i64 size, .slice v0 qs.length v2, .int .i64 f] 29 (0, 0)) ∧ Below w.heap.size w w1) := fact
  have HO : Hid (OkS size qs f) := hO
  have HC : Hid (qs.find? (hit (at_ / size)) = none ∧ qs.length = 6 ∧ ¬ f < 4294967295) := hC
  have HOZ : Hid (okz zs) := hoz
  have HOD : Hid (okd qs) := hod
  have HR : Hid (Rdp w (.slice v0 qs.length v2) qs) := hR
  have HS : Hid (Sl w.heap.size w vb zs) := hS
  have HZ : Hid (zs.length ≤ 1048576) := hz
  have hs1 := hO.s1
  have hs2 := hO.s2
  have hlen : (qs.length : Int) ≤ 6 := by have := hO.len; omega
  clear fact hO hR hS hz hW2 hoz hod hC
  go_enter Try.func18, Try.ntmps18
  go_wp2_with fail
  refine hok2.mono ?_
  rintro e w1 ⟨rfl, hb1⟩
  obtain ⟨r1, r0, hB⟩ := FACT.out w1 hb1
  have e0 := c3_0 r0
  have e1 := c3_1 r0
  have e2 := c3_2 r0
  have hsz1 := lt_of_get r1
  clear hok2 hb1 FACT
  have n0 : w1.heap.size ≠ w.heap.size := by omega
  have n1 : w1.heap.size + 1 ≠ w.heap.size := by omega
  have e0a : (w1.alloc (.cells #[.int .i64 size, .slice none 0 0, .int .i64 f] 29)).cell? ⟨w.heap.size, 0, none⟩ = some (.int .i64 size) := (World.cell?_of_block (Below.heap_alloc w1 _ w.heap.size (by omega))).trans e0
  have e1a : (w1.alloc (.cells #[.int .i64 size, .slice none 0 0, .int .i64 f] 29)).cell? ⟨w.heap.size, 1, none⟩ = some (.slice v0 qs.length v2) := (World.cell?_of_block (Below.heap_alloc w1 _ w.heap.size (by omega))).trans e1
  have e1b : ((w1.alloc (.cells #[.int .i64 size, .slice none 0 0, .int .i64 f] 29)).alloc (.cells #[.int .i64 (at_ / size), .slice none 0 0] 51)).cell? ⟨w.heap.size, 1, none⟩ = some (.slice v0 qs.length v2) := (World.cell?_of_block (Below.heap_alloc _ _ w.heap.size (by simp; omega))).trans e1a
  have hdiv : at_ / size ≤ 60000 := Int.le_trans (Int.ediv_le_self _ g2) g3
  have hdiv0 : 0 ≤ at_ / size := Int.ediv_nonneg g2 (by omega)
  go_wp2_with fail
  have HB8 : Hid (Lp w.heap.size w1.heap.size size f (at_ / size) (.slice v0 qs.length v2) ((qs.take 0).filter (fun p => !hit (at_ / size) p)) ((qs.take 0).find? (hit (at_ / size))) false (.slice none 0 0) (.slice none 0 0) ((w1.alloc (.cells #[.int .i64 size, .slice none 0 0, .int .i64 f] 29)).alloc (.cells #[.int .i64 (at_ / size), .slice none 0 0] 51))) := by
    refine ⟨?_, ?_, ?_, ?_, own_nil _ _, by omega, rfl, rfl⟩
    · rw [Below.heap_alloc _ _ _ (by simp; omega), Below.heap_alloc _ _ _ (by omega)]; exact r0
    · rw [Below.heap_alloc _ _ _ (by simp; omega), Below.heap_alloc _ _ _ (by omega)]; exact r1
    · rw [Below.heap_alloc _ _ _ (by simp)]; exact heap_alloc_new w1 _
    · have := heap_alloc_new (w1.alloc (.cells #[.int .i64 size, .slice none 0 0, .int .i64 f] 29)) (.cells #[.int .i64 (at_ / size), .slice none 0 0] 51)
      simpa using this
  have hBl : Below w.heap.size w ((w1.alloc (.cells #[.int .i64 size, .slice none 0 0, .int .i64 f] 29)).alloc (.cells #[.int .i64 (at_ / size), .slice none 0 0] 51)) := (hB.alloc (by omega) _).alloc (by simp; omega) _
  generalize hws : ((w1.alloc (.cells #[.int .i64 size, .slice none 0 0, .int .i64 f] 29)).alloc (.cells #[.int .i64 (at_ / size), .slice none 0 0] 51)) = ws at *
  generalize hb8 : w1.heap.size = b8 at *
  obtain ⟨num, hnum⟩ : ∃ num, at_ / size = num := ⟨_, rfl⟩
  have HNUM : Hid (at_ / size = num) := hnum
  rw [hnum] at HB8 hdiv hdiv0 ⊢
  clear hnum hws hb8 e0 e1 e2 e0a e1a e1b r0 r1 hB n0 n1
  go_loopw [10, 38] (fun tv iv wr => ∃ (k : Nat) (th : Bool) (vo d : Value), k ≤ qs.length ∧ iv = .int .i64 k ∧ tv = .bool th ∧ Hid (Lp w.heap.size b8 size f num (.slice v0 qs.length v2) ((qs.take k).filter (fun p => !hit num p)) ((qs.take k).find? (hit num)) th vo d wr) ∧ Below w.heap.size w wr) (fun _ iv _ => qs.length - (intOf iv).toNat)
  case atStart => exact ⟨0, false, _, _, Nat.zero_le _, rfl, rfl, HB8, hBl⟩
  case round =>
    obtain ⟨k, th, vo, d, hk, rfl, rfl, HL, hb⟩ := hrel
    obtain ⟨r0, r1, r2, r3, hOw, hb8, hdd⟩ := HL.out
    by_cases hlt : k < qs.length
    · obtain ⟨ps, hP, hQ⟩ := HR.out
      obtain ⟨⟨qx, zz⟩, hq⟩ : ∃ q, qs[k]? = some q := ⟨_, List.getElem?_eq_getElem hlt⟩
      obtain ⟨⟨x, pd⟩, hp⟩ : ∃ p, ps[k]? = some p := ⟨_, List.getElem?_eq_getElem (by rw [hQ.len]; exact hlt)⟩
      obtain ⟨ex, hsl⟩ := PQ.nth hQ hp hq
      obtain rfl : x = qx := ex
      have hne : ps ≠ [] := fun e => by rw [e] at hp; simp at hp
      obtain ⟨da, dc, rfl⟩ := sl_len hsl
      obtain ⟨b, off, rfl, c1, c2⟩ : ∃ b off, v0 = some ⟨b, off, none⟩ ∧ wr.cell? ⟨b, off + k * 2, none⟩ = some (.int .i64 x) ∧ wr.cell? ⟨b, off + k * 2 + 1, none⟩ = some (.slice da zz.length dc) := by
        rcases hP with ⟨e, _⟩ | ⟨_, b, off, _, e, hbl, _, hcell⟩
        · exact absurd e hne
        · injection e with e
          exact ⟨b, off, e, by rw [hb.cell hbl]; exact (hcell k _ hp).1, by rw [hb.cell hbl]; exact (hcell k _ hp).2⟩
      have hzl : zz.length ≤ 1048576 := by have := (HO.out.each _ (List.mem_of_getElem? hq)).2; have := HO.out.s2; simp at *; omega
      have hlt' : (k : Int) < (qs.length : Int) := by omega
      have hsz3 := lt_of_get r3
      -- the world behind the round's variable
      obtain ⟨w0, hw0⟩ : ∃ w0, w0 = wr.alloc (.cells #[.int .i64 x, .slice da zz.length dc] 51) := ⟨_, rfl⟩
      have hA0 : Below wr.heap.size wr w0 := by rw [hw0]; exact (Below.refl _ wr).alloc (Nat.le_refl _) _
      have b3 : w0.heap[b8 + 1]? = some (.cells #[.int .i64 num, d] 51 (0, 0)) := (hA0.block _ hsz3).trans r3
      have b2 : w0.heap[b8]? = some (.cells #[.int .i64 size, vo, .int .i64 f] 29 (0, 0)) := (hA0.block _ (lt_of_get r2)).trans r2
      have bP : w0.heap[wr.heap.size]? = some (.cells #[.int .i64 x, .slice da zz.length dc] 51 (0, 0)) := by rw [hw0]; exact heap_alloc_new wr _
      have cn0 : w0.cell? ⟨b8 + 1, 0, none⟩ = some (.int .i64 num) := c2_0 b3
      have cx0 : w0.cell? ⟨wr.heap.size, 0, none⟩ = some (.int .i64 x) := c2_0 bP
      have cv0 : w0.cell? ⟨wr.heap.size, 1, none⟩ = some (.slice da zz.length dc) := c2_1 bP
      have co0 : w0.cell? ⟨b8, 1, none⟩ = some vo := c3_1 b2
      have HW0 : Hid (w0 = wr.alloc (.cells #[.int .i64 x, .slice da zz.length dc] 51)) := hw0
      have hSl0 : Sl wr.heap.size w0 (.slice da zz.length dc) zz := (hsl.later hb).stays hA0
      have hO0 : Own (b8 + 2) w0 vo ((qs.take k).filter (fun p => !hit num p)) := hOw.block (fun j hj hj2 => hA0.block j hj2)
      have hsz0 : wr.heap.size < w0.heap.size := lt_of_get bP
      have hb0 : Below w.heap.size w w0 := hb.trans (hA0.mono hb.size)
      clear hw0 hP hQ hp hne hsl
      by_cases hx : x = num
      · subst hx
        -- no page before it bears the number
        have hnone : (qs.take k).find? (hit x) = none := by
          rw [List.find?_eq_none]
          intro q hqm hqh
          have hq1 : q.1 = x := by simpa [hit] using hqh
          have hnd := HO.out.nd
          obtain ⟨i, hi⟩ := List.getElem?_of_mem hqm
          have hik : i < k := by
            rcases Nat.lt_or_ge i k with h | h
            · exact h
            · rw [List.getElem?_take, if_neg (by omega)] at hi; cases hi
          have hi' : qs[i]? = some q := by rw [List.getElem?_take, if_pos hik] at hi; exact hi
          have e1 : (qs.map (·.1))[i]? = some x := by rw [List.getElem?_map, hi']; simp [hq1]
          have e2 : (qs.map (·.1))[k]? = some x := by rw [List.getElem?_map, hq]; rfl
          have h1 : i < (qs.map (·.1)).length := by simp; omega
          have h2 : k < (qs.map (·.1)).length := by simp; omega
          rw [List.getElem?_eq_getElem h1] at e1
          rw [List.getElem?_eq_getElem h2] at e2
          have := (List.getElem_inj hnd).1 ((Option.some.inj e1).trans (Option.some.inj e2).symm)
          omega
        rw [hnone] at hdd
        obtain ⟨rfl, rfl⟩ := hdd
        have hfil : (qs.take (k + 1)).filter (fun p => !hit x p) = (qs.take k).filter (fun p => !hit x p) := by
          rw [List.take_add_one, hq, List.filter_append]
          simp [hit]
        have hfnd : (qs.take (k + 1)).find? (hit x) = some (x, zz) := by
          rw [List.take_add_one, hq, List.find?_append, hnone]
          simp [hit]
        obtain ⟨d', wA, hrun, hown, hbel, hsd⟩ := copy_bytes (B := wr.heap.size) hSl0 (by omega) hzl 37
        obtain ⟨d0, d1, d2, rfl⟩ := hsd
        have k3 := (hbel.block _ (by have := lt_of_get b3; omega)).trans b3
        have k2 := (hbel.block _ (lt_of_get b2)).trans b2
        have r0' : wA.heap[w.heap.size]? = _ := (hbel.block _ (by have := lt_of_get r0; omega)).trans ((hA0.block _ (lt_of_get r0)).trans r0)
        have r1' : wA.heap[w.heap.size + 1]? = _ := (hbel.block _ (by have := lt_of_get r1; omega)).trans ((hA0.block _ (lt_of_get r1)).trans r1)
        have hOA : Own (b8 + 2) wA vo ((qs.take k).filter (fun p => !hit x p)) := hO0.block (fun j _ hj2 => hbel.block j hj2)
        have hbA : Below w.heap.size w wA := hb0.trans (hbel.mono hb0.size)
        have RA : Hid (Lp w.heap.size b8 size f x (.slice (some ⟨b, off, none⟩) qs.length v2) ((qs.take (k + 1)).filter (fun p => !hit x p)) ((qs.take (k + 1)).find? (hit x)) true vo (.slice d0 d1 d2) (wA.setCell ⟨b8 + 1, 1, none⟩ (.slice d0 d1 d2))) := by
          show Lp w.heap.size b8 size f x (.slice (some ⟨b, off, none⟩) qs.length v2) ((qs.take (k + 1)).filter (fun p => !hit x p)) ((qs.take (k + 1)).find? (hit x)) true vo (.slice d0 d1 d2) (wA.setCell ⟨b8 + 1, 1, none⟩ (.slice d0 d1 d2))
          rw [hfil, hfnd]
          refine ⟨(Below.heap_setCell _ _ _ _ (by simp; omega)).trans r0', (Below.heap_setCell _ _ _ _ (by simp; omega)).trans r1', (Below.heap_setCell _ _ _ _ (by simp)).trans k2, ?_, hOA.block (fun j hj _ => Below.heap_setCell _ _ _ _ (by simp; omega)), hb8, rfl, ?_, ?_⟩
          · simp [World.setCell, Array.getElem?_modify, k3]
          · exact row_block (⟨hown.1, hown.2.imp id (fun ⟨g, cap, cur, e, hb, r⟩ => ⟨g, cap, cur, e, by omega, r⟩)⟩) (fun j hj _ => Below.heap_setCell _ _ _ _ (by simp; omega))
          · intro bb hb1 hb2
            obtain ⟨ps', hp1, _, _⟩ := hO0
            have q1 := (hp1.lt bb hb2).2
            have q2 := (hown.lt bb hb1).1
            omega
        have RB := hbA.setCell (p := ⟨b8 + 1, 1, none⟩) (by simp; omega) (.slice d0 d1 d2)
        have cA1 : wA.cell? ⟨b8 + 1, 1, none⟩ = some (.slice none 0 0) := c2_1 k3
        have fA1 : wA.frozen? ⟨b8 + 1, 1, none⟩ = false := c2_f k3 1
        have cva : (w0.alloc (.cells #[] 5)).cell? ⟨wr.heap.size, 1, none⟩ = some (.slice da zz.length dc) := (World.cell?_of_block (Below.heap_alloc w0 _ wr.heap.size hsz0)).trans cv0
        obtain rfl := HW0.out
        rw [show (wr.alloc (.cells #[.int .i64 x, .slice da zz.length dc] 51)).heap.size = wr.heap.size + 1 from by simp] at hrun
        clear hzl b2 b3 bP hSl0 hO0 hOA hown hbel k2 k3 r0 r1 r2 r3 r0' r1' hOw HL hA0 hb0 hbA hfil hfnd hnone hq
        go_wp2_with (at_builtin; refine wpList_append_run rfl _ _ 37 rfl _ _ rfl rfl _ wA hrun ?_)
        go_roundw
        case rel =>
          go_light
          exact ⟨k + 1, true, _, _, hlt, by go_num, rfl, RA, RB⟩
        case measure =>
          go_light
          simp [intOf]; omega
      · have hhx : hit num (x, zz) = false := by simp [hit, hx]
        have hfil : (qs.take (k + 1)).filter (fun p => !hit num p) = (qs.take k).filter (fun p => !hit num p) ++ [(x, zz)] := by
          rw [List.take_add_one, hq, List.filter_append]
          simp [hhx]
        have hfnd : (qs.take (k + 1)).find? (hit num) = (qs.take k).find? (hit num) := by
          rw [List.take_add_one, hq, List.find?_append]
          simp [hhx]
        have hSlD : Sl wr.heap.size w0.drew (.slice da zz.length dc) zz := hSl0
        have hOD : Own (b8 + 2) w0.drew vo ((qs.take k).filter (fun p => !hit num p)) := hO0.block (fun _ _ _ => rfl)
        obtain ⟨d', wA, hap1, hown, hbel, hsd⟩ := copy_bytes (B := wr.heap.size) hSlD (by show _ ≤ w0.heap.size; omega) hzl 37
        have hbel0 : Below w0.heap.size w0 wA := ⟨hbel.os, hbel.tape, hbel.output, hbel.size, hbel.block⟩
        have hownL : wA.ownsRow (b8 + 2) 5 1 d' zz.length (u8s zz) := ⟨hown.1, hown.2.imp id (fun ⟨g, cap, cur, e, hb, r⟩ => ⟨g, cap, cur, e, by have h' : w0.heap.size ≤ g := hb; omega, r⟩)⟩
        obtain ⟨v2', wB, hap2, hg2, hO2, hvlo, hsv2, hv2loc⟩ := page_push (x := x) hOD hbel hownL (fun b hb => (hown.lt b hb).1) (by
          have h1 := List.length_filter_le (fun p => !hit num p) (qs.take k)
          rw [List.length_take] at h1
          have := HO.out.len
          omega) (by show _ ≤ w0.heap.size; omega) 27
        obtain ⟨d0, d1, d2, rfl⟩ := hsd
        obtain ⟨y0, y1, y2, rfl⟩ := hsv2
        have vsh : isSl vo := hOw.sl
        obtain ⟨o0, o1, o2, rfl⟩ := vsh
        have k2 : wA.heap[b8]? = _ := (hbel0.block _ (lt_of_get b2)).trans b2
        have k3 : wA.heap[b8 + 1]? = _ := (hbel0.block _ (lt_of_get b3)).trans b3
        have kP : wA.heap[wr.heap.size]? = _ := (hbel0.block _ hsz0).trans bP
        have r0' : wA.heap[w.heap.size]? = _ := (hbel0.block _ (by have := lt_of_get r0; omega)).trans ((hA0.block _ (lt_of_get r0)).trans r0)
        have r1' : wA.heap[w.heap.size + 1]? = _ := (hbel0.block _ (by have := lt_of_get r1; omega)).trans ((hA0.block _ (lt_of_get r1)).trans r1)
        have hszA : w0.heap.size ≤ wA.heap.size := hbel.size
        have gB : ∀ j, j < wA.heap.size → j < b8 + 2 → wB.heap[j]? = wA.heap[j]? := fun j hj hj2 => (hg2.block j (by simp; omega) (fun e => by have := (hvlo j e.symm).1; omega)).trans (Below.heap_alloc wA _ j hj)
        have m2 := (gB b8 (by omega) (by omega)).trans k2
        have m3 := (gB (b8 + 1) (by omega) (by omega)).trans k3
        have m0 := (gB w.heap.size (by omega) (by omega)).trans r0'
        have m1 := (gB (w.heap.size + 1) (by omega) (by omega)).trans r1'
        have hbB : Below w.heap.size w wB := by
          have q1 := hb0.trans (hbel0.mono hb0.size)
          have q2 := q1.alloc q1.size (.cells #[.int .i64 x, .slice d0 d1 d2] 51)
          exact q2.grown hg2 (by have := q1.size; simp; omega) (fun j hj => by have := (hvlo j hj).1; omega)
        have RA : Hid (Lp w.heap.size b8 size f num (.slice (some ⟨b, off, none⟩) qs.length v2) ((qs.take (k + 1)).filter (fun p => !hit num p)) ((qs.take (k + 1)).find? (hit num)) th (.slice y0 y1 y2) d (wB.setCell ⟨b8, 1, none⟩ (.slice y0 y1 y2))) := by
          show Lp w.heap.size b8 size f num (.slice (some ⟨b, off, none⟩) qs.length v2) ((qs.take (k + 1)).filter (fun p => !hit num p)) ((qs.take (k + 1)).find? (hit num)) th (.slice y0 y1 y2) d (wB.setCell ⟨b8, 1, none⟩ (.slice y0 y1 y2))
          rw [hfil, hfnd]
          refine ⟨(Below.heap_setCell _ _ _ _ (by simp; omega)).trans m0, (Below.heap_setCell _ _ _ _ (by simp; omega)).trans m1, c3_set1 m2 _, (Below.heap_setCell _ _ _ _ (by simp)).trans m3, hO2.block (fun j hj _ => Below.heap_setCell _ _ _ _ (by simp; omega)), hb8, ?_⟩
          revert hdd
          cases (qs.take k).find? (hit num) with
          | none => exact fun h => h
          | some q =>
            rintro ⟨h1, h2, h3⟩
            have e1 : wA.ownsRow (b8 + 2) 5 1 d q.2.length (u8s q.2) := row_block (row_block h2 (fun j _ hj2 => hA0.block j hj2)) (fun j _ hj2 => hbel0.block j hj2)
            have e2 : wB.ownsRow (b8 + 2) 5 1 d q.2.length (u8s q.2) := (e1.alloc _).kept hg2 (by
              cases hb : d.ownBlock with
              | none => exact .inl rfl
              | some bb => exact .inr (fun e => h3 bb hb e.symm))
            refine ⟨h1, row_block e2 (fun j hj _ => Below.heap_setCell _ _ _ _ (by simp; omega)), ?_⟩
            intro bb hb1 hb2
            have q1 := (h2.lt bb hb1).2
            rcases hv2loc bb hb2 with e | e
            · exact h3 bb hb1 e
            · omega
        have RB := hbB.setCell (p := ⟨b8, 1, none⟩) (by simp; omega) (.slice y0 y1 y2)
        have hxn : (x == num) = false := by rw [beq_eq_false_iff_ne]; exact hx
        have cA : ∀ o : Obj, ∀ j u, j < w0.heap.size → w0.cell? ⟨j, u, none⟩ = (w0.alloc o).cell? ⟨j, u, none⟩ := fun o j u hj => (World.cell?_of_block (Below.heap_alloc w0 o j hj)).symm
        have co1 : (w0.alloc (.cells #[] 5)).cell? ⟨b8, 1, none⟩ = some (.slice o0 o1 o2) := (World.cell?_of_block (Below.heap_alloc w0 _ b8 (by omega))).trans co0
        have cx1 : (w0.alloc (.cells #[] 5)).cell? ⟨wr.heap.size, 0, none⟩ = some (.int .i64 x) := (World.cell?_of_block (Below.heap_alloc w0 _ _ hsz0)).trans cx0
        have cv1 : (w0.alloc (.cells #[] 5)).cell? ⟨wr.heap.size, 1, none⟩ = some (.slice da zz.length dc) := (World.cell?_of_block (Below.heap_alloc w0 _ _ hsz0)).trans cv0
        have co2 : wA.cell? ⟨b8, 1, none⟩ = some (.slice o0 o1 o2) := c3_1 k2
        have cx2 : wA.cell? ⟨wr.heap.size, 0, none⟩ = some (.int .i64 x) := c2_0 kP
        have co3 : (wA.alloc (.cells #[.int .i64 x, .slice d0 d1 d2] 51)).cell? ⟨b8, 1, none⟩ = some (.slice o0 o1 o2) := (World.cell?_of_block (Below.heap_alloc wA _ b8 (by omega))).trans co2
        have co4 : wB.cell? ⟨b8, 1, none⟩ = some (.slice o0 o1 o2) := c3_1 m2
        have fo4 : wB.frozen? ⟨b8, 1, none⟩ = false := c3_f m2 1
        have n1 : w0.heap.size ≠ b8 := by omega
        have n2 : w0.heap.size ≠ wr.heap.size := by omega
        have n3 : wA.heap.size ≠ b8 := by omega
        have n4 : wA.heap.size ≠ wr.heap.size := by omega
        have cn0' := cn0
        have cx0' := cx0
        rw [HW0.out] at cn0' cx0'
        clear hzl cA b2 b3 bP hSl0 hO0 hSlD hOD hown hownL hbel hbel0 k2 k3 kP r0 r1 r2 r3 r0' r1' m0 m1 m2 m3 hOw HL hA0 hb0 hbB hfil hfnd hq hg2 hO2 hvlo hv2loc gB hdd hhx hx
        go_wp2_with fail
        rw [← HW0.out]
        go_region_law (first | refine step_append_run (by rfl) _ _ 37 (by rfl) _ _ (by rfl) (by rfl) _ wA hap1 ?_ | refine step_append_run (by rfl) _ _ 27 (by rfl) _ _ (by rfl) (by rfl) _ wB hap2 ?_)
        all_goals go_wp2_with fail
        all_goals
          go_roundw
          case rel =>
            go_light
            exact ⟨k + 1, th, _, _, hlt, by go_num, rfl, RA, RB⟩
          case measure =>
            go_light
            simp [intOf]; omega
    · obtain rfl : k = qs.length := by omega
      rw [List.take_length] at hOw hdd
      have hlt' : ¬ ((qs.length : Int) < (qs.length : Int)) := by omega
      have hfl : (qs.filter (fun p => !hit num p)).length ≤ 100 := by
        have h1 := List.length_filter_le (fun p => !hit num p) qs
        have := HO.out.len
        omega
      clear HL
      cases hfd : qs.find? (hit num) with
      | some q =>
        exfalso
        have h1 := HC.out.1
        rw [HNUM.out, hfd] at h1
        cases h1
      | none =>
        rw [hfd] at hdd
        obtain ⟨rfl, rfl⟩ := hdd
        have hnh : ∀ q ∈ qs, hit num q = false := by
          intro q hq
          have := List.find?_eq_none.1 hfd q hq
          simpa using this
        have hfq : qs.filter (fun p => !hit num p) = qs := by
          rw [List.filter_eq_self]
          intro q hq
          rw [hnh q hq]; rfl
        rw [hfq] at hOw
        have hmul0 : 0 ≤ num * size := Int.mul_nonneg hdiv0 (by omega)
        have hmul1 : num * size ≤ 60000 := by
          have := Int.ediv_mul_le at_ (show size ≠ 0 by omega)
          rw [HNUM.out] at this
          omega
        obtain ⟨pr, hpr⟩ : ∃ pr : Int, num * size = pr := ⟨_, rfl⟩
        rw [hpr] at hmul0 hmul1
        obtain ⟨A, hA⟩ : ∃ A : Nat, pr = (A : Int) := ⟨pr.toNat, by omega⟩
        obtain ⟨S, hSz⟩ : ∃ S : Nat, size = (S : Int) := ⟨size.toNat, by omega⟩
        have cP := part_ wr w.heap.size vb zs A S (HS.out.stays hb) HZ.out (by omega) (by omega)
        rw [← hA, ← hSz] at cP
        have e0 := c3_0 r0
        have o0 := c2_0 r3
        have HSZ : Hid (size = (S : Int)) := hSz
        have HMA : Hid (pr = (A : Int)) := hA
        have HPR : Hid (num * size = pr) := hpr
        have HFD : Hid (qs.find? (hit num) = none) := hfd
        clear hfl hnh hfq hSz hfd hA hk hlt' hlt
        go_wp2_with fail
        refine cP.mono ?_
        rintro e w4 ⟨⟨dv, rfl, ⟨d0, d1, d2, rfl⟩, hdr⟩, hb4⟩
        clear cP
        have hsr := lt_of_get r3
        have k0 := (hb4.block _ (by omega)).trans r0
        have k1 := (hb4.block _ (by omega)).trans r1
        have k2 := (hb4.block _ (by omega)).trans r2
        have k3 := (hb4.block _ (by omega)).trans r3
        have hO4 : Own (b8 + 2) w4 vo qs := hOw.block (fun j _ hj => hb4.block j hj)
        have hbw4 : Below w.heap.size w w4 := hb.trans (hb4.mono (by omega))
        have hdr4 : w4.ownsRow (b8 + 2) 5 1 (.slice d0 d1 d2) (part zs A S).length (u8s (part zs A S)) := ⟨hdr.1, hdr.2.imp id (fun ⟨g, cap, cur, e, hb, r⟩ => ⟨g, cap, cur, e, by omega, r⟩)⟩
        have hfar : far (.slice d0 d1 d2) vo := by
          intro bb h1 h2
          obtain ⟨ps', hp1, _, _⟩ := hOw
          have q1 := (hp1.lt bb h2).2
          have q2 := (hdr.lt bb h1).1
          omega
        have hsz4 := hb4.size
        have hoq : okz (part zs A S) := fun z hz => HOZ.out z (part_mem hz)
        have hzq : (part zs A S).length ≤ 60000 := by have := part_len zs A S; have := HSZ.out; omega
        have HRD : Hid (∀ fE qE, fE = min (f + 1) 4294967295 → qE = shift qs → readM size f qs zs at_ = ((fE, qE ++ [(num, part zs A S)]), byteAt (part zs A S) (at_ % size).toNat)) := by
          show ∀ fE qE, fE = min (f + 1) 4294967295 → qE = shift qs → readM size f qs zs at_ = ((fE, qE ++ [(num, part zs A S)]), byteAt (part zs A S) (at_ % size).toNat)
          rintro fE qE rfl rfl
          have e1 : pr.toNat = A := by have := HMA.out; omega
          have e2 : size.toNat = S := by have := HSZ.out; omega
          unfold readM
          rw [HNUM.out, HFD.out, HPR.out, e1, e2]
        obtain ⟨vo0, vo2, rfl⟩ := hO4.rdp.sl
        generalize part zs A S = zq at *
        have n8 : b8 + 1 ≠ b8 := by omega
        have n9 : b8 ≠ b8 + 1 := by omega
        have c4 := c2_1 k3
        have g4 := c2_f k3 1
        -- behind the store of the bytes
        obtain ⟨w5, hw5⟩ : ∃ w5, w5 = w4.setCell ⟨b8 + 1, 1, none⟩ (.slice d0 d1 d2) := ⟨_, rfl⟩
        have hz5 : w5.heap.size = w4.heap.size := by rw [hw5]; simp
        have l0 := (show w5.heap[w.heap.size]? = w4.heap[w.heap.size]? by rw [hw5]; exact Below.heap_setCell _ _ _ _ (by simp; omega)).trans k0
        have l1 := (show w5.heap[w.heap.size + 1]? = w4.heap[w.heap.size + 1]? by rw [hw5]; exact Below.heap_setCell _ _ _ _ (by simp; omega)).trans k1
        have l2 := (show w5.heap[b8]? = w4.heap[b8]? by rw [hw5]; exact Below.heap_setCell _ _ _ _ (by simp)).trans k2
        have l3 : w5.heap[b8 + 1]? = some (.cells #[.int .i64 num, .slice d0 d1 d2] 51 (0, 0)) := by rw [hw5]; simp [World.setCell, Array.getElem?_modify, k3]
        have hO5 : Own (b8 + 2) w5 (.slice vo0 qs.length vo2) qs := hO4.block (fun j hj _ => by rw [hw5]; exact Below.heap_setCell _ _ _ _ (by simp; omega))
        have hdr5 : w5.ownsRow (b8 + 2) 5 1 (.slice d0 d1 d2) zq.length (u8s zq) := row_block hdr4 (fun j hj _ => by rw [hw5]; exact Below.heap_setCell _ _ _ _ (by simp; omega))
        have hbw5 : Below w.heap.size w w5 := by rw [hw5]; exact hbw4.setCell (by simp; omega) _
        have HW5 : Hid (w5 = w4.setCell ⟨b8 + 1, 1, none⟩ (.slice d0 d1 d2)) := hw5
        have c1 := c3_1 k2
        have c2 := c3_2 k2
        have g1 := c3_f k2 1
        have g2f := c3_f k2 2
        have c5 := c2_0 k3
        have e0 := c3_0 k0
        have fl0 := HO.out.f0
        have fl1 := HO.out.f1
        have hsl8 : b8 + 1 < w4.heap.size := by omega
        clear hw5 hO4 hdr4 hbw4 k0 k1 k2 k3
        clear r0 r1 r2 r3 hOw hb o0 hdr hb4 hsr hsz4 hmul0 hmul1 hpr
        by_cases hl6 : qs.length = 6
        · obtain ⟨g, rfl⟩ : ∃ g, vo0 = some ⟨g, 0, none⟩ := by
            obtain ⟨ps', hp1, hp2, _⟩ := hO5
            rcases hp1.2 with ⟨e, _⟩ | ⟨g, cap, cur, e, _⟩
            · exfalso
              injection e with _ e
              omega
            · injection e with e
              exact ⟨g, e⟩
          have hpl := ple_of_own hO5 hdr5 hfar
          obtain ⟨hlc, hpl2⟩ := ple_tail hpl (fun e => by rw [e] at hl6; simp at hl6)
          rw [hl6] at c1 hlc hpl2
          have HL6 : Hid (qs.length = 6) := hl6
          clear hl6
          by_cases hf : f < 4294967295
          · exact absurd hf (by have h := HC.out.2.2; omega)
          · obtain ⟨wE, hwE⟩ : ∃ wE, wE = ((w4.setCell ⟨b8 + 1, 1, none⟩ (.slice d0 d1 d2)).setCell ⟨b8, 1, none⟩ (.slice (some ⟨g, 2, none⟩) 5 (vo2 - 1))) := ⟨_, rfl⟩
            have hE5 : wE = (w5.setCell ⟨b8, 1, none⟩ (.slice (some ⟨g, 2, none⟩) 5 (vo2 - 1))) := by rw [hwE, HW5.out]
            have hzE : wE.heap.size = w4.heap.size := by rw [hwE]; simp
            have hEb : ∀ k, k ≠ b8 → wE.heap[k]? = w5.heap[k]? := by
              intro k hk
              rw [hE5]
              rw [Below.heap_setCell _ _ _ _ (by simpa using hk)]
            have r0 := (hEb w.heap.size (by omega)).trans l0
            have r1 := (hEb (w.heap.size + 1) (by omega)).trans l1
            have r3 := (hEb (b8 + 1) (by omega)).trans l3
            have r2 : wE.heap[b8]? = some (.cells #[.int .i64 size, .slice (some ⟨g, 2, none⟩) 5 (vo2 - 1), .int .i64 f] 29 (0, 0)) := by rw [hE5]; simp [World.setCell, Array.getElem?_modify, l2]
            have hbE : Below w.heap.size w wE := by rw [hE5]; exact (hbw5.setCell (by simp; omega) _)
            have hPl : PlE (b8 + 2) wE (.slice (some ⟨g, 2, none⟩) 5 (vo2 - 1)) qs.tail (.slice d0 d1 d2) zq := hpl2.blocks (fun k hk _ => hEb k (by omega)) (by rw [hzE, hz5]; exact Nat.le_refl _)
            have HRES : Hid (readM size f qs zs at_ = ((f, qs.tail ++ [(num, zq)]), byteAt zq (at_ % size).toNat)) := HRD.out _ _ (by omega) (by unfold shift; rw [if_pos HL6.out])
            have HWE : Hid (wE = ((w4.setCell ⟨b8 + 1, 1, none⟩ (.slice d0 d1 d2)).setCell ⟨b8, 1, none⟩ (.slice (some ⟨g, 2, none⟩) 5 (vo2 - 1)))) := hwE
            have hzw5 : w5.heap.size = w4.heap.size := hz5
            clear hwE hE5 hEb
            obtain ⟨v2', w2, hrun, hsl2, hbel, hsz2, hRd, hdr2⟩ := pushE (x := num) hPl (by have := lt_of_get r3; omega) (by have := HL6.out; simp; omega) 27
            obtain ⟨y0, y1, y2, rfl⟩ := hsl2
            have hds1 : d1 = zq.length := by
              obtain ⟨_, _, hdsh⟩ := sl_len (sl_of_own hdr2)
              injection hdsh
            subst hds1
            have m0 := (hbel.block _ (by omega)).trans r0
            have m1 := (hbel.block _ (by omega)).trans r1
            have m2 := (hbel.block _ (by omega)).trans r2
            have m3 := (hbel.block _ (by omega)).trans r3
            have hszE := lt_of_get r3
            have p0 := c2_0 r3
            have p1 := c2_1 r3
            have p2 := c3_1 r2
            have n1 : wE.heap.size ≠ b8 := by omega
            have n2 : wE.heap.size ≠ b8 + 1 := by omega
            have p2a := (show (wE.alloc (.cells #[.int .i64 num, .slice d0 zq.length d2] 51)).cell? ⟨b8, 1, none⟩ = wE.cell? ⟨b8, 1, none⟩ from World.cell?_of_block (Below.heap_alloc wE _ b8 (by omega))).trans p2
            have q1 := c3_1 m2
            have q1f := c3_f m2 1
            have hB2 : Below w.heap.size w w2 := hbE.trans (hbel.mono (by omega))
            obtain ⟨w3, hw3⟩ : ∃ w3, w3 = w2.setCell ⟨b8, 1, none⟩ (.slice y0 y1 y2) := ⟨_, rfl⟩
            have s0 := (show w3.heap[w.heap.size]? = w2.heap[w.heap.size]? by rw [hw3]; exact Below.heap_setCell _ _ _ _ (by simp; omega)).trans m0
            have s1 := (show w3.heap[w.heap.size + 1]? = w2.heap[w.heap.size + 1]? by rw [hw3]; exact Below.heap_setCell _ _ _ _ (by simp; omega)).trans m1
            have s2 : w3.heap[b8]? = some (.cells #[.int .i64 size, .slice y0 y1 y2, .int .i64 f] 29 (0, 0)) := by rw [hw3]; exact c3_set1 m2 _
            have s3 := (show w3.heap[b8 + 1]? = w2.heap[b8 + 1]? by rw [hw3]; exact Below.heap_setCell _ _ _ _ (by simp)).trans m3
            have hz3 : w3.heap.size = w2.heap.size := by rw [hw3]; simp
            have sR : RdL (b8 + 2) w3 (.slice y0 y1 y2) (qs.tail ++ [(num, zq)]) := fun w' h1 h2 => hRd w' (fun k hk1 hk2 => (h1 k hk1 (by omega)).trans (by rw [hw3]; exact Below.heap_setCell _ _ _ _ (by simp; omega))) (by omega)
            have sD : w3.ownsRow (b8 + 2) 5 1 (.slice d0 zq.length d2) zq.length (u8s zq) := row_block hdr2 (fun k hk1 hk2 => by rw [hw3]; exact Below.heap_setCell _ _ _ _ (by simp; omega))
            have hB3 : Below w.heap.size w w3 := by rw [hw3]; exact hB2.setCell (by simp; omega) _
            have HW3 : Hid (w3 = w2.setCell ⟨b8, 1, none⟩ (.slice y0 y1 y2)) := hw3
            have SR : Hid (RdL (b8 + 2) w3 (.slice y0 y1 y2) (qs.tail ++ [(num, zq)])) := sR
            have hr : at_.tmod size = at_ % size := Int.tmod_eq_emod_of_nonneg g2
            have mm0 : 0 ≤ at_ % size := Int.emod_nonneg _ (by omega)
            have mm1 : at_ % size < size := Int.emod_lt_of_pos _ (by omega)
            obtain ⟨am, ham⟩ : ∃ am : Nat, at_ % size = (am : Int) := ⟨(at_ % size).toNat, by omega⟩
            have hr' : at_.tmod size = (am : Int) := by rw [hr, ham]
            have ZL : Hid (zq.length ≤ 60000) := hzq
            clear hw3 hr hdr2 hRd hsz2 hbel m0 m1 m2 m3 hB2 sR hPl HRD hpl hpl2 hO5 hdr5 hfar l0 l1 l2 l3 hz5 hzw5
            rw [hzE] at hrun n1 n2
            rw [HWE.out] at hrun p0 p1 p2 p2a
            go_wp2_with (at_builtin; refine wpList_append_run rfl _ _ 27 rfl _ _ rfl rfl _ w2 hrun ?_)
            rw [← HW3.out]
            have e0 := c3_0 s0
            have e1 := c2_1 s3
            have x0 := c3_0 s2
            have x1 := c3_1 s2
            have x2 := c3_2 s2
            have z0 := c3_0 s1
            have z1 := c3_1 s1
            have z2 := c3_2 s1
            have f0 := c3_f s1 0
            have f1 := c3_f s1 1
            have f2 := c3_f s1 2
            have hk1 := lt_of_get s3
            clear p0 p1 p2 p2a q1 q1f n1 n2 hrun r0 r1 r2 r3 hszE HW3 s0 s3 hbE hzE HWE c1 c2 g1 g2f c4 c5 g4 hsl8
            have hblk : ∀ (W : World) (a1 a2 a3 : Value), W.heap = w3.heap → (∀ k, b8 + 2 ≤ k → k < w3.heap.size → (((W.setCell ⟨w.heap.size + 1, 0, none⟩ a1).setCell ⟨w.heap.size + 1, 1, none⟩ a2).setCell ⟨w.heap.size + 1, 2, none⟩ a3).heap[k]? = w3.heap[k]?) ∧ w3.heap.size ≤ (((W.setCell ⟨w.heap.size + 1, 0, none⟩ a1).setCell ⟨w.heap.size + 1, 1, none⟩ a2).setCell ⟨w.heap.size + 1, 2, none⟩ a3).heap.size := by
              intro W a1 a2 a3 hW
              refine ⟨fun k hk1 hk2 => ?_, by simp [hW]⟩
              rw [Below.heap_setCell _ _ _ _ (by simp; omega), Below.heap_setCell _ _ _ _ (by simp; omega), Below.heap_setCell _ _ _ _ (by simp; omega), hW]
            have HBL : Hid (∀ (W : World) (a1 a2 a3 : Value), W.heap = w3.heap → (∀ k, b8 + 2 ≤ k → k < w3.heap.size → (((W.setCell ⟨w.heap.size + 1, 0, none⟩ a1).setCell ⟨w.heap.size + 1, 1, none⟩ a2).setCell ⟨w.heap.size + 1, 2, none⟩ a3).heap[k]? = w3.heap[k]?) ∧ w3.heap.size ≤ (((W.setCell ⟨w.heap.size + 1, 0, none⟩ a1).setCell ⟨w.heap.size + 1, 1, none⟩ a2).setCell ⟨w.heap.size + 1, 2, none⟩ a3).heap.size) := hblk
            have HS1 : Hid (w3.heap[w.heap.size + 1]? = some (.cells #[.int .i64 0, .slice none 0 0, .int .i64 0] 29 (0, 0))) := s1
            clear hblk s1 s2 hz3
            by_cases hlt2 : am < zq.length
            · obtain ⟨bd, od, rfl, hcd⟩ : ∃ bd od, d0 = some ⟨bd, od, none⟩ ∧ w3.cell? ⟨bd, od + am, none⟩ = some (.int .u8 (zq.getD am 0)) := by
                rcases sl_of_own sD with ⟨e, _⟩ | ⟨_, b, off, c', e, hbl, _, hcell⟩
                · rw [e] at hlt2; simp at hlt2
                · injection e with e
                  exact ⟨b, off, e, hcell am hlt2⟩
              have hzb : 0 ≤ zq.getD am 0 ∧ zq.getD am 0 < 256 := by
                refine hoq _ ?_
                rw [List.getD_eq_getElem?_getD, List.getElem?_eq_getElem hlt2]
                exact List.getElem_mem hlt2
              obtain ⟨hzb0, hzb1⟩ := hzb
              have HV : Hid (byteAt zq (at_ % size).toNat = zq.getD am 0) := by
                show byteAt zq (at_ % size).toNat = zq.getD am 0
                unfold byteAt
                rw [ham, Int.toNat_natCast, if_pos hlt2]
              generalize zq.getD am 0 = zb at *
              have hl2' : (am : Int) < (zq.length : Int) := by omega
              have hbdn : bd ≠ w.heap.size + 1 := by
                have := (sD.lt bd rfl).1
                omega
              have hbn : b8 + 1 ≠ w.heap.size + 1 := by omega
              have hn0 : w.heap.size ≠ w.heap.size + 1 := by omega
              clear hoq sD
              go_quiet (fail)
              go_wp2_with fail
              go_region
              all_goals go_wp2_with fail
              all_goals
                have hF := c3_setAll (w := w3.drewN (nq + 1)) HS1.out (.int .i64 size) (.slice y0 y1 y2) (.int .i64 f)
                refine bodyPost_ret (results_cell_tmp_row rfl _ _ (w.heap.size + 1) 29 _ (0, 0) _ rfl hF Try.underlying29 rfl (by kernel_rfl)) rfl ?_
                rw [HRES.out, HV.out]
                obtain ⟨hh1, hh2⟩ := HBL.out (w3.drewN (nq + 1)) (.int .i64 size) (.slice y0 y1 y2) (.int .i64 f) rfl
                exact ⟨⟨_, rfl, ⟨_, _, _, rfl⟩, fun w'' g1'' g2'' => SR.out w'' (fun k hk1 hk2 => (g1'' k (by omega) (Nat.lt_of_lt_of_le hk2 hh2)).trans (hh1 k hk1 hk2)) (Nat.le_trans hh2 g2'')⟩, (((below_drewN hB3 (nq + 1)).setCell (by simp) _).setCell (by simp) _).setCell (by simp) _⟩
            · have hge : (zq.length : Int) ≤ (am : Int) := by omega
              have HV : Hid (byteAt zq (at_ % size).toNat = -1) := by
                show byteAt zq (at_ % size).toNat = -1
                unfold byteAt
                rw [ham, Int.toNat_natCast, if_neg hlt2]
              clear hoq sD
              go_quiet (fail)
              go_wp2_with fail
              have hF := c3_setAll (w := w3.drewN nq) HS1.out (.int .i64 size) (.slice y0 y1 y2) (.int .i64 f)
              refine bodyPost_ret (results_cell_tmp_row rfl _ _ (w.heap.size + 1) 29 _ (0, 0) _ rfl hF Try.underlying29 rfl (by kernel_rfl)) rfl ?_
              rw [HRES.out, HV.out]
              obtain ⟨hh1, hh2⟩ := HBL.out (w3.drewN nq) (.int .i64 size) (.slice y0 y1 y2) (.int .i64 f) rfl
              exact ⟨⟨_, rfl, ⟨_, _, _, rfl⟩, fun w'' g1'' g2'' => SR.out w'' (fun k hk1 hk2 => (g1'' k (by omega) (Nat.lt_of_lt_of_le hk2 hh2)).trans (hh1 k hk1 hk2)) (Nat.le_trans hh2 g2'')⟩, (((below_drewN hB3 nq).setCell (by simp) _).setCell (by simp) _).setCell (by simp) _⟩
        · exact absurd HC.out.2.1 hl6
end Go.Proofs.Ytlifedkieeogdag
