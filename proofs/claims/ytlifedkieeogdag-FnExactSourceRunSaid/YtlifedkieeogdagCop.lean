/- A copy of a page, of pages, of a source, in new memory. -/
import Derived.Test.YtlifedkieeogdagSiz
namespace Go.Proofs.Ytlifedkieeogdag
open Go.Maps Go.RowKit Go.Deep
theorem three (w : World) (o0 o1 o2 : Obj) : Below w.heap.size w (((w.alloc o0).alloc o1).alloc o2) ∧ ∀ w1, Below (((w.alloc o0).alloc o1).alloc o2).heap.size (((w.alloc o0).alloc o1).alloc o2) w1 →
    w1.heap[w.heap.size]? = some o0 ∧ w1.heap[w.heap.size + 1]? = some o1 ∧ w1.heap[w.heap.size + 1 + 1]? = some o2 ∧ Below w.heap.size w w1 ∧ w.heap.size + 3 ≤ w1.heap.size := by
  have hB : Below w.heap.size w (((w.alloc o0).alloc o1).alloc o2) := (((Below.refl _ w).alloc (Nat.le_refl _) _).alloc (by simp) _).alloc (by simp <;> omega) _
  refine ⟨hB, fun w1 hb => ⟨?_, ?_, ?_, hB.stp hb, by have := hb.size; simp at this; omega⟩⟩
  · rw [hb.block _ (by simp <;> omega), Below.heap_alloc _ _ _ (by simp <;> omega), Below.heap_alloc _ _ _ (by simp)]
    exact heap_alloc_new w _
  · rw [hb.block _ (by simp <;> omega), Below.heap_alloc _ _ _ (by simp)]
    have := heap_alloc_new (w.alloc o0) o1
    simpa using this
  · rw [hb.block _ (by simp)]
    have := heap_alloc_new ((w.alloc o0).alloc o1) o2
    simpa using this
section
variable {w : World} {b : Nat} {x0 x1 : Value} {t : TypeId}
theorem c2_0 (h : w.heap[b]? = some (.cells #[x0, x1] t (0, 0))) : w.cell? ⟨b, 0, none⟩ = some x0 := by simp [World.cell?, h]
theorem c2_1 (h : w.heap[b]? = some (.cells #[x0, x1] t (0, 0))) : w.cell? ⟨b, 1, none⟩ = some x1 := by simp [World.cell?, h]
theorem c2_f (h : w.heap[b]? = some (.cells #[x0, x1] t (0, 0))) (i : Nat) : w.frozen? ⟨b, i, none⟩ = false := by simp [World.frozen?, h]
theorem c2_setAll (h : w.heap[b]? = some (.cells #[x0, x1] t (0, 0))) (a0 a1 : Value) : ((w.setCell ⟨b, 0, none⟩ a0).setCell ⟨b, 1, none⟩ a1).heap[b]? = some (.cells #[a0, a1] t (0, 0)) := by
  simp [World.setCell, Array.getElem?_modify, h]
end
set_option maxHeartbeats 2000000 in
theorem toP_ (w : World) (x : Int) (a : Option Addr) (c : Nat) (zs : List Int) (hS : Sl w.heap.size w (.slice a zs.length c) zs) (hz : zs.length ≤ 1048576) :
    Calls Try.prog 43 #[.agg #[.int .i64 x, .slice a zs.length c]] w fun e w' => (∃ d, e = .returned (.agg #[.int .i64 x, d]) ∧ isSl d ∧ w'.ownsRow w.heap.size 5 1 d zs.length (u8s zs)) ∧ Below w.heap.size w w' := by
  obtain ⟨hB, hT⟩ := three w (.cells #[.int .i64 x, .slice a zs.length c] 65) (.cells #[.int .i64 0, .slice none 0 0] 51) (.cells #[.int .i64 x, .slice none 0 0] 51)
  have hC := toB_ (.slice a zs.length c) zs _ _ (hS.stays hB) hz
  have HT : Hid _ := hT
  clear hS hB hT
  go_enter Try.func43, Try.ntmps43
  go_wp2_with fail
  refine hC.mono ?_
  rintro e w1 ⟨⟨cc, rfl, hown⟩, hb1⟩
  obtain ⟨_, r1, r2, hB1, hsz⟩ := HT.out w1 hb1
  clear hC HT hb1
  have e0 := c2_0 r2
  have e1 := c2_1 r2
  have ef := c2_f r2 1
  have z0 := c2_0 r1
  have z1 := c2_1 r1
  have y0 := c2_f r1 0
  have y1 := c2_f r1 1
  have hown' := hown
  generalize hgv : (Value.slice (some ⟨(((w.alloc (.cells #[.int .i64 x, .slice a zs.length c] 65)).alloc (.cells #[.int .i64 0, .slice none 0 0] 51)).alloc (.cells #[.int .i64 x, .slice none 0 0] 51)).heap.size, 0, none⟩) zs.length cc) = dv at *
  obtain ⟨d0, d1, d2, rfl⟩ : isSl dv := ⟨_, _, _, hgv.symm⟩
  have hlow : ∀ k, (Value.slice d0 d1 d2).ownBlock = some k → w.heap.size + 3 ≤ k := fun k hk => by have := (hown.lt k hk).1; simp at this; omega
  have HO : Hid (w1.ownsRow w.heap.size 5 1 (.slice d0 d1 d2) zs.length (u8s zs)) := ⟨hown.1, hown.2.imp id (fun ⟨g, cap, cur, e, hb, r⟩ => ⟨g, cap, cur, e, by simp at hb; omega, r⟩)⟩
  clear hown hown' hgv
  go_wp2_with fail
  have k2 : (w1.setCell ⟨w.heap.size + 1 + 1, 1, none⟩ (.slice d0 d1 d2)).heap[w.heap.size + 1]? = some (.cells #[.int .i64 0, .slice none 0 0] 51 (0, 0)) := (Below.heap_setCell _ _ _ _ (by simp)).trans r1
  have hF := c2_setAll k2 (.int .i64 x) (.slice d0 d1 d2)
  try simp only [Exit.inBlock, Exit.then]
  refine bodyPost_ret (results_cell_row rfl _ _ (w.heap.size + 1) 51 _ (0, 0) _ rfl hF Try.underlying51 rfl (by kernel_rfl)) rfl ?_
  refine ⟨⟨_, rfl, ⟨_, _, _, rfl⟩, ?_⟩, ((hB1.setCell (by simp; omega) _).setCell (by simp) _).setCell (by simp) _⟩
  refine ⟨HO.out.1, ?_⟩
  rcases HO.out.2 with h | ⟨g, cap, cur, e, hb, hg, r⟩
  · exact .inl h
  · have := hlow g (by rw [e]; rfl)
    refine .inr ⟨g, cap, cur, e, hb, ?_, r⟩
    rw [Below.heap_setCell _ _ _ _ (by simp; omega), Below.heap_setCell _ _ _ _ (by simp; omega), Below.heap_setCell _ _ _ _ (by simp; omega)]
    exact hg
def zz (j : Nat) : Value := (#[Value.int .i64 0, .slice none 0 0] : Array Value)[j % 2]!
theorem cellsP_snoc (rs : List Pv) (p : Pv) : cellsP (rs ++ [p]) = cellsP rs ++ [.int .i64 p.1, p.2] := by simp [cellsP]
theorem cells_step {rs : List Pv} {k : Nat} (hk : rs.length = k) (p : Pv) (j : Nat) :
    (if j = k * 2 + 1 then p.2 else if j = k * 2 then Value.int .i64 p.1 else (cellsP rs)[j]?.getD (zz j)) = (cellsP (rs ++ [p]))[j]?.getD (zz j) := by
  have hl := cellsP_len rs
  rw [cellsP_snoc, List.getElem?_append]
  by_cases h1 : j < (cellsP rs).length
  · rw [if_pos h1, if_neg (by omega), if_neg (by omega)]
  · rw [if_neg h1]
    by_cases h2 : j = k * 2
    · rw [if_neg (by omega), if_pos h2]
      have : j - (cellsP rs).length = 0 := by omega
      rw [this]; rfl
    · by_cases h3 : j = k * 2 + 1
      · rw [if_pos h3]
        have : j - (cellsP rs).length = 1 := by omega
        rw [this]; rfl
      · rw [if_neg h3, if_neg h2, List.getElem?_eq_none (by omega), List.getElem?_eq_none (by simp; omega)]
/-- How far the copy is. -/
structure Cpy (H n : Nat) (w : World) (k : Nat) (qs : List Pg) (rs : List Pv) : Prop where
  len : rs.length = k
  row : w.rowIs H 51 (n * 2) (fun j => (cellsP rs)[j]?.getD (zz j))
  each : DO (H + 1) w rs (qs.take k)
  apart : rs.Pairwise (fun p p' => far p.2 p'.2)
theorem made_zz (n j : Nat) (h : j < n) : (madeCells #[Value.int .i64 0, .slice none 0 0] n)[j]? = some (zz j) := by
  unfold madeCells zz
  simp [h]
set_option maxHeartbeats 4000000 in
theorem toPs_ (w : World) (v : Value) (qs : List Pg) (hV : Rdp w v qs) (ht : tot qs ≤ 1048576) :
    Calls Try.prog 31 #[v] w fun e w' => (∃ v', e = .returned v' ∧ Own w.heap.size w' v' qs) ∧ Below w.heap.size w w' := by
  obtain ⟨a, c, rfl⟩ := hV.sl
  have hlen : qs.length ≤ 1048576 := Nat.le_trans (tot_len qs) ht
  have HV : Hid (Rdp w (.slice a qs.length c) qs) := hV
  have HT : Hid (tot qs ≤ 1048576) := ht
  clear hV ht
  obtain ⟨ti, hti, hz0, hz1, hz2⟩ := info_parts infoPg
  have hmk : ∀ w : World, (Instr.makeSlice 27 (.int .i64 (qs.length : Int)) (.int .i64 (qs.length : Int))).run Try.prog w = .ok (.slice (some ⟨w.heap.size, 0, none⟩) qs.length qs.length) (w.alloc (.cells (madeCells #[.int .i64 0, .slice none 0 0] (qs.length * 2)) 51)) := by
    intro w
    have := run_make (P := Try.prog) w 27 51 ti _ Try.underlying27 hti hz0 .i64 .i64 qs.length qs.length (by omega) (Int.le_refl _) (by rw [hz2]; omega) (by omega)
    rw [hz1] at this
    simpa [Value.cells] using this
  clear hti hz0 hz1 hz2
  go_enter Try.func31, Try.ntmps31
  go_wp2_with fail
  go_loopw [4] (fun i wr => ∃ (k : Nat) (rs : List Pv), k ≤ qs.length ∧ i = .int .i64 k ∧ Hid (Cpy w.heap.size qs.length wr k qs rs) ∧ Below w.heap.size w wr) (fun i _ => qs.length - (intOf i).toNat)
  case atStart =>
    refine ⟨0, [], Nat.zero_le _, rfl, ⟨rfl, ?_, trivial, List.Pairwise.nil⟩, (Below.refl _ _).alloc (Nat.le_refl _) _⟩
    have := World.rowIs_alloc w (madeCells #[.int .i64 0, .slice none 0 0] (qs.length * 2)) 51 zz (fun i hi => made_zz _ i (by rw [size_madeCells] at hi; exact hi))
    rw [size_madeCells] at this
    exact this.congr (fun i hi => by simp [cellsP])
  case round =>
    obtain ⟨k, rs, hk, rfl, HC, hb⟩ := hrel
    by_cases hlt : k < qs.length
    · obtain ⟨ps, hP, hQ⟩ := HV.out
      obtain ⟨⟨qx, zs⟩, hq⟩ : ∃ q, qs[k]? = some q := ⟨_, List.getElem?_eq_getElem hlt⟩
      obtain ⟨⟨x, pd⟩, hp⟩ : ∃ p, ps[k]? = some p := ⟨_, List.getElem?_eq_getElem (by rw [hQ.len]; exact hlt)⟩
      obtain ⟨ex, hsl⟩ := PQ.nth hQ hp hq
      obtain rfl : x = qx := ex
      have hne : ps ≠ [] := fun e => by rw [e] at hp; simp at hp
      obtain ⟨da, dc, rfl⟩ := sl_len hsl
      obtain ⟨b, off, rfl, c1, c2⟩ : ∃ b off, a = some ⟨b, off, none⟩ ∧ wr.cell? ⟨b, off + k * 2, none⟩ = some (.int .i64 x) ∧ wr.cell? ⟨b, off + k * 2 + 1, none⟩ = some (.slice da zs.length dc) := by
        rcases hP with ⟨e, _⟩ | ⟨_, b, off, _, e, hbl, _, hcell⟩
        · exact absurd e hne
        · injection e with e
          exact ⟨b, off, e, by rw [hb.cell hbl]; exact (hcell k _ hp).1, by rw [hb.cell hbl]; exact (hcell k _ hp).2⟩
      have hzl : zs.length ≤ 1048576 := Nat.le_trans (tot_mem (List.mem_of_getElem? hq)) HT.out
      have hE := toP_ wr x da dc zs (hsl.later hb) hzl
      have HQ : Hid (qs[k]? = some (x, zs)) := hq
      have hlt' : (k : Int) < (qs.length : Int) := by omega
      have hszH := HC.out.row.lt
      clear hP hQ hp hq hsl hne hzl
      go_wp2_with fail
      refine hE.mono ?_
      rintro e w1 ⟨⟨d, rfl, hsd, hown⟩, hb1⟩
      obtain ⟨d0, d1, d2, rfl⟩ := hsd
      have hrow := HC.out.row.of_block (hb1.block _ hszH)
      have k1 : w1.cell? ⟨w.heap.size, k * 2, none⟩ = some _ := hrow.cell (by omega)
      have k2 : w1.cell? ⟨w.heap.size, k * 2 + 1, none⟩ = some _ := hrow.cell (by omega)
      have f1 := hrow.frozen (k * 2)
      have f2 := hrow.frozen (k * 2 + 1)
      have hB1 := hb.stp hb1
      have hszr := hb.size
      have RA : Hid (Cpy w.heap.size qs.length ((w1.setCell ⟨w.heap.size, k * 2, none⟩ (.int .i64 x)).setCell ⟨w.heap.size, k * 2 + 1, none⟩ (.slice d0 d1 d2)) (k + 1) qs (rs ++ [(x, .slice d0 d1 d2)])) := by
        have hoth : ∀ j, w.heap.size + 1 ≤ j → ((w1.setCell ⟨w.heap.size, k * 2, none⟩ (.int .i64 x)).setCell ⟨w.heap.size, k * 2 + 1, none⟩ (.slice d0 d1 d2)).heap[j]? = w1.heap[j]? := fun j hj => by
          rw [Below.heap_setCell _ _ _ _ (by simp; omega), Below.heap_setCell _ _ _ _ (by simp; omega)]
        have hdo : DO (w.heap.size + 1) w1 rs (qs.take k) := HC.out.each.stays hb1 (Nat.le_refl _)
        have hlts := HC.out.each.lt
        refine ⟨by simp [HC.out.len], ((hrow.set (k * 2) _).set (k * 2 + 1) _).congr (fun j _ => cells_step HC.out.len (x, .slice d0 d1 d2) j), ?_, ?_⟩
        · have e : qs.take (k + 1) = qs.take k ++ [(x, zs)] := by rw [List.take_add_one, HQ.out]; rfl
          rw [e]
          have h1 : DO (w.heap.size + 1) ((w1.setCell ⟨w.heap.size, k * 2, none⟩ (.int .i64 x)).setCell ⟨w.heap.size, k * 2 + 1, none⟩ (.slice d0 d1 d2)) (rs ++ [(x, .slice d0 d1 d2)]) (qs.take k ++ [(x, zs)]) := by
            have h0 : DO (w.heap.size + 1) w1 (rs ++ [(x, .slice d0 d1 d2)]) (qs.take k ++ [(x, zs)]) := hdo.snoc rfl ⟨hown.1, hown.2.imp id (fun ⟨g, cap, cur, e, hb, r⟩ => ⟨g, cap, cur, e, by omega, r⟩)⟩
            have gen : ∀ {ps : List Pv} {qs' : List Pg}, DO (w.heap.size + 1) w1 ps qs' → DO (w.heap.size + 1) ((w1.setCell ⟨w.heap.size, k * 2, none⟩ (.int .i64 x)).setCell ⟨w.heap.size, k * 2 + 1, none⟩ (.slice d0 d1 d2)) ps qs' := by
              intro ps
              induction ps with
              | nil => intro qs' h; cases qs' with
                | nil => trivial
                | cons _ _ => exact h.elim
              | cons p ps ih => intro qs' h; cases qs' with
                | nil => exact h.elim
                | cons q qs' => exact ⟨h.1, row_block h.2.1 (fun j hj _ => hoth j hj), ih h.2.2⟩
            exact gen h0
          exact h1
        · rw [List.pairwise_append]
          refine ⟨HC.out.apart, by simp, fun p hp y hy => ?_⟩
          obtain rfl : y = (x, Value.slice d0 d1 d2) := by simpa using hy
          intro bb h1 h2
          have := (hlts p hp bb h1).2
          have := (hown.lt bb h2).1
          omega
      have RB := (hB1.setCell (p := ⟨w.heap.size, k * 2, none⟩) (Nat.le_refl _) (.int .i64 x)).setCell (p := ⟨w.heap.size, k * 2 + 1, none⟩) (Nat.le_refl _) (.slice d0 d1 d2)
      clear hE hb1 hown hrow HC hB1
      go_wp2_with fail
      go_roundw
      case rel => exact ⟨k + 1, _, hlt, by go_num, RA, RB⟩
      case measure => simp [intOf]; omega
    · go_wp2_with fail
      go_ret
      have ek : k = qs.length := by omega
      obtain ⟨h1, h2, h3, h4⟩ := HC.out
      rw [ek, List.take_length] at h3
      refine ⟨⟨_, rfl, rs, ?_, h3.mono (by omega), ⟨?_, h4⟩⟩, hb⟩
      · have hrl : rs.length = qs.length := h3.len
        rw [hrl]
        refine own_of_row (m := qs.length) h2 rfl (by rw [cellsP_len, hrl]) (fun i hi => ?_) (by unfold maxLen; omega) (Nat.le_refl _)
        rw [List.getElem?_eq_getElem (by rw [cellsP_len, hrl]; exact hi)]
        rfl
      · intro p hp bb hb1 hb2
        have := (h3.lt p hp bb hb1).1
        have e : w.heap.size = bb := by simpa [Value.ownBlock] using hb2
        omega
set_option maxHeartbeats 2000000 in
theorem toS_ (w : World) (size f : Int) (v : Value) (qs : List Pg) (hV : Rdp w v qs) (ht : tot qs ≤ 1048576) :
    Calls Try.prog 11 #[.agg #[.int .i64 size, v, .int .i64 f]] w fun e w' => (∃ v', e = .returned (.agg #[.int .i64 size, v', .int .i64 f]) ∧ Own w.heap.size w' v' qs) ∧ Below w.heap.size w w' := by
  obtain ⟨hB, hT⟩ := three w (.cells #[.int .i64 size, v, .int .i64 f] 24) (.cells #[.int .i64 0, .slice none 0 0, .int .i64 0] 29) (.cells #[.int .i64 size, .slice none 0 0, .int .i64 0] 29)
  have hC := toPs_ _ v qs (hV.later hB) ht
  obtain ⟨a, c, rfl⟩ := hV.sl
  have HT : Hid _ := hT
  clear hV hB hT
  go_enter Try.func11, Try.ntmps11
  go_wp2_with fail
  refine hC.mono ?_
  rintro e w1 ⟨⟨vv, rfl, hown⟩, hb1⟩
  obtain ⟨r0, r1, r2, hB1, hsz⟩ := HT.out w1 hb1
  clear hC HT hb1
  obtain ⟨d0, d1, d2, rfl⟩ := hown.sl
  have HO : Hid (Own (w.heap.size + 3) w1 (.slice d0 d1 d2) qs) := Own.mono hown (by simp)
  clear hown
  have x2 := c3_2 r0
  have e0 := c3_0 r2
  have e1 := c3_1 r2
  have e2 := c3_2 r2
  have f1 := c3_f r2 1
  have f2 := c3_f r2 2
  have z0 := c3_0 r1
  have z1 := c3_1 r1
  have z2 := c3_2 r1
  have y0 := c3_f r1 0
  have y1 := c3_f r1 1
  have y2 := c3_f r1 2
  go_wp2_with fail
  have k2 : ((w1.setCell ⟨w.heap.size + 1 + 1, 1, none⟩ (.slice d0 d1 d2)).setCell ⟨w.heap.size + 1 + 1, 2, none⟩ (.int .i64 f)).heap[w.heap.size + 1]? = some (.cells #[.int .i64 0, .slice none 0 0, .int .i64 0] 29 (0, 0)) := (Below.heap_setCell _ _ _ _ (by simp)).trans ((Below.heap_setCell _ _ _ _ (by simp)).trans r1)
  have hF := c3_setAll k2 (.int .i64 size) (.slice d0 d1 d2) (.int .i64 f)
  try simp only [Exit.inBlock, Exit.then]
  refine bodyPost_ret (results_cell_row rfl _ _ (w.heap.size + 1) 29 _ (0, 0) _ rfl hF Try.underlying29 rfl (by kernel_rfl)) rfl ?_
  refine ⟨⟨_, rfl, ?_⟩, ((((hB1.setCell (by simp; omega) _).setCell (by simp; omega) _).setCell (by simp) _).setCell (by simp) _).setCell (by simp) _⟩
  refine Own.mono (Own.block HO.out (fun j hj _ => ?_)) (by omega)
  rw [Below.heap_setCell _ _ _ _ (by simp; omega), Below.heap_setCell _ _ _ _ (by simp; omega), Below.heap_setCell _ _ _ _ (by simp; omega), Below.heap_setCell _ _ _ _ (by simp; omega), Below.heap_setCell _ _ _ _ (by simp; omega)]
end Go.Proofs.Ytlifedkieeogdag
