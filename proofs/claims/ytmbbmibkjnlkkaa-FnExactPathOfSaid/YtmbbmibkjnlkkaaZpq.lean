/- Several texts in one: Jre Hsu Jky Pgd. -/
import Derived.Test.YtmbbmibkjnlkkaaZpp
import Derived.Test.YtmbbmibkjnlkkaaSnt
import Derived.Test.YtmbbmibkjnlkkaaZpe
/- The contract of impl.readingOf, the whole. -/
namespace Go.Proofs.Ytmbbmibkjnlkkaa
open Go.ChangeShapes Go.WideShapes Go.ChangeAt Go.RowKit Go.Maps
def ndEnd (es : List Ev) : Int → Option Sp := if nested es = true then nodF es es.length else fun _ => none
/-- A reading's two maps. -/
structure Rd (es : List Ev) (BN B2 : Nat) (w : World) : Prop where
  nd : ∃ m, MapM Try.prog 3 dkey Sp.val w BN m (ndEnd es)
  df : ∃ m, MapM Try.prog 3 dkey natV w B2 m (tiEnd es).defs
theorem Rd.stays {es : List Ev} {BN B2 : Nat} {w w' : World} (h : Rd es BN B2 w) (hb : Below w.heap.size w w') : Rd es BN B2 w' := by
  obtain ⟨m, h1⟩ := h.nd
  obtain ⟨n, h2⟩ := h.df
  exact ⟨⟨m, h1.same (hb.block _ h1.lt)⟩, ⟨n, h2.same (hb.block _ h2.lt)⟩⟩
theorem tellRead (b B1 B2 BN T R : Nat) (lv : Value) (w0 : World) (es : List Ev) (hS : SlE w0 lv es) (hl : totE es + es.length ≤ 1048576) :
    TellD 33 (.pointer (some ⟨T, 0, none⟩)) (.pointer (some ⟨R, 0, none⟩)) (spansF es) (fRead es) (fun x w => RdI b B1 B2 BN T R lv w0 x w) ((Ti.start, 0), fun _ => none) :=
  ⟨enters_of Try.func33 (by kernel_rfl) rfl, fun _ _ _ h hb => RdI.stays h hb, fun k n w hx hI => by
    obtain ⟨e, he⟩ := spans_at hx
    have hkl := (List.getElem?_eq_some_iff.1 hx).1
    have hsl := spansF_le es
    refine readC_any b B1 B2 BN T R lv w0 w _ es n e hS hl he hI ?_
    rw [fRead_fold, fTie2_fold]
    show 0 + ((spansF es).take k).length ≤ 1048576
    rw [List.length_take]
    omega⟩
theorem read_end (es : List Ev) : (if nested es = true then gat es (fRead es) ((Ti.start, 0), fun _ => none) es.length else ((Ti.start, 0), fun _ => none)).2 = ndEnd es ∧ (if nested es = true then gat es (fRead es) ((Ti.start, 0), fun _ => none) es.length else ((Ti.start, 0), fun _ => none)).1.1 = tiEnd es := by
  unfold ndEnd tiEnd
  by_cases h : nested es = true
  · rw [if_pos h, if_pos h, if_pos h]
    unfold gat
    rw [fRead_fold]
    refine ⟨?_, ?_⟩
    · show ((nodesTo es es.length).map (fin es)).foldl putN (fun _ => none) = _
      rw [← gat_nod]
      rfl
    · show (((nodesTo es es.length).map (fin es)).foldl (fTie2 es) (Ti.start, 0)).1 = _
      rw [fTie2_fold]
  · rw [if_neg h, if_neg h, if_neg h]
    exact ⟨rfl, rfl⟩
set_option maxHeartbeats 8000000 in
theorem readingOf_any (w : World) (v : Value) (es : List Ev) (hV : SlE w v es) (hl : totE es + es.length ≤ 1048576) (hf : ∀ e ∈ es, wfE e) :
    Calls Try.prog 20 #[v] w fun r w' => ∃ BN B2, r = .returned (.agg #[v, .map (some BN), .map (some B2)]) ∧ Rd es BN B2 w' ∧ Below w.heap.size w w' := by
  obtain ⟨a, c, rfl⟩ := hV.sl
  have hmm := @run_makeMap Try.prog
  obtain ⟨w1, hw1⟩ : ∃ w1, w.alloc (.cells #[.slice none 0 0, .map none, .map none] 43) = w1 := ⟨_, rfl⟩
  have HW1 : Hid (w.alloc (.cells #[.slice none 0 0, .map none, .map none] 43) = w1) := hw1
  have b1 : Below w.heap.size w w1 := by rw [← hw1]; exact al_belowN w _
  have s1 : w1.heap.size = w.heap.size + 1 := by rw [← hw1]; simp
  have hD1 : w1.heap[w.heap.size]? = some (.cells #[.slice none 0 0, .map none, .map none] 43 (0, 0)) := by rw [← hw1]; exact heap_alloc_new w _
  have HB1 : Hid (Below w.heap.size w w1 ∧ w1.heap.size = w.heap.size + 1) := ⟨b1, s1⟩
  have HD1 : Hid (w1.heap[w.heap.size]? = some (.cells #[.slice none 0 0, .map none, .map none] 43 (0, 0))) := hD1
  have HV : Hid (SlE w1 (.slice a es.length c) es) := hV.stays b1
  have HL : Hid (totE es + es.length ≤ 1048576 ∧ ∀ e ∈ es, wfE e) := ⟨hl, hf⟩
  have cN := newTies_any w1 a es.length c
  clear hV hl hf hw1 b1 s1 hD1
  go_enter Try.func20, Try.ntmps20
  go_wp2_with fail
  rw [HW1.out]
  refine cN.mono ?_
  rintro e w2 ⟨b, B1, B2, rfl, hI⟩
  obtain ⟨w3, hw3⟩ : ∃ w3, w2.alloc (.cells #[.pointer (some ⟨b, 0, none⟩)] 57) = w3 := ⟨_, rfl⟩
  obtain ⟨w4, hw4⟩ : ∃ w4, w3.alloc (.map #[] 0) = w4 := ⟨_, rfl⟩
  obtain ⟨w5, hw5⟩ : ∃ w5, w4.alloc (.cells #[.slice a es.length c, .map (some w3.heap.size), .map (some B2)] 43) = w5 := ⟨_, rfl⟩
  have s3 : w3.heap.size = w2.heap.size + 1 := by rw [← hw3]; simp
  have s4 : w4.heap.size = w3.heap.size + 1 := by rw [← hw4]; simp
  have b3 : Below w2.heap.size w2 w3 := by rw [← hw3]; exact al_belowN w2 _
  have b4 : Below w3.heap.size w3 w4 := by rw [← hw4]; exact al_belowN w3 _
  have b5 : Below w4.heap.size w4 w5 := by rw [← hw5]; exact al_belowN w4 _
  have l1 := hI.at_.lt
  obtain ⟨_, _, hm1⟩ := hI.nm
  obtain ⟨_, _, hm2⟩ := hI.df
  have l2 := hm1.lt
  have l3 := hm2.lt
  have hz := hI.below.size
  have t3 : w3.heap[w2.heap.size]? = some (.cells #[.pointer (some ⟨b, 0, none⟩)] 57 (0, 0)) := by rw [← hw3]; exact heap_alloc_new w2 _
  have t4 := (b4.block _ (by omega)).trans t3
  have HR : Hid (RdI b B1 B2 w3.heap.size w2.heap.size w4.heap.size (.slice a es.length c) w1 ((Ti.start, 0), fun _ => none) w5) := by
    refine ⟨hI.stays (b3.trans ((b4.mono (by omega)).trans (b5.mono (by omega)))), ⟨0, Nat.le_refl _, ?_⟩, (b5.block _ (by omega)).trans t4, ?_, ⟨by omega, by omega, by omega⟩, ⟨by omega, by omega, by omega⟩, ⟨by omega, by omega, by omega, by omega⟩, ⟨by omega, by omega, by omega, by omega⟩⟩
    · refine (MapM.made w3 Try.prog 3 dkey Sp.val).same ?_
      rw [hw4]
      exact b5.block _ (by omega)
    · rw [← hw5]
      exact heap_alloc_new w4 _
  have c0 : w4.cell? ⟨w2.heap.size, 0, none⟩ = some (.pointer (some ⟨b, 0, none⟩)) := by rw [Lib.cell_of_heap t4]; rfl
  have c3 : w4.cell? ⟨b, 3, none⟩ = some (.map (some B2)) := (TsAt.same hI.at_ ((b4.block _ (by omega)).trans (b3.block _ (by omega)))).c3
  have cE := eachNode_cl _ _ _ _ _ _ w5 _ es (HV.out.stays ((hI.below.trans (b3.mono (by omega))).trans ((b4.mono (by omega)).trans (b5.mono (by omega))))) HL.out.1 HL.out.2 (tellRead b B1 B2 w3.heap.size w2.heap.size w4.heap.size _ w1 es HV.out HL.out.1) HR.out
  have s4' : w4.heap.size = w2.heap.size + 1 + 1 := by omega
  rw [s3, s4'] at cE
  rw [s3, s4'] at HR
  have HW5 : Hid (((w2.alloc (.cells #[.pointer (some ⟨b, 0, none⟩)] 57)).alloc (.map #[] 0)).alloc (.cells #[.slice a es.length c, .map (some (w2.heap.size + 1)), .map (some B2)] 43) = w5) := by
    show _ = _
    rw [hw3, hw4, ← s3]
    exact hw5
  rw [← hw4, ← hw3] at c0 c3
  have HH2 : Hid (Below w1.heap.size w1 w2 ∧ w1.heap.size ≤ B2) := ⟨hI.below, hI.hi.2.2⟩
  clear b3 b4 b5 t3 t4 s3 s4 s4' hI hm1 hm2 l1 l2 l3 hz cN hw3 hw4 hw5
  go_wp2_with fail
  rw [HW5.out]
  refine cE.mono ?_
  rintro r w6 ⟨rfl, hJ⟩
  obtain ⟨e1, e2⟩ := read_end es
  have HJ : Hid (Rd es (w2.heap.size + 1) B2 w6 ∧ Below w1.heap.size w1 w6) := by
    obtain ⟨m, _, h1⟩ := hJ.nd
    obtain ⟨n, _, h2⟩ := hJ.ts.df
    rw [e1] at h1
    rw [e2] at h2
    exact ⟨⟨⟨m, h1⟩, ⟨n, h2⟩⟩, hJ.ts.below⟩
  have d0 := hJ.c0
  have d1 := hJ.c1
  have d2 := hJ.c2
  have hD6 : w6.heap[w.heap.size]? = some (.cells #[.slice none 0 0, .map none, .map none] 43 (0, 0)) := (HJ.out.2.block _ (by have := HB1.out.2; omega)).trans HD1.out
  have f0 := Lib.frozen_of_heap hD6 0
  have f1 := Lib.frozen_of_heap hD6 1
  have f2 := Lib.frozen_of_heap hD6 2
  have x0 : w6.cell? ⟨w.heap.size, 0, none⟩ = some (.slice none 0 0) := by rw [Lib.cell_of_heap hD6]; rfl
  have x1 : w6.cell? ⟨w.heap.size, 1, none⟩ = some (.map none) := by rw [Lib.cell_of_heap hD6]; rfl
  have x2 : w6.cell? ⟨w.heap.size, 2, none⟩ = some (.map none) := by rw [Lib.cell_of_heap hD6]; rfl
  have HD6 : Hid (w6.heap[w.heap.size]? = some (.cells #[.slice none 0 0, .map none, .map none] 43 (0, 0))) := hD6
  clear hJ e1 e2 cE c0 c3 hD6
  have HO : Hid ((((w6.setCell ⟨w.heap.size, 0, none⟩ (.slice a es.length c)).setCell ⟨w.heap.size, 1, none⟩ (.map (some (w2.heap.size + 1)))).setCell ⟨w.heap.size, 2, none⟩ (.map (some B2))).heap[w.heap.size]? = some (.cells #[.slice a es.length c, .map (some (w2.heap.size + 1)), .map (some B2)] 43 (0, 0)) ∧ Rd es (w2.heap.size + 1) B2 (((w6.setCell ⟨w.heap.size, 0, none⟩ (.slice a es.length c)).setCell ⟨w.heap.size, 1, none⟩ (.map (some (w2.heap.size + 1)))).setCell ⟨w.heap.size, 2, none⟩ (.map (some B2))) ∧ Below w.heap.size w (((w6.setCell ⟨w.heap.size, 0, none⟩ (.slice a es.length c)).setCell ⟨w.heap.size, 1, none⟩ (.map (some (w2.heap.size + 1)))).setCell ⟨w.heap.size, 2, none⟩ (.map (some B2)))) := by
    have hs := HB1.out.2
    have hb := HH2.out.1.size
    have hB2 := HH2.out.2
    refine ⟨by simp [World.setCell, Array.getElem?_modify, HD6.out], ?_, (((HB1.out.1.trans (HJ.out.2.mono (by omega))).setCell (Nat.le_refl _) _).setCell (Nat.le_refl _) _).setCell (Nat.le_refl _) _⟩
    obtain ⟨m, h1⟩ := HJ.out.1.nd
    obtain ⟨n, h2⟩ := HJ.out.1.df
    have ne1 : w2.heap.size + 1 ≠ w.heap.size := by omega
    have ne2 : B2 ≠ w.heap.size := by omega
    exact ⟨⟨m, h1.same (((Below.heap_setCell _ _ _ _ ne1).trans (Below.heap_setCell _ _ _ _ ne1)).trans (Below.heap_setCell _ _ _ _ ne1))⟩, ⟨n, h2.same (((Below.heap_setCell _ _ _ _ ne2).trans (Below.heap_setCell _ _ _ _ ne2)).trans (Below.heap_setCell _ _ _ _ ne2))⟩⟩
  clear HJ HD6 HH2 HB1 HD1 HV HL HR HW5 HW1
  go_wp2_with fail
  refine bodyPost_ret (results_cell_row rfl _ _ w.heap.size 43 _ (0, 0) _ rfl HO.out.1 Try.underlying43 rfl (by kernel_rfl)) rfl ?_
  exact ⟨_, _, rfl, HO.out.2.1, HO.out.2.2⟩
end Go.Proofs.Ytmbbmibkjnlkkaa
/- The specification's KeyText. -/
namespace Go.Proofs.Ytmbbmibkjnlkkaa
open Go.ChangeShapes Go.WideShapes Go.ChangeAt Go.RowKit
def keyText (l : List Ev) (i : Int) : ByteArray := if nested l = false ∨ i < 0 ∨ (l.length : Int) ≤ i then ByteArray.empty else keyN l i.toNat
set_option maxRecDepth 100000 in
set_option maxHeartbeats 8000000 in
theorem spec_keyText (w : World) (v : Value) (es : List Ev) (hV : SlE w v es) (hl : totE es + es.length ≤ 1048576) (i : Int) (r : ByteArray) (hr : keyText es i = r) :
    Calls Try.prog 6 #[v, .int .i64 i] w fun e w' => e = .returned (.string r) ∧ Below w.heap.size w w' := by
  obtain ⟨a, c, rfl⟩ := hV.sl
  have HV : Hid (SlE w (.slice a es.length c) es) := hV
  have HL : Hid (es.length ≤ 1048576) := by show _ ≤ _; omega
  obtain ⟨nb, hnb⟩ : ∃ nb, nested es = nb := ⟨_, rfl⟩
  have cN := spec_nested w _ es hV hl nb hnb
  have HR : Hid (keyText es i = r) := hr
  have HNB : Hid (nested es = nb) := hnb
  clear hV hl hnb hr
  go_enter Try.func6, Try.ntmps6
  go_wp2_with fail
  refine cN.mono ?_
  rintro e9 w1 ⟨rfl, hb1⟩
  have HB1 : Hid (Below w.heap.size w w1) := hb1
  clear hb1 cN
  cases nb with
  | false =>
    have HE : Hid (ByteArray.empty = r) := by show _ = _; rw [← HR.out]; unfold keyText; rw [if_pos (.inl HNB.out)]
    go_wp2_with fail
    go_ret
    exact ⟨ret_tP HE.out, HB1.out⟩
  | true =>
    by_cases h0 : i < 0
    · have HE : Hid (ByteArray.empty = r) := by show _ = _; rw [← HR.out]; unfold keyText; rw [if_pos (.inr (.inl h0))]
      go_wp2_with fail
      go_ret
      exact ⟨ret_tP HE.out, HB1.out⟩
    by_cases h1 : (es.length : Int) ≤ i
    · have HE : Hid (ByteArray.empty = r) := by show _ = _; rw [← HR.out]; unfold keyText; rw [if_pos (.inr (.inr h1))]
      have h1' : i ≥ (es.length : Int) := h1
      go_wp2_with fail
      go_ret
      exact ⟨ret_tP HE.out, HB1.out⟩
    obtain ⟨k, hk⟩ : ∃ k : Nat, i = (k : Int) := ⟨i.toNat, by omega⟩
    subst hk
    have hkl : k < es.length := by omega
    have h1' : ¬ (k : Int) ≥ (es.length : Int) := h1
    have hl' : (es.length : Int) ≤ 1048576 := by have := HL.out; omega
    have HKR : keyN es k = r := by rw [← HR.out]; unfold keyText; rw [if_neg (by rw [HNB.out]; simp; omega)]; rfl
    have cE := key_any w1 _ es (HV.out.stays HB1.out) HL.out k hkl
    rw [HKR] at cE
    clear HKR
    clear h0 h1
    go_wp2_with fail
    refine cE.mono ?_
    rintro e9 w2 ⟨rfl, hb2⟩
    have HB2 : Hid (Below w.heap.size w w2) := HB1.out.trans (hb2.mono HB1.out.size)
    clear hb2 cE
    go_wp2_with fail
    go_ret
    exact ⟨rfl, HB2.out⟩
end Go.Proofs.Ytmbbmibkjnlkkaa
/- The contracts of impl's reading.keyText and of impl.KeyText. -/
namespace Go.Proofs.Ytmbbmibkjnlkkaa
open Go.ChangeShapes Go.WideShapes Go.ChangeAt Go.RowKit Go.Maps
theorem defN_lt (l : List Ev) (i : Nat) : defN l i < (i : Int) ∧ -1 ≤ defN l i := by
  unfold defN
  split
  · exact ⟨by omega, by omega⟩
  · exact defG_lt l i _ i
def aimI (es : List Ev) (i : Int) : Int := match (tiEnd es).defs i with | none => i | some d => (d : Int)
theorem textN_no {es : List Ev} {i : Nat} (h : nodB es i = false) : textN es i = ByteArray.empty := by
  unfold nodB at h
  unfold textN
  split
  · rfl
  · rename_i e he
    rw [he] at h
    simp only at h
    rw [if_neg]
    intro h5
    unfold nodE at h
    rw [h5] at h
    simp at h
theorem tiEnd_defs {es : List Ev} (h : nested es = true) (i : Int) : (tiEnd es).defs i = if 0 ≤ i ∧ i < (es.length : Int) ∧ kindAt es i.toNat = 6 ∧ 0 ≤ defN es i.toNat then some (defN es i.toNat).toNat else none := by
  unfold tiEnd
  rw [if_pos h]
  exact (ti_gat h es.length (Nat.le_refl _)).defs i
theorem tiEnd_no {es : List Ev} (h : nested es = false) (i : Int) : (tiEnd es).defs i = none := by
  unfold tiEnd
  rw [if_neg (by rw [h]; simp)]
  rfl
theorem ndEnd_no {es : List Ev} (h : nested es = false) (i : Int) : ndEnd es i = none := by
  unfold ndEnd
  rw [if_neg (by rw [h]; simp)]
theorem ndEnd_is {es : List Ev} (h : nested es = true) (i : Int) : ndEnd es i = if 0 ≤ i ∧ i < (es.length : Int) ∧ nodB es i.toNat = true then some (fin es i.toNat) else none := by
  unfold ndEnd
  rw [if_pos h]
  rfl
/-- What a key is called, by the reading's maps. -/
theorem key_read (es : List Ev) (i : Int) : keyText es i = (match ndEnd es (aimI es i) with | none => ByteArray.empty | some _ => textN es (aimI es i).toNat) := by
  cases h : nested es with
  | false =>
    rw [ndEnd_no h]
    unfold keyText
    rw [if_pos (.inl h)]
  | true =>
    have hm : ∀ j : Int, 0 ≤ j → (match ndEnd es j with | none => ByteArray.empty | some _ => textN es j.toNat) = textN es j.toNat := by
      intro j hj
      rw [ndEnd_is h]
      by_cases hc : 0 ≤ j ∧ j < (es.length : Int) ∧ nodB es j.toNat = true
      · rw [if_pos hc]
      · rw [if_neg hc]
        by_cases hb : nodB es j.toNat = true
        · have hj2 : ¬ j < (es.length : Int) := fun e => hc ⟨hj, e, hb⟩
          show ByteArray.empty = _
          unfold textN
          rw [List.getElem?_eq_none (by omega)]
        · exact (textN_no (by simpa using hb)).symm
    unfold keyText
    by_cases hr : i < 0 ∨ (es.length : Int) ≤ i
    · rw [if_pos (.inr hr)]
      have ha : aimI es i = i := by
        unfold aimI
        rw [tiEnd_defs h, if_neg (by omega)]
      rw [ha, ndEnd_is h, if_neg (by omega)]
    · rw [if_neg (by rw [h]; simp; omega)]
      obtain ⟨e, he⟩ : ∃ e, es[i.toNat]? = some e := ⟨_, List.getElem?_eq_getElem (by omega)⟩
      have hk := kind_at he
      unfold keyN
      rw [he]
      show (if e.kind = 6 then (if defN es i.toNat < 0 then ByteArray.empty else textN es (defN es i.toNat).toNat) else textN es i.toNat) = _
      by_cases h6 : e.kind = 6
      · rw [if_pos h6]
        by_cases hd : defN es i.toNat < 0
        · have ha : aimI es i = i := by
            unfold aimI
            rw [tiEnd_defs h, if_neg (by omega)]
          rw [if_pos hd, ha, hm i (by omega)]
          unfold textN
          rw [he]
          show _ = if e.kind = 5 then e.text else ByteArray.empty
          rw [if_neg (by omega)]
        · have ha : aimI es i = ((defN es i.toNat).toNat : Int) := by
            unfold aimI
            rw [tiEnd_defs h, if_pos ⟨by omega, by omega, hk.trans h6, by omega⟩]
          rw [if_neg hd, ha, hm _ (by omega)]
          congr 1
      · have ha : aimI es i = i := by
          unfold aimI
          rw [tiEnd_defs h, if_neg (by rw [hk]; omega)]
        rw [if_neg h6, ha, hm i (by omega)]
set_option maxRecDepth 100000 in
set_option maxHeartbeats 8000000 in
theorem rdKeyText_any (w : World) (B BN B2 : Nat) (a : Option Addr) (c : Nat) (es : List Ev) (i : Int) (wi : (Lit.int .i64 i).wf = true) (hV : SlE w (.slice a es.length c) es) (hl : es.length ≤ 1048576) (hR : Rd es BN B2 w)
    (c0 : w.cell? ⟨B, 0, none⟩ = some (.slice a es.length c)) (c1 : w.cell? ⟨B, 1, none⟩ = some (.map (some BN))) (c2 : w.cell? ⟨B, 2, none⟩ = some (.map (some B2))) :
    Calls Try.prog 21 #[.pointer (some ⟨B, 0, none⟩), .int .i64 i] w fun r w' => r = .returned (.string (keyText es i)) ∧ Below w.heap.size w w' := by
  have hkr := key_read es i
  obtain ⟨o, ho⟩ : ∃ o, keyText es i = o := ⟨_, rfl⟩
  rw [ho] at hkr ⊢
  have HV : Hid (SlE w (.slice a es.length c) es) := hV
  obtain ⟨m, hN⟩ := hR.nd
  obtain ⟨n2, hD⟩ := hR.df
  obtain ⟨j, hj⟩ : ∃ j, aimI es i = j := ⟨_, rfl⟩
  rw [hj] at hkr
  have HK : Hid (o = (match ndEnd es j with | none => ByteArray.empty | some _ => textN es j.toNat)) := hkr
  have hwj : (Lit.int .i64 j).wf = true := by
    rw [← hj]
    unfold aimI
    cases hd : (tiEnd es).defs i with
    | none => exact wi
    | some d =>
      cases hn : nested es with
      | false => rw [tiEnd_no hn] at hd; cases hd
      | true =>
        rw [tiEnd_defs hn] at hd
        split at hd
        · injection hd with hd
          have := (defN_lt es i.toNat).1
          show (Lit.int .i64 (d : Int)).wf = true
          exact WalkArith.wf_i64 (by omega)
        · cases hd
  have HJ : Hid (aimI es i = j) := hj
  clear hj ho hkr hR
  -- the node at j
  have tail : ∀ (K : Prop), K → K := fun _ h => h
  cases hn : ndEnd es j with
  | none =>
    have HO : Hid (ByteArray.empty = o) := by show _ = _; rw [HK.out, hn]
    have hl2 := hN.look_no dkeyed Try.underlying40 (zeroSp w) (dkey_mk hwj) hn
    have HB : Hid (Below w.heap.size w (w.alloc (.cells #[.int .i64 0, .int .i64 0, .int .i64 0] 64))) := al_belowN w _
    clear hn HK hN tail hV hl
    cases hd : (tiEnd es).defs i with
    | none =>
      have hij : i = j := by have := HJ.out; unfold aimI at this; rw [hd] at this; exact this
      subst hij
      have hl1 := hD.look_no dkeyed Try.underlying41 (zeroNum w) (dkey_mk wi) hd
      clear hd hD HJ
      go_enter Try.func21, Try.ntmps21
      go_wp2_with fail
      go_ret
      exact ⟨ret_tP HO.out, HB.out⟩
    | some d =>
      have hij : (d : Int) = j := by have := HJ.out; unfold aimI at this; rw [hd] at this; exact this
      subst hij
      have hl1 := hD.look_yes dkeyed Try.underlying41 (zeroNum w) (dkey_mk wi) hd
      unfold natV at hl1
      clear hd hD HJ
      go_enter Try.func21, Try.ntmps21
      go_wp2_with fail
      go_ret
      exact ⟨ret_tP HO.out, HB.out⟩
  | some n =>
    have hl2 := hN.look_yes dkeyed Try.underlying40 (zeroSp w) (dkey_mk hwj) hn
    unfold Sp.val at hl2
    have HO : Hid (textN es j.toNat = o) := by show _ = _; rw [HK.out, hn]
    have hr : 0 ≤ j ∧ j < (es.length : Int) := by
      cases hne : nested es with
      | false => rw [ndEnd_no hne] at hn; cases hn
      | true =>
        rw [ndEnd_is hne] at hn
        split at hn
        · rename_i h; exact ⟨h.1, h.2.1⟩
        · cases hn
    obtain ⟨k, rfl⟩ : ∃ k : Nat, j = (k : Int) := ⟨j.toNat, by omega⟩
    obtain ⟨e, he⟩ : ∃ e, es[k]? = some e := ⟨_, List.getElem?_eq_getElem (by omega)⟩
    have HT : Hid ((if e.kind = 5 then e.text else ByteArray.empty) = o) := by
      have := HO.out
      rw [show (k : Int).toNat = k by omega] at this
      unfold textN at this
      rw [he] at this
      exact this
    obtain ⟨W, hW⟩ : ∃ W, w.alloc (.cells #[.int .i64 (n.at_ : Int), .int .i64 n.end_, .int .i64 n.up] 64) = W := ⟨_, rfl⟩
    have hbW : Below w.heap.size w W := by rw [← hW]; exact al_belowN w _
    obtain ⟨bb, off, rfl, _, ⟨e0, _, _, e3, _, _, _, _⟩⟩ := HV.out.at hbW he
    have hB : B < w.heap.size := World.block_lt_of_cell? w _ c0
    have d0 : W.cell? ⟨B, 0, none⟩ = some (.slice (some ⟨bb, off, none⟩) es.length c) := by rw [hbW.cell hB]; exact c0
    have HB : Hid (Below w.heap.size w W) := hbW
    have hk0 : (k : Int) < (es.length : Int) := by omega
    have HW : Hid (w.alloc (.cells #[.int .i64 (n.at_ : Int), .int .i64 n.end_, .int .i64 n.up] 64) = W) := hW
    rw [← hW] at d0 e0 e3
    obtain ⟨kd, hkd⟩ : ∃ kd, e.kind = kd := ⟨_, rfl⟩
    obtain ⟨tx, htx⟩ : ∃ tx, e.text = tx := ⟨_, rfl⟩
    rw [hkd] at e0 HT
    rw [htx] at e3 HT
    clear hn HK hN tail hV hl hbW hW HO hr hB hkd htx he hwj
    cases hd : (tiEnd es).defs i with
    | none =>
      have hij : i = (k : Int) := by have := HJ.out; unfold aimI at this; rw [hd] at this; exact this
      subst hij
      have hl1 := hD.look_no dkeyed Try.underlying41 (zeroNum w) (dkey_mk wi) hd
      clear hd hD HJ
      by_cases h5 : kd = 5
      · subst h5
        have HO : Hid (tx = o) := HT.out
        clear HT
        go_enter Try.func21, Try.ntmps21
        go_wp2_with fail
        rw [HW.out]
        go_ret
        exact ⟨ret_tP HO.out, HB.out⟩
      · have t5 : (kd == 5) = false := by rw [beq_eq_false_iff_ne]; exact h5
        have HO : Hid (ByteArray.empty = o) := by show _ = _; rw [← HT.out, if_neg h5]
        clear HT h5
        go_enter Try.func21, Try.ntmps21
        go_wp2_with fail
        rw [HW.out]
        go_ret
        exact ⟨ret_tP HO.out, HB.out⟩
    | some d =>
      have hij : (d : Int) = (k : Int) := by have := HJ.out; unfold aimI at this; rw [hd] at this; exact this
      obtain rfl : d = k := by omega
      have hl1 := hD.look_yes dkeyed Try.underlying41 (zeroNum w) (dkey_mk wi) hd
      unfold natV at hl1
      clear hd hD HJ hij
      by_cases h5 : kd = 5
      · subst h5
        have HO : Hid (tx = o) := HT.out
        clear HT
        go_enter Try.func21, Try.ntmps21
        go_wp2_with fail
        rw [HW.out]
        go_ret
        exact ⟨ret_tP HO.out, HB.out⟩
      · have t5 : (kd == 5) = false := by rw [beq_eq_false_iff_ne]; exact h5
        have HO : Hid (ByteArray.empty = o) := by show _ = _; rw [← HT.out, if_neg h5]
        clear HT h5
        go_enter Try.func21, Try.ntmps21
        go_wp2_with fail
        rw [HW.out]
        go_ret
        exact ⟨ret_tP HO.out, HB.out⟩
set_option maxHeartbeats 4000000 in
theorem implKt (w : World) (v : Value) (es : List Ev) (i : Int) (hV : SlE w v es) (hl : totE es + es.length ≤ 1048576) (hf : ∀ e ∈ es, wfE e) (wi : (Lit.int .i64 i).wf = true) :
    Calls Try.prog 8 #[v, .int .i64 i] w fun r w' => r = .returned (.string (keyText es i)) ∧ Below w.heap.size w w' := by
  obtain ⟨a, c, rfl⟩ := hV.sl
  have cR := readingOf_any w _ es hV hl hf
  have HV : Hid (SlE w (.slice a es.length c) es ∧ es.length ≤ 1048576 ∧ (Lit.int .i64 i).wf = true) := ⟨hV, by omega, wi⟩
  clear hV hl hf wi
  go_enter Try.func8, Try.ntmps8
  go_wp2_with fail
  refine cR.mono ?_
  rintro e w1 ⟨BN, B2, rfl, hR, hb1⟩
  obtain ⟨W, hW⟩ : ∃ W, w1.alloc (.cells #[.slice a es.length c, .map (some BN), .map (some B2)] 43) = W := ⟨_, rfl⟩
  have hbW : Below w1.heap.size w1 W := by rw [← hW]; exact al_belowN w1 _
  have hx : W.heap[w1.heap.size]? = some (.cells #[.slice a es.length c, .map (some BN), .map (some B2)] 43 (0, 0)) := by rw [← hW]; exact heap_alloc_new w1 _
  have HW : Hid (w1.alloc (.cells #[.slice a es.length c, .map (some BN), .map (some B2)] 43) = W) := hW
  have HB : Hid (Below w.heap.size w W) := hb1.trans (hbW.mono hb1.size)
  have HC : Hid (Calls Try.prog 21 #[.pointer (some ⟨w1.heap.size, 0, none⟩), .int .i64 i] W fun r w' => r = .returned (.string (keyText es i)) ∧ Below W.heap.size W w') :=
    rdKeyText_any W _ BN B2 a c es i HV.out.2.2 (HV.out.1.stays HB.out) HV.out.2.1 (hR.stays hbW) (by rw [Lib.cell_of_heap hx]; rfl) (by rw [Lib.cell_of_heap hx]; rfl) (by rw [Lib.cell_of_heap hx]; rfl)
  clear hb1 hbW hx hW cR hR
  go_wp2_with fail
  rw [HW.out]
  refine HC.out.mono ?_
  rintro e w2 ⟨rfl, hb2⟩
  have HB2 : Hid (Below w.heap.size w w2) := HB.out.trans (hb2.mono HB.out.size)
  clear hb2 HC
  go_wp2_with fail
  go_ret
  exact ⟨rfl, HB2.out⟩
end Go.Proofs.Ytmbbmibkjnlkkaa
/- Where a node stands in the collection around it, and the way up: plain. -/
namespace Go.Proofs.Ytmbbmibkjnlkkaa
open Go.RowKit
structure Sea where
  up : Int
  nth : Nat
  ahead : Int
def kidsA (es : List Ev) (u : Int) (k : Nat) : List Nat := (List.range k).filter (inAt es u)
def lastI (l : List Nat) : Int := match l.getLast? with | none => -1 | some a => (a : Int)
def seaOf (es : List Ev) (j : Nat) : Sea := ⟨upG es j 0, (kidsA es (upG es j 0) j).length, lastI (kidsA es (upG es j 0) j)⟩
def seatF (es : List Ev) (k : Nat) : Int → Option Sea := fun i => if 0 ≤ i ∧ i < (k : Int) ∧ nodB es i.toNat = true ∧ upG es i.toNat 0 ≠ -1 then some (seaOf es i.toNat) else none
def lastF (es : List Ev) (k : Nat) : Int → Option Nat := fun u => if u = -1 then none else (kidsA es u k).getLast?
theorem kidsA_succ (es : List Ev) (u : Int) (k : Nat) : kidsA es u (k + 1) = kidsA es u k ++ if inAt es u k = true then [k] else [] := by
  unfold kidsA
  rw [List.range_succ, List.filter_append]
  congr 1
  cases h : inAt es u k <;> simp [h]
theorem seat_no {es : List Ev} {k : Nat} (h : ¬ (nodB es k = true ∧ upG es k 0 ≠ -1)) : seatF es (k + 1) = seatF es k := by
  funext i
  unfold seatF
  by_cases e : i = (k : Int)
  · subst e
    have hk : (k : Int).toNat = k := by omega
    rw [hk, if_neg (show ¬ (0 ≤ (k : Int) ∧ (k : Int) < ((k + 1 : Nat) : Int) ∧ nodB es k = true ∧ upG es k 0 ≠ -1) from fun h' => h h'.2.2), if_neg (show ¬ (0 ≤ (k : Int) ∧ (k : Int) < (k : Int) ∧ nodB es k = true ∧ upG es k 0 ≠ -1) from fun h' => by have := h'.2.1; omega)]
  · by_cases hc : 0 ≤ i ∧ i < (k : Int) ∧ nodB es i.toNat = true ∧ upG es i.toNat 0 ≠ -1
    · rw [if_pos hc, if_pos ⟨hc.1, by omega, hc.2.2⟩]
    · rw [if_neg hc, if_neg (fun h' => hc ⟨h'.1, by omega, h'.2.2⟩)]
theorem seat_yes {es : List Ev} {k : Nat} (h : nodB es k = true) (h2 : upG es k 0 ≠ -1) : seatF es (k + 1) = putFn (seatF es k) (k : Int) (seaOf es k) := by
  funext i
  unfold putFn
  by_cases e : (k : Int) = i
  · subst e
    rw [if_pos rfl]
    unfold seatF
    rw [if_pos ⟨by omega, by omega, by rw [show (k : Int).toNat = k by omega]; exact ⟨h, h2⟩⟩, show (k : Int).toNat = k by omega]
  · rw [if_neg e]
    unfold seatF
    by_cases hc : 0 ≤ i ∧ i < (k : Int) ∧ nodB es i.toNat = true ∧ upG es i.toNat 0 ≠ -1
    · rw [if_pos hc, if_pos ⟨hc.1, by omega, hc.2.2⟩]
    · rw [if_neg hc, if_neg (fun h' => hc ⟨h'.1, by omega, h'.2.2⟩)]
theorem last_no {es : List Ev} {k : Nat} (h : ¬ (nodB es k = true ∧ upG es k 0 ≠ -1)) : lastF es (k + 1) = lastF es k := by
  funext u
  unfold lastF
  by_cases e : u = -1
  · rw [if_pos e, if_pos e]
  · rw [if_neg e, if_neg e, kidsA_succ, if_neg, List.append_nil]
    intro hi
    unfold inAt at hi
    simp only [Bool.and_eq_true, decide_eq_true_eq] at hi
    exact h ⟨hi.1, fun e2 => e (by rw [← hi.2, e2])⟩
theorem last_yes {es : List Ev} {k : Nat} (h : nodB es k = true) (h2 : upG es k 0 ≠ -1) : lastF es (k + 1) = putFn (lastF es k) (upG es k 0) k := by
  funext u
  unfold putFn
  by_cases e : upG es k 0 = u
  · subst e
    rw [if_pos rfl]
    unfold lastF
    rw [if_neg h2, kidsA_succ, if_pos (by unfold inAt; rw [h, decide_eq_true rfl]; rfl), List.getLast?_append]
    rfl
  · rw [if_neg e]
    unfold lastF
    by_cases e1 : u = -1
    · rw [if_pos e1, if_pos e1]
    · rw [if_neg e1, if_neg e1, kidsA_succ, if_neg, List.append_nil]
      intro hi
      unfold inAt at hi
      simp only [Bool.and_eq_true, decide_eq_true_eq] at hi
      exact e hi.2
/-- What take reckons of the one ahead. -/
theorem kids_last {es : List Ev} {u : Int} : ∀ {k a : Nat}, (kidsA es u k).getLast? = some a → kidsA es u k = kidsA es u a ++ [a] ∧ a < k ∧ inAt es u a = true
  | 0, _, h => by cases h
  | k + 1, a, h => by
    rw [kidsA_succ] at h ⊢
    by_cases hi : inAt es u k = true
    · rw [if_pos hi] at h ⊢
      rw [List.getLast?_append] at h
      obtain rfl : k = a := by simpa using h
      exact ⟨rfl, by omega, hi⟩
    · rw [if_neg hi, List.append_nil] at h ⊢
      obtain ⟨h1, h2, h3⟩ := kids_last h
      exact ⟨h1, by omega, h3⟩
theorem seaOf_none {es : List Ev} {k : Nat} (h : lastF es k (upG es k 0) = none) (h2 : upG es k 0 ≠ -1) : seaOf es k = ⟨upG es k 0, 0, -1⟩ := by
  unfold lastF at h
  rw [if_neg h2, List.getLast?_eq_none_iff] at h
  unfold seaOf
  rw [h]
  rfl
theorem seaOf_some {es : List Ev} {k a : Nat} (h : lastF es k (upG es k 0) = some a) (h2 : upG es k 0 ≠ -1) : seaOf es k = ⟨upG es k 0, (seaOf es a).nth + 1, (a : Int)⟩ ∧ seatF es k (a : Int) = some (seaOf es a) := by
  unfold lastF at h
  rw [if_neg h2] at h
  obtain ⟨h3, h4, h5⟩ := kids_last h
  unfold inAt at h5
  simp only [Bool.and_eq_true, decide_eq_true_eq] at h5
  refine ⟨?_, ?_⟩
  · unfold seaOf lastI
    rw [h, h5.2]
    simp only []
    congr 1
    rw [h3, List.length_append]
    rfl
  · unfold seatF
    rw [if_pos ⟨by omega, by omega, by rw [show (a : Int).toNat = a by omega]; exact ⟨h5.1, by rw [h5.2]; exact h2⟩⟩, show (a : Int).toNat = a by omega]
def stepT (es : List Ev) (s : Sea) : Sg := if kindAt es s.up.toNat = 3 then ⟨1, (s.nth : Nat), ByteArray.empty⟩ else if s.nth % 2 = 0 then ⟨3, (s.nth / 2 : Nat), ByteArray.empty⟩ else ⟨2, 0, keyText es s.ahead⟩
/-- The way up from a node, its last step first. -/
def chainF (es : List Ev) : Nat → Int → List Sg
  | 0, _ => []
  | f + 1, m => match seatF es es.length m with
    | none => []
    | some s => stepT es s :: chainF es f s.up
theorem kids_all {es : List Ev} (h : nested es = true) {u : Nat} (hu : u < es.length) : kidN es u = kidsA es (u : Int) es.length := by
  have h1 := kids_gat h (u : Int) (by omega)
  rw [gat_in] at h1
  unfold kidsOfE at h1
  rw [if_neg (by rw [h]; simp; omega), show (u : Int).toNat = u by omega] at h1
  exact h1.symm
theorem kids_split {es : List Ev} {u : Int} {i : Nat} (hi : inAt es u i = true) : ∀ d, ∃ R, kidsA es u (i + 1 + d) = kidsA es u i ++ i :: R ∧ ∀ x ∈ R, i < x
  | 0 => ⟨[], by rw [Nat.add_zero, kidsA_succ, if_pos hi], fun x hx => by cases hx⟩
  | d + 1 => by
    obtain ⟨R, h1, h2⟩ := kids_split hi d
    rw [show i + 1 + (d + 1) = (i + 1 + d) + 1 by omega, kidsA_succ, h1]
    by_cases hk : inAt es u (i + 1 + d) = true
    · refine ⟨R ++ [i + 1 + d], by rw [if_pos hk]; simp, fun x hx => ?_⟩
      rcases List.mem_append.1 hx with hx | hx
      · exact h2 x hx
      · rw [List.mem_singleton.1 hx]; omega
    · exact ⟨R, by rw [if_neg hk, List.append_nil], h2⟩
theorem lastK_at (A R : List Nat) (i : Nat) (hR : ∀ x ∈ R, i < x) : ∀ k, A.length ≤ k → k < (A ++ i :: R).length → lastK (A ++ i :: R) i k = A.length
  | 0, h, _ => by rw [lastK]; omega
  | k + 1, h, hk => by
    rw [lastK]
    by_cases e : k + 1 = A.length
    · rw [if_neg, e]
      rw [List.getD_eq_getElem?_getD, List.getElem?_append_right (by omega), e]
      simp
    · obtain ⟨x, hx⟩ : ∃ x, (A ++ i :: R)[k + 1]? = some x := ⟨_, List.getElem?_eq_getElem hk⟩
      have hx2 : x ∈ R := by
        rw [List.getElem?_append_right (by omega), show k + 1 - A.length = (k - A.length) + 1 by omega, List.getElem?_cons_succ] at hx
        exact List.mem_of_getElem? hx
      rw [if_pos (by rw [List.getD_eq_getElem?_getD, hx]; exact hR x hx2)]
      exact lastK_at A R i hR k (by omega) (by omega)
theorem up_node {es : List Ev} {i u : Nat} (hi : i ≤ es.length) (h : upG es i 0 = (u : Int)) : u < i ∧ nodB es u = true ∧ u ∈ stk es i := by
  rw [up_head es i hi] at h
  cases hs : stk es i with
  | nil => rw [hs] at h; simp [headI] at h
  | cons a r =>
    rw [hs] at h
    have ha : a = u := by
      have h0 : (a : Int) = (u : Int) := by simpa [headI] using h
      omega
    subst ha
    have hm : a ∈ stk es i := by rw [hs]; exact List.mem_cons_self ..
    obtain ⟨e, he, hc⟩ := stk_is es i a hm
    exact ⟨stk_lt es i a hm, by rw [nodB_some he]; exact col_node hc, hs ▸ hm⟩
/-- The step to a member. -/
theorem step_member {es : List Ev} (h : nested es = true) {i u : Nat} (hi : i < es.length) (hn : nodB es i = true) (hu : upG es i 0 = (u : Int)) : stepU es (kidN es u) u i = [stepT es (seaOf es i)] := by
  obtain ⟨h1, h2, h3⟩ := up_node (Nat.le_of_lt hi) hu
  have hin : inAt es (u : Int) i = true := by unfold inAt; rw [hn, hu, decide_eq_true rfl]; rfl
  obtain ⟨R, hK, hR⟩ := kids_split hin (es.length - (i + 1))
  rw [show i + 1 + (es.length - (i + 1)) = es.length by omega] at hK
  rw [kids_all h (by omega), hK]
  have hl : (kidsA es (u : Int) i ++ i :: R).length = (kidsA es (u : Int) i).length + R.length + 1 := by simp; omega
  have hk := lastK_at (kidsA es (u : Int) i) R i hR ((kidsA es (u : Int) i ++ i :: R).length - 1) (by omega) (by omega)
  unfold stepU
  rw [hk, if_neg (by omega)]
  unfold stepT seaOf
  rw [hu]
  simp only []
  rw [show (u : Int).toNat = u by omega]
  by_cases k3 : kindAt es u = 3
  · rw [if_pos k3, if_pos k3]
  · rw [if_neg k3, if_neg k3]
    by_cases hp : (kidsA es (u : Int) i).length % 2 = 0
    · rw [if_pos hp, if_pos hp]
    · rw [if_neg hp, if_neg hp]
      have hpos : 0 < (kidsA es (u : Int) i).length := by omega
      obtain ⟨a, ha⟩ : ∃ a, (kidsA es (u : Int) i).getLast? = some a := by
        cases hx : (kidsA es (u : Int) i).getLast? with
        | none => rw [List.getLast?_eq_none_iff] at hx; rw [hx] at hpos; simp at hpos
        | some a => exact ⟨a, rfl⟩
      obtain ⟨h4, h5, h6⟩ := kids_last ha
      have hg : (kidsA es (u : Int) i ++ i :: R).getD ((kidsA es (u : Int) i).length - 1) 0 = a := by
        rw [List.getD_eq_getElem?_getD, List.getElem?_append_left (by omega), ← List.getLast?_eq_getElem?, ha]
        rfl
      rw [hg]
      unfold lastI
      rw [ha]
      simp only []
      unfold keyText
      rw [if_neg (by rw [h]; simp; omega), show (a : Int).toNat = a by omega]
/-- The path of a node is the way up, told downwards. -/
theorem path_node {es : List Ev} (h : nested es = true) : ∀ (f i : Nat), i < f → i < es.length → nodB es i = true → pathF es f i = (chainF es f (i : Int)).reverse
  | 0, i, hf, _, _ => by omega
  | f + 1, i, hf, hi, hn => by
    rw [pathF, chainF]
    have hlt := upG_lt es i 0
    by_cases hu : upG es i 0 = -1
    · rw [if_pos (by omega)]
      unfold seatF
      rw [if_neg (by rw [show (i : Int).toNat = i by omega]; exact fun h' => h'.2.2.2 hu)]
      rfl
    · obtain ⟨u, hu2⟩ : ∃ u : Nat, upG es i 0 = (u : Int) := ⟨(upG es i 0).toNat, by omega⟩
      obtain ⟨h1, h2, h3⟩ := up_node (Nat.le_of_lt hi) hu2
      have hs : seatF es es.length (i : Int) = some (seaOf es i) := by
        unfold seatF
        rw [if_pos ⟨by omega, by omega, by rw [show (i : Int).toNat = i by omega]; exact ⟨hn, hu⟩⟩, show (i : Int).toNat = i by omega]
      have hup : (seaOf es i).up = (u : Int) := hu2
      rw [if_neg (by omega), hs, hu2]
      simp only [hup, show (u : Int).toNat = u by omega]
      rw [path_node h f u (by omega) (by omega) h2, List.reverse_cons]
      congr 1
      obtain ⟨e, he⟩ : ∃ e, es[i]? = some e := ⟨_, List.getElem?_eq_getElem hi⟩
      obtain ⟨e0, he0⟩ : ∃ e0, es[u]? = some e0 := ⟨_, List.getElem?_eq_getElem (by omega)⟩
      rw [if_neg, step_member h hi hn hu2]
      intro he1
      have h7 := (endN_hit he0 (by rw [nodB_some he0] at h2; exact h2) h1 he he1).1
      rw [nodB_some he] at hn
      unfold nodE at hn
      rw [h7] at hn
      simp at hn
end Go.Proofs.Ytmbbmibkjnlkkaa
