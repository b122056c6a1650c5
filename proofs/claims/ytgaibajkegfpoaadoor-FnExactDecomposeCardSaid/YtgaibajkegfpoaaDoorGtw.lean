/- The program's teller: the beginning of a node. -/
import Derived.Test.YtgaibajkegfpoaaDoorGtv
import Derived.Deep.RegionHeld3
namespace Go.Proofs.YtgaibajkegfpoaaDoor
open Go.ChangeShapes Go.WideShapes Go.ChangeAt Go.RowKit Go.Deep
theorem ev_cells {w : World} {b : Nat} {x0 x1 x2 x3 x4 x5 x6 x7 : Value} {t : TypeId} (h : w.heap[b]? = some (.cells #[x0, x1, x2, x3, x4, x5, x6, x7] t (0, 0))) : w.cell? ⟨b, 0, none⟩ = some x0 ∧ w.cell? ⟨b, 1, none⟩ = some x1 ∧ w.cell? ⟨b, 2, none⟩ = some x2 ∧ w.cell? ⟨b, 3, none⟩ = some x3 ∧ w.cell? ⟨b, 4, none⟩ = some x4 ∧ w.cell? ⟨b, 5, none⟩ = some x5 ∧ w.cell? ⟨b, 6, none⟩ = some x6 ∧ w.cell? ⟨b, 7, none⟩ = some x7 := by
  simp [World.cell?, h]
/-- The teller with its two slices told. -/
structure TeX (P0 : World) (B : Nat) (Ps : List Nat) (S : List Int) (t : Td) (sa oa : Option Addr) (sc on oc : Nat) (w : World) : Prop where
  tr : TrAt B 57 [.slice sa S.length sc, .slice oa on oc] P0.heap.size (bks Ps t.met) w
  il : IlAt P0 (.slice sa S.length sc) S
  out : w.ownsRow P0.heap.size 44 8 (.slice oa on oc) t.out.length (rowsE t.out)
  lo : P0.heap.size ≤ B
  below : Below P0.heap.size P0 w
section
variable {P0 w0 w w' : World} {B : Nat} {Ps : List Nat} {S : List Int} {t : Td} {sa oa : Option Addr} {sc on oc : Nat}
theorem TeX.at (h : TeX P0 B Ps S t sa oa sc on oc w) : TeAt P0 B Ps S t w := ⟨⟨sa, sc, oa, on, oc, h.tr, h.il, h.out⟩, h.lo, h.below⟩
theorem TeX.stays (h : TeX P0 B Ps S t sa oa sc on oc w) (hb : Below w.heap.size w w') : TeX P0 B Ps S t sa oa sc on oc w' := ⟨h.tr.stays hb, h.il, g_row_below h.out hb, h.lo, h.below.trans (hb.mono h.below.size)⟩
/-- A block that wasn't there when the teller was as w0 has it is stored. -/
theorem TeX.set (h : TeX P0 B Ps S t sa oa sc on oc w) (h0 : TeX P0 B Ps S t sa oa sc on oc w0) {cs : Array Value} (hc : w.heap[w0.heap.size]? = some (.cells cs 44 (0, 0))) (j : Nat) (u : Value) : TeX P0 B Ps S t sa oa sc on oc (w.setCell ⟨w0.heap.size, j, none⟩ u) := by
  have hBw : B < w0.heap.size := h0.tr.lt
  obtain ⟨nv, ma, mn, mc, k1, k2, k3⟩ := h.tr.ex
  refine ⟨⟨nv, ma, mn, mc, ?_, row_set k2 (row_apart k2 hc (by decide)) _ _, ?_⟩, h.il, row_set h.out (fun e => by have := (h0.out.lt _ e).2; omega) _ _, h.lo, h.below.setCell (p := ⟨w0.heap.size, j, none⟩) (by show P0.heap.size ≤ w0.heap.size; exact h0.below.size) _⟩
  · rw [heap_setCell_other _ _ _ _ (by show B ≠ w0.heap.size; omega)]
    exact k1
  · rcases k3 with k3 | ⟨M, e, hl, hm⟩
    · exact .inl k3
    · refine .inr ⟨M, e, hl, hm.same (heap_setCell_other _ _ _ _ ?_)⟩
      rintro rfl
      obtain ⟨es, clock, he⟩ := hm.isMap
      rw [he] at hc
      cases hc
end
set_option maxRecDepth 100000 in
set_option maxHeartbeats 8000000 in
theorem begin_any {P0 : World} {B : Nat} {Ps : List Nat} {S : List Int} {g : Gr} {kn rt : Value} (hW : WebAt P0 g Ps kn rt) (hV : TabV P0) (hs : S.Pairwise (· ≤ ·)) (hsl : S.length ≤ 1048576) (i num : Nat) (n : Nd) (hx : g.nodes[i]? = some n) (t : Td) (w : World) (hT : TeAt P0 B Ps S t w) (hl : t.out.length ≤ 100000000) :
    Calls Tryd.prog 47 #[.pointer (some ⟨B, 0, none⟩), .pointer (some ⟨blk Ps (i : Int), 0, none⟩), .int .i64 (num : Int)] w fun r w' => r = .returned (.tuple #[]) ∧ TeAt P0 B Ps S { t with out := t.out ++ [evBeg n (nmS S num)] } w' := by
  obtain ⟨kv, hkb, _⟩ := hW.knot i n hx
  have hkw := (hT.below.block _ (Array.getElem?_eq_some_iff.1 hkb).1).trans hkb
  obtain ⟨bi, hbi⟩ : ∃ bi, blk Ps (i : Int) = bi := ⟨_, rfl⟩
  rw [hbi] at hkb hkw ⊢
  have c0 : w.cell? ⟨bi, 0, none⟩ = some (.int .i64 n.kind) := by simp [World.cell?, hkw, knV]
  have c1 : w.cell? ⟨bi, 1, none⟩ = some (.string n.tag) := by simp [World.cell?, hkw, knV]
  have c2 : w.cell? ⟨bi, 2, none⟩ = some (.string n.text) := by simp [World.cell?, hkw, knV]
  have hbw : bi < w.heap.size := (Array.getElem?_eq_some_iff.1 hkw).1
  have HKB : Hid (P0.heap[bi]? = some (.cells (knV n kv) 80 (0, 0))) := hkb
  obtain ⟨sa, sc, oa, on, oc, u1, u2, u3⟩ := hT.tr
  have HT : Hid (TeX P0 B Ps S t sa oa sc on oc w) := ⟨u1, u2, u3, hT.lo, hT.below⟩
  have HVV : Hid (TabV P0) := hV
  have HS := hidG hs
  have HSL : Hid (S.length ≤ 1048576) := hsl
  have HL : Hid (t.out.length ≤ 100000000) := hl
  clear hW hV hs hsl hx hT hkb hkw hbi hl u1 u2 u3
  go_enter Tryd.func47, Tryd.ntmps47
  go_wp2_with fail
  go_region_held3 (fun x => x.cell? ⟨bi, 0, none⟩ = some (.int .i64 n.kind) ∧ x.cell? ⟨bi, 1, none⟩ = some (.string n.tag) ∧ x.cell? ⟨bi, 2, none⟩ = some (.string n.text))
    (first | exact ⟨c0, c1, c2⟩ | go_keep)
    (fail)
  obtain ⟨X, hX⟩ : ∃ X, (w.alloc (.cells #[.int .i64 n.kind, .int .i64 6, .bool false, .string n.text, .string ⟨#[]⟩, .string n.tag, .int .i64 0, .int .i64 0] 44)).drew = X := ⟨_, rfl⟩
  have hBX : Below w.heap.size w X := by rw [← hX]; exact (al_belowG w _).drew
  have HXE : Hid (X.heap[w.heap.size]? = some (.cells #[.int .i64 n.kind, .int .i64 6, .bool false, .string n.text, .string ⟨#[]⟩, .string n.tag, .int .i64 0, .int .i64 0] 44 (0, 0))) := by show _ = _; rw [← hX]; exact heap_alloc_new w _
  have HTX : Hid (TeX P0 B Ps S t sa oa sc on oc X) := HT.out.stays hBX
  have d0 : X.cell? ⟨bi, 0, none⟩ = some (.int .i64 n.kind) := by rw [hBX.cell hbw]; exact c0
  rw [hX]
  clear hX hBX
  by_cases h5 : n.kind = 5
  · have h5t : (n.kind == 5) = true := by rw [beq_iff_eq]; exact h5
    have HIFK : Hid ((if n.kind = 5 then (3 : Int) else 6) = 3) := if_pos h5
    obtain ⟨Y, hY⟩ : ∃ Y, X.setCell ⟨w.heap.size, 1, none⟩ (.int .i64 3) = Y := ⟨_, rfl⟩
    have HYE : Hid (Y.heap[w.heap.size]? = some (.cells #[.int .i64 n.kind, .int .i64 3, .bool false, .string n.text, .string ⟨#[]⟩, .string n.tag, .int .i64 0, .int .i64 0] 44 (0, 0))) := by
      show _ = _
      rw [← hY]
      have := HXE.out
      simp [World.setCell, Array.getElem?_modify, this]
    have HTY0 : TeX P0 B Ps S t sa oa sc on oc Y := by rw [← hY]; exact HTX.out.set HT.out HXE.out 1 _
    have f1 : X.frozen? ⟨w.heap.size, 1, none⟩ = false := by have := HXE.out; simp [World.frozen?, this]
    have g1 : X.cell? ⟨w.heap.size, 1, none⟩ = some (.int .i64 6) := by have := HXE.out; simp [World.cell?, this]
    clear h5
    subst hY
    clear HXE HTX
    clear c0 c1 c2
    have HTY : Hid (TeX P0 B Ps S t sa oa sc on oc (X.setCell ⟨w.heap.size, 1, none⟩ (.int .i64 3))) := HTY0
    obtain ⟨nv, ma, mn, mc, t4, _, _⟩ := HTY.out.tr.ex
    have z2 := sv_2 t4
    obtain ⟨ag, hag⟩ : ∃ ag, decide ((num : Int) ∈ S) = ag := ⟨_, rfl⟩
    have cB := search_any (X.setCell ⟨w.heap.size, 1, none⟩ (.int .i64 3)) _ S (num : Int) (HTY.out.il.later HTY.out.below) HSL.out HS.out ag hag
    have HAG := hidG hag
    clear t4 hag HTY0
    go_wp2_with fail
    refine cB.mono ?_
    rintro e w2 ⟨⟨pv, rfl⟩, hb2⟩
    have HT2 : Hid (TeX P0 B Ps S t sa oa sc on oc w2) := HTY.out.stays hb2
    have E2 := (hb2.block _ (Array.getElem?_eq_some_iff.1 HYE.out).1).trans HYE.out
    have HE2 := hidG E2
    clear cB hb2 z2 d0 f1 g1
    cases ag with
    | false =>
      have HEV : Hid (evBeg n (nmS S num) = ⟨n.kind, 3, false, n.text, ⟨#[]⟩, n.tag, 0, 0⟩) := by
        show _ = _
        unfold evBeg ev0 nmS
        rw [HIFK.out, if_neg (of_decide_eq_false HAG.out)]
      have cT := tell_any ⟨n.kind, 3, false, n.text, ⟨#[]⟩, n.tag, 0, 0⟩ P0 B Ps S t w2 HT2.out.at HL.out
      rw [← HEV.out] at cT
      have HCT := hidG cT
      have hrow : (evBeg n (nmS S num)).row = #[.int .i64 n.kind, .int .i64 3, .bool false, .string n.text, .string ⟨#[]⟩, .string n.tag, .int .i64 0, .int .i64 0] := by rw [HEV.out]; rfl
      have hcT := HCT.out
      rw [hrow] at hcT
      obtain ⟨e0, e1, e2, e3, e4, e5, e6, e7⟩ := ev_cells E2
      clear E2 cT hrow
      go_wp2_with fail
      refine hcT.mono ?_
      rintro e w3 ⟨rfl, hT3⟩
      have HF := hidG hT3
      clear hcT hT3 e0 e1 e2 e3 e4 e5 e6 e7
      go_wp2_with fail
      go_end0
      exact ⟨rfl, HF.out⟩
    | true =>
      have cN := nameOf_any num w2 (HVV.out.lasts HT2.out.below)
      obtain ⟨nm, hnm⟩ : ∃ nm, nmN num = nm := ⟨_, rfl⟩
      rw [hnm] at cN
      have HEV : Hid (evBeg n (nmS S num) = ⟨n.kind, 3, false, n.text, nm, n.tag, 0, 0⟩) := by
        show _ = _
        unfold evBeg ev0 nmS
        rw [HIFK.out, if_pos (of_decide_eq_true HAG.out), hnm]
      clear E2 hnm
      go_wp2_with fail
      refine cN.mono ?_
      rintro e w3 ⟨rfl, hb3⟩
      have E3 := (hb3.block _ (Array.getElem?_eq_some_iff.1 HE2.out).1).trans HE2.out
      have HT3 : Hid (TeX P0 B Ps S t sa oa sc on oc w3) := HT2.out.stays hb3
      obtain ⟨Z, hZ⟩ : ∃ Z, w3.setCell ⟨w.heap.size, 4, none⟩ (.string nm) = Z := ⟨_, rfl⟩
      have E4 : Z.heap[w.heap.size]? = some (.cells #[.int .i64 n.kind, .int .i64 3, .bool false, .string n.text, .string nm, .string n.tag, .int .i64 0, .int .i64 0] 44 (0, 0)) := by
        rw [← hZ]
        simp [World.setCell, Array.getElem?_modify, E3]
      have HTZ : TeAt P0 B Ps S t Z := by rw [← hZ]; exact (HT3.out.set HT.out E3 4 _).at
      have cT := tell_any ⟨n.kind, 3, false, n.text, nm, n.tag, 0, 0⟩ P0 B Ps S t Z HTZ HL.out
      rw [← HEV.out] at cT
      have HCT := hidG cT
      have hrow : (evBeg n (nmS S num)).row = #[.int .i64 n.kind, .int .i64 3, .bool false, .string n.text, .string nm, .string n.tag, .int .i64 0, .int .i64 0] := by rw [HEV.out]; rfl
      have hcT := HCT.out
      rw [hrow] at hcT
      obtain ⟨e0, e1, e2, e3, e4, e5, e6, e7⟩ := ev_cells E4
      have f4 : w3.frozen? ⟨w.heap.size, 4, none⟩ = false := by simp [World.frozen?, E3]
      obtain ⟨_, _, _, _, g4, _, _, _⟩ := ev_cells E3
      subst hZ
      clear cN hb3 E3 E4 HTZ cT hrow HCT
      go_wp2_with fail
      refine hcT.mono ?_
      rintro e w4 ⟨rfl, hT4⟩
      have HF := hidG hT4
      clear hcT hT4 e0 e1 e2 e3 e4 e5 e6 e7 f4 g4
      go_wp2_with fail
      go_end0
      exact ⟨rfl, HF.out⟩
  · have h5t : (n.kind == 5) = false := by rw [beq_eq_false_iff_ne]; exact h5
    have HIFK : Hid ((if n.kind = 5 then (3 : Int) else 6) = 6) := if_neg h5
    have HYE := HXE
    have HTY0 := HTX.out
    clear h5 HXE
    clear c0 c1 c2
    have HTY : Hid (TeX P0 B Ps S t sa oa sc on oc X) := HTY0
    obtain ⟨nv, ma, mn, mc, t4, _, _⟩ := HTY.out.tr.ex
    have z2 := sv_2 t4
    obtain ⟨ag, hag⟩ : ∃ ag, decide ((num : Int) ∈ S) = ag := ⟨_, rfl⟩
    have cB := search_any X _ S (num : Int) (HTY.out.il.later HTY.out.below) HSL.out HS.out ag hag
    have HAG := hidG hag
    clear t4 hag HTY0
    go_wp2_with fail
    refine cB.mono ?_
    rintro e w2 ⟨⟨pv, rfl⟩, hb2⟩
    have HT2 : Hid (TeX P0 B Ps S t sa oa sc on oc w2) := HTY.out.stays hb2
    have E2 := (hb2.block _ (Array.getElem?_eq_some_iff.1 HYE.out).1).trans HYE.out
    have HE2 := hidG E2
    clear cB hb2 z2 d0
    cases ag with
    | false =>
      have HEV : Hid (evBeg n (nmS S num) = ⟨n.kind, 6, false, n.text, ⟨#[]⟩, n.tag, 0, 0⟩) := by
        show _ = _
        unfold evBeg ev0 nmS
        rw [HIFK.out, if_neg (of_decide_eq_false HAG.out)]
      have cT := tell_any ⟨n.kind, 6, false, n.text, ⟨#[]⟩, n.tag, 0, 0⟩ P0 B Ps S t w2 HT2.out.at HL.out
      rw [← HEV.out] at cT
      have HCT := hidG cT
      have hrow : (evBeg n (nmS S num)).row = #[.int .i64 n.kind, .int .i64 6, .bool false, .string n.text, .string ⟨#[]⟩, .string n.tag, .int .i64 0, .int .i64 0] := by rw [HEV.out]; rfl
      have hcT := HCT.out
      rw [hrow] at hcT
      obtain ⟨e0, e1, e2, e3, e4, e5, e6, e7⟩ := ev_cells E2
      clear E2 cT hrow
      go_wp2_with fail
      refine hcT.mono ?_
      rintro e w3 ⟨rfl, hT3⟩
      have HF := hidG hT3
      clear hcT hT3 e0 e1 e2 e3 e4 e5 e6 e7
      go_wp2_with fail
      go_end0
      exact ⟨rfl, HF.out⟩
    | true =>
      have cN := nameOf_any num w2 (HVV.out.lasts HT2.out.below)
      obtain ⟨nm, hnm⟩ : ∃ nm, nmN num = nm := ⟨_, rfl⟩
      rw [hnm] at cN
      have HEV : Hid (evBeg n (nmS S num) = ⟨n.kind, 6, false, n.text, nm, n.tag, 0, 0⟩) := by
        show _ = _
        unfold evBeg ev0 nmS
        rw [HIFK.out, if_pos (of_decide_eq_true HAG.out), hnm]
      clear E2 hnm
      go_wp2_with fail
      refine cN.mono ?_
      rintro e w3 ⟨rfl, hb3⟩
      have E3 := (hb3.block _ (Array.getElem?_eq_some_iff.1 HE2.out).1).trans HE2.out
      have HT3 : Hid (TeX P0 B Ps S t sa oa sc on oc w3) := HT2.out.stays hb3
      obtain ⟨Z, hZ⟩ : ∃ Z, w3.setCell ⟨w.heap.size, 4, none⟩ (.string nm) = Z := ⟨_, rfl⟩
      have E4 : Z.heap[w.heap.size]? = some (.cells #[.int .i64 n.kind, .int .i64 6, .bool false, .string n.text, .string nm, .string n.tag, .int .i64 0, .int .i64 0] 44 (0, 0)) := by
        rw [← hZ]
        simp [World.setCell, Array.getElem?_modify, E3]
      have HTZ : TeAt P0 B Ps S t Z := by rw [← hZ]; exact (HT3.out.set HT.out E3 4 _).at
      have cT := tell_any ⟨n.kind, 6, false, n.text, nm, n.tag, 0, 0⟩ P0 B Ps S t Z HTZ HL.out
      rw [← HEV.out] at cT
      have HCT := hidG cT
      have hrow : (evBeg n (nmS S num)).row = #[.int .i64 n.kind, .int .i64 6, .bool false, .string n.text, .string nm, .string n.tag, .int .i64 0, .int .i64 0] := by rw [HEV.out]; rfl
      have hcT := HCT.out
      rw [hrow] at hcT
      obtain ⟨e0, e1, e2, e3, e4, e5, e6, e7⟩ := ev_cells E4
      have f4 : w3.frozen? ⟨w.heap.size, 4, none⟩ = false := by simp [World.frozen?, E3]
      obtain ⟨_, _, _, _, g4, _, _, _⟩ := ev_cells E3
      subst hZ
      clear cN hb3 E3 E4 HTZ cT hrow HCT
      go_wp2_with fail
      refine hcT.mono ?_
      rintro e w4 ⟨rfl, hT4⟩
      have HF := hidG hT4
      clear hcT hT4 e0 e1 e2 e3 e4 e5 e6 e7 f4 g4
      go_wp2_with fail
      go_end0
      exact ⟨rfl, HF.out⟩
end Go.Proofs.YtgaibajkegfpoaaDoor
