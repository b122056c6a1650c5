/- Several texts in one: Jgn Jgs Jrv. -/
import Derived.Test.YtmbbmibkjnlkkaaZps
import Derived.Deep.RegionHeld3
/- The contracts of guide.nodeFor and guide.stepTo. -/
namespace Go.Proofs.Ytmbbmibkjnlkkaa
open Go.ChangeShapes Go.WideShapes Go.ChangeAt Go.RowKit Go.Maps
theorem ret_iJ {a b : Int} (h : a = b) : Ending.returned (.int .i64 a) = .returned (.int .i64 b) := by rw [h]
theorem upOf_in (es : List Ev) (i : Int) : -1 ≤ upOf es i ∧ (upOf es i < (es.length : Int) ∨ upOf es i = -1) := by
  unfold upOf
  split
  · exact ⟨by omega, .inr rfl⟩
  · rename_i h
    have h1 := upG_lt es i.toNat 0
    exact ⟨h1.2, .inl (by omega)⟩

theorem last_nd {es : List Ev} {u : Int} (h : ndEnd es u = none) : lastE es u = none := by
  unfold lastE
  cases hn : nested es with
  | false => rw [if_neg (by simp)]
  | true =>
    rw [if_pos rfl]
    cases hl : lastF es es.length u with
    | none => rfl
    | some x =>
      unfold lastF at hl
      split at hl
      · cases hl
      · rename_i hu
        obtain ⟨h1, h2, h3⟩ := kids_last hl
        unfold inAt at h3
        simp only [Bool.and_eq_true, decide_eq_true_eq] at h3
        have hlt := upG_lt es x 0
        obtain ⟨m, hm⟩ : ∃ m : Nat, u = (m : Int) := ⟨u.toNat, by omega⟩
        obtain ⟨h5, h6, _⟩ := up_node (Nat.le_of_lt h2) (h3.2.trans hm)
        rw [ndEnd_is hn, hm, if_pos ⟨by omega, by omega, by rw [show (m : Int).toNat = m by omega]; exact h6⟩] at h
        cases h
/-- The guide and the reading, in a world. -/
structure GuW (es : List Ev) (G BS BL BN B2 : Nat) (a : Option Addr) (ca : Nat) (w : World) : Prop where
  gd : ∃ w0 c, GdI w0 G BS BL (.slice a es.length ca) BN B2 (seatE es) (lastE es) c w
  rd : Rd es BN B2 w
  sl : SlE w (.slice a es.length ca) es
theorem GuW.stays {es : List Ev} {G BS BL BN B2 : Nat} {a : Option Addr} {ca : Nat} {w w' : World} (h : GuW es G BS BL BN B2 a ca w) (hb : Below w.heap.size w w') : GuW es G BS BL BN B2 a ca w' := by
  obtain ⟨w0, c, h1⟩ := h.gd
  exact ⟨⟨w0, c, h1.stays hb⟩, h.rd.stays hb, h.sl.stays hb⟩
set_option maxRecDepth 100000 in
set_option maxHeartbeats 16000000 in
theorem nodeFor_any (es : List Ev) (G BS BL BN B2 : Nat) (a : Option Addr) (ca : Nat) (w : World) (h : GuW es G BS BL BN B2 a ca w) (hl : totE es + es.length ≤ 1048576) (hf : ∀ e ∈ es, wfE e) (i : Int) (wi : (Lit.int .i64 i).wf = true) :
    Calls Try.prog 39 #[.pointer (some ⟨G, 0, none⟩), .int .i64 i] w fun r w' => r = .returned (.int .i64 (forF es i)) ∧ Below w.heap.size w w' := by
  obtain ⟨o, ho⟩ : ∃ o, forF es i = o := ⟨_, rfl⟩
  have HF : Hid (forF es i = o) := ho
  rw [ho]
  obtain ⟨w0, c, hI⟩ := h.gd
  have g0 := hI.c0
  have g1 := hI.c1
  have HG : Hid (GuW es G BS BL BN B2 a ca w) := h
  have HL : Hid ((totE es + es.length ≤ 1048576 ∧ ∀ e ∈ es, wfE e) ∧ (Lit.int .i64 i).wf = true) := ⟨⟨hl, hf⟩, wi⟩
  obtain ⟨mN, hN⟩ := h.rd.nd
  have hG : G < w.heap.size := hI.lt
  clear ho hl hf h
  cases hnd : ndEnd es i with
  | some n =>
    have hlk := hN.look_yes dkeyed Try.underlying40 (zeroSp w) (dkey_mk wi) hnd
    unfold Sp.val at hlk
    have HO : Hid (i = o) := by show _ = _; rw [← HF.out]; unfold forF; rw [hnd]
    have HB : Hid (Below w.heap.size w (w.alloc (.cells #[.int .i64 (n.at_ : Int), .int .i64 n.end_, .int .i64 n.up] 64))) := al_belowN w _
    clear hnd hN wi hI hG g0
    go_enter Try.func39, Try.ntmps39
    go_wp2_with fail
    go_ret
    exact ⟨ret_iJ HO.out, HB.out⟩
  | none =>
    have hlk := hN.look_no dkeyed Try.underlying40 (zeroSp w) (dkey_mk wi) hnd
    obtain ⟨W, hW⟩ : ∃ W, w.alloc (.cells #[.int .i64 0, .int .i64 0, .int .i64 0] 64) = W := ⟨_, rfl⟩
    have HW : Hid (w.alloc (.cells #[.int .i64 0, .int .i64 0, .int .i64 0] 64) = W) := hW
    have hbW : Below w.heap.size w W := by rw [← hW]; exact al_belowN w _
    have HBW : Hid (Below w.heap.size w W) := hbW
    obtain ⟨u, hu⟩ : ∃ u, upOf es i = u := ⟨_, rfl⟩
    have HU : Hid (Calls Try.prog 48 #[.slice a es.length ca, .int .i64 i] W fun r w' => r = .returned (.int .i64 u) ∧ Below W.heap.size W w') := by
      have := implUpOf W (.slice a es.length ca) es i (HG.out.sl.stays hbW) HL.out.1.1 HL.out.1.2 HL.out.2
      rw [hu] at this
      exact this
    have HFO : Hid ((match lastE es u with | none => u | some x => if endU es u = i then u else (x : Int)) = o) := by
      show _ = _
      rw [← HF.out]
      unfold forF
      rw [hnd, hu]
      rfl
    have wu : (Lit.int .i64 u).wf = true := by
      have := upOf_in es i
      rw [hu] at this
      exact WalkArith.wf_i64 (by have := HL.out.1.1; omega)
    have HWU : Hid ((Lit.int .i64 u).wf = true) := wu
    have gW0 : W.cell? ⟨G, 0, none⟩ = some (.slice a es.length ca) := by rw [hbW.cell hG]; exact g0
    rw [← hW] at gW0
    clear hnd hN wi hI hG hW hbW hu wu HF
    go_enter Try.func39, Try.ntmps39
    go_wp2_with fail
    rw [HW.out]
    refine HU.out.mono ?_
    rintro r w2 ⟨rfl, hb2⟩
    have HB2 : Hid (Below w.heap.size w w2) := HBW.out.trans (hb2.mono HBW.out.size)
    have HG2 : Hid (GuW es G BS BL BN B2 a ca w2) := HG.out.stays HB2.out
    clear g0 g1 gW0 hlk hb2 HU HBW HW
    obtain ⟨w0', c', hI2⟩ := HG2.out.gd
    have k4 := hI2.c4
    have k1 := hI2.c1
    obtain ⟨mL, _, hL2⟩ := hI2.la
    obtain ⟨mN2, hN2⟩ := HG2.out.rd.nd
    clear hI2
    cases hla : lastE es u with
    | none =>
      have hlk2 := hL2.look_no dkeyed Try.underlying41 (zeroNum w2) (dkey_mk HWU.out) hla
      have HO : Hid (u = o) := by show _ = _; rw [← HFO.out, hla]
      clear hla hL2 hN2 HFO
      go_wp2_with fail
      go_ret
      exact ⟨ret_iJ HO.out, HB2.out⟩
    | some x =>
      have hlk2 := hL2.look_yes dkeyed Try.underlying41 (zeroNum w2) (dkey_mk HWU.out) hla
      unfold natV at hlk2
      have HO1 : Hid ((if endU es u = i then u else (x : Int)) = o) := by show _ = _; rw [← HFO.out, hla]
      cases hnu : ndEnd es u with
      | none => 
        -- the node around is one
        exact absurd hla (by rw [last_nd hnu]; simp)
      | some m =>
        have hlk3 := hN2.look_val dkeyed Try.underlying40 (zeroSp w2) (dkey_mk HWU.out) hnu
        unfold Sp.val at hlk3
        have hfld : ∀ W, (Instr.field 64 (.agg #[.int .i64 (m.at_ : Int), .int .i64 m.end_, .int .i64 m.up]) 1).run Try.prog W = .ok (.int .i64 m.end_) W := fun W => by kernel_rfl
        have HE : Hid ((if m.end_ = i then u else (x : Int)) = o) := by
          have := HO1.out
          unfold endU at this
          rw [hnu] at this
          exact this
        clear hla hL2 hN2 HFO hnu HO1
        by_cases he : m.end_ = i
        · have te : (m.end_ != i) = false := by rw [he]; simp
          have HO : Hid (u = o) := by show _ = _; rw [← HE.out, if_pos he]
          clear HE he
          go_wp2_with fail
          go_ret
          exact ⟨ret_iJ HO.out, HB2.out⟩
        · have te : (m.end_ != i) = true := by rw [bne_iff_ne]; exact he
          have HO : Hid ((x : Int) = o) := by show _ = _; rw [← HE.out, if_neg he]
          clear HE he
          go_wp2_with fail
          go_ret
          exact ⟨ret_iJ HO.out, HB2.out⟩
end Go.Proofs.Ytmbbmibkjnlkkaa
/- The contract of guide.stepTo. -/
namespace Go.Proofs.Ytmbbmibkjnlkkaa
open Go.ChangeShapes Go.WideShapes Go.ChangeAt Go.RowKit Go.Maps
/-- A step of a path, as it lies in an interface. -/
def stepP (s : Sg) : Value :=
  if s.kind = 1 then .iface 87 (.int .i64 s.n)
  else if s.kind = 2 then .iface 89 (.string s.text)
  else .iface 88 (.int .i64 s.n)
theorem row_sea {w : World} {b : Nat} {s : Sea} (h : w.heap[b]? = some (.cells #[.int .i64 s.up, .int .i64 (s.nth : Int), .int .i64 s.ahead] 77 (0, 0))) :
    w.cell? ⟨b, 0, none⟩ = some (.int .i64 s.up) ∧ w.cell? ⟨b, 1, none⟩ = some (.int .i64 (s.nth : Int)) ∧ w.cell? ⟨b, 2, none⟩ = some (.int .i64 s.ahead) := by
  rw [Lib.cell_of_heap h, Lib.cell_of_heap h, Lib.cell_of_heap h]; exact ⟨rfl, rfl, rfl⟩
theorem ret_vJ {a b : Value} (h : a = b) : Ending.returned a = .returned b := by rw [h]
set_option maxRecDepth 100000 in
set_option maxHeartbeats 16000000 in
theorem stepTo_any (es : List Ev) (G BS BL BN B2 : Nat) (a : Option Addr) (ca : Nat) (w : World) (h : GuW es G BS BL BN B2 a ca w) (hl : totE es + es.length ≤ 1048576) (s : Sea) (u : Nat) (hu : s.up = (u : Int)) (hul : u < es.length) (hn : s.nth ≤ 2000000) (wa : (Lit.int .i64 s.ahead).wf = true) :
    Calls Try.prog 40 #[.pointer (some ⟨G, 0, none⟩), s.val] w fun r w' => r = .returned (stepP (stepT es s)) ∧ Below w.heap.size w w' := by
  obtain ⟨o, ho⟩ : ∃ o, stepP (stepT es s) = o := ⟨_, rfl⟩
  have HO : Hid (stepP (stepT es s) = o) := ho
  rw [ho]
  obtain ⟨e, he⟩ : ∃ e, es[u]? = some e := ⟨_, List.getElem?_eq_getElem hul⟩
  have hke := kind_at he
  obtain ⟨V, hV⟩ : ∃ V, w.alloc (.cells #[.int .i64 s.up, .int .i64 (s.nth : Int), .int .i64 s.ahead] 77) = V := ⟨_, rfl⟩
  have bV : Below w.heap.size w V := by rw [← hV]; exact al_belowN w _
  have HBV : Hid (Below w.heap.size w V) := bV
  have nV : V.heap[w.heap.size]? = some (.cells #[.int .i64 s.up, .int .i64 (s.nth : Int), .int .i64 s.ahead] 77 (0, 0)) := by rw [← hV]; exact heap_alloc_new w _
  have HNV : Hid (V.heap[w.heap.size]? = some (.cells #[.int .i64 s.up, .int .i64 (s.nth : Int), .int .i64 s.ahead] 77 (0, 0))) := nV
  have HGV : Hid (GuW es G BS BL BN B2 a ca V) := h.stays bV
  have HW : Hid (w.alloc (.cells #[.int .i64 s.up, .int .i64 (s.nth : Int), .int .i64 s.ahead] 77) = V) := hV
  obtain ⟨bb, off, rfl, hbb, hE⟩ := h.sl.at (Below.refl _ w) he
  have e0 := hE.c0
  have HL : Hid (es.length ≤ 1048576) := by show _ ≤ _; omega
  have HWA : Hid ((Lit.int .i64 s.ahead).wf = true) := wa
  have hui : (u : Int) < (es.length : Int) := by omega
  have hli : (es.length : Int) ≤ 1048576 := by omega
  have hni : (s.nth : Int) ≤ 2000000 := by omega
  have hne := Bw.some V
  have d0 : ∀ m : Bw V, m.val.cell? ⟨G, 0, none⟩ = some (.slice (some ⟨bb, off, none⟩) es.length ca) := fun m => by
    obtain ⟨w0, c, hI⟩ := (HGV.out.stays m.ok).gd
    exact hI.c0
  have d1 : ∀ m : Bw V, m.val.cell? ⟨w.heap.size, 0, none⟩ = some (.int .i64 (u : Int)) := fun m => by rw [← hu]; exact (row_sea ((m.ok.block _ (Array.getElem?_eq_some_iff.1 HNV.out).1).trans HNV.out)).1
  have d2 : ∀ m : Bw V, m.val.cell? ⟨bb, off + u * 8, none⟩ = some (.int .i64 e.kind) := fun m => by
    rw [m.ok.cell (Nat.lt_of_lt_of_le hbb HBV.out.size), HBV.out.cell hbb]
    exact e0
  have HST : Hid (stepT es s = if e.kind = 3 then ⟨1, (s.nth : Nat), ByteArray.empty⟩ else if s.nth % 2 = 0 then ⟨3, (s.nth / 2 : Nat), ByteArray.empty⟩ else ⟨2, 0, keyText es s.ahead⟩) := by
    show _ = _
    unfold stepT
    rw [hu, show (u : Int).toNat = u by omega, hke]
  unfold Sea.val
  clear h hl hu hul hn wa he hke hV bV nV hE e0 ho
  by_cases h3 : e.kind = 3
  · have t3 : (e.kind == 3) = true := by rw [h3]; rfl
    have HE : Hid (.iface 87 (.int .i64 (s.nth : Int)) = o) := by show _ = _; rw [← HO.out, HST.out, if_pos h3]; rfl
    rw [h3] at d2
    clear HO HST h3 t3
    go_enter Try.func40, Try.ntmps40
    go_wp2_with fail
    rw [HW.out]
    refine wp_region_bw (w0 := V) (by kernel_rfl) (by kernel_rfl) (Below.refl _ _) ?_
    repeat (go_big_quiet_step (fail))
    refine wpQuiet_nil ?_
    rintro _ ⟨m, rfl⟩
    have q1 : m.val.cell? ⟨w.heap.size, 1, none⟩ = some (.int .i64 (s.nth : Int)) := (row_sea ((m.ok.block _ (Array.getElem?_eq_some_iff.1 HNV.out).1).trans HNV.out)).2.1
    have HB : Hid (Below w.heap.size w m.val) := HBV.out.trans (m.ok.mono HBV.out.size)
    generalize m.val = w5 at *
    clear hne d0 d1 d2
    go_wp2_with fail
    go_ret
    exact ⟨ret_vJ HE.out, HB.out⟩
  have t3 : (e.kind == 3) = false := by rw [beq_eq_false_iff_ne]; exact h3
  by_cases hp : s.nth % 2 = 0
  · have HE : Hid (.iface 88 (.int .i64 ((s.nth / 2 : Nat) : Int)) = o) := by show _ = _; rw [← HO.out, HST.out, if_neg h3, if_pos hp]; rfl
    have tm : (s.nth : Int).tmod 2 = 0 := by rw [Int.tmod_eq_emod_of_nonneg (by omega)]; omega
    have td : (s.nth : Int).tdiv 2 = ((s.nth / 2 : Nat) : Int) := by rw [Int.tdiv_eq_ediv_of_nonneg (by omega)]; omega
    have hd2 : ((s.nth / 2 : Nat) : Int) ≤ 2000000 := by omega
    clear HO HST h3
    go_enter Try.func40, Try.ntmps40
    go_wp2_with fail
    rw [HW.out]
    refine wp_region_bw (w0 := V) (by kernel_rfl) (by kernel_rfl) (Below.refl _ _) ?_
    repeat (go_big_quiet_step (fail))
    refine wpQuiet_nil ?_
    rintro _ ⟨m, rfl⟩
    have q1 : m.val.cell? ⟨w.heap.size, 1, none⟩ = some (.int .i64 (s.nth : Int)) := (row_sea ((m.ok.block _ (Array.getElem?_eq_some_iff.1 HNV.out).1).trans HNV.out)).2.1
    have HB : Hid (Below w.heap.size w m.val) := HBV.out.trans (m.ok.mono HBV.out.size)
    generalize m.val = w5 at *
    clear hne d0 d1 d2
    go_wp2_with fail
    go_ret
    exact ⟨ret_vJ HE.out, HB.out⟩
  · have HE : Hid (.iface 89 (.string (keyText es s.ahead)) = o) := by show _ = _; rw [← HO.out, HST.out, if_neg h3, if_neg hp]; rfl
    have tm : (s.nth : Int).tmod 2 = 1 := by rw [Int.tmod_eq_emod_of_nonneg (by omega)]; omega
    clear HO HST h3
    go_enter Try.func40, Try.ntmps40
    go_wp2_with fail
    rw [HW.out]
    refine wp_region_bw (w0 := V) (by kernel_rfl) (by kernel_rfl) (Below.refl _ _) ?_
    repeat (go_big_quiet_step (fail))
    refine wpQuiet_nil ?_
    rintro _ ⟨m, rfl⟩
    have hNm : m.val.heap[w.heap.size]? = some (.cells #[.int .i64 s.up, .int .i64 (s.nth : Int), .int .i64 s.ahead] 77 (0, 0)) := (m.ok.block _ (Array.getElem?_eq_some_iff.1 HNV.out).1).trans HNV.out
    have HNm : Hid (m.val.heap[w.heap.size]? = some (.cells #[.int .i64 s.up, .int .i64 (s.nth : Int), .int .i64 s.ahead] 77 (0, 0))) := hNm
    have q1 : m.val.cell? ⟨w.heap.size, 1, none⟩ = some (.int .i64 (s.nth : Int)) := (row_sea hNm).2.1
    have HB : Hid (Below w.heap.size w m.val) := HBV.out.trans (m.ok.mono HBV.out.size)
    have HGm : Hid (GuW es G BS BL BN B2 (some ⟨bb, off, none⟩) ca m.val) := HGV.out.stays m.ok
    generalize m.val = w5 at *
    clear hne d0 d1 d2 hNm
    have hne := Bw.some w5
    have f2 : ∀ m : Bw w5, m.val.cell? ⟨w.heap.size, 2, none⟩ = some (.int .i64 s.ahead) := fun m => (row_sea ((m.ok.block _ (Array.getElem?_eq_some_iff.1 HNm.out).1).trans HNm.out)).2.2
    have hK := Bw.calls (w := w5) (fun w' hw' => by
      have h5 := HGm.out.stays hw'
      obtain ⟨w0, c, hI⟩ := h5.gd
      exact rdKeyText_any w' G BN B2 (some ⟨bb, off, none⟩) ca es s.ahead HWA.out h5.sl HL.out h5.rd hI.c0 hI.c1 hI.c2)
    go_wp2_with fail
    refine wp_region_bw (w0 := w5) (by kernel_rfl) (by kernel_rfl) (Below.refl _ _) ?_
    repeat (go_big_quiet_step ((go_at_call 21; exact hK _)))
    refine wpQuiet_nil ?_
    rintro _ ⟨m, rfl⟩
    have HB2 : Hid (Below w.heap.size w m.val) := HB.out.trans (m.ok.mono HB.out.size)
    generalize m.val = w6 at *
    clear hne f2 hK
    go_wp2_with fail
    go_ret
    exact ⟨ret_vJ HE.out, HB2.out⟩
end Go.Proofs.Ytmbbmibkjnlkkaa
/- The contract of slices.Reverse for a list of steps of the call's own. -/
namespace Go.Proofs.Ytmbbmibkjnlkkaa
open Go.ChangeShapes Go.WideShapes Go.ChangeAt Go.RowKit Go.Maps
theorem cells_set {w : World} {g : Nat} {cur : Array Value} {t : TypeId} {fr : Nat × Nat} (h : w.heap[g]? = some (.cells cur t fr)) (j : Nat) (v : Value) (hj : j < cur.size) :
    ∃ cur' : Array Value, (w.setCell ⟨g, j, none⟩ v).heap[g]? = some (.cells cur' t fr) ∧ cur'.size = cur.size ∧ ∀ k, cur'[k]? = if k = j then some v else cur[k]? := by
  refine ⟨cur.setIfInBounds j v, ?_, by simp, fun k => ?_⟩
  · simp [World.setCell, Array.getElem?_modify, h]
  · rw [Array.getElem?_setIfInBounds]
    by_cases e : k = j
    · subst e; rw [if_pos rfl, if_pos rfl, if_pos hj]
    · rw [if_neg (Ne.symm e), if_neg e]
/-- So far the first i and the last i are swapped. -/
structure RvI (lo g cap : Nat) (xs : List Value) (w0 : World) (i : Nat) (w : World) : Prop where
  ex : ∃ cur : Array Value, w.heap[g]? = some (.cells cur 71 (0, 0)) ∧ cur.size = cap ∧ ∀ k, k < xs.length → cur[k]? = if k < i ∨ xs.length ≤ k + i then xs[xs.length - 1 - k]? else xs[k]?
  below : Below lo w0 w
  hlo : lo ≤ g
theorem RvI.step {lo g cap : Nat} {xs : List Value} {w0 w : World} {i j : Nat} (h : RvI lo g cap xs w0 i w) (hij : i < j) (hj : j + i + 1 = xs.length) (hc : xs.length ≤ cap) {vi vj : Value} (hi : xs[i]? = some vi) (hjv : xs[j]? = some vj) (W : World) (hW : W = (w.setCell ⟨g, i, none⟩ vj).setCell ⟨g, j, none⟩ vi) :
    RvI lo g cap xs w0 (i + 1) W := by
  subst hW
  obtain ⟨cur, h1, h2, h3⟩ := h.ex
  obtain ⟨c1, a1, a2, a3⟩ := cells_set h1 i vj (by omega)
  obtain ⟨c2, b1, b2, b3⟩ := cells_set a1 j vi (by omega)
  refine ⟨⟨c2, b1, by omega, fun k hk => ?_⟩, (h.below.setCell h.hlo _).setCell h.hlo _, h.hlo⟩
  rw [b3, a3]
  by_cases e1 : k = j
  · subst e1
    rw [if_pos rfl, if_pos (.inr (by omega)), show xs.length - 1 - k = i by omega, hi]
  · rw [if_neg e1]
    by_cases e2 : k = i
    · subst e2
      rw [if_pos rfl, if_pos (.inl (by omega)), show xs.length - 1 - k = j by omega, hjv]
    · rw [if_neg e2, h3 k hk]
      by_cases hc : k < i ∨ xs.length ≤ k + i
      · rw [if_pos hc, if_pos (by omega)]
      · rw [if_neg hc, if_neg (by omega)]
theorem RvI.done {lo g cap : Nat} {xs : List Value} {w0 w : World} {i : Nat} (h : RvI lo g cap xs w0 i w) (hd : xs.length ≤ 2 * i + 1) (hi : 2 * i ≤ xs.length + 1) (hc : xs.length ≤ cap) (hcm : cap ≤ maxLen) : w.ownsRow lo 71 1 (.slice (some ⟨g, 0, none⟩) xs.length cap) xs.length xs.reverse := by
  obtain ⟨cur, h1, h2, h3⟩ := h.ex
  refine ⟨by simp, .inr ⟨g, cap, cur, rfl, h.hlo, h1, hc, hcm, by omega, ?_⟩⟩
  apply List.ext_getElem?
  intro k
  rw [Nat.mul_one, List.getElem?_take]
  by_cases hk : k < xs.length
  · rw [if_pos hk, Array.getElem?_toList, h3 k hk, List.getElem?_reverse hk]
    by_cases hcs : k < i ∨ xs.length ≤ k + i
    · rw [if_pos hcs]
    · rw [if_neg hcs, show xs.length - 1 - k = k by omega]
  · rw [if_neg hk, List.getElem?_eq_none (by rw [List.length_reverse]; omega)]
set_option maxRecDepth 100000 in
set_option maxHeartbeats 16000000 in
theorem reverse_any (w : World) (lo g n cap : Nat) (xs : List Value) (h : w.ownsRow lo 71 1 (.slice (some ⟨g, 0, none⟩) n cap) xs.length xs) (hn : xs.length ≤ 2000000) (hx : ∀ x ∈ xs, ∃ T v, x = Value.iface T v) :
    Calls Try.prog 41 #[.slice (some ⟨g, 0, none⟩) n cap] w fun r w' => r = .returned (.tuple #[]) ∧ w'.ownsRow lo 71 1 (.slice (some ⟨g, 0, none⟩) n cap) xs.length xs.reverse ∧ Below lo w w' := by
  obtain ⟨hN, hcap, hcm, hI0⟩ : n = xs.length ∧ xs.length ≤ cap ∧ cap ≤ maxLen ∧ RvI lo g cap xs w 0 w := by
    rcases h.2 with ⟨e, _⟩ | ⟨g2, cap2, cur, e, hb, hg, hn2, hm, hsz, ht⟩
    · cases e
    · injection e with e1 e2 e3
      injection e1 with e1
      injection e1 with e1
      subst e1 e3
      refine ⟨e2, hn2, hm, ⟨⟨cur, hg, by omega, fun k hk => ?_⟩, Below.refl _ _, hb⟩⟩
      rw [if_neg (by omega), ← Array.getElem?_toList]
      have h2 := congrArg (fun l => l[k]?) ht
      simp only [Nat.mul_one] at h2
      rw [List.getElem?_take, if_pos hk] at h2
      exact h2
  subst hN
  have HC : Hid (xs.length ≤ cap ∧ cap ≤ maxLen) := ⟨hcap, hcm⟩
  have HI0 : Hid (RvI lo g cap xs w 0 w) := hI0
  have HX : Hid (∀ x ∈ xs, ∃ T v, x = Value.iface T v) := hx
  have hnI : (xs.length : Int) ≤ 2000000 := by omega
  clear h hn hcap hcm hI0 hx
  go_enter Try.func41, Try.ntmps41
  go_wp2_with fail
  go_loopw [2, 3] (fun iv jv wr => ∃ i : Nat, iv = .int .i64 (i : Int) ∧ jv = .int .i64 ((xs.length : Int) - 1 - i) ∧ 2 * i ≤ xs.length + 1 ∧ Hid (RvI lo g cap xs w i wr)) (fun iv _ _ => xs.length + 1 - (intOf iv).toNat)
  case atStart => exact ⟨0, rfl, by congr 1; simp, by omega, HI0⟩
  case round =>
    obtain ⟨i, rfl, rfl, hi, HI⟩ := hrel
    clear HI0
    by_cases hlt : (i : Int) < (xs.length : Int) - 1 - i
    · obtain ⟨j, hj⟩ : ∃ j : Nat, (xs.length : Int) - 1 - i = (j : Int) := ⟨((xs.length : Int) - 1 - i).toNat, by omega⟩
      rw [hj] at hlt ⊢
      have hji : j + i + 1 = xs.length := by omega
      obtain ⟨vi, hvi⟩ : ∃ vi, xs[i]? = some vi := ⟨_, List.getElem?_eq_getElem (by omega)⟩
      obtain ⟨vj, hvj⟩ : ∃ vj, xs[j]? = some vj := ⟨_, List.getElem?_eq_getElem (by omega)⟩
      obtain ⟨Ti, xi, rfl⟩ := HX.out vi (List.mem_of_getElem? hvi)
      obtain ⟨Tj, xj, rfl⟩ := HX.out vj (List.mem_of_getElem? hvj)
      obtain ⟨cur, h1, h2, h3⟩ := HI.out.ex
      have ci : wr.cell? ⟨g, i, none⟩ = some (.iface Ti xi) := by rw [Lib.cell_of_heap h1, h3 i (by omega), if_neg (by omega), hvi]
      have cj : wr.cell? ⟨g, j, none⟩ = some (.iface Tj xj) := by rw [Lib.cell_of_heap h1, h3 j (by omega), if_neg (by omega), hvj]
      have fi := Lib.frozen_of_heap h1 i
      have fj := Lib.frozen_of_heap h1 j
      have n1 : ¬ i = j := by omega
      have n2 : ¬ j = i := by omega
      have li : (i : Int) < (xs.length : Int) := by omega
      have lj : (j : Int) < (xs.length : Int) := by omega
      have HD : RvI lo g cap xs w i wr.drew := ⟨HI.out.ex, HI.out.below.drew, HI.out.hlo⟩
      have HS : Hid (RvI lo g cap xs w (i + 1) ((wr.drew.setCell ⟨g, i, none⟩ (.iface Tj xj)).setCell ⟨g, j, none⟩ (.iface Ti xi))) := HD.step (by omega) hji HC.out.1 hvi hvj _ rfl
      have HJ : Hid (j + i + 1 = xs.length ∧ i < j) := ⟨hji, by omega⟩
      have HJ2 : Hid ((xs.length : Int) - 1 - ((i + 1 : Nat) : Int) = (j : Int) - 1 ∧ 2 * (i + 1) ≤ xs.length + 1) := ⟨by omega, by omega⟩
      clear h1 h2 h3 hvi hvj HI hji hi hj HD
      go_wp2_with fail
      go_region
      all_goals (
        clear ci cj fi fj
        go_wp2_with fail
        go_roundw
        case rel => exact ⟨i + 1, by go_num, by rw [HJ2.out.1], HJ2.out.2, HS⟩
        case measure => have := HJ.out; simp [intOf]; omega)
    · have HD := HI.out.done (by omega) hi HC.out.1 HC.out.2
      have HD : Hid _ := HD
      have HB : Hid (Below lo w wr) := HI.out.below
      clear HI
      go_wp2_with fail
      go_end0
      exact ⟨rfl, HD.out, HB.out⟩
end Go.Proofs.Ytmbbmibkjnlkkaa
