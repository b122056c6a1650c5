/- Several texts in one: Jgd Jge. -/
import Derived.Test.YtmbbmibkjnlkkaaZpr
import Derived.Test.YtmbbmibkjnlkkaaZpb
/- impl's guide in memory; the contract of guide.take. -/
namespace Go.Proofs.Ytmbbmibkjnlkkaa
open Go.ChangeShapes Go.WideShapes Go.ChangeAt Go.RowKit Go.Maps
theorem MapM.look_val {K V : Type} {kf : K → Lit} {vf : V → Value} {f : K → Option V} {P : Program} {kt t e : TypeId} {w : World} {B n : Nat} (h : MapM P kt kf vf w B n f) (K1 : Keyed P kt) (ht : P.underlying t = some (.map kt e)) {z : Value} (hz : (zeroValue e).run P w = .ok z w) {x : K} {p : V} {key : Value} (hx : keyOf P kt key = some (kf x)) (hf : f x = some p) :
    (Instr.lookup t (.map (some B)) key false).run P w = .ok (vf p) w := by
  obtain ⟨D, h1, h2⟩ := h
  obtain ⟨v, ps, hrun, hv⟩ := h1.lookup K1 ht hz (zd := .held z) (zp := []) rfl hx
  rw [h2.at_ x p hf] at hv
  simp only [RH, Option.some.injEq, Prod.mk.injEq, DataW.held.injEq] at hv
  rw [hv.1] at hrun
  exact hrun
def Sea.val (s : Sea) : Value := .agg #[.int .i64 s.up, .int .i64 (s.nth : Int), .int .i64 s.ahead]
theorem zeroSea (w : World) : (zeroValue 77).run Try.prog w = .ok (.agg #[.int .i64 0, .int .i64 0, .int .i64 0]) w := Try.zeroValue77 w
/-- The guide at block G: the maps of the seats and of the last ones. -/
structure GdI (w0 : World) (G BS BL : Nat) (lv : Value) (BN B2 : Nat) (f1 : Int → Option Sea) (f2 : Int → Option Nat) (c : Nat) (w : World) : Prop where
  se : ∃ m, m ≤ c ∧ MapM Try.prog 3 dkey Sea.val w BS m f1
  la : ∃ m, m ≤ c ∧ MapM Try.prog 3 dkey natV w BL m f2
  at_ : w.heap[G]? = some (.cells #[lv, .map (some BN), .map (some B2), .map (some BS), .map (some BL)] 75 (0, 0))
  below : Below w0.heap.size w0 w
  hi : w0.heap.size ≤ G ∧ w0.heap.size ≤ BS ∧ w0.heap.size ≤ BL
  ne : G ≠ BS ∧ G ≠ BL ∧ BS ≠ BL
section
variable {w0 w w' : World} {G BS BL : Nat} {lv : Value} {BN B2 : Nat} {f1 : Int → Option Sea} {f2 : Int → Option Nat} {c : Nat}
theorem GdI.lt (h : GdI w0 G BS BL lv BN B2 f1 f2 c w) : G < w.heap.size := (Array.getElem?_eq_some_iff.1 h.at_).1
theorem GdI.stays (h : GdI w0 G BS BL lv BN B2 f1 f2 c w) (hb : Below w.heap.size w w') : GdI w0 G BS BL lv BN B2 f1 f2 c w' := by
  obtain ⟨m, h1, h2⟩ := h.se
  obtain ⟨n, h3, h4⟩ := h.la
  exact ⟨⟨m, h1, h2.same (hb.block _ h2.lt)⟩, ⟨n, h3, h4.same (hb.block _ h4.lt)⟩, (hb.block _ h.lt).trans h.at_, h.below.trans (hb.mono h.below.size), h.hi, h.ne⟩
theorem GdI.c0 (h : GdI w0 G BS BL lv BN B2 f1 f2 c w) : w.cell? ⟨G, 0, none⟩ = some lv := by rw [Lib.cell_of_heap h.at_]; rfl
theorem GdI.c1 (h : GdI w0 G BS BL lv BN B2 f1 f2 c w) : w.cell? ⟨G, 1, none⟩ = some (.map (some BN)) := by rw [Lib.cell_of_heap h.at_]; rfl
theorem GdI.c2 (h : GdI w0 G BS BL lv BN B2 f1 f2 c w) : w.cell? ⟨G, 2, none⟩ = some (.map (some B2)) := by rw [Lib.cell_of_heap h.at_]; rfl
theorem GdI.c3 (h : GdI w0 G BS BL lv BN B2 f1 f2 c w) : w.cell? ⟨G, 3, none⟩ = some (.map (some BS)) := by rw [Lib.cell_of_heap h.at_]; rfl
theorem GdI.c4 (h : GdI w0 G BS BL lv BN B2 f1 f2 c w) : w.cell? ⟨G, 4, none⟩ = some (.map (some BL)) := by rw [Lib.cell_of_heap h.at_]; rfl
theorem GdI.putS (h : GdI w0 G BS BL lv BN B2 f1 f2 c w) (x : Int) (s : Sea) (hx : (Lit.int .i64 x).wf = true) (hc : c ≤ 200000000) :
    ∃ w', (Instr.mapUpdate 73 (.map (some BS)) (.int .i64 x) s.val).run Try.prog w = .ok () w' ∧ GdI w0 G BS BL lv BN B2 (putFn f1 x s) f2 (c + 1) w' ∧ w.grownBy w' (some BS) := by
  obtain ⟨m, h1, h2⟩ := h.se
  obtain ⟨n, h3, h4⟩ := h.la
  obtain ⟨w', hup, hM, hg⟩ := h2.put dkey_fn dkeyed Try.underlying73 x s (dkey_mk hx) (by unfold maxLen; omega)
  exact ⟨w', hup, ⟨⟨m + 1, by omega, hM⟩, ⟨n, by omega, h4.same (hg.block BL h4.lt (by have := h.ne; simp; omega))⟩, (hg.block G h.lt (by have := h.ne; simp; omega)).trans h.at_, below_map h.below hg h.hi.2.1, h.hi, h.ne⟩, hg⟩
theorem GdI.putL (h : GdI w0 G BS BL lv BN B2 f1 f2 c w) (x : Int) (a : Nat) (hx : (Lit.int .i64 x).wf = true) (hc : c ≤ 200000000) :
    ∃ w', (Instr.mapUpdate 41 (.map (some BL)) (.int .i64 x) (.int .i64 (a : Int))).run Try.prog w = .ok () w' ∧ GdI w0 G BS BL lv BN B2 f1 (putFn f2 x a) (c + 1) w' ∧ w.grownBy w' (some BL) := by
  obtain ⟨m, h1, h2⟩ := h.se
  obtain ⟨n, h3, h4⟩ := h.la
  obtain ⟨w', hup, hM, hg⟩ := h4.put dkey_fn dkeyed Try.underlying41 x a (dkey_mk hx) (by unfold maxLen; omega)
  exact ⟨w', hup, ⟨⟨m, by omega, h2.same (hg.block BS h2.lt (by have := h.ne; simp; omega))⟩, ⟨n + 1, by omega, hM⟩, (hg.block G h.lt (by have := h.ne; simp; omega)).trans h.at_, below_map h.below hg h.hi.2.2, h.hi, h.ne⟩, hg⟩
end
/-- The seat that take gives. -/
def seaT (f1 : Int → Option Sea) (f2 : Int → Option Nat) (n : Sp) : Sea := match f2 n.up with
  | none => ⟨n.up, 0, -1⟩
  | some a => match f1 (a : Int) with
    | none => ⟨n.up, 0, (a : Int)⟩
    | some s => ⟨n.up, s.nth + 1, (a : Int)⟩
set_option maxRecDepth 100000 in
set_option maxHeartbeats 16000000 in
theorem gtake_none (w0 w : World) (G BS BL : Nat) (lv : Value) (BN B2 : Nat) (f1 : Int → Option Sea) (f2 : Int → Option Nat) (c : Nat) (n : Sp) (hI : GdI w0 G BS BL lv BN B2 f1 f2 c w) (hc : c ≤ 100000000) (hn : n.at_ ≤ 2000000) (hu : (Lit.int .i64 n.up).wf = true) (hf : f2 n.up = none) :
    Calls Try.prog 38 #[.pointer (some ⟨G, 0, none⟩), n.val] w fun r w' => r = .returned (.tuple #[]) ∧ GdI w0 G BS BL lv BN B2 (putFn f1 (n.at_ : Int) ⟨n.up, 0, -1⟩) (putFn f2 n.up n.at_) (c + 2) w' := by
  obtain ⟨V, hV⟩ : ∃ V, w.alloc (.cells #[.int .i64 (n.at_ : Int), .int .i64 n.end_, .int .i64 n.up] 64) = V := ⟨_, rfl⟩
  obtain ⟨Q, hQ⟩ : ∃ Q, V.alloc (.cells #[.int .i64 n.up, .int .i64 0, .int .i64 (-1)] 77) = Q := ⟨_, rfl⟩
  have bV : Below w.heap.size w V := by rw [← hV]; exact al_belowN w _
  have bQ : Below V.heap.size V Q := by rw [← hQ]; exact al_belowN V _
  have sV : V.heap.size = w.heap.size + 1 := by rw [← hV]; simp
  have nV : V.heap[w.heap.size]? = some (.cells #[.int .i64 (n.at_ : Int), .int .i64 n.end_, .int .i64 n.up] 64 (0, 0)) := by rw [← hV]; exact heap_alloc_new w _
  have nVQ : Q.heap[w.heap.size]? = some (.cells #[.int .i64 (n.at_ : Int), .int .i64 n.end_, .int .i64 n.up] 64 (0, 0)) := (bQ.block _ (by omega)).trans nV
  have nQ : Q.heap[w.heap.size + 1]? = some (.cells #[.int .i64 n.up, .int .i64 0, .int .i64 (-1)] 77 (0, 0)) := by rw [← hQ, ← sV]; exact heap_alloc_new V _
  have HQI : Hid (GdI w0 G BS BL lv BN B2 f1 f2 c Q) := (hI.stays bV).stays bQ
  have HNV : Hid (Q.heap[w.heap.size]? = some (.cells #[.int .i64 (n.at_ : Int), .int .i64 n.end_, .int .i64 n.up] 64 (0, 0)) ∧ Q.heap[w.heap.size + 1]? = some (.cells #[.int .i64 n.up, .int .i64 0, .int .i64 (-1)] 77 (0, 0))) := ⟨nVQ, nQ⟩
  have HNE : Hid (w.heap.size ≠ BS ∧ w.heap.size + 1 ≠ BS ∧ w.heap.size ≠ BL) := by
    obtain ⟨_, _, h2⟩ := hI.se
    obtain ⟨_, _, h4⟩ := hI.la
    have l2 := h2.lt
    have l4 := h4.lt
    exact ⟨by omega, by omega, by omega⟩
  have HC : Hid (c ≤ 100000000 ∧ (Lit.int .i64 (n.at_ : Int)).wf = true ∧ (Lit.int .i64 n.up).wf = true) := ⟨hc, WalkArith.wf_i64 (by omega), hu⟩
  have HF : Hid (f2 n.up = none) := hf
  have HW : Hid (w.alloc (.cells #[.int .i64 (n.at_ : Int), .int .i64 n.end_, .int .i64 n.up] 64) = V) := hV
  have HWQ : Hid (V.alloc (.cells #[.int .i64 n.up, .int .i64 0, .int .i64 (-1)] 77) = Q) := hQ
  have u2 : V.cell? ⟨w.heap.size, 2, none⟩ = some (.int .i64 n.up) := by rw [Lib.cell_of_heap nV]; rfl
  have HSV : Hid (V.heap.size = w.heap.size + 1) := sV
  unfold Sp.val
  clear hI hc hn hu hf hV hQ bV bQ sV nV nVQ nQ
  go_enter Try.func38, Try.ntmps38
  go_wp2_with fail
  rw [HW.out]
  go_wp2_with fail
  rw [HWQ.out]
  clear u2 HW HWQ
  have hne := Bw.some Q
  have d4 : ∀ m : Bw Q, m.val.cell? ⟨G, 4, none⟩ = some (.map (some BL)) := fun m => (HQI.out.stays m.ok).c4
  have e2 : ∀ m : Bw Q, m.val.cell? ⟨w.heap.size, 2, none⟩ = some (.int .i64 n.up) := fun m => by rw [Lib.cell_of_heap ((m.ok.block _ (Array.getElem?_eq_some_iff.1 HNV.out.1).1).trans HNV.out.1)]; rfl
  have lk : ∀ m : Bw Q, (Instr.lookup 41 (.map (some BL)) (.int .i64 n.up) true).run Try.prog m.val = .ok (.tuple #[.int .i64 0, .bool false]) m.val := fun m => by
    obtain ⟨_, _, h4⟩ := (HQI.out.stays m.ok).la
    exact h4.look_no dkeyed Try.underlying41 (zeroNum m.val) (dkey_mk HC.out.2.2) HF.out
  refine wp_region_bw (w0 := Q) (by kernel_rfl) (by kernel_rfl) (Below.refl _ _) ?_
  repeat (go_big_quiet_step (fail))
  refine wpQuiet_nil ?_
  rintro _ ⟨m, rfl⟩
  have HI5 : Hid (GdI w0 G BS BL lv BN B2 f1 f2 c m.val) := HQI.out.stays m.ok
  have HN5 : Hid (m.val.heap[w.heap.size]? = some (.cells #[.int .i64 (n.at_ : Int), .int .i64 n.end_, .int .i64 n.up] 64 (0, 0)) ∧ m.val.heap[w.heap.size + 1]? = some (.cells #[.int .i64 n.up, .int .i64 0, .int .i64 (-1)] 77 (0, 0))) := ⟨(m.ok.block _ (Array.getElem?_eq_some_iff.1 HNV.out.1).1).trans HNV.out.1, (m.ok.block _ (Array.getElem?_eq_some_iff.1 HNV.out.2).1).trans HNV.out.2⟩
  generalize m.val = w5 at *
  clear hne d4 e2 lk HNV HQI
  -- the two maps
  have hI5d := HI5.out.stays ((Below.refl w5.heap.size w5).drew)
  obtain ⟨w6, hup6, h6, g6⟩ := hI5d.putS (n.at_ : Int) ⟨n.up, 0, -1⟩ HC.out.2.1 (by have := HC.out.1; omega)
  have hup6 : (Instr.mapUpdate 73 (.map (some BS)) (.int .i64 (n.at_ : Int)) (.agg #[.int .i64 n.up, .int .i64 0, .int .i64 (-1)])).run Try.prog w5.drew = .ok () w6 := hup6
  have hI6d := h6.stays ((Below.refl w6.heap.size w6).drew)
  obtain ⟨w7, hup7, h7, _⟩ := hI6d.putL n.up n.at_ HC.out.2.2 (by have := HC.out.1; omega)
  have N6 : w6.heap[w.heap.size]? = some (.cells #[.int .i64 (n.at_ : Int), .int .i64 n.end_, .int .i64 n.up] 64 (0, 0)) := (g6.block _ (Array.getElem?_eq_some_iff.1 HN5.out.1).1 (by have := HNE.out; simp; omega)).trans HN5.out.1
  have x3 : w5.cell? ⟨G, 3, none⟩ = some (.map (some BS)) := HI5.out.c3
  have y0 : w5.cell? ⟨w.heap.size, 0, none⟩ = some (.int .i64 (n.at_ : Int)) := by rw [Lib.cell_of_heap HN5.out.1]; rfl
  obtain ⟨q0, q1, q2⟩ : w5.cell? ⟨w.heap.size + 1, 0, none⟩ = some (.int .i64 n.up) ∧ w5.cell? ⟨w.heap.size + 1, 1, none⟩ = some (.int .i64 0) ∧ w5.cell? ⟨w.heap.size + 1, 2, none⟩ = some (.int .i64 (-1)) := by
    rw [Lib.cell_of_heap HN5.out.2, Lib.cell_of_heap HN5.out.2, Lib.cell_of_heap HN5.out.2]; exact ⟨rfl, rfl, rfl⟩
  have HO : Hid (GdI w0 G BS BL lv BN B2 (putFn f1 (n.at_ : Int) ⟨n.up, 0, -1⟩) (putFn f2 n.up n.at_) (c + 2) w7) := h7
  have x4 : w6.cell? ⟨G, 4, none⟩ = some (.map (some BL)) := h6.c4
  have z0 : w6.cell? ⟨w.heap.size, 0, none⟩ = some (.int .i64 (n.at_ : Int)) := by rw [Lib.cell_of_heap N6]; rfl
  have z2 : w6.cell? ⟨w.heap.size, 2, none⟩ = some (.int .i64 n.up) := by rw [Lib.cell_of_heap N6]; rfl
  clear hI5d h6 g6 hI6d h7 N6 HN5 HI5 HNE HC HF
  go_wp2_with fail
  go_region
  all_goals (
    clear hup6 x3 y0 q0 q1 q2
    go_wp2_with fail
    go_region
    all_goals (
      clear hup7 x4 z0 z2
      go_wp2_with fail
      go_end0
      exact ⟨rfl, HO.out⟩))
theorem GdI.setO {w0 w : World} {G BS BL : Nat} {lv : Value} {BN B2 : Nat} {f1 : Int → Option Sea} {f2 : Int → Option Nat} {c : Nat} (h : GdI w0 G BS BL lv BN B2 f1 f2 c w) {E : Nat} (e1 : G ≠ E) (e2 : E ≠ BS) (e3 : E ≠ BL) (hE : w0.heap.size ≤ E) (o : Nat) (v : Value) : GdI w0 G BS BL lv BN B2 f1 f2 c (w.setCell ⟨E, o, none⟩ v) := by
  obtain ⟨m, h1, h2⟩ := h.se
  obtain ⟨n, h3, h4⟩ := h.la
  exact ⟨⟨m, h1, h2.same (Below.heap_setCell _ _ _ _ (Ne.symm e2))⟩, ⟨n, h3, h4.same (Below.heap_setCell _ _ _ _ (Ne.symm e3))⟩, (Below.heap_setCell _ _ _ _ e1).trans h.at_, h.below.setCell hE v, h.hi, h.ne⟩
set_option maxRecDepth 100000 in
set_option maxHeartbeats 16000000 in
theorem gtake_some (w0 w : World) (G BS BL : Nat) (lv : Value) (BN B2 : Nat) (f1 : Int → Option Sea) (f2 : Int → Option Nat) (c : Nat) (n : Sp) (hI : GdI w0 G BS BL lv BN B2 f1 f2 c w) (hc : c ≤ 100000000) (hn : n.at_ ≤ 2000000) (hu : (Lit.int .i64 n.up).wf = true) (a : Nat) (ha : a ≤ 2000000) (s : Sea) (hs : s.nth ≤ 2000000) (hf : f2 n.up = some a) (hf1 : f1 (a : Int) = some s) :
    Calls Try.prog 38 #[.pointer (some ⟨G, 0, none⟩), n.val] w fun r w' => r = .returned (.tuple #[]) ∧ GdI w0 G BS BL lv BN B2 (putFn f1 (n.at_ : Int) ⟨n.up, s.nth + 1, (a : Int)⟩) (putFn f2 n.up n.at_) (c + 2) w' := by
  obtain ⟨V, hV⟩ : ∃ V, w.alloc (.cells #[.int .i64 (n.at_ : Int), .int .i64 n.end_, .int .i64 n.up] 64) = V := ⟨_, rfl⟩
  obtain ⟨Q, hQ⟩ : ∃ Q, V.alloc (.cells #[.int .i64 n.up, .int .i64 0, .int .i64 (-1)] 77) = Q := ⟨_, rfl⟩
  have bV : Below w.heap.size w V := by rw [← hV]; exact al_belowN w _
  have bQ : Below V.heap.size V Q := by rw [← hQ]; exact al_belowN V _
  have sV : V.heap.size = w.heap.size + 1 := by rw [← hV]; simp
  have nV : V.heap[w.heap.size]? = some (.cells #[.int .i64 (n.at_ : Int), .int .i64 n.end_, .int .i64 n.up] 64 (0, 0)) := by rw [← hV]; exact heap_alloc_new w _
  have nVQ : Q.heap[w.heap.size]? = some (.cells #[.int .i64 (n.at_ : Int), .int .i64 n.end_, .int .i64 n.up] 64 (0, 0)) := (bQ.block _ (by omega)).trans nV
  have nQ : Q.heap[w.heap.size + 1]? = some (.cells #[.int .i64 n.up, .int .i64 0, .int .i64 (-1)] 77 (0, 0)) := by rw [← hQ, ← sV]; exact heap_alloc_new V _
  have HQI : Hid (GdI w0 G BS BL lv BN B2 f1 f2 c Q) := (hI.stays bV).stays bQ
  have HNV : Hid (Q.heap[w.heap.size]? = some (.cells #[.int .i64 (n.at_ : Int), .int .i64 n.end_, .int .i64 n.up] 64 (0, 0)) ∧ Q.heap[w.heap.size + 1]? = some (.cells #[.int .i64 n.up, .int .i64 0, .int .i64 (-1)] 77 (0, 0))) := ⟨nVQ, nQ⟩
  have HNE : Hid (w.heap.size ≠ BS ∧ w.heap.size + 1 ≠ BS ∧ w.heap.size ≠ BL ∧ w.heap.size + 1 ≠ BL) := by
    obtain ⟨_, _, h2⟩ := hI.se
    obtain ⟨_, _, h4⟩ := hI.la
    have l2 := h2.lt
    have l4 := h4.lt
    exact ⟨by omega, by omega, by omega, by omega⟩
  have HLO : Hid (w0.heap.size ≤ w.heap.size + 1) := by have := hI.below.size; show _ ≤ _; omega
  have HC : Hid (c ≤ 100000000 ∧ (Lit.int .i64 (n.at_ : Int)).wf = true ∧ (Lit.int .i64 n.up).wf = true) := ⟨hc, WalkArith.wf_i64 (by omega), hu⟩
  have HF : Hid (f2 n.up = some a ∧ f1 (a : Int) = some s ∧ (Lit.int .i64 (a : Int)).wf = true) := ⟨hf, hf1, WalkArith.wf_i64 (by omega)⟩
  have HSN : Hid (s.nth ≤ 2000000) := hs
  have HW : Hid (w.alloc (.cells #[.int .i64 (n.at_ : Int), .int .i64 n.end_, .int .i64 n.up] 64) = V) := hV
  have HWQ : Hid (V.alloc (.cells #[.int .i64 n.up, .int .i64 0, .int .i64 (-1)] 77) = Q) := hQ
  have u2 : V.cell? ⟨w.heap.size, 2, none⟩ = some (.int .i64 n.up) := by rw [Lib.cell_of_heap nV]; rfl
  have HSV : Hid (V.heap.size = w.heap.size + 1) := sV
  unfold Sp.val
  clear hI hc hn hu hf hf1 ha hs hV hQ bV bQ sV nV nVQ nQ
  go_enter Try.func38, Try.ntmps38
  go_wp2_with fail
  rw [HW.out]
  go_wp2_with fail
  rw [HWQ.out]
  clear u2 HW HWQ
  have hne := Bw.some Q
  have d4 : ∀ m : Bw Q, m.val.cell? ⟨G, 4, none⟩ = some (.map (some BL)) := fun m => (HQI.out.stays m.ok).c4
  have e2 : ∀ m : Bw Q, m.val.cell? ⟨w.heap.size, 2, none⟩ = some (.int .i64 n.up) := fun m => by rw [Lib.cell_of_heap ((m.ok.block _ (Array.getElem?_eq_some_iff.1 HNV.out.1).1).trans HNV.out.1)]; rfl
  have lk : ∀ m : Bw Q, (Instr.lookup 41 (.map (some BL)) (.int .i64 n.up) true).run Try.prog m.val =   .ok (.tuple #[.int .i64 (a : Int), .bool true]) m.val := fun m => by
    obtain ⟨_, _, h4⟩ := (HQI.out.stays m.ok).la
    exact h4.look_yes dkeyed Try.underlying41 (zeroNum m.val) (dkey_mk HC.out.2.2) HF.out.1
  refine wp_region_bw (w0 := Q) (by kernel_rfl) (by kernel_rfl) (Below.refl _ _) ?_
  repeat (go_big_quiet_step (fail))
  refine wpQuiet_nil ?_
  rintro _ ⟨m, rfl⟩
  have HI5 : Hid (GdI w0 G BS BL lv BN B2 f1 f2 c m.val) := HQI.out.stays m.ok
  have HN5 : Hid (m.val.heap[w.heap.size]? = some (.cells #[.int .i64 (n.at_ : Int), .int .i64 n.end_, .int .i64 n.up] 64 (0, 0)) ∧ m.val.heap[w.heap.size + 1]? = some (.cells #[.int .i64 n.up, .int .i64 0, .int .i64 (-1)] 77 (0, 0))) := ⟨(m.ok.block _ (Array.getElem?_eq_some_iff.1 HNV.out.1).1).trans HNV.out.1, (m.ok.block _ (Array.getElem?_eq_some_iff.1 HNV.out.2).1).trans HNV.out.2⟩
  generalize m.val = w5 at *
  clear hne d4 e2 lk HNV HQI
  have hlk : (Instr.lookup 73 (.map (some BS)) (.int .i64 (a : Int)) false).run Try.prog w5 = .ok (.agg #[.int .i64 s.up, .int .i64 (s.nth : Int), .int .i64 s.ahead]) w5 := by
    obtain ⟨_, _, h2⟩ := HI5.out.se
    exact h2.look_val dkeyed Try.underlying73 (zeroSea w5) (dkey_mk HF.out.2.2) HF.out.2.1
  have x3' : w5.cell? ⟨G, 3, none⟩ = some (.map (some BS)) := HI5.out.c3
  have hfld : ∀ W, (Instr.field 77 (.agg #[.int .i64 s.up, .int .i64 (s.nth : Int), .int .i64 s.ahead]) 1).run Try.prog W = .ok (.int .i64 (s.nth : Int)) W := fun W => by kernel_rfl
  obtain ⟨p1, p2⟩ : w5.cell? ⟨w.heap.size + 1, 1, none⟩ = some (.int .i64 0) ∧ w5.cell? ⟨w.heap.size + 1, 2, none⟩ = some (.int .i64 (-1)) := by
    rw [Lib.cell_of_heap HN5.out.2, Lib.cell_of_heap HN5.out.2]; exact ⟨rfl, rfl⟩
  have g1 := Lib.frozen_of_heap HN5.out.2 1
  have g2 := Lib.frozen_of_heap HN5.out.2 2
  have hnI : (s.nth : Int) ≤ 2000000 := by have := HSN.out; omega
  have hGN : G ≠ w.heap.size + 1 := by
    intro e
    have h1 := HI5.out.at_
    rw [e, HN5.out.2] at h1
    injection h1 with h1
    injection h1 with _ h1
    exact absurd h1 (by decide)
  obtain ⟨w8, hw8⟩ : ∃ w8, (w5.setCell ⟨w.heap.size + 1, 1, none⟩ (.int .i64 ((s.nth : Int) + 1))).setCell ⟨w.heap.size + 1, 2, none⟩ (.int .i64 (a : Int)) = w8 := ⟨_, rfl⟩
  have HW8 : Hid ((w5.setCell ⟨w.heap.size + 1, 1, none⟩ (.int .i64 ((s.nth : Int) + 1))).setCell ⟨w.heap.size + 1, 2, none⟩ (.int .i64 (a : Int)) = w8) := hw8
  have HI8 : Hid (GdI w0 G BS BL lv BN B2 f1 f2 c w8) := by
    show GdI w0 G BS BL lv BN B2 f1 f2 c w8
    rw [← hw8]
    exact (HI5.out.setO hGN HNE.out.2.1 HNE.out.2.2.2 HLO.out 1 _).setO hGN HNE.out.2.1 HNE.out.2.2.2 HLO.out 2 _
  have HN8 : Hid (w8.heap[w.heap.size]? = some (.cells #[.int .i64 (n.at_ : Int), .int .i64 n.end_, .int .i64 n.up] 64 (0, 0)) ∧ w8.heap[w.heap.size + 1]? = some (.cells #[.int .i64 n.up, .int .i64 ((s.nth : Int) + 1), .int .i64 (a : Int)] 77 (0, 0))) := by
    rw [← hw8]
    refine ⟨((Below.heap_setCell _ _ _ _ (by show w.heap.size ≠ w.heap.size + 1; omega)).trans (Below.heap_setCell _ _ _ _ (by show w.heap.size ≠ w.heap.size + 1; omega))).trans HN5.out.1, ?_⟩
    simp [World.setCell, Array.getElem?_modify, HN5.out.2]
  clear hw8 hGN HF HSN HI5 HN5
  go_wp2_with fail
  rw [HW8.out]
  clear hlk hfld x3' p1 p2 g1 g2 HW8
  -- the two maps
  have hI5d := HI8.out.stays ((Below.refl w8.heap.size w8).drew)
  obtain ⟨w6, hup6, h6, g6⟩ := hI5d.putS (n.at_ : Int) ⟨n.up, s.nth + 1, (a : Int)⟩ HC.out.2.1 (by have := HC.out.1; omega)
  have hup6 : (Instr.mapUpdate 73 (.map (some BS)) (.int .i64 (n.at_ : Int)) (.agg #[.int .i64 n.up, .int .i64 ((s.nth : Int) + 1), .int .i64 (a : Int)])).run Try.prog w8.drew = .ok () w6 := hup6
  have hI6d := h6.stays ((Below.refl w6.heap.size w6).drew)
  obtain ⟨w7, hup7, h7, _⟩ := hI6d.putL n.up n.at_ HC.out.2.2 (by have := HC.out.1; omega)
  have N6 : w6.heap[w.heap.size]? = some (.cells #[.int .i64 (n.at_ : Int), .int .i64 n.end_, .int .i64 n.up] 64 (0, 0)) := (g6.block _ (Array.getElem?_eq_some_iff.1 HN8.out.1).1 (by have := HNE.out; simp; omega)).trans HN8.out.1
  have x3 : w8.cell? ⟨G, 3, none⟩ = some (.map (some BS)) := HI8.out.c3
  have y0 : w8.cell? ⟨w.heap.size, 0, none⟩ = some (.int .i64 (n.at_ : Int)) := by rw [Lib.cell_of_heap HN8.out.1]; rfl
  obtain ⟨q0, q1, q2⟩ : w8.cell? ⟨w.heap.size + 1, 0, none⟩ = some (.int .i64 n.up) ∧ w8.cell? ⟨w.heap.size + 1, 1, none⟩ = some (.int .i64 ((s.nth : Int) + 1)) ∧ w8.cell? ⟨w.heap.size + 1, 2, none⟩ = some (.int .i64 (a : Int)) := by
    rw [Lib.cell_of_heap HN8.out.2, Lib.cell_of_heap HN8.out.2, Lib.cell_of_heap HN8.out.2]; exact ⟨rfl, rfl, rfl⟩
  have HO : Hid (GdI w0 G BS BL lv BN B2 (putFn f1 (n.at_ : Int) ⟨n.up, s.nth + 1, (a : Int)⟩) (putFn f2 n.up n.at_) (c + 2) w7) := h7
  have x4 : w6.cell? ⟨G, 4, none⟩ = some (.map (some BL)) := h6.c4
  have z0 : w6.cell? ⟨w.heap.size, 0, none⟩ = some (.int .i64 (n.at_ : Int)) := by rw [Lib.cell_of_heap N6]; rfl
  have z2 : w6.cell? ⟨w.heap.size, 2, none⟩ = some (.int .i64 n.up) := by rw [Lib.cell_of_heap N6]; rfl
  clear hI5d h6 g6 hI6d h7 N6 HN8 HI8 HNE HC
  go_region
  all_goals (
    clear hup6 x3 y0 q0 q1 q2
    go_wp2_with fail
    go_region
    all_goals (
      clear hup7 x4 z0 z2
      go_wp2_with fail
      go_end0
      exact ⟨rfl, HO.out⟩))
end Go.Proofs.Ytmbbmibkjnlkkaa
/- The contract of impl.guideOf. -/
namespace Go.Proofs.Ytmbbmibkjnlkkaa
open Go.ChangeShapes Go.WideShapes Go.ChangeAt Go.RowKit Go.Maps
def seatX (es : List Ev) (k : Nat) : Int → Option Sea := if nested es = true then seatF es k else fun _ => none
def lastX (es : List Ev) (k : Nat) : Int → Option Nat := if nested es = true then lastF es k else fun _ => none
theorem seatX_0 (es : List Ev) : seatX es 0 = fun _ => none := by
  unfold seatX
  split
  · funext i; unfold seatF; rw [if_neg (by omega)]
  · rfl
theorem lastX_0 (es : List Ev) : lastX es 0 = fun _ => none := by
  unfold lastX
  split
  · funext u; unfold lastF; split <;> rfl
  · rfl
/-- Nothing is taken of a place. -/
theorem guide_skip {es : List Ev} {k : Nat} (h : ndEnd es (k : Int) = none ∨ upG es k 0 = -1) (hk : k < es.length) : seatX es (k + 1) = seatX es k ∧ lastX es (k + 1) = lastX es k := by
  unfold seatX lastX
  cases hn : nested es with
  | false => rw [if_neg (by simp), if_neg (by simp), if_neg (by simp), if_neg (by simp)]; exact ⟨rfl, rfl⟩
  | true =>
    simp only [if_true]
    have hc : ¬ (nodB es k = true ∧ upG es k 0 ≠ -1) := by
      rintro ⟨h1, h2⟩
      rcases h with h | h
      · rw [ndEnd_is hn, if_pos ⟨by omega, by omega, by rw [show (k : Int).toNat = k by omega]; exact h1⟩] at h
        cases h
      · exact h2 h
    exact ⟨seat_no hc, last_no hc⟩
theorem nd_some {es : List Ev} {k : Nat} {n : Sp} (h : ndEnd es (k : Int) = some n) : nested es = true ∧ n = fin es k ∧ nodB es k = true := by
  cases hn : nested es with
  | false => rw [ndEnd_no hn] at h; cases h
  | true =>
    rw [ndEnd_is hn] at h
    split at h
    · rename_i hc
      rw [show (k : Int).toNat = k by omega] at h hc
      injection h with h
      exact ⟨rfl, h.symm, hc.2.2⟩
    · cases h
theorem kidsA_le (es : List Ev) (u : Int) (k : Nat) : (kidsA es u k).length ≤ k := by
  unfold kidsA
  have h1 := List.length_filter_le (inAt es u) (List.range k)
  rw [List.length_range] at h1
  exact h1
theorem GdI.moreC {w0 w : World} {G BS BL : Nat} {lv : Value} {BN B2 : Nat} {f1 : Int → Option Sea} {f2 : Int → Option Nat} {c c' : Nat} (h : GdI w0 G BS BL lv BN B2 f1 f2 c w) (hc : c ≤ c') : GdI w0 G BS BL lv BN B2 f1 f2 c' w := by
  obtain ⟨m, h1, h2⟩ := h.se
  obtain ⟨n, h3, h4⟩ := h.la
  exact ⟨⟨m, by omega, h2⟩, ⟨n, by omega, h4⟩, h.at_, h.below, h.hi, h.ne⟩
/-- What guideOf answers. -/
def GuideA (es : List Ev) (lv : Value) (BN B2 : Nat) (w : World) (r : Ending) (w' : World) : Prop := ∃ w0 G BS BL c, r = .returned (.pointer (some ⟨G, 0, none⟩)) ∧ Below w.heap.size w w0 ∧ GdI w0 G BS BL lv BN B2 (seatE es) (lastE es) c w'
set_option maxRecDepth 100000 in
set_option maxHeartbeats 16000000 in
theorem guideOf_any (w : World) (es : List Ev) (a : Option Addr) (ca BN B2 : Nat) (hR : Rd es BN B2 w) (hl : es.length ≤ 1048576) :
    Calls Try.prog 25 #[.agg #[.slice a es.length ca, .map (some BN), .map (some B2)]] w (GuideA es (.slice a es.length ca) BN B2 w) := by
  have hmm := @run_makeMap Try.prog
  obtain ⟨w1, hw1⟩ : ∃ w1, w.alloc (.cells #[.slice a es.length ca, .map (some BN), .map (some B2)] 43) = w1 := ⟨_, rfl⟩
  obtain ⟨w2, hw2⟩ : ∃ w2, w1.alloc (.map #[] 0) = w2 := ⟨_, rfl⟩
  obtain ⟨w3, hw3⟩ : ∃ w3, w2.alloc (.map #[] 0) = w3 := ⟨_, rfl⟩
  obtain ⟨w4, hw4⟩ : ∃ w4, w3.alloc (.cells #[.slice a es.length ca, .map (some BN), .map (some B2), .map (some w1.heap.size), .map (some w2.heap.size)] 75) = w4 := ⟨_, rfl⟩
  have s1 : w1.heap.size = w.heap.size + 1 := by rw [← hw1]; simp
  have s2 : w2.heap.size = w1.heap.size + 1 := by rw [← hw2]; simp
  have s3 : w3.heap.size = w2.heap.size + 1 := by rw [← hw3]; simp
  have b1 : Below w.heap.size w w1 := by rw [← hw1]; exact al_belowN w _
  have b2 : Below w1.heap.size w1 w2 := by rw [← hw2]; exact al_belowN w1 _
  have b3 : Below w2.heap.size w2 w3 := by rw [← hw3]; exact al_belowN w2 _
  have b4 : Below w3.heap.size w3 w4 := by rw [← hw4]; exact al_belowN w3 _
  have hR1 : w1.heap[w.heap.size]? = some (.cells #[.slice a es.length ca, .map (some BN), .map (some B2)] 43 (0, 0)) := by rw [← hw1]; exact heap_alloc_new w _
  have HR1 : Hid (w1.heap[w.heap.size]? = some (.cells #[.slice a es.length ca, .map (some BN), .map (some B2)] 43 (0, 0)) ∧ Below w.heap.size w w1) := ⟨hR1, b1⟩
  have HRD : Hid (Rd es BN B2 w1) := hR.stays b1
  have HG0 : Hid (GdI w1 w3.heap.size w1.heap.size w2.heap.size (.slice a es.length ca) BN B2 (seatX es 0) (lastX es 0) 0 w4) := by
    rw [show GdI w1 w3.heap.size w1.heap.size w2.heap.size (.slice a es.length ca) BN B2 (seatX es 0) (lastX es 0) 0 w4 = GdI w1 w3.heap.size w1.heap.size w2.heap.size (.slice a es.length ca) BN B2 (fun _ => none) (fun _ => none) 0 w4 by rw [seatX_0, lastX_0]]
    refine ⟨⟨0, Nat.le_refl _, ?_⟩, ⟨0, Nat.le_refl _, ?_⟩, ?_, (b2.trans (b3.mono (by omega))).trans (b4.mono (by omega)), ⟨by omega, by omega, by omega⟩, ⟨by omega, by omega, by omega⟩⟩
    · refine (MapM.made w1 Try.prog 3 dkey Sea.val).same ?_
      rw [hw2, b4.block _ (by omega), b3.block _ (by omega)]
    · refine (MapM.made w2 Try.prog 3 dkey natV).same ?_
      rw [hw3, b4.block _ (by omega)]
    · rw [← hw4]; exact heap_alloc_new w3 _
  have r0 : w1.cell? ⟨w.heap.size, 0, none⟩ = some (.slice a es.length ca) := by rw [Lib.cell_of_heap hR1]; rfl
  have r1 : w1.cell? ⟨w.heap.size, 1, none⟩ = some (.map (some BN)) := by rw [Lib.cell_of_heap hR1]; rfl
  have r2 : w1.cell? ⟨w.heap.size, 2, none⟩ = some (.map (some B2)) := by rw [Lib.cell_of_heap hR1]; rfl
  have hR4 : w4.heap[w.heap.size]? = some (.cells #[.slice a es.length ca, .map (some BN), .map (some B2)] 43 (0, 0)) := by rw [b4.block _ (by omega), b3.block _ (by omega), b2.block _ (by omega)]; exact hR1
  have r4 : w4.cell? ⟨w.heap.size, 0, none⟩ = some (.slice a es.length ca) := by rw [Lib.cell_of_heap hR4]; rfl
  have HW1 : Hid (w.alloc (.cells #[.slice a es.length ca, .map (some BN), .map (some B2)] 43) = w1) := hw1
  have HZ : Hid (w1.heap.size = w.heap.size + 1 ∧ w2.heap.size = w.heap.size + 1 + 1 ∧ w3.heap.size = w.heap.size + 1 + 1 + 1) := ⟨s1, by omega, by omega⟩
  have HW4 : Hid (((w1.alloc (.map #[] 0)).alloc (.map #[] 0)).alloc (.cells #[.slice a es.length ca, .map (some BN), .map (some B2), .map (some (w.heap.size + 1)), .map (some (w.heap.size + 1 + 1))] 75) = w4) := by
    show _ = _
    rw [hw2, hw3, ← s1, ← s2]
    exact hw4
  have lI : (es.length : Int) ≤ 1048576 := by omega
  have HL : Hid (es.length ≤ 1048576) := hl
  clear hw1 hw2 hw3 hw4 s1 s2 s3 b1 b2 b3 b4 hR1 hR4 hR hl
  go_enter Try.func25, Try.ntmps25
  go_wp2_with fail
  rw [HW1.out]
  go_wp2_with fail
  rw [HW4.out]
  have HG : Hid (GdI w1 (w.heap.size + 1 + 1 + 1) (w.heap.size + 1) (w.heap.size + 1 + 1) (.slice a es.length ca) BN B2 (seatX es 0) (lastX es 0) (2 * 0) w4) := by
    have h := HG0.out
    rw [HZ.out.2.1, HZ.out.2.2, HZ.out.1] at h
    exact h
  clear HG0 HW4 HZ r0 r1 r2 r4 HW1
  go_loopw [15] (fun kv wr => ∃ k : Nat, kv = .int .i64 (k : Int) ∧ k ≤ es.length ∧ Hid (GdI w1 (w.heap.size + 1 + 1 + 1) (w.heap.size + 1) (w.heap.size + 1 + 1) (.slice a es.length ca) BN B2 (seatX es k) (lastX es k) (2 * k) wr)) (fun kv _ => es.length - (intOf kv).toNat)
  case atStart => exact ⟨0, rfl, Nat.zero_le _, HG⟩
  case round =>
    obtain ⟨k, rfl, hk, HI⟩ := hrel
    clear HG
    by_cases hlt : k < es.length
    case neg =>
      have hlt' : ¬ (k : Int) < (es.length : Int) := by omega
      obtain rfl : k = es.length := by omega
      clear hlt hk
      go_wp2_with fail
      go_ret
      exact ⟨w1, _, _, _, _, rfl, HR1.out.2, HI.out⟩
    have hlt' : (k : Int) < (es.length : Int) := by omega
    have HLT : Hid (k < es.length) := hlt
    have hbl := HI.out.below
    have hwx : wr.heap[w.heap.size]? = some (.cells #[.slice a es.length ca, .map (some BN), .map (some B2)] 43 (0, 0)) := (hbl.block _ (Array.getElem?_eq_some_iff.1 HR1.out.1).1).trans HR1.out.1
    have y1 : wr.cell? ⟨w.heap.size, 1, none⟩ = some (.map (some BN)) := by rw [Lib.cell_of_heap hwx]; rfl
    obtain ⟨mN, hN⟩ := (HRD.out.stays hbl).nd
    have wk : (Lit.int .i64 (k : Int)).wf = true := WalkArith.wf_i64 (by omega)
    clear hwx hbl hk
    cases hnd : ndEnd es (k : Int) with
    | none =>
      have hlk := hN.look_no dkeyed Try.underlying40 (zeroSp wr) (dkey_mk wk) hnd
      obtain ⟨e1, e2⟩ := guide_skip (.inl hnd) hlt
      have HO : Hid (GdI w1 (w.heap.size + 1 + 1 + 1) (w.heap.size + 1) (w.heap.size + 1 + 1) (.slice a es.length ca) BN B2 (seatX es (k + 1)) (lastX es (k + 1)) (2 * (k + 1)) (wr.alloc (.cells #[.int .i64 0, .int .i64 0, .int .i64 0] 64))) := by
        rw [e1, e2]
        exact (HI.out.stays (al_belowN wr _)).moreC (by omega)
      clear hN hnd e1 e2 wk HI hlt
      go_wp2_with fail
      go_roundw
      case rel => exact ⟨k + 1, by go_num, HLT.out, HO⟩
      case measure => have := HLT.out; simp [intOf]; omega
    | some n =>
      have hlk := hN.look_yes dkeyed Try.underlying40 (zeroSp wr) (dkey_mk wk) hnd
      unfold Sp.val at hlk
      obtain ⟨hne, hfin, hnb⟩ := nd_some hnd
      have hat : n.at_ = k := by rw [hfin]; rfl
      have hup : n.up = upG es k 0 := by rw [hfin]; rfl
      obtain ⟨V, hV⟩ : ∃ V, wr.alloc (.cells #[.int .i64 (n.at_ : Int), .int .i64 n.end_, .int .i64 n.up] 64) = V := ⟨_, rfl⟩
      have HV : Hid (wr.alloc (.cells #[.int .i64 (n.at_ : Int), .int .i64 n.end_, .int .i64 n.up] 64) = V) := hV
      have hnV : V.heap[wr.heap.size]? = some (.cells #[.int .i64 (n.at_ : Int), .int .i64 n.end_, .int .i64 n.up] 64 (0, 0)) := by rw [← hV]; exact heap_alloc_new wr _
      have HIV : Hid (GdI w1 (w.heap.size + 1 + 1 + 1) (w.heap.size + 1) (w.heap.size + 1 + 1) (.slice a es.length ca) BN B2 (seatX es k) (lastX es k) (2 * k) V) := by
        show GdI _ _ _ _ _ _ _ _ _ _ V
        rw [← hV]
        exact HI.out.stays (al_belowN wr _)
      have v0 : V.cell? ⟨wr.heap.size, 0, none⟩ = some (.int .i64 (n.at_ : Int)) := Lib.cell_of_heap hnV 0
      have v1 : V.cell? ⟨wr.heap.size, 1, none⟩ = some (.int .i64 n.end_) := Lib.cell_of_heap hnV 1
      have v2 : V.cell? ⟨wr.heap.size, 2, none⟩ = some (.int .i64 n.up) := Lib.cell_of_heap hnV 2
      rw [← hV] at v0 v1 v2
      by_cases hu : n.up = -1
      · obtain ⟨e1, e2⟩ := guide_skip (.inr (hup ▸ hu)) hlt
        have HO : Hid (GdI w1 (w.heap.size + 1 + 1 + 1) (w.heap.size + 1) (w.heap.size + 1 + 1) (.slice a es.length ca) BN B2 (seatX es (k + 1)) (lastX es (k + 1)) (2 * (k + 1)) V) := by
          rw [e1, e2]
          exact HIV.out.moreC (by omega)
        have tu : (n.up != -1) = false := by rw [hu]; rfl
        clear hN hnd e1 e2 wk HI hlt hne hfin hnb hat hup hV hnV HIV v0 v1 hu
        go_wp2_with fail
        rw [HV.out]
        go_roundw
        case rel => exact ⟨k + 1, by go_num, HLT.out, HO⟩
        case measure => have := HLT.out; simp [intOf]; omega
      · have tu : (n.up != -1) = true := by rw [bne_iff_ne]; exact hu
        have hu2 : upG es k 0 ≠ -1 := hup ▸ hu
        have hult := upG_lt es k 0
        have wu : (Lit.int .i64 n.up).wf = true := WalkArith.wf_i64 (by rw [hup]; omega)
        have hsX : seatX es (k + 1) = putFn (seatX es k) (n.at_ : Int) (seaOf es k) := by
          unfold seatX
          rw [if_pos hne, if_pos hne, hat]
          exact seat_yes hnb hu2
        have hlX : lastX es (k + 1) = putFn (lastX es k) n.up n.at_ := by
          unfold lastX
          rw [if_pos hne, if_pos hne, hat, hup]
          exact last_yes hnb hu2
        have hle : lastX es k = lastF es k := by unfold lastX; rw [if_pos hne]
        have hse : seatX es k = seatF es k := by unfold seatX; rw [if_pos hne]
        have CT : Hid (Calls Try.prog 38 #[.pointer (some ⟨w.heap.size + 1 + 1 + 1, 0, none⟩), n.val] V fun r w' => r = .returned (.tuple #[]) ∧ GdI w1 (w.heap.size + 1 + 1 + 1) (w.heap.size + 1) (w.heap.size + 1 + 1) (.slice a es.length ca) BN B2 (seatX es (k + 1)) (lastX es (k + 1)) (2 * (k + 1)) w') := by
          rw [hsX, hlX]
          cases hf : lastX es k n.up with
          | none =>
            have hs := seaOf_none (es := es) (k := k) (by rw [← hup, ← hle]; exact hf) hu2
            rw [hs, ← hup]
            exact gtake_none w1 V _ _ _ _ BN B2 _ _ (2 * k) n HIV.out (by have := HL.out; have := HLT.out; omega) (by have := HL.out; have := HLT.out; omega) wu hf
          | some a2 =>
            obtain ⟨hs, hs2⟩ := seaOf_some (es := es) (k := k) (a := a2) (by rw [← hup, ← hle]; exact hf) hu2
            rw [hs, ← hup]
            have hak : a2 < k := by
              have h9 := hf
              rw [hle] at h9
              unfold lastF at h9
              rw [if_neg hu] at h9
              exact (kids_last h9).2.1
            have hnth : (seaOf es a2).nth ≤ a2 := kidsA_le es _ a2
            exact gtake_some w1 V _ _ _ _ BN B2 _ _ (2 * k) n HIV.out (by have := HL.out; have := HLT.out; omega) (by have := HL.out; have := HLT.out; omega) wu a2 (by have := HL.out; have := HLT.out; omega) (seaOf es a2) (by have := HL.out; have := HLT.out; omega) hf (by rw [hse]; exact hs2)
        unfold Sp.val at CT
        clear hN hnd wk HI hlt hne hfin hnb hat hup hV hnV HIV hu hu2 hult wu hsX hlX hle hse
        go_wp2_with fail
        rw [HV.out]
        refine CT.out.mono ?_
        rintro r w5 ⟨rfl, h5⟩
        have HO : Hid (GdI w1 (w.heap.size + 1 + 1 + 1) (w.heap.size + 1) (w.heap.size + 1 + 1) (.slice a es.length ca) BN B2 (seatX es (k + 1)) (lastX es (k + 1)) (2 * (k + 1)) w5) := h5
        clear h5 CT v0 v1 v2
        go_wp2_with fail
        go_roundw
        case rel => exact ⟨k + 1, by go_num, HLT.out, HO⟩
        case measure => have := HLT.out; simp [intOf]; omega
end Go.Proofs.Ytmbbmibkjnlkkaa
