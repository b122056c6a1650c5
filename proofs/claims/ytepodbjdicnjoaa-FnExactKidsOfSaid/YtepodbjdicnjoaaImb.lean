/- The contracts of impl.KidsOf and impl.RootsOf. -/
import Derived.Test.YtepodbjdicnjoaaMin
import Derived.Test.YtepodbjdicnjoaaLki
namespace Go.Proofs.Ytepodbjdicnjoaa
open Go.ChangeShapes Go.WideShapes Go.ChangeAt Go.RowKit
theorem al_belowM (w : World) (o : Obj) : Below w.heap.size w (w.alloc o) := (Below.refl _ w).alloc (Nat.le_refl _) _
theorem al_newM {w : World} {x y z : Value} : (w.alloc (.cells #[x, y, z] 58)).cell? ⟨w.heap.size, 0, none⟩ = some x ∧ (w.alloc (.cells #[x, y, z] 58)).cell? ⟨w.heap.size, 1, none⟩ = some y ∧ (w.alloc (.cells #[x, y, z] 58)).cell? ⟨w.heap.size, 2, none⟩ = some z :=
  ⟨Lib.cell_of_heap (heap_alloc_new w _) 0, Lib.cell_of_heap (heap_alloc_new w _) 1, Lib.cell_of_heap (heap_alloc_new w _) 2⟩
def MbAt (b : Nat) (u : Int) (v : Value) (w : World) : Prop := w.heap[b]? = some (.cells #[.int .i64 u, v] 61 (0, 0))
section
variable {b : Nat} {u : Int} {v : Value} {w w' : World}
theorem MbAt.lt (h : MbAt b u v w) : b < w.heap.size := (Array.getElem?_eq_some_iff.1 h).1
theorem MbAt.c0 (h : MbAt b u v w) : w.cell? ⟨b, 0, none⟩ = some (.int .i64 u) := by rw [Lib.cell_of_heap h]; rfl
theorem MbAt.c1 (h : MbAt b u v w) : w.cell? ⟨b, 1, none⟩ = some v := by rw [Lib.cell_of_heap h]; rfl
theorem MbAt.fz (h : MbAt b u v w) (j : Nat) : w.frozen? ⟨b, j, none⟩ = false := Lib.frozen_of_heap h j
theorem MbAt.same (h : MbAt b u v w) (hb : w'.heap[b]? = w.heap[b]?) : MbAt b u v w' := hb.trans h
theorem MbAt.set1 (h : MbAt b u v w) (x : Value) : MbAt b u x (w.setCell ⟨b, 1, none⟩ x) := by
  unfold MbAt at *
  simp [World.setCell, Array.getElem?_modify, h]
end
/-- The members that were gathered, and that all below them is as it was. -/
def MbI (b : Nat) (u : Int) (w0 : World) (l : List Nat) (w : World) : Prop := ∃ a n c, MbAt b u (.slice a n c) w ∧ w.ownsRow (b + 1) 3 1 (.slice a n c) l.length (intsV l) ∧ Below b w0 w
theorem MbI.lt {b : Nat} {u : Int} {w0 w : World} {l : List Nat} (h : MbI b u w0 l w) : b < w.heap.size := by
  obtain ⟨_, _, _, h, _⟩ := h
  exact h.lt
theorem MbI.stays {b : Nat} {u : Int} {l : List Nat} {w0 w w' : World} (h : MbI b u w0 l w) (hb : Below w.heap.size w w') : MbI b u w0 l w' := by
  obtain ⟨a, n, c, h1, h2, h3⟩ := h
  exact ⟨a, n, c, h1.same (hb.block b h1.lt), row_stays h2 hb, h3.trans (hb.mono (Nat.le_of_lt h1.lt))⟩
theorem fIn_len (u : Int) : ∀ (L : List Sp) (acc : List Nat), (L.foldl (fIn u) acc).length ≤ acc.length + L.length
  | [], acc => Nat.le_refl _
  | n :: t, acc => by
    have := fIn_len u t (fIn u acc n)
    rw [List.foldl_cons, List.length_cons]
    have h2 : (fIn u acc n).length ≤ acc.length + 1 := by
      unfold fIn
      split
      · simp
      · omega
    omega
set_option maxHeartbeats 8000000 in
theorem member_any (b : Nat) (u : Int) (l : List Nat) (n : Sp) (w0 w : World) (hI : MbI b u w0 l w) (hl : l.length ≤ 2000000) :
    Calls Try.prog 51 #[.pointer (some ⟨b, 0, none⟩), n.val] w fun e w' => e = .returned (.tuple #[]) ∧ MbI b u w0 (fIn u l n) w' ∧ KeepS w w' := by
  obtain ⟨W, hW⟩ : ∃ W, w.alloc (.cells #[.int .i64 (n.at_ : Int), .int .i64 n.end_, .int .i64 n.up] 58) = W := ⟨_, rfl⟩
  have hBW : Below w.heap.size w W := by rw [← hW]; exact al_belowM w _
  obtain ⟨u0, u1, u2⟩ : W.cell? ⟨w.heap.size, 0, none⟩ = some (.int .i64 (n.at_ : Int)) ∧ W.cell? ⟨w.heap.size, 1, none⟩ = some (.int .i64 n.end_) ∧ W.cell? ⟨w.heap.size, 2, none⟩ = some (.int .i64 n.up) := by rw [← hW]; exact al_newM
  have hIW := hI.stays hBW
  have HI : Hid (MbI b u w0 l W) := hIW
  have HK : Hid (KeepS w W) := KeepS.of hBW
  have HL : Hid (l.length ≤ 2000000) := hl
  have hsz : w.heap.size < W.heap.size := by rw [← hW]; simp
  have HS : Hid (w.heap.size < W.heap.size) := hsz
  have nb : w.heap.size ≠ b := by have := hI.lt; omega
  obtain ⟨a, m, c, h1, h2, h3⟩ := hIW
  have c0 := h1.c0
  have HW : Hid (w.alloc (.cells #[.int .i64 (n.at_ : Int), .int .i64 n.end_, .int .i64 n.up] 58) = W) := hW
  have HU : Hid (W.cell? ⟨w.heap.size, 0, none⟩ = some (.int .i64 (n.at_ : Int))) := u0
  unfold Sp.val
  by_cases h : n.up = u
  · have tt : (n.up == u) = true := by rw [beq_iff_eq]; exact h
    have HF : Hid (fIn u l n = l ++ [n.at_]) := by show _ = _; unfold fIn; rw [if_pos h]
    clear hI hBW hW h h1 h2 h3 hl hsz
    go_enter Try.func51, Try.ntmps51
    go_wp2_with fail
    rw [HW.out]
    go_wp2_with fail
    go_quiet (fail)
    have HI2 : Hid (MbI b u w0 l (W.drewN nq)) := HI.out.stays (below_drewN W nq)
    have HK2 : Hid (KeepS w (W.drewN nq)) := HK.out.trans (KeepS.of (below_drewN W nq))
    have v0 : (W.drewN nq).cell? ⟨w.heap.size, 0, none⟩ = some (.int .i64 (n.at_ : Int)) := HU.out
    have hs2 : w.heap.size < (W.drewN nq).heap.size := HS.out
    clear c0 u0 u1 u2 HI HK HU HW tt
    generalize W.drewN nq = V at *
    obtain ⟨fa, fn, fc, k1, k2, k3⟩ := HI2.out
    obtain rfl := slen k2
    have hlt := k1.lt
    obtain ⟨v5, w5, hrun5, hsl5, hown5, hbel5, hot5, hid5⟩ := push_own2 (P := Try.prog) Try.underlying29 infoN rfl (by decide) V.drew (b + 1) _ _ _ (World.ownsRow.drew k2) #[.int .i64 (n.at_ : Int)] rfl (by intro x hx; simp at hx; subst hx; rfl) (by have := HL.out; omega) (by omega) (by show b + 1 ≤ V.heap.size; omega) 29
    obtain ⟨a5, n5, c5, rfl⟩ := hsl5
    have hot5' : ∀ g, g < V.heap.size → (Value.slice fa l.length fc).ownBlock ≠ some g → w5.heap[g]? = V.heap[g]? := hot5
    have b5 : Below (b + 1) V w5 := ((Below.refl _ V).drew).trans hbel5
    have m1 : MbAt b u (.slice fa l.length fc) w5 := k1.same (b5.block b (Nat.lt_succ_self b))
    have HQ : Hid (MbI b u w0 (fIn u l n) (w5.setCell ⟨b, 1, none⟩ (.slice a5 n5 c5)) ∧ KeepS w (w5.setCell ⟨b, 1, none⟩ (.slice a5 n5 c5))) := by
      rw [HF.out]
      refine ⟨⟨_, _, _, m1.set1 _, ?_, k3.trans ((b5.mono (Nat.le_succ b)).trans (below_set w5))⟩, ?_⟩
      · rw [intsV_app, List.length_append]
        exact row_past' hown5
      · refine KeepS.set (HK2.out.trans ?_) m1 (by decide) _
        intro k cs fr hk
        rw [hot5' k (Array.getElem?_eq_some_iff.1 hk).1, hk]
        intro he
        rcases k2.2 with ⟨e1, _⟩ | ⟨g, cap, cur, e1, _, hg, _⟩
        · rw [e1] at he
          simp [Value.ownBlock] at he
        · rw [e1] at he
          have e2 : g = k := by simpa [Value.ownBlock] using he
          subst e2
          rw [hk] at hg
          injection hg with hg
          injection hg with _ hg
          exact absurd hg (by decide)
    have d1 := k1.c1
    have hA : MbAt b u (.slice fa l.length fc) (V.alloc (.cells #[.int .i64 (n.at_ : Int)] 3)) := k1.same (Below.heap_alloc V _ b hlt)
    have a1 := hA.c1
    have v1 : (V.alloc (.cells #[.int .i64 (n.at_ : Int)] 3)).cell? ⟨w.heap.size, 0, none⟩ = some (.int .i64 (n.at_ : Int)) := by rw [(al_belowM V _).cell hs2]; exact v0
    have e1 := m1.c1
    have f1 := m1.fz 1
    have nbV : V.heap.size ≠ b := by omega
    clear k1 k2 k3 hown5 hbel5 hot5 hid5 hot5' b5 m1 hA hlt
    go_wp2_with fail
    go_region_law (refine step_append_runT (by rfl) _ _ 29 (by rfl) _ _ (by rfl) (by rfl) _ w5 hrun5 ?_)
    all_goals (
      clear hrun5 d1 a1 v0 v1 e1 f1
      go_wp2_with fail
      go_end0
      exact ⟨rfl, HQ.out⟩)
  · have tt : (n.up == u) = false := by rw [beq_eq_false_iff_ne]; exact h
    have HF : Hid (fIn u l n = l) := by show _ = _; unfold fIn; rw [if_neg h]
    rw [HF.out]
    clear hI hBW hW h h1 h2 h3 hl hsz
    go_enter Try.func51, Try.ntmps51
    go_wp2_with fail
    rw [HW.out]
    go_wp2_with fail
    go_quiet (fail)
    have HQ : Hid (MbI b u w0 l (W.drewN nq) ∧ KeepS w (W.drewN nq)) := ⟨HI.out.stays (below_drewN W nq), HK.out.trans (KeepS.of (below_drewN W nq))⟩
    go_wp2_with fail
    go_end0
    exact ⟨rfl, HQ.out⟩
theorem tellIn (b : Nat) (u : Int) (w0 : World) (L : List Sp) (hL : L.length ≤ 1048576) : TellC 51 (.pointer (some ⟨b, 0, none⟩)) L (fIn u) (MbI b u w0) [] :=
  ⟨enters_of Try.func51 (by kernel_rfl) rfl, fun _ _ _ h hb => h.stays hb, fun k n w hx hI => member_any b u _ n w0 w hI (by
    have h1 := fIn_len u (L.take k) []
    have h2 := List.length_take_le k L
    have h3 := List.length_take_le' k L
    simp at h1
    omega)⟩
theorem spansF_len (es : List Ev) : (spansF es).length ≤ es.length := by
  unfold spansF
  rw [List.length_map]
  exact nodesTo_le es es.length
set_option maxHeartbeats 4000000 in
theorem nodesIn_any (w : World) (v : Value) (es : List Ev) (u : Int) (R : List Nat) (hV : SlE w v es) (hl : totE es + es.length ≤ 1048576) (hf : ∀ e ∈ es, wfE e) (hR : (if nested es = true then gat es (fIn u) [] es.length else []) = R) :
    Calls Try.prog 40 #[v, .int .i64 u] w (OwnI w R) := by
  obtain ⟨W, hW⟩ : ∃ W, w.alloc (.cells #[.int .i64 u, .slice none 0 0] 61) = W := ⟨_, rfl⟩
  have hI : MbI w.heap.size u w [] W := by rw [← hW]; exact ⟨none, 0, 0, heap_alloc_new w _, ⟨rfl, .inl ⟨rfl, rfl⟩⟩, al_belowM w _⟩
  have hBW : Below w.heap.size w W := by rw [← hW]; exact al_belowM w _
  have hsl := spansF_len es
  have cE := eachNode_any _ _ _ _ [] W v es (hV.stays hBW) hl hf (tellIn w.heap.size u w (spansF es) (by omega)) hI
  rw [hR] at cE
  have HW : Hid (w.alloc (.cells #[.int .i64 u, .slice none 0 0] 61) = W) := hW
  clear hV hl hf hW hI hBW hR hsl
  go_enter Try.func40, Try.ntmps40
  go_wp2_with fail
  rw [HW.out]
  go_wp2_with fail
  refine cE.mono ?_
  rintro e w1 ⟨rfl, a, n, c, h1, h2, h3⟩
  have c1 := h1.c1
  have HO : Hid (OwnI w R (.returned (.slice a n c)) w1) := ⟨a, n, c, rfl, row_lowS h2 (Nat.le_succ _), h3⟩
  clear cE h1 h2 h3
  go_wp2_with fail
  go_ret
  exact HO.out
set_option maxHeartbeats 4000000 in
theorem implRootsOf : ImplRootsOf := by
  intro w v es R hV hl hf hR
  have cN := nodesIn_any w v es (-1) R hV hl hf (by
    by_cases h : nested es = true
    · rw [if_pos h, roots_gat h, hR]
    · rw [if_neg h, ← hR]
      unfold rootsOf rootsTo
      symm
      rw [List.filter_eq_nil_iff]
      intro j _ hj
      unfold rootAt at hj
      rw [show nested es = false by simpa using h] at hj
      simp at hj)
  clear hV hl hf hR
  go_enter Try.func26, Try.ntmps26
  go_wp2_with fail
  refine cN.mono ?_
  rintro e w1 ⟨a, n, c, rfl, h2, h3⟩
  have HO : Hid (OwnI w R (.returned (.slice a n c)) w1) := ⟨a, n, c, rfl, h2, h3⟩
  clear cN h2 h3
  go_wp2_with fail
  go_ret
  exact HO.out
set_option maxHeartbeats 4000000 in
theorem implKidsOf : ImplKidsOf := by
  intro w v es i R hV hl hf _ hR
  by_cases h0 : i < 0
  · have HO : Hid (OwnI w R (.returned (.slice none 0 0)) w) := by
      have : R = [] := by rw [← hR]; unfold kidsOf; rw [if_pos (.inr (.inl h0))]
      subst this
      exact ⟨none, 0, 0, rfl, ⟨rfl, .inl ⟨rfl, rfl⟩⟩, Below.refl _ _⟩
    clear hV hl hf hR
    go_enter Try.func16, Try.ntmps16
    go_wp2_with fail
    go_ret
    exact HO.out
  · have cN := nodesIn_any w v es i R hV hl hf (by
      by_cases h : nested es = true
      · rw [if_pos h, kids_gat h i (by omega), hR]
      · rw [if_neg h, ← hR]
        unfold kidsOf
        rw [if_pos (.inl (by simpa using h))])
    clear hV hl hf hR
    go_enter Try.func16, Try.ntmps16
    go_wp2_with fail
    refine cN.mono ?_
    rintro e w1 ⟨a, n, c, rfl, h2, h3⟩
    have HO : Hid (OwnI w R (.returned (.slice a n c)) w1) := ⟨a, n, c, rfl, h2, h3⟩
    clear cN h2 h3
    go_wp2_with fail
    go_ret
    exact HO.out
end Go.Proofs.Ytepodbjdicnjoaa
