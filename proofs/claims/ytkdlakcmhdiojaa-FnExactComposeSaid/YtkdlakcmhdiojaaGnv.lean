/- The program's loom tells its graph: the graph in memory, as it grows. -/
import Derived.Test.YtkdlakcmhdiojaaZqba
import Derived.Deep.RegionHeld3
namespace Go.Proofs.Ytkdlakcmhdiojaa
open Go.ChangeShapes Go.WideShapes Go.ChangeAt Go.RowKit Go.Deep Go.Maps
theorem push_nv (w : World) (lo : Nat) (v : Value) (ns : List Nd) (vs : List Value) (n : Nd) {a0 : Option Addr} {m0 c0 : Nat} (hv : vs.length = ns.length) (hown : w.ownsRow lo 70 4 v ns.length (cellsN ns vs)) (hl : ns.length ≤ 100000000) (hlo : lo ≤ w.heap.size) :
    ∃ a m c w', (Builtin.append_ #[24, 24] 24 #[v, .slice (some ⟨w.heap.size, 0, none⟩) 1 1]).run Try.prog (w.alloc (.cells (knV n (.slice a0 m0 c0)) 70)) = .ok (.slice a m c) w' ∧ w'.ownsRow lo 70 4 (.slice a m c) (ns ++ [n]).length (cellsN (ns ++ [n]) (vs ++ [.slice a0 m0 c0])) ∧ Below lo w w' ∧ (∀ b, b < w.heap.size → v.ownBlock ≠ some b → w'.heap[b]? = w.heap[b]?) := by
  obtain ⟨v5, w5, hrun5, hsl5, hown5, hbel5, hot5, hid5⟩ := push_own2 (P := Try.prog) Try.underlying24 infoNd rfl (by decide) w lo v ns.length (cellsN ns vs) hown (knV n (.slice a0 m0 c0)) rfl (fun u hu => by
    unfold knV at hu
    simp at hu
    rcases hu with rfl | rfl | rfl | rfl <;> rfl) hl (by omega) hlo 24
  obtain ⟨a5, n5, c5, rfl⟩ := hsl5
  refine ⟨a5, n5, c5, w5, hrun5, ?_, hbel5, hot5⟩
  rw [List.length_append, cellsN_snoc ns vs n _ hv]
  exact hown5
/-- The graph under way, at block G; the result's block is w's next. -/
structure GrS (w : World) (G : Nat) (rv : Value) (rs : List Int) (ns : List Nd) (vs : List Value) (x : World) : Prop where
  box : ∃ (a : Option Addr) (n c : Nat), x.heap[G]? = some (.cells #[.slice a n c, rv] 27 (0, 0)) ∧ x.ownsRow w.heap.size 70 4 (.slice a n c) ns.length (cellsN ns vs)
  kids : KidsOwn w.heap.size x vs ns
  roots : x.ownsRow w.heap.size 3 1 rv rs.length (ilV rs)
  sl : isSlG rv
  apart : ∀ (i : Nat) (a : Value) (y : Nat), vs[i]? = some a → a.ownBlock = some y → rv.ownBlock ≠ some y
  lo : w.heap.size < G
  res : x.heap[w.heap.size]? = some (.cells #[.slice none 0 0, .slice none 0 0] 27 (0, 0))
  below : Below w.heap.size w x
section
variable {w x x1 : World} {G : Nat} {rv : Value} {rs : List Int} {ns : List Nd} {vs : List Value}
theorem GrS.stays (h : GrS w G rv rs ns vs x) (hb : Below x.heap.size x x1) : GrS w G rv rs ns vs x1 := by
  obtain ⟨a, n, c, h1, h2⟩ := h.box
  exact ⟨⟨a, n, c, (hb.block G (Array.getElem?_eq_some_iff.1 h1).1).trans h1, g_row_below h2 hb⟩, h.kids.later hb, g_row_below h.roots hb, h.sl, h.apart, h.lo, (hb.block _ (Array.getElem?_eq_some_iff.1 h.res).1).trans h.res, h.below.trans (hb.mono h.below.size)⟩
/-- A node comes. -/
theorem GrS.push (h : GrS w G rv rs ns vs x) {n : Nd} {ka : Option Addr} {km kc : Nat} (hb : Below x.heap.size x x1) (hk : x1.ownsRow x.heap.size 3 1 (.slice ka km kc) n.kids.length (ilV n.kids)) (hl : ns.length ≤ 1048576) :
    ∃ a0 n0 c0 a m c x5, x.cell? ⟨G, 0, none⟩ = some (.slice a0 n0 c0) ∧ x1.cell? ⟨G, 0, none⟩ = some (.slice a0 n0 c0) ∧ (Builtin.append_ #[24, 24] 24 #[.slice a0 n0 c0, .slice (some ⟨x1.heap.size, 0, none⟩) 1 1]).run Try.prog (x1.alloc (.cells #[.int .i64 n.kind, .string n.tag, .string n.text, .slice ka km kc] 70)) = .ok (.slice a m c) x5 ∧ x5.cell? ⟨G, 0, none⟩ = some (.slice a0 n0 c0) ∧ x5.frozen? ⟨G, 0, none⟩ = false ∧ GrS w G rv rs (ns ++ [n]) (vs ++ [.slice ka km kc]) (x5.setCell ⟨G, 0, none⟩ (.slice a m c)) ∧ G < x1.heap.size ∧ x1.heap.size ≤ (x5.setCell ⟨G, 0, none⟩ (.slice a m c)).heap.size ∧ ∀ (y : Nat) (cs : Array Value), x1.heap[y]? = some (.cells cs 89 (0, 0)) → x5.heap[y]? = some (.cells cs 89 (0, 0)) ∧ (x5.setCell ⟨G, 0, none⟩ (.slice a m c)).heap[y]? = some (.cells cs 89 (0, 0)) := by
  have h1 := h.stays hb
  obtain ⟨a0, n0, c0, k1, k2⟩ := h.box
  have k1' := (hb.block G (Array.getElem?_eq_some_iff.1 k1).1).trans k1
  have k2' := g_row_below k2 hb
  have hlo : w.heap.size ≤ x1.heap.size := h1.below.size
  obtain ⟨a, m, c, x5, hrun, hown, hbel, hot⟩ := push_nv x1 w.heap.size (.slice a0 n0 c0) ns vs n (a0 := ka) (m0 := km) (c0 := kc) h.kids.len k2' (by omega) hlo
  have hG := (Array.getElem?_eq_some_iff.1 k1').1
  have k5 := (hot G hG (row_apart k2' k1' (by decide))).trans k1'
  have hi : ∀ {lo : Nat} {v : Value} {q : Nat} {xs : List Value}, x1.ownsRow lo 3 1 v q xs → ∀ y, v.ownBlock = some y → (x5.setCell ⟨G, 0, none⟩ (.slice a m c)).heap[y]? = x1.heap[y]? := fun hr y hy => by
    obtain ⟨cs, fr, e⟩ := own_type hr hy
    exact (heap_setCell_other _ _ _ _ (own_neC hr hy k1' (by decide))).trans (hot y (hr.lt y hy).2 (row_apart k2' e (by decide)))
  have hkk := h1.kids.block (w' := x5.setCell ⟨G, 0, none⟩ (.slice a m c)) (fun i v y hv hy => by
    obtain ⟨p, hp⟩ := h1.kids.get hv
    exact hi (h1.kids.own i v p hv hp) y hy)
  have hks := g_row_block hk (hi hk)
  have hGe : ∀ y, (Value.slice ka km kc).ownBlock = some y → x.heap.size ≤ y := fun y hy => (hk.lt y hy).1
  have hsz : x1.heap.size ≤ (x5.setCell ⟨G, 0, none⟩ (.slice a m c)).heap.size := by
    have := hbel.size
    simp [World.setCell]
    exact this
  refine ⟨a0, n0, c0, a, m, c, x5, n2_0 k1, n2_0 k1', hrun, n2_0 k5, n2_f k5 0, ⟨⟨a, m, c, n2_set0 k5 _, row_set hown (row_apart hown k5 (by decide)) _ _⟩, ⟨by rw [List.length_append, List.length_append, h.kids.len]; rfl, fun i v p hv hp => ?_, fun i j u v y hij hu hv hy => ?_⟩, g_row_block h1.roots (hi h1.roots), h.sl, fun i u y hu hy => ?_, h.lo, ?_, (h1.below.trans hbel).setCell (Nat.le_of_lt h.lo) _⟩, hG, hsz, fun y cs hy => ?_⟩
  · by_cases hil : i < vs.length
    · rw [List.getElem?_append_left hil] at hv
      rw [List.getElem?_append_left (by rw [← h.kids.len]; exact hil)] at hp
      exact hkk.own i v p hv hp
    · have hil2 := (List.getElem?_eq_some_iff.1 hv).1
      rw [List.length_append, List.length_singleton] at hil2
      obtain rfl : i = vs.length := by omega
      rw [List.getElem?_append_right (Nat.le_refl _), Nat.sub_self] at hv
      rw [List.getElem?_append_right (by rw [h.kids.len]; exact Nat.le_refl _), h.kids.len, Nat.sub_self] at hp
      obtain rfl : Value.slice ka km kc = v := by simpa using hv
      obtain rfl : n = p := by simpa using hp
      exact g_row_lower hks h.below.size
  · by_cases hjl : j < vs.length
    · rw [List.getElem?_append_left hjl] at hv
      rw [List.getElem?_append_left (by omega)] at hu
      exact hkk.apart i j u v y hij hu hv hy
    · have hjl2 := (List.getElem?_eq_some_iff.1 hv).1
      rw [List.length_append, List.length_singleton] at hjl2
      obtain rfl : j = vs.length := by omega
      rw [List.getElem?_append_right (Nat.le_refl _), Nat.sub_self] at hv
      rw [List.getElem?_append_left hij] at hu
      obtain rfl : Value.slice ka km kc = v := by simpa using hv
      intro e
      have h3 := hGe y e
      have h4 := (h.kids.lt hu hy).2
      omega
  · by_cases hil : i < vs.length
    · rw [List.getElem?_append_left hil] at hu
      exact h.apart i u y hu hy
    · have hil2 := (List.getElem?_eq_some_iff.1 hu).1
      rw [List.length_append, List.length_singleton] at hil2
      obtain rfl : i = vs.length := by omega
      rw [List.getElem?_append_right (Nat.le_refl _), Nat.sub_self] at hu
      obtain rfl : Value.slice ka km kc = u := by simpa using hu
      intro e
      have h3 := hGe y hy
      have h4 := (h.roots.lt y e).2
      omega
  · have hr := (Array.getElem?_eq_some_iff.1 h1.res).1
    exact (heap_setCell_other _ _ _ _ (by have := h.lo; show w.heap.size ≠ G; omega)).trans ((hot _ hr (row_apart k2' h1.res (by decide))).trans h1.res)
  · have hy5 := (hot y (Array.getElem?_eq_some_iff.1 hy).1 (row_apart k2' hy (by decide))).trans hy
    exact ⟨hy5, (heap_setCell_other _ _ _ _ (cells_ne hy k1' (by decide))).trans hy5⟩
end
end Go.Proofs.Ytkdlakcmhdiojaa
