/- Marks on the nodes of a graph: plain, and the laws' markNodeS. -/
import Derived.Test.YtgaibajkegfpoaaGmk
import Derived.Test.YtgaibajkegfpoaaTmt
namespace Go.Proofs.Ytgaibajkegfpoaa
open Go.ChangeShapes Go.WideShapes Go.ChangeAt Go.RowKit Go.Deep
def markNd (k : Nat) (n : Nd) : Nd := ⟨(k : Int), mT (k + 1), mT (k + 2), mkN (k + 3) n.kids.length⟩
def markNs : Nat → List Nd → List Nd
  | _, [] => []
  | k, n :: t => markNd k n :: markNs (k + 3 + n.kids.length) t
def cntNs : List Nd → Nat
  | [] => 0
  | n :: t => 3 + n.kids.length + cntNs t
theorem cntNs_app : ∀ a b : List Nd, cntNs (a ++ b) = cntNs a + cntNs b
  | [], b => by simp [cntNs]
  | n :: a, b => by rw [List.cons_append, cntNs, cntNs, cntNs_app a b]; omega
theorem markNs_app : ∀ (k : Nat) (a b : List Nd), markNs k (a ++ b) = markNs k a ++ markNs (k + cntNs a) b
  | k, [], b => by simp [cntNs, markNs]
  | k, n :: a, b => by
    rw [List.cons_append, markNs, markNs, markNs_app, cntNs, List.cons_append, show k + (3 + n.kids.length + cntNs a) = k + 3 + n.kids.length + cntNs a by omega]
theorem markNs_len : ∀ (k : Nat) (a : List Nd), (markNs k a).length = a.length
  | _, [] => rfl
  | k, n :: a => by rw [markNs, List.length_cons, List.length_cons, markNs_len]
theorem cntNs_tot : ∀ a : List Nd, cntNs a ≤ 3 * a.length + totN a
  | [] => Nat.zero_le _
  | n :: a => by
    have := cntNs_tot a
    have e : totN (n :: a) = n.tot + totN a := rfl
    rw [cntNs, e, List.length_cons]
    unfold Nd.tot
    omega
/-- So far marked. -/
def mkL (k : Nat) (ns : List Nd) (j : Nat) : List Nd := markNs k (ns.take j) ++ ns.drop j
theorem mkL_len (k : Nat) (ns : List Nd) (j : Nat) : (mkL k ns j).length = ns.length := by
  unfold mkL
  rw [List.length_append, markNs_len, ← List.length_append, List.take_append_drop]
theorem mkL_at {k : Nat} {ns : List Nd} {j : Nat} {n : Nd} (h : ns[j]? = some n) : (mkL k ns j)[j]? = some n := by
  have hj := (List.getElem?_eq_some_iff.1 h).1
  unfold mkL
  have hl : (markNs k (ns.take j)).length = j := by rw [markNs_len, List.length_take]; omega
  rw [List.getElem?_append_right (by omega), hl, Nat.sub_self, List.getElem?_drop]
  exact h
theorem mkL_succ {k : Nat} {ns : List Nd} {j : Nat} {n : Nd} (h : ns[j]? = some n) : mkL k ns (j + 1) = (mkL k ns j).set j (markNd (k + cntNs (ns.take j)) n) := by
  obtain ⟨hj, hn⟩ := List.getElem?_eq_some_iff.1 h
  unfold mkL
  have hl : (markNs k (ns.take j)).length = j := by rw [markNs_len, List.length_take]; omega
  rw [List.set_append_right _ _ (by omega), hl, Nat.sub_self, List.drop_eq_getElem_cons hj, List.set_cons_zero, List.take_add_one, h]
  show markNs k (ns.take j ++ [n]) ++ _ = _
  rw [markNs_app, List.append_assoc]
  rfl
theorem cellsN_set : ∀ (ns : List Nd) (vs : List Value) (j : Nat) (n : Nd) (v : Value) (m : Nd), ns[j]? = some n → vs[j]? = some v →
    (((cellsN ns vs).set (j * 4) (.int .i64 m.kind)).set (j * 4 + 1) (.string m.tag)).set (j * 4 + 2) (.string m.text) = cellsN (ns.set j m) vs
  | [], _, j, _, _, _, h, _ => by simp at h
  | _ :: _, [], j, _, _, _, _, h => by simp at h
  | a :: t, x :: y, 0, n, v, m, _, _ => rfl
  | a :: t, x :: y, j + 1, n, v, m, h, h' => by
    have := cellsN_set t y j n v m (by simpa using h) (by simpa using h')
    rw [List.set_cons_succ, cellsN, cellsN, show (j + 1) * 4 = j * 4 + 4 by omega, show j * 4 + 4 + 1 = (j * 4 + 1) + 4 by omega, show j * 4 + 4 + 2 = (j * 4 + 2) + 4 by omega]
    simp only [List.set_cons_succ]
    rw [this]
/-- What stays as it was while nodes are written. -/
structure FrN (w0 : World) (lo : Nat) (nv : Value) (vs : List Value) (w : World) : Prop where
  below : Below lo w0 w
  blk : ∀ b, b < w0.heap.size → nv.ownBlock ≠ some b → (∀ (i : Nat) (v : Value), vs[i]? = some v → v.ownBlock ≠ some b) → w.heap[b]? = w0.heap[b]?
theorem FrN.refl (w : World) (lo : Nat) (nv : Value) (vs : List Value) : FrN w lo nv vs w := ⟨⟨rfl, rfl, rfl, Nat.le_refl _, fun _ _ => rfl⟩, fun _ _ _ _ => rfl⟩
theorem FrN.later {w0 w w' : World} {lo : Nat} {nv : Value} {vs : List Value} (h : FrN w0 lo nv vs w) (hlo : lo ≤ w0.heap.size) (hb : Below w.heap.size w w') : FrN w0 lo nv vs w' :=
  ⟨h.below.trans (hb.mono (Nat.le_trans hlo h.below.size)), fun b h1 h2 h3 => (hb.block b (Nat.lt_of_lt_of_le h1 h.below.size)).trans (h.blk b h1 h2 h3)⟩
theorem FrN.setB {w0 w : World} {lo B n c : Nat} {vs : List Value} (h : FrN w0 lo (.slice (some ⟨B, 0, none⟩) n c) vs w) (hlo : lo ≤ B) (i : Nat) (u : Value) : FrN w0 lo (.slice (some ⟨B, 0, none⟩) n c) vs (w.setCell ⟨B, i, none⟩ u) :=
  ⟨h.below.setCell hlo _, fun b h1 h2 h3 => (heap_setCell_other _ _ _ _ (fun e => h2 (by rw [e]; rfl))).trans (h.blk b h1 h2 h3)⟩
theorem FrN.kid {w0 w w' : World} {lo j : Nat} {nv v : Value} {vs : List Value} (h : FrN w0 lo nv vs w) (hv : vs[j]? = some v) (hlo : ∀ x, v.ownBlock = some x → lo ≤ x) (hl : lo ≤ w0.heap.size) (hg : w.grownBy w' v.ownBlock) : FrN w0 lo nv vs w' := by
  refine ⟨h.below.trans ⟨hg.os, hg.tape, hg.output, hg.size, fun i hi => hg.block i (Nat.lt_of_lt_of_le hi (Nat.le_trans hl h.below.size)) (fun e => ?_)⟩, fun b h1 h2 h3 => (hg.block b (Nat.lt_of_lt_of_le h1 h.below.size) (fun e => h3 j v hv e.symm)).trans (h.blk b h1 h2 h3)⟩
  have := hlo i e.symm
  omega
/-- The kids of one node are written. -/
theorem KidsOwn.mark {lo : Nat} {w w' : World} {vs : List Value} {ns : List Nd} {j : Nat} {n m : Nd} {v : Value} (h : KidsOwn lo w vs ns) (hn : ns[j]? = some n) (hv : vs[j]? = some v) (hr : w'.ownsRow lo 3 1 v m.kids.length (ilV m.kids)) (hg : w.grownBy w' v.ownBlock) : KidsOwn lo w' vs (ns.set j m) := by
  refine ⟨by rw [List.length_set]; exact h.len, fun i a p ha hp => ?_, h.apart⟩
  by_cases e : j = i
  · subst e
    rw [hv] at ha
    obtain rfl : v = a := by simpa using ha
    rw [List.getElem?_set_self (List.getElem?_eq_some_iff.1 hn).1] at hp
    obtain rfl : m = p := by simpa using hp
    exact hr
  · rw [List.getElem?_set_ne e] at hp
    refine g_row_block (h.own i a p ha hp) (fun x hx => hg.block x ((h.own i a p ha hp).lt x hx).2 (fun e2 => ?_))
    rcases Nat.lt_or_gt_of_ne e with h1 | h1
    · exact h.apart j i v a x h1 hv ha e2.symm hx
    · exact h.apart i j a v x h1 ha hv hx e2.symm
theorem KidsOwn.same {lo : Nat} {w : World} {vs : List Value} {ns : List Nd} {j : Nat} {n m : Nd} (h : KidsOwn lo w vs ns) (hn : ns[j]? = some n) (hm : m.kids = n.kids) : KidsOwn lo w vs (ns.set j m) := by
  refine ⟨by rw [List.length_set]; exact h.len, fun i a p ha hp => ?_, h.apart⟩
  by_cases e : j = i
  · subst e
    rw [List.getElem?_set_self (List.getElem?_eq_some_iff.1 hn).1] at hp
    obtain rfl : m = p := by simpa using hp
    rw [hm]
    exact h.own j a n ha hn
  · rw [List.getElem?_set_ne e] at hp
    exact h.own i a p ha hp
theorem cellsN_kid {ns : List Nd} {vs : List Value} {j : Nat} {n : Nd} {v : Value} (h : ns[j]? = some n) (h' : vs[j]? = some v) : (cellsN ns vs)[j * 4 + 3]? = some v := cellsN_at ns vs j n v h h' 3 v rfl
theorem row_cellX {w : World} {lo t sz g n cap : Nat} {xs : List Value} (h : w.ownsRow lo t sz (.slice (some ⟨g, 0, none⟩) n cap) n xs) (i : Nat) (hi : i < xs.length) : (∃ z, w.cell? ⟨g, i, none⟩ = some z) ∧ w.frozen? ⟨g, i, none⟩ = false := by
  refine ⟨?_, h.frozenAt i⟩
  have := h.cells (g := g) rfl i (xs[i]'hi) (by simp)
  have hadd : (⟨g, 0, none⟩ : Addr).add i = ⟨g, i, none⟩ := by unfold Addr.add; split <;> simp_all
  rw [hadd] at this
  exact ⟨_, this⟩
theorem KidsOwn.other {lo : Nat} {w : World} {vs : List Value} {ns : List Nd} {B cap n : Nat} {xs : List Value} (h : KidsOwn lo w vs ns) (hr : w.ownsRow lo 50 4 (.slice (some ⟨B, 0, none⟩) n cap) n xs) {i : Nat} {v : Value} (hv : vs[i]? = some v) : v.ownBlock ≠ some B := fun e => by
  obtain ⟨m, hm⟩ := h.get hv
  obtain ⟨c1, f1, e1⟩ := own_type (h.own i v m hv hm) e
  obtain ⟨c2, f2, e2⟩ := own_type hr (x := B) rfl
  rw [e1] at e2
  injection e2 with e2
  injection e2 with _ e3 _
  exact absurd e3 (by decide)
theorem KidsOwn.setB {lo : Nat} {w : World} {vs : List Value} {ns : List Nd} {B cap n : Nat} {xs : List Value} (h : KidsOwn lo w vs ns) (hr : w.ownsRow lo 50 4 (.slice (some ⟨B, 0, none⟩) n cap) n xs) (i : Nat) (u : Value) : KidsOwn lo (w.setCell ⟨B, i, none⟩ u) vs ns :=
  h.block (fun k v x hv hx => heap_setCell_other _ _ _ _ (fun e => h.other hr hv (by rw [hx, e])))
end Go.Proofs.Ytgaibajkegfpoaa
