/- Two appends: the empty pieces, then one piece more; in both orders in which the piece's memory may be made. -/
import Derived.Test.YtjpcmmfmdoglkalGreatDoorPap
import Derived.Test.YtjpcmmfmdoglkalGreatDoorPsh
import Derived.Test.YtjpcmmfmdoglkalGreatDoorTpc
namespace Go.Proofs.YtjpcmmfmdoglkalGreatDoor
open Go.RowKit Go.Deep
theorem add0 (g j : Nat) : (⟨g, 0, none⟩ : Addr).add j = ⟨g, j, none⟩ := by unfold Addr.add; split <;> simp_all
theorem one_cellsC (ps : List Pc) : ∀ u ∈ cellsC ps, u.oneCell' = true := by
  intro u hu
  unfold cellsC at hu
  obtain ⟨p, _, h⟩ := List.mem_flatMap.1 hu
  simp at h
  rcases h with rfl | rfl <;> rfl
theorem cellsC_app (a b : List Pc) : cellsC (a ++ b) = cellsC a ++ cellsC b := by unfold cellsC; rw [List.flatMap_append]
def AppsA (lo : Nat) (l : List Pc) (w : World) (lv mv : Value) (x : ByteArray) (ty : TypeId) (l1 : Value) (wA : World) (l2 : Value) (wB : World) : Prop :=
  (Builtin.append_ #[90, 90] ty #[lv, mv]).run Tryz.prog w = .ok l1 wA ∧
  (Builtin.append_ #[90, 90] ty #[l1, .slice (some ⟨wA.heap.size, 0, none⟩) 1 1]).run Tryz.prog (wA.alloc (.cells #[.string x, .bool false] 92)) = .ok l2 wB ∧
  isSl' l1 ∧ isSl' l2 ∧ wB.ownsRow lo 92 2 l2 l.length (cellsC l) ∧ Below lo w wB
def AppsB (lo : Nat) (l : List Pc) (w : World) (lv mv : Value) (x : ByteArray) (ty : TypeId) (l1 : Value) (wA : World) (l2 : Value) (wB : World) : Prop :=
  (Builtin.append_ #[90, 90] ty #[lv, mv]).run Tryz.prog (w.alloc (.cells #[.string x, .bool false] 92)) = .ok l1 wA ∧
  (Builtin.append_ #[90, 90] ty #[l1, .slice (some ⟨w.heap.size, 0, none⟩) 1 1]).run Tryz.prog wA = .ok l2 wB ∧
  isSl' l1 ∧ isSl' l2 ∧ wB.ownsRow lo 92 2 l2 l.length (cellsC l) ∧ Below lo w wB
theorem own_isSl {w : World} {lo e sz : Nat} {v : Value} {n : Nat} {xs : List Value} (h : w.ownsRow lo e sz v n xs) : isSl' v := by
  rcases h.2 with ⟨e, _⟩ | ⟨g, cap, cur, e, _⟩
  · exact ⟨_, _, _, e⟩
  · exact ⟨_, _, _, e⟩
theorem below_of_grown {w w' : World} {lo : Nat} {v : Value} (hg : w.grownBy w' v.ownBlock) (hlo : lo ≤ w.heap.size) (h : ∀ b, v.ownBlock = some b → lo ≤ b) : Below lo w w' :=
  ⟨hg.os, hg.tape, hg.output, hg.size, fun b hb => hg.block b (by omega) (fun e => by have := h b e.symm; omega)⟩
/-- Behind a row of pieces, those that lie at a. -/
theorem app_row {w : World} {lo : Nat} {v : Value} {l es : List Pc} (hown : w.ownsRow lo 92 2 v l.length (cellsC l)) (a : Addr) (c : Nat) (hc : ∀ j u, (cellsC es)[j]? = some u → w.cell? (a.add j) = some u) (hn : l.length + es.length ≤ 100000000) (hlo : lo ≤ w.heap.size) (ty : TypeId) :
    ∃ v' w', (Builtin.append_ #[90, 90] ty #[v, .slice (some a) es.length c]).run Tryz.prog w = .ok v' w' ∧ w'.ownsRow lo 92 2 v' (l ++ es).length (cellsC (l ++ es)) ∧ w.grownBy w' v.ownBlock ∧ Below lo w w' := by
  obtain ⟨ti, hti, hz0, hz1, hz2⟩ := infoC_parts
  obtain ⟨v2, w2, hr2, ho2, hg2, _, _⟩ := run_append_own_at (P := Tryz.prog) w lo 90 ty 92 ti _ 2 24 Tryz.underlying90 hti hz0 hz1 hz2 rfl (by decide) v l.length _ hown a es.length c (cellsC es) (cellsC_len es) hc (one_cellsC es) (by unfold maxLen; omega) (by omega) hlo
  refine ⟨v2, w2, hr2, ?_, hg2, below_of_grown hg2 hlo (fun b hb => (hown.lt b hb).1)⟩
  rw [List.length_append, cellsC_app]
  exact ho2
theorem two_apps {w : World} {lo H g c : Nat} {lv : Value} {l es : List Pc} {x : ByteArray} (hl : w.ownsRow lo 92 2 lv l.length (cellsC l)) (hm : w.ownsRow H 92 2 (.slice (some ⟨g, 0, none⟩) es.length c) es.length (cellsC es)) (hn : l.length + es.length ≤ 10000000) (hlo : lo ≤ w.heap.size) (ty : TypeId) :
    (∃ l1 wA l2 wB, AppsA lo (l ++ es ++ [(x, false)]) w lv (.slice (some ⟨g, 0, none⟩) es.length c) x ty l1 wA l2 wB) ∧ (∃ l1 wA l2 wB, AppsB lo (l ++ es ++ [(x, false)]) w lv (.slice (some ⟨g, 0, none⟩) es.length c) x ty l1 wA l2 wB) := by
  have hcm : ∀ j u, (cellsC es)[j]? = some u → w.cell? ((⟨g, 0, none⟩ : Addr).add j) = some u := fun j u hu => hm.cells (g := g) rfl j u hu
  constructor
  · obtain ⟨l1, wA, hr1, ho1, hg1, hb1⟩ := app_row hl ⟨g, 0, none⟩ c hcm (by omega) hlo ty
    have hlo1 : lo ≤ wA.heap.size := Nat.le_trans hlo hb1.size
    obtain ⟨l2, wB, hr2, hs2, ho2, hb2, _⟩ := push_own (P := Tryz.prog) Tryz.underlying90 infoC rfl (by decide) wA lo l1 _ _ ho1 #[.string x, .bool false] rfl (by intro u hu; simp at hu; rcases hu with rfl | rfl <;> rfl) (by rw [List.length_append]; omega) (by omega) hlo1 ty
    refine ⟨l1, wA, l2, wB, hr1, hr2, own_isSl ho1, hs2, ?_, hb1.trans hb2⟩
    rw [List.length_append, cellsC_snoc]
    exact ho2
  · have hl' := hl.alloc (.cells #[.string x, .bool false] 92)
    have hcm' : ∀ j u, (cellsC es)[j]? = some u → (w.alloc (.cells #[.string x, .bool false] 92)).cell? ((⟨g, 0, none⟩ : Addr).add j) = some u := fun j u hu => (hm.alloc _).cells (g := g) rfl j u hu
    have hal : Below lo w (w.alloc (.cells #[.string x, .bool false] 92)) := (Below.refl _ w).alloc hlo _
    obtain ⟨l1, wA, hr1, ho1, hg1, hb1⟩ := app_row hl' ⟨g, 0, none⟩ c hcm' (by omega) (Nat.le_trans hlo hal.size) ty
    have hpb : wA.heap[w.heap.size]? = some (.cells #[.string x, .bool false] 92 (0, 0)) := by
      rw [hg1.block w.heap.size (by simp) (fun e => by have := (hl.lt _ e.symm).2; omega)]
      exact new_block w _
    have hbA : Below lo w wA := hal.trans hb1
    obtain ⟨l2, wB, hr2, ho2, hg2, hb2⟩ := app_row (es := [(x, false)]) ho1 ⟨w.heap.size, 0, none⟩ 1 (World.news_of_block (cs := #[.string x, .bool false]) (t := 92) (fr := (0, 0)) hpb) (by rw [List.length_append]; simp; omega) (Nat.le_trans hlo hbA.size) ty
    exact ⟨l1, wA, l2, wB, hr1, hr2, own_isSl ho1, own_isSl ho2, ho2, hbA.trans hb2⟩
end Go.Proofs.YtjpcmmfmdoglkalGreatDoor
