/- Maps keyed by pointers, in memory, as plain functions of the blocks that the keys point to. -/
import Derived.LaidEqlPtr
import Derived.WalkSpells
import Derived.MapKept
import Derived.Maps.OwnSet
import Derived.Below
namespace Go.Proofs.YtgaibajkegfpoaaDoor
open Go.RowKit
def ptr (b : Nat) : Value := .pointer (some ⟨b, 0, none⟩)
/-- A block of plain cells stands there. -/
def Live (w : World) (b : Nat) : Prop := ∃ cs t, w.heap[b]? = some (.cells cs t (0, 0))
theorem ptr_inj {a b : Nat} (h : ptr a = ptr b) : a = b := by
  unfold ptr at h
  injection h with h
  injection h with h
  injection h
section
variable {P : Program} {w w' : World} {kt te : TypeId} {i : TypeInfo}
theorem ptr_equal (hp : P.underlying kt = some (.pointer te)) (hte : P.info? te = some i) (hsz : i.size ≠ 0) {a b : Nat} (ha : Live w a) (hb : Live w b) :
    (Op.equal kt (ptr a) (ptr b)).run P w = .ok (decide (a = b)) w := by
  obtain ⟨ca, ta, ha⟩ := ha
  obtain ⟨cb, tb, hb⟩ := hb
  unfold ptr
  by_cases e : a = b
  · subst e
    have h : ∀ d : Nat, (Op.equalIn (d + 1) kt (.pointer (some ⟨a, 0, none⟩)) (.pointer (some ⟨a, 0, none⟩))).run P w = .ok true w := fun d => by
      simp [Op.equalIn, run_underlying hp, sizeOf, typeInfo, hte, run_sameAddr_same]
    rw [show Op.equal kt = Op.equalIn (9999 + 1) kt from rfl, h 9999]
    simp
  · have hne : (⟨a, 0, none⟩ : Addr) ≠ ⟨b, 0, none⟩ := fun h => e (by injection h)
    have h : ∀ d : Nat, (Op.equalIn (d + 1) kt (.pointer (some ⟨a, 0, none⟩)) (.pointer (some ⟨b, 0, none⟩))).run P w = .ok false w := fun d => by
      simp [Op.equalIn, run_underlying hp, sizeOf, typeInfo, hte, hsz, run_sameAddr_other w hne ha hb]
    rw [show Op.equal kt = Op.equalIn (9999 + 1) kt from rfl, h 9999]
    simp [e]
theorem ptr_neq (hp : P.underlying kt = some (.pointer te)) (hte : P.info? te = some i) (hsz : i.size ≠ 0) {a b : Nat} (ha : Live w a) (hb : Live w b) :
    (binOp .neq kt (ptr a) (ptr b)).run P w = .ok (.bool (!decide (a = b))) w := by
  have h := ptr_equal (w := w) hp hte hsz ha hb
  unfold ptr at h ⊢
  simp only [binOp]
  simp [h]
theorem ptr_find (hp : P.underlying kt = some (.pointer te)) (hte : P.info? te = some i) (hsz : i.size ≠ 0) {a : Nat} (ha : Live w a) : ∀ (es : List MapEntry) (j : Nat), (∀ x ∈ es, ∃ b, x.key = ptr b ∧ Live w b) →
    ((Instr.findAsking kt (ptr a) es j).run P w = .ok none w ∧ ∀ x ∈ es, x.key ≠ ptr a) ∨ ∃ k e, (Instr.findAsking kt (ptr a) es j).run P w = .ok (some (j + k, e.val)) w ∧ es[k]? = some e ∧ e.key = ptr a
  | [], j, _ => .inl ⟨by simp [Instr.findAsking], by simp⟩
  | x :: es, j, h => by
    obtain ⟨b, hx, hb⟩ := h x (List.mem_cons_self ..)
    have he := ptr_equal (w := w) hp hte hsz ha hb
    by_cases e : a = b
    · subst e
      refine .inr ⟨0, x, ?_, rfl, hx⟩
      simp [Instr.findAsking, hx, he, Result.andThen]
    · rcases ptr_find hp hte hsz ha es (j + 1) (fun y hy => h y (List.mem_cons_of_mem _ hy)) with ⟨h1, h2⟩ | ⟨k, y, h1, h2, h3⟩
      · refine .inl ⟨by simp [Instr.findAsking, hx, he, e, h1, Result.andThen], fun y hy => ?_⟩
        rcases List.mem_cons.1 hy with rfl | hy
        · rw [hx]
          exact fun h => e (ptr_inj h).symm
        · exact h2 y hy
      · exact .inr ⟨k + 1, y, by simp [Instr.findAsking, hx, he, e, h1, Result.andThen]; omega, by simpa using h2, h3⟩
theorem ptr_findKey (hp : P.underlying kt = some (.pointer te)) (hte : P.info? te = some i) (hsz : i.size ≠ 0) {a : Nat} (ha : Live w a) (es : List MapEntry) (h : ∀ x ∈ es, ∃ b, x.key = ptr b ∧ Live w b) :
    ((Instr.findKey kt (ptr a) es).run P w = .ok none w ∧ ∀ x ∈ es, x.key ≠ ptr a) ∨ ∃ k e, (Instr.findKey kt (ptr a) es).run P w = .ok (some (k, e.val)) w ∧ es[k]? = some e ∧ e.key = ptr a := by
  have hf := ptr_find (w := w) hp hte hsz ha es 0 h
  cases es with
  | nil =>
    refine .inl ⟨?_, by simp⟩
    simp [Instr.findKey, run_underlying hp, Instr.findNow, Result.andThen]
  | cons x es =>
    have hn : Instr.findNow (.pointer te) (ptr a) (x :: es) 0 = none := by simp [Instr.findNow, Instr.sameNow]
    rcases hf with ⟨h1, h2⟩ | ⟨k, e, h1, h2, h3⟩
    · exact .inl ⟨by simp [Instr.findKey, run_underlying hp, hn, h1, Result.andThen], h2⟩
    · exact .inr ⟨k, e, by simp [Instr.findKey, run_underlying hp, hn, h1, Result.andThen], h2, h3⟩
theorem ptr_check (hp : P.underlying kt = some (.pointer te)) (em : Bool) (a : Nat) : (Instr.checkKey em 10000 kt (ptr a)).run P w = .ok () w := by
  unfold Instr.checkKey ptr
  simp [run_underlying hp, Result.andThen]
theorem ptr_stays (a : Nat) : (Instr.keyThatStays (ptr a) (ptr a)).run P w = .ok (ptr a) w := by
  simp [Instr.keyThatStays, ptr, Instr.sameBits]
/-- The map at block B, as a function of blocks. -/
structure PmAt {V : Type} (vf : V → Value) (w : World) (B : Nat) (f : Nat → Option V) : Prop where
  ex : ∃ es clock, w.heap[B]? = some (.map es clock) ∧ es.toList.Pairwise (fun x y => x.key ≠ y.key) ∧ (∀ x ∈ es.toList, ∃ b v, x.key = ptr b ∧ f b = some v ∧ x.val = vf v) ∧ ∀ b v, f b = some v → ∃ x ∈ es.toList, x.key = ptr b
variable {V : Type} {vf : V → Value} {B : Nat} {f : Nat → Option V}
theorem PmAt.same (h : PmAt vf w B f) (hb : w'.heap[B]? = w.heap[B]?) : PmAt vf w' B f := by
  obtain ⟨es, clock, h1, h2⟩ := h.ex
  exact ⟨es, clock, hb.trans h1, h2⟩
theorem PmAt.lt (h : PmAt vf w B f) : B < w.heap.size := by
  obtain ⟨es, clock, h1, _⟩ := h.ex
  exact (Array.getElem?_eq_some_iff.1 h1).1
theorem PmAt.isMap (h : PmAt vf w B f) : ∃ es clock, w.heap[B]? = some (.map es clock) := by
  obtain ⟨es, clock, h1, _⟩ := h.ex
  exact ⟨es, clock, h1⟩
theorem PmAt.made (w : World) (vf : V → Value) : PmAt vf (w.alloc (.map #[] 0)) w.heap.size (fun _ => none) := ⟨#[], 0, heap_alloc_new w _, by simp, by simp, fun b v h => by cases h⟩
theorem PmAt.keys (h : PmAt vf w B f) (hL : ∀ b v, f b = some v → Live w b) : ∃ es clock, w.heap[B]? = some (.map es clock) ∧ es.toList.Pairwise (fun x y => x.key ≠ y.key) ∧ (∀ x ∈ es.toList, ∃ b v, x.key = ptr b ∧ f b = some v ∧ x.val = vf v) ∧ (∀ b v, f b = some v → ∃ x ∈ es.toList, x.key = ptr b) ∧ ∀ x ∈ es.toList, ∃ b, x.key = ptr b ∧ Live w b := by
  obtain ⟨es, clock, h1, h2, h3, h4⟩ := h.ex
  refine ⟨es, clock, h1, h2, h3, h4, fun x hx => ?_⟩
  obtain ⟨b, v, hk, hf, _⟩ := h3 x hx
  exact ⟨b, hk, hL b v hf⟩
variable {t e : TypeId}
theorem PmAt.look (h : PmAt vf w B f) (hL : ∀ b v, f b = some v → Live w b) (ht : P.underlying t = some (.map kt e)) (hp : P.underlying kt = some (.pointer te)) (hte : P.info? te = some i) (hsz : i.size ≠ 0) {z : Value} (hz : (zeroValue e).run P w = .ok z w) {a : Nat} (ha : Live w a) (c : Bool) :
    (Instr.lookup t (.map (some B)) (ptr a) c).run P w = .ok (if c then .tuple #[match f a with | some v => vf v | none => z, .bool (f a).isSome] else match f a with | some v => vf v | none => z) w := by
  obtain ⟨es, clock, h1, h2, h3, h4, h5⟩ := h.keys hL
  rcases ptr_findKey (w := w) hp hte hsz ha es.toList h5 with ⟨g1, g2⟩ | ⟨k, x, g1, g2, g3⟩
  · have hfa : f a = none := by
      cases hf : f a with
      | none => rfl
      | some v =>
        obtain ⟨x, hx, hk⟩ := h4 a v hf
        exact absurd hk (g2 x hx)
    simp [Instr.lookup, run_underlying ht, MapKept.run_getObj_map h1, ptr_check hp, g1, hz, Result.andThen, hfa]
  · obtain ⟨b, v, hk, hf, hv⟩ := h3 x (List.mem_of_getElem? g2)
    have hab : b = a := ptr_inj (hk.symm.trans g3)
    subst hab
    simp [Instr.lookup, run_underlying ht, MapKept.run_getObj_map h1, ptr_check hp, g1, Result.andThen, hf, hv]
def putP (f : Nat → Option V) (a : Nat) (v : V) : Nat → Option V := fun b => if b = a then some v else f b
theorem PmAt.put (h : PmAt vf w B f) (hL : ∀ b v, f b = some v → Live w b) (ht : P.underlying t = some (.map kt e)) (hp : P.underlying kt = some (.pointer te)) (hte : P.info? te = some i) (hsz : i.size ≠ 0) {a : Nat} (ha : Live w a) (v : V) :
    ∃ w', (Instr.mapUpdate t (.map (some B)) (ptr a) (vf v)).run P w = .ok () w' ∧ PmAt vf w' B (putP f a v) ∧ w.grownBy w' (some B) ∧ w'.heap.size = w.heap.size := by
  obtain ⟨es, clock, h1, h2, h3, h4, h5⟩ := h.keys hL
  have hg : ∀ o, w.grownBy { w with heap := w.heap.setIfInBounds B o } (some B) := fun o => by
    refine ⟨rfl, rfl, rfl, by simp, fun j _ hj => ?_⟩
    have : B ≠ j := fun e => hj (by rw [e])
    simp [this]
  rcases ptr_findKey (w := w) hp hte hsz ha es.toList h5 with ⟨g1, g2⟩ | ⟨k, x, g1, g2, g3⟩
  · have hfa : f a = none := by
      cases hf : f a with
      | none => rfl
      | some v =>
        obtain ⟨x, hx, hk⟩ := h4 a v hf
        exact absurd hk (g2 x hx)
    refine ⟨{ w with heap := w.heap.setIfInBounds B (.map (es.push ⟨ptr a, vf v, clock⟩) (clock + 1)) }, ?_, ⟨es.push ⟨ptr a, vf v, clock⟩, clock + 1, (MapKept.heap_set h1).1, ?_, ?_, ?_⟩, hg _, by simp⟩
    · simp [Instr.mapUpdate, run_underlying ht, MapKept.run_getObj_map h1, ptr_check hp, g1, MapKept.run_setObj_map _ h1, Result.andThen]
    · rw [Array.toList_push, List.pairwise_append]
      refine ⟨h2, by simp, fun y hy z hz => ?_⟩
      obtain rfl := List.mem_singleton.1 hz
      exact g2 y hy
    · intro y hy
      simp only [Array.toList_push, List.mem_append, List.mem_singleton] at hy
      rcases hy with hy | rfl
      · obtain ⟨b, u, hk, hf, hv⟩ := h3 y hy
        refine ⟨b, u, hk, ?_, hv⟩
        unfold putP
        rw [if_neg (fun e => g2 y hy (by rw [hk, e]))]
        exact hf
      · exact ⟨a, v, rfl, by unfold putP; rw [if_pos rfl], rfl⟩
    · intro b u hu
      unfold putP at hu
      by_cases e : b = a
      · subst e
        exact ⟨⟨ptr b, vf v, clock⟩, by simp, rfl⟩
      · rw [if_neg e] at hu
        obtain ⟨y, hy, hk⟩ := h4 b u hu
        exact ⟨y, by simp [hy], hk⟩
  · have hj : es[k]? = some x := by simpa using g2
    have hkl : k < es.toList.length := (List.getElem?_eq_some_iff.1 g2).1
    have hlist : (es.modify k (fun y => { y with key := ptr a, val := vf v })).toList = es.toList.set k { x with key := ptr a, val := vf v } := by rw [Array.toList_modify, ChangeMaps.modify_eq_set _ _ _ _ g2]
    have hmap : (es.toList.set k { x with key := ptr a, val := vf v }).map (·.key) = es.toList.map (·.key) := by
      rw [List.map_set]
      apply List.ext_getElem?
      intro j
      rw [List.getElem?_set]
      split
      · rename_i hjk
        subst hjk
        rw [List.length_map, if_pos hkl, List.getElem?_map, g2]
        simp [g3]
      · rfl
    have who : ∀ y ∈ es.toList.set k { x with key := ptr a, val := vf v }, y = { x with key := ptr a, val := vf v } ∨ (y ∈ es.toList ∧ y.key ≠ ptr a) := by
      intro y hy
      obtain ⟨j, hjl, ej⟩ := List.getElem_of_mem hy
      rw [List.getElem_set] at ej
      split at ej
      · exact .inl ej.symm
      · rename_i hne
        have hjl' : j < es.toList.length := by simpa using hjl
        refine .inr ⟨ej ▸ List.getElem_mem hjl', fun hk => ?_⟩
        have hx : es.toList[k] = x := by rw [List.getElem?_eq_getElem hkl] at g2; exact Option.some.inj g2
        have hpw := List.pairwise_iff_getElem.1 h2
        rcases Nat.lt_or_gt_of_ne hne with hlt | hlt
        · exact hpw k j hkl hjl' hlt (by rw [hx, ej, g3, hk])
        · exact hpw j k hjl' hkl hlt (by rw [hx, ej, g3, hk])
    refine ⟨{ w with heap := w.heap.setIfInBounds B (.map (es.modify k (fun y => { y with key := ptr a, val := vf v })) clock) }, ?_, ⟨_, clock, (MapKept.heap_set h1).1, ?_, ?_, ?_⟩, hg _, by simp⟩
    · simp [Instr.mapUpdate, run_underlying ht, MapKept.run_getObj_map h1, ptr_check hp, g1, hj, g3, ptr_stays, MapKept.run_setObj_map _ h1, Result.andThen]
    · rw [hlist]
      have : (es.toList.map (·.key)).Pairwise (fun x y => x ≠ y) := List.pairwise_map.2 h2
      rw [← hmap] at this
      exact List.pairwise_map.1 this
    · intro y hy
      rw [hlist] at hy
      rcases who y hy with rfl | ⟨hy, hne⟩
      · exact ⟨a, v, rfl, by unfold putP; rw [if_pos rfl], rfl⟩
      · obtain ⟨b, u, hk, hf, hv⟩ := h3 y hy
        refine ⟨b, u, hk, ?_, hv⟩
        unfold putP
        rw [if_neg (fun e => hne (by rw [hk, e]))]
        exact hf
    · intro b u hu
      rw [hlist]
      have hkm : ∀ y ∈ es.toList, ∃ z ∈ es.toList.set k { x with key := ptr a, val := vf v }, z.key = y.key := fun y hy => by
        have : y.key ∈ (es.toList.set k { x with key := ptr a, val := vf v }).map (·.key) := by rw [hmap]; exact List.mem_map.2 ⟨y, hy, rfl⟩
        obtain ⟨z, hz, e⟩ := List.mem_map.1 this
        exact ⟨z, hz, e⟩
      unfold putP at hu
      by_cases e : b = a
      · subst e
        obtain ⟨z, hz, e⟩ := hkm x (List.mem_of_getElem? g2)
        exact ⟨z, hz, e.trans g3⟩
      · rw [if_neg e] at hu
        obtain ⟨y, hy, hk⟩ := h4 b u hu
        obtain ⟨z, hz, e⟩ := hkm y hy
        exact ⟨z, hz, e.trans hk⟩
end
end Go.Proofs.YtgaibajkegfpoaaDoor
