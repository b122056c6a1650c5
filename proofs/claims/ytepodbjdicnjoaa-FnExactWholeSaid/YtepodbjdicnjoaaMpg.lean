/- A map in memory, as a plain function of its keys. -/
import Derived.Maps.OwnSet
import Derived.Below
namespace Go.Proofs.Ytepodbjdicnjoaa
open Go.Maps Go.RowKit
def RH (v : Value) : Option (DataW Value × List MemPlace) := some (.held v, [])
def putFn {K V : Type} [DecidableEq K] (f : K → Option V) (x : K) (p : V) : K → Option V := fun y => if x = y then some p else f y
structure MapFn {K V : Type} (kf : K → Lit) (vf : V → Value) (D : DataW Value) (f : K → Option V) : Prop where
  isMap : IsMap D
  has : ∀ x, Maps.has D (kf x) = (f x).isSome
  at_ : ∀ x p, f x = some p → ∀ z, D.atKey (kf x) z = .held (vf p)
/-- Keys that differ are told apart. -/
structure KeyFn {K : Type} (kf : K → Lit) : Prop where
  inj : ∀ a b, a ≠ b → kf a ≠ kf b
  lit : ∀ a, WideAt.IsKeyLit (kf a)
section
variable {K V : Type} {kf : K → Lit} {vf : V → Value} {D : DataW Value} {f : K → Option V} {P : Program} {kt t e : TypeId} {w w' : World} {B n : Nat}
theorem MapFn.start : MapFn kf vf (.map []) (fun _ => none) := ⟨⟨_, rfl⟩, fun x => by simp [Maps.has], fun x p h => by simp at h⟩
theorem MapFn.put [DecidableEq K] (h : MapFn kf vf D f) (hk : KeyFn kf) (x : K) (p : V) : MapFn kf vf (D.put (kf x) (.held (vf p))) (putFn f x p) := by
  refine ⟨h.isMap.put _ _, fun y => ?_, fun y q hq z => ?_⟩
  · unfold putFn
    by_cases e : x = y
    · subst e
      rw [has_put_same h.isMap (hk.lit _)]; simp
    · rw [has_put_other (hk.inj _ _ (Ne.symm e)), h.has y]; simp [e]
  · unfold putFn at hq
    by_cases e : x = y
    · subst e
      simp at hq
      subst hq
      exact atKey_put_same h.isMap (hk.lit _) _ _
    · simp [e] at hq
      rw [atKey_put_other (hk.inj _ _ (Ne.symm e))]
      exact h.at_ y q hq z
def MapM (P : Program) (kt : TypeId) (kf : K → Lit) (vf : V → Value) (w : World) (B n : Nat) (f : K → Option V) : Prop := ∃ D, w.ownsMap P kt RH B n D ∧ MapFn kf vf D f
theorem MapM.lt (h : MapM P kt kf vf w B n f) : B < w.heap.size := h.elim fun _ h => h.1.lt
theorem MapM.same (h : MapM P kt kf vf w B n f) (hb : w'.heap[B]? = w.heap[B]?) : MapM P kt kf vf w' B n f := by
  obtain ⟨D, h1, h2⟩ := h
  obtain ⟨es, clock, he, F, hs, hD⟩ := h1
  exact ⟨D, ⟨es, clock, hb.trans he, F, hs, hD⟩, h2⟩
theorem MapM.isMap (h : MapM P kt kf vf w B n f) : ∃ es clock, w.heap[B]? = some (.map es clock) := by
  obtain ⟨D, ⟨es, clock, he, _⟩, _⟩ := h
  exact ⟨es, clock, he⟩
theorem MapM.made (w : World) (P : Program) (kt : TypeId) (kf : K → Lit) (vf : V → Value) : MapM P kt kf vf (w.alloc (.map #[] 0)) w.heap.size 0 (fun _ => none) := ⟨_, World.ownsMap_made w _ _ _, MapFn.start⟩
theorem MapM.put [DecidableEq K] (h : MapM P kt kf vf w B n f) (hk : KeyFn kf) (K1 : Keyed P kt) (ht : P.underlying t = some (.map kt e)) (x : K) (p : V) {key : Value} (hx : keyOf P kt key = some (kf x)) (hn : n < maxLen) :
    ∃ w', (Instr.mapUpdate t (.map (some B)) key (vf p)).run P w = .ok () w' ∧ MapM P kt kf vf w' B (n + 1) (putFn f x p) ∧ w.grownBy w' (some B) := by
  obtain ⟨D, h1, h2⟩ := h
  obtain ⟨w', hup, hown, hg⟩ := h1.update K1 ht hn (key := key) (val := vf p) hx rfl
  exact ⟨w', hup, ⟨_, hown, h2.put hk x p⟩, hg⟩
theorem MapM.look_yes (h : MapM P kt kf vf w B n f) (K1 : Keyed P kt) (ht : P.underlying t = some (.map kt e)) {z : Value} (hz : (zeroValue e).run P w = .ok z w) {x : K} {p : V} {key : Value} (hx : keyOf P kt key = some (kf x)) (hf : f x = some p) :
    (Instr.lookup t (.map (some B)) key true).run P w = .ok (.tuple #[vf p, .bool true]) w := by
  obtain ⟨D, h1, h2⟩ := h
  obtain ⟨v, ps, hrun, hv⟩ := h1.look_ok K1 ht hz (zd := .held z) (zp := []) rfl hx
  rw [h2.has x, hf] at hrun
  rw [h2.at_ x p hf] at hv
  simp only [RH, Option.some.injEq, Prod.mk.injEq, DataW.held.injEq] at hv
  rw [hv.1] at hrun
  exact hrun
theorem MapM.look_no (h : MapM P kt kf vf w B n f) (K1 : Keyed P kt) (ht : P.underlying t = some (.map kt e)) {z : Value} (hz : (zeroValue e).run P w = .ok z w) {x : K} {key : Value} (hx : keyOf P kt key = some (kf x)) (hf : f x = none) :
    (Instr.lookup t (.map (some B)) key true).run P w = .ok (.tuple #[z, .bool false]) w := by
  obtain ⟨D, h1, h2⟩ := h
  obtain ⟨es, clock, hb, F, hs, hD⟩ := h1
  have hh := h2.has x
  rw [hf] at hh
  rcases Maps.fit_look true K1 ht hz hb F hx with ⟨hrun, _, hat⟩ | ⟨e0, y, _, _, hrun, hRv, hat, _⟩
  · exact hrun
  · have := Maps.has_true_of_atKey hat
    rw [← hD, hh] at this
    cases this
end
end Go.Proofs.Ytepodbjdicnjoaa
