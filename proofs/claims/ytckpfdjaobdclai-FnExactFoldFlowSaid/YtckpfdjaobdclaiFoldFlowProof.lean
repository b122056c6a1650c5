/- At every list of pieces, whatever it holds, impl.FoldFlow answers the same as spec.FoldFlow and leaves the list as it was: laws.FnExactFoldFlow returns true at every input, no condition. -/
import Derived.Test.YtckpfdjaobdclaiRows
import Derived.Test.YtckpfdjaobdclaiIfo
import Derived.WalkKit
import Derived.ProofKit
import Derived.OpenShut
import Derived.ShutString
import Derived.Deep.SlicePairs
import Derived.Lib.SmallJoins
import Derived.Below
namespace Go.Proofs.Ytckpfdjaobdclai.fnExactFoldFlow
open Go.ChangeShapes Go.WideShapes Go.ChangeAt Go.RowKit Go.Maps Go.Deep
open Go.ChangeMaps (open_string shut_string)
theorem own : ownKnob Try.prog.godebug = none := by kernel_rfl
theorem laidOut : laidOutB Try.prog = true := by kernel_rfl
theorem open_pieces {H : Type} {enc : TypeId × Value → H} {W : World} {sp : Nat → Bool} {hd : Bool} {n : Nat} {V : Value} {y : DataW H × List MemPlace} (h : DataW.trod enc Try.prog W 0 sp hd n 40 [V] = some y) :
    ∃ hs, SlC W V hs ∧ wideC hs ∧ hs.length ≤ 9223372036854775807 := by
  rcases open_slice_pairs Try.underlying40 Try.underlying63 (by kernel_rfl) rfl rfl (by kernel_rfl) (by kernel_rfl) h with ⟨hcs, _⟩ | ⟨a, len, cap, m, n', V0, V1, D0, D1, P0, P1, hcs, _, hl, hm, hmm, _, hx⟩
  · obtain rfl : V = .slice none 0 0 := by simpa using hcs
    exact ⟨[], .inl ⟨rfl, _, _, rfl⟩, fun q hq => (by cases hq), by simp⟩
  · obtain rfl : V = .slice (some a) len cap := by simpa using hcs
    have hlm : len ≤ m := by rw [hmm]; split <;> omega
    have each : ∀ k, k ≤ len → ∃ hs : List Pc, hs.length = k ∧ wideC hs ∧ ∀ i h, hs[i]? = some h → V0 i = .string h.1 ∧ V1 i = .bool h.2 := by
      intro k
      induction k with
      | zero => exact fun _ => ⟨[], rfl, fun q hq => (by cases hq), fun i p hp => (by simp at hp)⟩
      | succ k ih =>
        intro hk
        obtain ⟨hs, hpl, hwf, hv⟩ := ih (by omega)
        obtain ⟨_, _, t0, t1⟩ := hx k (by omega)
        obtain ⟨x, hx0, _, hxw⟩ := DataW.trod_string Try.underlying9 t0
        obtain ⟨z, hz0, _⟩ := DataW.trod_bool Try.underlying4 t1
        have e0 : V0 k = .string x := by simpa using hx0
        have e1 : V1 k = .bool z := by simpa using hz0
        unfold maxLen at hxw
        refine ⟨hs ++ [(x, z)], by simp [hpl], ?_, ?_⟩
        · intro q hq
          rcases List.mem_append.1 hq with hq | hq
          · exact hwf q hq
          · obtain rfl : q = (x, z) := by simpa using hq
            show x.size ≤ _
            omega
        · intro i p hp
          by_cases hi : i < k
          · rw [List.getElem?_append_left (by omega)] at hp
            exact hv i p hp
          · have hik : i = k := by
              have : i < (hs ++ [(x, z)]).length := by
                rcases Nat.lt_or_ge i (hs ++ [(x, z)]).length with h' | h'
                · exact h'
                · rw [List.getElem?_eq_none h'] at hp; cases hp
              simp at this; omega
            subst hik
            rw [List.getElem?_append_right (by omega), hpl] at hp
            obtain rfl : (x, z) = p := by simpa using hp
            exact ⟨e0, e1⟩
    obtain ⟨hs, hpl, hwf, hv⟩ := each len (Nat.le_refl _)
    unfold maxLen at hm
    refine ⟨hs, ?_, hwf, by omega⟩
    by_cases h0 : hs = []
    · left
      subst h0
      simp at hpl
      subst hpl
      exact ⟨rfl, _, _, rfl⟩
    · right
      have hpos : 0 < hs.length := List.length_pos_iff.2 h0
      obtain ⟨b, off, spot⟩ := a
      have hc0 := (hx 0 (by omega)).1
      have hspot : spot = none := by simpa [Addr.add] using World.cell?_spot hc0
      subst hspot
      have hlt := World.block_lt_of_cell? W _ hc0
      refine ⟨h0, b, off, cap, by rw [hpl], by simpa [Addr.add] using hlt, fun i p hp => ?_⟩
      have hil : i < hs.length := by
        rcases Nat.lt_or_ge i hs.length with h' | h'
        · exact h'
        · rw [List.getElem?_eq_none h'] at hp; cases hp
      obtain ⟨c0, c1, _, _⟩ := hx i (by omega)
      obtain ⟨e0, e1⟩ := hv i p hp
      rw [e0] at c0
      rw [e1] at c1
      have hadd : ∀ j, (⟨b, off, none⟩ : Addr).add j = ⟨b, off + j, none⟩ := fun j => by unfold Addr.add; split <;> simp_all
      rw [hadd] at c0 c1
      exact ⟨c0, by rw [← Nat.add_assoc] at c1; exact c1⟩
set_option maxRecDepth 100000 in
theorem lifted (os : Os) (started : os.Started) (H : Type) (enc : TypeId × Value → H) :
    ReturnsInHanded {} Try.checked os 8 .any (Rows.fnExactFoldFlowSpec.pre6 enc Try.prog Try.f8 Rows.fnExactFoldFlowRow.domain false) (Rows.fnExactFoldFlowSpec.post enc Try.prog Try.f8 false true false false) := by
  refine returnsInHanded_of_change (C := Try.checked) own started (by kernel_rfl) Try.func8
    (ChangeSpec.witness6 (enc := enc) (C := Try.checked) false ⟨#[], #[.slice none 0 0], []⟩ 8 (by kernel_rfl) (by kernel_rfl) (by kernel_rfl) (by kernel_rfl)) ?_
  intro W base args ds gs before hval0 hW hcnd _
  have hval : ∀ (j : Nat) t v, Try.f8.params[j]? = some t → args[j]? = some v → Value.okWide Try.prog W .any base t v := hval0
  have hW' := hW
  obtain ⟨p, q, hA0, hV, rfl, hfz, hnd⟩ := hW
  have hA : DataW.TrodAll enc Try.prog W 0 (fun _ => true) true Try.f8.params.toList args.toList ds p := hA0
  rw [Try.params8] at hA hval
  obtain ⟨v0, vs0, d0, ds0, p0, q0, hargs, rfl, rfl, h0, r0⟩ := trodAll_cons hA
  obtain ⟨rfl, rfl, rfl⟩ := trodAll_nil r0
  obtain rfl : args = #[v0] := by cases args; simp_all
  obtain ⟨rfl, rfl⟩ := trodVars_none hV
  have k0 := h0
  have lt0 : ∀ x ∈ p0, x.block < W.heap.size := by obtain ⟨m, hm⟩ := k0; exact DataW.trod_lt m _ _ _ hm
  obtain ⟨a0, len0, cap0, rfl⟩ := okWide_slice Try.underlying40 (hval 0 40 v0 rfl rfl)
  obtain ⟨hs, hS, hwd, hol⟩ : ∃ hs, SlC W (.slice a0 len0 cap0) hs ∧ wideC hs ∧ hs.length ≤ 9223372036854775807 := by
    obtain ⟨m, hm⟩ := h0
    exact open_pieces (by simpa [Value.cells] using hm)
  clear hA0 hval0
  refine (law_foldFlow implFf _ hs W hS hwd hol).mono fun e W' ⟨he, bel⟩ => ?_
  subst he
  exact ⟨_, rfl, _, _, _, [], _, [], hW', trodAll_mk1 (shut_bool Try.underlying4 _), (trodAll_cons_mk (Below.trod laidOut (by kernel_rfl) (of_decide_eq_true (by kernel_rfl)) k0 bel lt0) trodAll_mk0), rfl, bel.frame _, fun h => by cases h⟩
theorem over : Rows.fnExactFoldFlowRow.holds Try.pinned (OpenSpec.ofChange Rows.fnExactFoldFlowSpec) :=
  OpenClaim.holds_of_wide 8 Try.f8 rfl rfl rfl rfl rfl rfl rfl ⟨rfl, rfl, rfl, rfl, rfl⟩ rfl rfl rfl rfl rfl (by kernel_rfl) Try.func8 (by kernel_rfl)
    (of_decide_eq_true (by kernel_rfl)) (by unfold Func.isWrapper; first | (rw [if_pos (by decide +kernel)]; kernel_rfl) | (rw [if_neg (by decide +kernel)]; exact ⟨rfl, rfl⟩))
    (fun os started H enc _ => lifted os started H enc)
end Go.Proofs.Ytckpfdjaobdclai.fnExactFoldFlow
namespace Go.Proofs.Ytckpfdjaobdclai
theorem FnExactFoldFlowHolds : Rows.FnExactFoldFlowSaid := fnExactFoldFlow.over
end Go.Proofs.Ytckpfdjaobdclai
#print axioms Go.Proofs.Ytckpfdjaobdclai.FnExactFoldFlowHolds
