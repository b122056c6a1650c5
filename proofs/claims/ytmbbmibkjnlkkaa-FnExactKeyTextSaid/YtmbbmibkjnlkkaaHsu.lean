/- The specification's KeyText. -/
import Derived.Test.YtmbbmibkjnlkkaaSnt
import Derived.Test.YtmbbmibkjnlkkaaHst
namespace Go.Proofs.Ytmbbmibkjnlkkaa
open Go.ChangeShapes Go.WideShapes Go.ChangeAt Go.RowKit
def keyText (l : List Ev) (i : Int) : ByteArray := if nested l = false ∨ i < 0 ∨ (l.length : Int) ≤ i then ByteArray.empty else keyN l i.toNat
set_option maxRecDepth 100000 in
set_option maxHeartbeats 8000000 in
theorem spec_keyText (w : World) (v : Value) (es : List Ev) (hV : SlE w v es) (hl : totE es + es.length ≤ 1048576) (i : Int) (r : ByteArray) (hr : keyText es i = r) :
    Calls Try.prog 6 #[v, .int .i64 i] w fun e w' => e = .returned (.string r) ∧ Below w.heap.size w w' := by
  obtain ⟨a, c, rfl⟩ := hV.sl
  have HV : Hid (SlE w (.slice a es.length c) es) := hV
  have HL : Hid (es.length ≤ 1048576) := by show _ ≤ _; omega
  obtain ⟨nb, hnb⟩ : ∃ nb, nested es = nb := ⟨_, rfl⟩
  have cN := spec_nested w _ es hV hl nb hnb
  have HR : Hid (keyText es i = r) := hr
  have HNB : Hid (nested es = nb) := hnb
  clear hV hl hnb hr
  go_enter Try.func6, Try.ntmps6
  go_wp2_with fail
  refine cN.mono ?_
  rintro e9 w1 ⟨rfl, hb1⟩
  have HB1 : Hid (Below w.heap.size w w1) := hb1
  clear hb1 cN
  cases nb with
  | false =>
    have HE : Hid (ByteArray.empty = r) := by show _ = _; rw [← HR.out]; unfold keyText; rw [if_pos (.inl HNB.out)]
    go_wp2_with fail
    go_ret
    exact ⟨ret_tP HE.out, HB1.out⟩
  | true =>
    by_cases h0 : i < 0
    · have HE : Hid (ByteArray.empty = r) := by show _ = _; rw [← HR.out]; unfold keyText; rw [if_pos (.inr (.inl h0))]
      go_wp2_with fail
      go_ret
      exact ⟨ret_tP HE.out, HB1.out⟩
    by_cases h1 : (es.length : Int) ≤ i
    · have HE : Hid (ByteArray.empty = r) := by show _ = _; rw [← HR.out]; unfold keyText; rw [if_pos (.inr (.inr h1))]
      have h1' : i ≥ (es.length : Int) := h1
      go_wp2_with fail
      go_ret
      exact ⟨ret_tP HE.out, HB1.out⟩
    obtain ⟨k, hk⟩ : ∃ k : Nat, i = (k : Int) := ⟨i.toNat, by omega⟩
    subst hk
    have hkl : k < es.length := by omega
    have h1' : ¬ (k : Int) ≥ (es.length : Int) := h1
    have hl' : (es.length : Int) ≤ 1048576 := by have := HL.out; omega
    have HKR : keyN es k = r := by rw [← HR.out]; unfold keyText; rw [if_neg (by rw [HNB.out]; simp; omega)]; rfl
    have cE := key_any w1 _ es (HV.out.stays HB1.out) HL.out k hkl
    rw [HKR] at cE
    clear HKR
    clear h0 h1
    go_wp2_with fail
    refine cE.mono ?_
    rintro e9 w2 ⟨rfl, hb2⟩
    have HB2 : Hid (Below w.heap.size w w2) := HB1.out.trans (hb2.mono HB1.out.size)
    clear hb2 cE
    go_wp2_with fail
    go_ret
    exact ⟨rfl, HB2.out⟩
end Go.Proofs.Ytmbbmibkjnlkkaa
