/- The law on KeyText, walked, over impl's contract. -/
import Derived.Test.YtmbbmibkjnlkkaaHsu
import Derived.Test.YtmbbmibkjnlkkaaTeq
import Derived.Test.YtmbbmibkjnlkkaaOev
namespace Go.Proofs.Ytmbbmibkjnlkkaa
open Go.ChangeShapes Go.WideShapes Go.ChangeAt Go.RowKit
/-- What is asked of impl.KeyText. -/
def ImplKt : Prop := ∀ (w : World) (v : Value) (es : List Ev) (i : Int), SlE w v es → totE es + es.length ≤ 1048576 → (∀ e ∈ es, wfE e) → (Lit.int .i64 i).wf = true →
    Calls Try.prog 8 #[v, .int .i64 i] w fun r w' => r = .returned (.string (keyText es i)) ∧ Below w.heap.size w w'
set_option maxHeartbeats 4000000 in
theorem law_keyText (HI : ImplKt) (v : Value) (es : List Ev) (w : World) (hV : SlE w v es) (hw : wideEs es) (hf : ∀ e ∈ es, wfE e) (hl : es.length ≤ 9223372036854775807) (i : Int) (wi : (Lit.int .i64 i).wf = true) :
    Calls Try.prog 3 #[v, .int .i64 i] w fun e w' => e = .returned (.bool true) ∧ Below w.heap.size w w' := by
  obtain ⟨a, c, rfl⟩ := hV.sl
  have hSz := szEs_ w _ es hV hw hl
  have HV : Hid (SlE w (.slice a es.length c) es) := hV
  have HII : Hid ImplKt := HI
  have HF : Hid (∀ e ∈ es, wfE e) := hf
  have HWI : Hid ((Lit.int .i64 i).wf = true) := wi
  clear hV hw hl hf HI wi
  go_enter Try.func3, Try.ntmps3
  go_wp2_with fail
  refine hSz.mono ?_
  rintro e w1 ⟨⟨r, rfl, hr⟩, hb1⟩
  clear hSz
  rcases hr with rfl | ⟨hr0, hrt⟩
  · go_wp2_with fail
    go_ret
    exact ⟨rfl, hb1⟩
  have HL : Hid (es.length ≤ 1048576) := by show es.length ≤ 1048576; omega
  have HB : Hid (totE es + es.length ≤ 1048576) := hrt
  obtain ⟨o, ho⟩ : ∃ o, keyText es i = o := ⟨_, rfl⟩
  have HO : Hid (keyText es i = o) := ho
  clear hrt ho
  have hr0' : ¬ r < 0 := by omega
  go_wp2_with fail
  refine (toEs_ w1 _ es (HV.out.stays hb1) HL.out).mono ?_
  rintro e w2 ⟨⟨v2, rfl, hV2⟩, hb2⟩
  have hB2 : Below w.heap.size w w2 := hb1.trans (hb2.mono hb1.size)
  have cS := spec_keyText w2 _ es hV2 HB.out i o HO.out
  obtain ⟨a2, c2, rfl⟩ := hV2.sl
  clear hb1 hb2 hV2
  go_wp2_with fail
  refine cS.mono ?_
  rintro e w3 ⟨rfl, hb3⟩
  have hB3 : Below w.heap.size w w3 := hB2.trans (hb3.mono hB2.size)
  clear cS hB2 hb3
  go_wp2_with fail
  refine (toEs_ w3 _ es (HV.out.stays hB3) HL.out).mono ?_
  rintro e w4 ⟨⟨v4, rfl, hV4⟩, hb4⟩
  have hB4 : Below w.heap.size w w4 := hB3.trans (hb4.mono hB3.size)
  have cI := HII.out w4 _ es i hV4 HB.out HF.out HWI.out
  rw [HO.out] at cI
  obtain ⟨a4, c4, rfl⟩ := hV4.sl
  have HV4 : Hid (SlE w4 (.slice a4 es.length c4) es) := hV4
  clear hB3 hb4 hV4
  go_wp2_with fail
  refine cI.mono ?_
  rintro e w5 ⟨rfl, hb5⟩
  have hB5 : Below w.heap.size w w5 := hB4.trans (hb5.mono hB4.size)
  have HV5 : Hid (SlE w5 (.slice a4 es.length c4) es) := HV4.out.stays hb5
  clear cI hB4 hb5 HV4
  have hot : (o.toList != o.toList) = false := by simp
  go_wp2_with fail
  refine (toEs_ w5 _ es (HV.out.stays hB5) HL.out).mono ?_
  rintro e w6 ⟨⟨v6, rfl, hV6⟩, hb6⟩
  have hB6 : Below w.heap.size w w6 := hB5.trans (hb6.mono hB5.size)
  have cE := eqEs_ w6 _ _ es (HV5.out.stays hb6) hV6 (by have := HL.out; omega)
  obtain ⟨a6, c6, rfl⟩ := hV6.sl
  clear hB5 hb6 hV6
  go_wp2_with fail
  refine cE.mono ?_
  rintro e w7 ⟨rfl, hb7⟩
  have hB7 : Below w.heap.size w w7 := hB6.trans (hb7.mono hB6.size)
  clear cE hB6 hb7
  go_wp2_with fail
  go_ret
  exact ⟨rfl, hB7⟩
end Go.Proofs.Ytmbbmibkjnlkkaa
