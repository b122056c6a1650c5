/- The laws on FoldFlow, FoldBlock and BlockText, walked, over impl's contracts. -/
import Derived.Test.YthlainjkpeioeajThf
import Derived.Test.YthlainjkpeioeajTpc
import Derived.Test.YthlainjkpeioeajSbt
namespace Go.Proofs.Ythlainjkpeioeaj
open Go.ChangeShapes Go.WideShapes Go.ChangeAt Go.RowKit Go.Deep
/-- What is asked of impl. -/
def ImplFf : Prop := ∀ (w : World) (v : Value) (ps : List Pc), SlC w v ps → totC ps + ps.length ≤ 8388608 →
    Calls Try.prog 45 #[v] w fun e w' => e = .returned (.string (foldFlow ps)) ∧ Below w.heap.size w w'
def ImplFb : Prop := ∀ (w : World) (v : Value) (ss : List ByteArray), SlS w v ss → totS ss + ss.length ≤ 8388608 →
    Calls Try.prog 11 #[v] w fun e w' => e = .returned (.string (foldBlock ss)) ∧ Below w.heap.size w w'
def ImplBt : Prop := ∀ (w : World) (v : Value) (ss : List ByteArray) (fd : Bool) (ch : Int), SlS w v ss → totS ss + ss.length ≤ 8388608 → (Lit.int .i64 ch).wf = true →
    Calls Try.prog 14 #[v, .bool fd, .int .i64 ch] w fun e w' => e = .returned (.string (blockText ss fd ch)) ∧ Below w.heap.size w w'
set_option maxHeartbeats 4000000 in
theorem law_foldBlock (HI : ImplFb) (v : Value) (ps : List ByteArray) (w : World) (hV : SlS w v ps) (hw : wideS ps) (hl : ps.length ≤ 9223372036854775807) :
    Calls Try.prog 3 #[v] w fun e w' => e = .returned (.bool true) ∧ Below w.heap.size w w' := by
  obtain ⟨a, c, rfl⟩ := hV.sl
  have hSz := szSs_ w _ ps hV hw hl
  have HV : Hid (SlS w (.slice a ps.length c) ps) := hV
  have HII : Hid ImplFb := HI
  clear hV hw hl
  go_enter Try.func3, Try.ntmps3
  go_wp2_with fail
  refine hSz.mono ?_
  rintro e w1 ⟨⟨r, rfl, hr⟩, hb1⟩
  clear hSz
  rcases hr with rfl | ⟨hr0, hrt⟩
  · go_wp2_with fail
    go_ret
    exact ⟨rfl, hb1⟩
  have HL : Hid (ps.length ≤ 1048576) := by show ps.length ≤ 1048576; omega
  have HB : Hid (totS ps + ps.length ≤ 8388608) := by show totS ps + ps.length ≤ 8388608; omega
  obtain ⟨o, ho⟩ : ∃ o, foldBlock ps = o := ⟨_, rfl⟩
  have HO : Hid (foldBlock ps = o) := ho
  clear hrt ho
  have hr0' : ¬ r < 0 := by omega
  go_wp2_with fail
  refine (toSs_ w1 _ ps (HV.out.stays hb1) HL.out).mono ?_
  rintro e w2 ⟨⟨v2, rfl, hV2⟩, hb2⟩
  have hB2 : Below w.heap.size w w2 := hb1.trans (hb2.mono hb1.size)
  obtain ⟨a2, c2, rfl⟩ := hV2.sl
  have cS := spec_foldBlock w2 _ ps hV2 HB.out
  rw [HO.out] at cS
  clear hb1 hb2 hV2
  go_wp2_with fail
  refine cS.mono ?_
  rintro e w3 ⟨rfl, hb3⟩
  have hB3 : Below w.heap.size w w3 := hB2.trans (hb3.mono hB2.size)
  clear cS hB2 hb3
  go_wp2_with fail
  refine (toSs_ w3 _ ps (HV.out.stays hB3) HL.out).mono ?_
  rintro e w4 ⟨⟨v4, rfl, hV4⟩, hb4⟩
  have hB4 : Below w.heap.size w w4 := hB3.trans (hb4.mono hB3.size)
  obtain ⟨a4, c4, rfl⟩ := hV4.sl
  have cI := HII.out w4 _ ps hV4 HB.out
  rw [HO.out] at cI
  have HV4 : Hid (SlS w4 (.slice a4 ps.length c4) ps) := hV4
  clear hB3 hb4 hV4
  go_wp2_with fail
  refine cI.mono ?_
  rintro e w5 ⟨rfl, hb5⟩
  have hB5 : Below w.heap.size w w5 := hB4.trans (hb5.mono hB4.size)
  have HV5 : Hid (SlS w5 (.slice a4 ps.length c4) ps) := HV4.out.stays hb5
  clear cI hB4 hb5 HV4
  have hot : (o.toList != o.toList) = false := by simp
  go_wp2_with fail
  refine (toSs_ w5 _ ps (HV.out.stays hB5) HL.out).mono ?_
  rintro e w6 ⟨⟨v6, rfl, hV6⟩, hb6⟩
  have hB6 : Below w.heap.size w w6 := hB5.trans (hb6.mono hB5.size)
  have cE := eqSs_ w6 _ _ ps (HV5.out.stays hb6) hV6 HL.out
  obtain ⟨a6, c6, rfl⟩ := hV6.sl
  clear hB5 hb6 hV6
  go_wp2_with fail
  refine cE.mono ?_
  rintro e w7 ⟨rfl, hb7⟩
  have hB7 : Below w.heap.size w w7 := hB6.trans (hb7.mono hB6.size)
  clear cE hb7 hB6
  go_wp2_with fail
  go_ret
  exact ⟨rfl, hB7⟩
set_option maxHeartbeats 4000000 in
theorem law_blockText (HI : ImplBt) (v : Value) (ps : List ByteArray) (fd : Bool) (ch : Int) (w : World) (hV : SlS w v ps) (hw : wideS ps) (hl : ps.length ≤ 9223372036854775807) (hwf : (Lit.int .i64 ch).wf = true) :
    Calls Try.prog 4 #[v, .bool fd, .int .i64 ch] w fun e w' => e = .returned (.bool true) ∧ Below w.heap.size w w' := by
  obtain ⟨a, c, rfl⟩ := hV.sl
  have hSz := szSs_ w _ ps hV hw hl
  have HV : Hid (SlS w (.slice a ps.length c) ps) := hV
  have HII : Hid ImplBt := HI
  have HW : Hid ((Lit.int .i64 ch).wf = true) := hwf
  clear hV hw hl hwf
  go_enter Try.func4, Try.ntmps4
  go_wp2_with fail
  refine hSz.mono ?_
  rintro e w1 ⟨⟨r, rfl, hr⟩, hb1⟩
  clear hSz
  rcases hr with rfl | ⟨hr0, hrt⟩
  · go_wp2_with fail
    go_ret
    exact ⟨rfl, hb1⟩
  have HL : Hid (ps.length ≤ 1048576) := by show ps.length ≤ 1048576; omega
  have HB : Hid (totS ps + ps.length ≤ 8388608) := by show totS ps + ps.length ≤ 8388608; omega
  obtain ⟨o, ho⟩ : ∃ o, blockText ps fd ch = o := ⟨_, rfl⟩
  have HO : Hid (blockText ps fd ch = o) := ho
  clear hrt ho
  have hr0' : ¬ r < 0 := by omega
  go_wp2_with fail
  refine (toSs_ w1 _ ps (HV.out.stays hb1) HL.out).mono ?_
  rintro e w2 ⟨⟨v2, rfl, hV2⟩, hb2⟩
  have hB2 : Below w.heap.size w w2 := hb1.trans (hb2.mono hb1.size)
  obtain ⟨a2, c2, rfl⟩ := hV2.sl
  have cS := spec_blockText w2 _ ps fd ch hV2 HB.out
  rw [HO.out] at cS
  clear hb1 hb2 hV2
  go_wp2_with fail
  refine cS.mono ?_
  rintro e w3 ⟨rfl, hb3⟩
  have hB3 : Below w.heap.size w w3 := hB2.trans (hb3.mono hB2.size)
  clear cS hB2 hb3
  go_wp2_with fail
  refine (toSs_ w3 _ ps (HV.out.stays hB3) HL.out).mono ?_
  rintro e w4 ⟨⟨v4, rfl, hV4⟩, hb4⟩
  have hB4 : Below w.heap.size w w4 := hB3.trans (hb4.mono hB3.size)
  obtain ⟨a4, c4, rfl⟩ := hV4.sl
  have cI := HII.out w4 _ ps fd ch hV4 HB.out HW.out
  rw [HO.out] at cI
  have HV4 : Hid (SlS w4 (.slice a4 ps.length c4) ps) := hV4
  clear hB3 hb4 hV4
  go_wp2_with fail
  refine cI.mono ?_
  rintro e w5 ⟨rfl, hb5⟩
  have hB5 : Below w.heap.size w w5 := hB4.trans (hb5.mono hB4.size)
  have HV5 : Hid (SlS w5 (.slice a4 ps.length c4) ps) := HV4.out.stays hb5
  clear cI hB4 hb5 HV4
  have hot : (o.toList != o.toList) = false := by simp
  go_wp2_with fail
  refine (toSs_ w5 _ ps (HV.out.stays hB5) HL.out).mono ?_
  rintro e w6 ⟨⟨v6, rfl, hV6⟩, hb6⟩
  have hB6 : Below w.heap.size w w6 := hB5.trans (hb6.mono hB5.size)
  have cE := eqSs_ w6 _ _ ps (HV5.out.stays hb6) hV6 HL.out
  obtain ⟨a6, c6, rfl⟩ := hV6.sl
  clear hB5 hb6 hV6
  go_wp2_with fail
  refine cE.mono ?_
  rintro e w7 ⟨rfl, hb7⟩
  have hB7 : Below w.heap.size w w7 := hB6.trans (hb7.mono hB6.size)
  clear cE hb7 hB6
  go_wp2_with fail
  go_ret
  exact ⟨rfl, hB7⟩
end Go.Proofs.Ythlainjkpeioeaj
