/- The law on TagRead, walked, over impl's contract. -/
import Derived.Test.YtopmboioojedbaiThc
import Derived.Test.YtopmboioojedbaiTre
namespace Go.Proofs.Ytopmboioojedbai
open Go.ChangeShapes Go.WideShapes Go.ChangeAt Go.RowKit Go.Shelf Go.Maps Go.Deep
theorem pfx_small {hs : List Hn} (h : smallH hs) (x : ByteArray) : (pfx hs x).size ≤ 1073741824 := by
  unfold pfx
  cases e : look hs x with
  | none => show 0 ≤ 1073741824; omega
  | some p => exact look_small h x p e
/-- What is asked of impl.TagRead. -/
def ImplTr : Prop := ∀ (s : ByteArray) (v : Value) (hs : List Hn) (w : World) (o : Option ByteArray), s.size ≤ 1073741824 → SlH w v hs → smallH hs → hs.length ≤ 1073741824 → trO (ne0 (look hs)) s = o →
    Calls Try.prog 21 #[.string s, v] w fun e w' => e = .returned (.tuple #[.string (o.getD ByteArray.empty), .bool o.isSome]) ∧ Below w.heap.size w w'
set_option maxHeartbeats 4000000 in
theorem law_tagRead (HI : ImplTr) (s : ByteArray) (v : Value) (hs : List Hn) (w : World) (hz : s.size ≤ 9223372036854775807) (hV : SlH w v hs) (hw : wideH hs) (hl : hs.length ≤ 9223372036854775807) :
    Calls Try.prog 7 #[.string s, v] w fun e w' => e = .returned (.bool true) ∧ Below w.heap.size w w' := by
  obtain ⟨a, c, rfl⟩ := hV.sl
  by_cases hbig : (1048576 : Int) < (s.size : Int)
  · clear hV hw hl
    go_enter Try.func7, Try.ntmps7
    go_wp2_with fail
    go_ret
    exact ⟨rfl, Below.refl _ _⟩
  have hbig' : (s.size : Int) ≤ 1048576 := by omega
  have hSz := szHs_ w _ hs hV hw hl
  have HV : Hid (SlH w (.slice a hs.length c) hs) := hV
  have HII : Hid ImplTr := HI
  clear hV hw hl hz hbig
  go_enter Try.func7, Try.ntmps7
  go_wp2_with fail
  refine hSz.mono ?_
  rintro e w1 ⟨⟨r, rfl, hr⟩, hb1⟩
  clear hSz
  rcases hr with rfl | ⟨hr0, hrt⟩
  · go_wp2_with fail
    go_ret
    exact ⟨rfl, hb1⟩
  have HL : Hid (hs.length ≤ 1048576) := by show hs.length ≤ 1048576; omega
  have HSM : Hid (smallH hs) := by
    show smallH hs
    intro h hh
    have := totH_mem hh
    omega
  have HZ : Hid (s.size ≤ 1073741824) := by show s.size ≤ 1073741824; omega
  obtain ⟨o, ho⟩ : ∃ o, trS (pfx hs) s = o := ⟨_, rfl⟩
  have HO : Hid (trS (pfx hs) s = o) := ho
  have HO2 : Hid (trO (ne0 (look hs)) s = o) := by show trO (ne0 (look hs)) s = o; rw [← trS_trO]; exact ho
  clear hrt ho
  have hr0' : ¬ r < 0 := by omega
  go_wp2_with fail
  refine (toHs_ w1 _ hs (HV.out.stays hb1) HL.out).mono ?_
  rintro e w2 ⟨⟨v2, rfl, hV2⟩, hb2⟩
  have hB2 : Below w.heap.size w w2 := hb1.trans (hb2.mono hb1.size)
  obtain ⟨a2, c2, rfl⟩ := hV2.sl
  have cS := spec_tagRead s _ hs w2 o HZ.out hV2 (by have := HL.out; omega) (pfx_small HSM.out) HO.out
  clear hb1 hb2 hV2
  go_wp2_with fail
  refine cS.mono ?_
  rintro e w3 ⟨rfl, hb3⟩
  have hB3 : Below w.heap.size w w3 := hB2.trans (hb3.mono hB2.size)
  clear cS hB2 hb3
  go_wp2_with fail
  refine (toHs_ w3 _ hs (HV.out.stays hB3) HL.out).mono ?_
  rintro e w4 ⟨⟨v4, rfl, hV4⟩, hb4⟩
  have hB4 : Below w.heap.size w w4 := hB3.trans (hb4.mono hB3.size)
  obtain ⟨a4, c4, rfl⟩ := hV4.sl
  have cI := HII.out s _ hs w4 o HZ.out hV4 HSM.out (by have := HL.out; omega) HO2.out
  have HV4 : Hid (SlH w4 (.slice a4 hs.length c4) hs) := hV4
  clear hB3 hb4 hV4
  go_wp2_with fail
  refine cI.mono ?_
  rintro e w5 ⟨rfl, hb5⟩
  have hB5 : Below w.heap.size w w5 := hB4.trans (hb5.mono hB4.size)
  have HV5 : Hid (SlH w5 (.slice a4 hs.length c4) hs) := HV4.out.stays hb5
  clear cI hB4 hb5 HV4
  generalize o.getD ByteArray.empty = ot at *
  generalize o.isSome = ob at *
  have hob : (ob != ob) = false := by cases ob <;> rfl
  have hot : (ot.toList != ot.toList) = false := by simp
  go_wp2_with fail
  refine (toHs_ w5 _ hs (HV.out.stays hB5) HL.out).mono ?_
  rintro e w6 ⟨⟨v6, rfl, hV6⟩, hb6⟩
  have hB6 : Below w.heap.size w w6 := hB5.trans (hb6.mono hB5.size)
  have cE := eqHs_ w6 _ _ hs (HV5.out.stays hb6) hV6 HL.out
  obtain ⟨a6, c6, rfl⟩ := hV6.sl
  clear hB5 hb6 hV6
  go_wp2_with fail
  refine cE.mono ?_
  rintro e w7 ⟨rfl, hb7⟩
  have hB7 : Below w.heap.size w w7 := hB6.trans (hb7.mono hB6.size)
  clear cE hb7 hB6
  go_wp2_with fail
  go_ret
  exact ⟨rfl, hB7⟩
end Go.Proofs.Ytopmboioojedbai
