/- The law on PathText, walked, where the library's tables are as their text lays them. -/
import Derived.Test.YtmbbmibkjnlkkaaDoorSpt
import Derived.Test.YtmbbmibkjnlkkaaDoorJpu
import Derived.Test.YtmbbmibkjnlkkaaDoorHpb
import Derived.Test.YtmbbmibkjnlkkaaDoorHpc
import Derived.Deep.RegionHeld3
namespace Go.Proofs.YtmbbmibkjnlkkaaDoor
open Go.ChangeShapes Go.WideShapes Go.ChangeAt Go.RowKit Go.Deep
set_option maxHeartbeats 8000000 in
set_option maxRecDepth 100000 in
theorem law_pathText (lv : Value) (l : List Sg) (w : World) (hL : SgL w lv l) (wl : ∀ e ∈ l, wideP e) (hl : l.length ≤ 9223372036854775807) (hT : TxV w) :
    Calls Tryd.prog 6 #[lv] w fun e w' => e = .returned (.bool true) ∧ Below w.heap.size w w' := by
  obtain ⟨la, lc, rfl⟩ := hL.sl
  have cZ := szPs_ w _ l hL wl hl
  have HL : Hid (SgL w (.slice la l.length lc) l) := hL
  have HTV : Hid (TxV w) := hT
  clear hL wl hl hT
  go_enter Tryd.func6, Tryd.ntmps6
  go_wp2_with fail
  refine cZ.mono ?_
  rintro e w1 ⟨⟨z, rfl, hz⟩, hb1⟩
  have HB1 : Hid (Below w.heap.size w w1) := hb1
  clear hb1 cZ
  rcases hz with rfl | ⟨hz, hz0⟩
  · go_wp2_with fail
    go_ret
    exact ⟨rfl, HB1.out⟩
  have hz1 : ¬ z < 0 := by omega
  have HTL : Hid (totP l + l.length ≤ 1048576) := hz0
  have hLn : l.length ≤ 1048576 := by omega
  have HLn : Hid (l.length ≤ 1048576) := hLn
  obtain ⟨b, hb⟩ : ∃ b, pathT l = b := ⟨_, rfl⟩
  have CTL : Hid (∀ x, Below w.heap.size w x → Calls Tryd.prog 20 #[.slice la l.length lc] x fun e w' => (∃ v', e = .returned v' ∧ SgL w' v' l) ∧ Below x.heap.size x w') := fun x hx => toPs_ x _ l (HL.out.stays hx) HLn.out
  have CS : Hid (∀ x v, SgL x v l → Calls Tryd.prog 19 #[v] x fun e w' => e = .returned (.string b) ∧ Below x.heap.size x w') := fun x v hv => by rw [← hb]; exact spec_pathText x v l hv HTL.out
  have CI : Hid (∀ x v, Below w.heap.size w x → SgL x v l → Calls Tryd.prog 10 #[v] x fun e w' => e = .returned (.string b) ∧ Below x.heap.size x w') := fun x v hx hv => by rw [← hb]; exact implPt x v l hv HTL.out (HTV.out.lasts hx)
  have CEL : Hid (∀ x u v, SgL x u l → SgL x v l → Calls Tryd.prog 21 #[u, v] x fun e w' => e = .returned (.bool true) ∧ Below x.heap.size x w') := fun x u v hu hv => eqPs_ x u v l hu hv (by have := HLn.out; omega)
  clear hb hz hz0 hLn
  go_wp2_with fail
  refine (CTL.out _ HB1.out).mono ?_
  rintro e w2 ⟨⟨v2, rfl, h2⟩, hb2⟩
  have HB2 : Hid (Below w.heap.size w w2) := HB1.out.trans (hb2.mono HB1.out.size)
  have cS := CS.out w2 v2 h2
  clear hb2 h2
  go_wp2_with fail
  refine cS.mono ?_
  rintro e w3 ⟨rfl, hb3⟩
  have HB3 : Hid (Below w.heap.size w w3) := HB2.out.trans (hb3.mono HB2.out.size)
  clear hb3 cS
  go_wp2_with fail
  refine (CTL.out _ HB3.out).mono ?_
  rintro e w4 ⟨⟨v4, rfl, h4⟩, hb4⟩
  have HB4 : Hid (Below w.heap.size w w4) := HB3.out.trans (hb4.mono HB3.out.size)
  have H4 : Hid (SgL w4 v4 l) := h4
  have cI := CI.out w4 v4 HB4.out h4
  clear hb4 h4
  go_wp2_with fail
  refine cI.mono ?_
  rintro e w5 ⟨rfl, hb5⟩
  have HB5 : Hid (Below w.heap.size w w5) := HB4.out.trans (hb5.mono HB4.out.size)
  have H5 : Hid (SgL w5 v4 l) := H4.out.stays hb5
  have hbb : (b.toList != b.toList) = false := by simp
  clear hb5 cI
  go_wp2_with fail
  refine (CTL.out _ HB5.out).mono ?_
  rintro e w6 ⟨⟨v6, rfl, h6⟩, hb6⟩
  have HB6 : Hid (Below w.heap.size w w6) := HB5.out.trans (hb6.mono HB5.out.size)
  have cE := CEL.out w6 v4 v6 (H5.out.stays hb6) h6
  clear hb6 h6
  go_wp2_with fail
  refine cE.mono ?_
  rintro e w7 ⟨rfl, hb7⟩
  have HB7 : Hid (Below w.heap.size w w7) := HB6.out.trans (hb7.mono HB6.out.size)
  clear hb7 cE
  go_wp2_with fail
  go_ret
  exact ⟨rfl, HB7.out⟩
end Go.Proofs.YtmbbmibkjnlkkaaDoor
