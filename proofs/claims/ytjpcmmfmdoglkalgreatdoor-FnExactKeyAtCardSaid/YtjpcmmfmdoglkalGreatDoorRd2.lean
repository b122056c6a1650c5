/- The reader's methods open and text. -/
import Derived.Test.YtjpcmmfmdoglkalGreatDoorMq1
import Derived.Test.YtjpcmmfmdoglkalGreatDoorMfo
import Derived.WalkLawsBesides
namespace Go.Proofs.YtjpcmmfmdoglkalGreatDoor
open Go.ChangeShapes Go.WideShapes Go.ChangeAt Go.RowKit Go.Deep
set_option maxHeartbeats 2000000 in
theorem open_no (b : Nat) (s q : ByteArray) (i : Nat) (l : List Pc) (cur : ByteArray) (fm : Nat) (w : World) (hR : RdM b s i l cur fm w) (hi : i ≤ s.size) (hp : pre (s.extract i s.size) q = false) :
    Calls Tryz.prog 164 #[.pointer (some ⟨b, 0, none⟩), .string q] w fun e w' => e = faultE 10 i ∧ Below w.heap.size w w' := by
  have cS := sees_any b s q i l cur fm w hR hi false hp.symm
  have HR : Hid (RdM b s i l cur fm w) := hR
  clear hR hp
  go_enter Tryz.func164, Tryz.ntmps164
  go_wp2_with fail
  refine cS.mono ?_
  rintro e w1 ⟨rfl, hb1⟩
  obtain ⟨la, ln, lc, ca, cn, cc, h1, _, _⟩ := HR.out.stays hb1
  have c1 := h1.c1
  clear h1 cS HR
  go_wp2_with fail
  exact ⟨rfl, rfl, hb1⟩
set_option maxHeartbeats 2000000 in
theorem open_yes (b : Nat) (s q : ByteArray) (i : Nat) (l : List Pc) (cur : ByteArray) (fm : Nat) (w : World) (hR : RdM b s i l cur fm w) (hs : s.size ≤ 1048576) (hi : i ≤ s.size) (hp : pre (s.extract i s.size) q = true) :
    Calls Tryz.prog 164 #[.pointer (some ⟨b, 0, none⟩), .string q] w fun e w' => e = .returned (.tuple #[]) ∧ RdM b s (i + 1) l cur fm w' ∧ Fq b w w' := by
  have cS := sees_any b s q i l cur fm w hR hi true hp.symm
  have HR : Hid (RdM b s i l cur fm w) := hR
  clear hR hp
  go_enter Tryz.func164, Tryz.ntmps164
  go_wp2_with fail
  refine cS.mono ?_
  rintro e w1 ⟨rfl, hb1⟩
  have hlt := HR.out.lt
  obtain ⟨la, ln, lc, ca, cn, cc, h1, h2, h3⟩ := HR.out.stays hb1
  have c1 := h1.c1
  have f1 := h1.fz 1
  have HO : Hid (RdM b s (i + 1) l cur fm (w1.setCell ⟨b, 1, none⟩ (.int .i64 ((i : Int) + 1)))) := ⟨la, ln, lc, ca, cn, cc, h1.set1 (i + 1), row_past h2, row_past h3⟩
  have HB : Hid (Fq b w (w1.setCell ⟨b, 1, none⟩ (.int .i64 ((i : Int) + 1)))) := (Fq.of hb1 hlt).setB _ _
  clear h1 h2 h3 cS HR hb1 hlt
  go_wp2_with fail
  go_end0
  exact ⟨rfl, HO.out, HB.out⟩
theorem totC_one (l : List Pc) (x : ByteArray) (g : Bool) : totC (l ++ [(x, g)]) = totC l + x.size := totC_snoc l x g
set_option maxHeartbeats 2000000 in
theorem text_any (HF : ImplFf) (b : Nat) (s : ByteArray) (i : Nat) (l : List Pc) (cur : ByteArray) (fm : Nat) (w : World) (hR : RdM b s i l cur fm w) (hn : totC l + l.length + cur.size ≤ 4194304) :
    Calls Tryz.prog 165 #[.pointer (some ⟨b, 0, none⟩)] w fun e w' => e = .returned (.string (foldFlow (l ++ [(cur, false)]))) ∧ RdM b s i (l ++ [(cur, false)]) ByteArray.empty 0 w' ∧ Fq b w w' := by
  have cK := keep_any b s i l cur fm false w hR (by omega)
  have HL : Hid (totC (l ++ [(cur, false)]) + (l ++ [(cur, false)]).length ≤ 8388608) := by
    show totC (l ++ [(cur, false)]) + (l ++ [(cur, false)]).length ≤ 8388608
    rw [totC_one, List.length_append]
    simp
    omega
  have HH : Hid ImplFf := HF
  clear hR hn HF
  go_enter Tryz.func165, Tryz.ntmps165
  go_wp2_with fail
  refine cK.mono ?_
  rintro e w1 ⟨rfl, hR1, hb1⟩
  clear cK
  have HR1 : Hid (RdM b s i (l ++ [(cur, false)]) ByteArray.empty 0 w1) := hR1
  have HB1 : Hid (Fq b w w1) := hb1
  have hlt := hR1.lt
  obtain ⟨la, ln, lc, ca, cn, cc, h1, h2, h3⟩ := hR1
  have c2 := h1.c2
  have cF := HH.out w1 (.slice la ln lc) (l ++ [(cur, false)]) (slc_row h2) HL.out
  clear h1 h2 h3 hb1
  go_wp2_with fail
  refine cF.mono ?_
  rintro e w2 ⟨rfl, hb2⟩
  clear cF
  go_wp2_with fail
  go_ret
  exact ⟨rfl, HR1.out.stays hb2, HB1.out.trans (Fq.of hb2 hlt)⟩
end Go.Proofs.YtjpcmmfmdoglkalGreatDoor
