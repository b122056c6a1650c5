/- The contract of impl.Match. -/
import Derived.Test.YtmbbmibkjnlkkaaDoorJtl
namespace Go.Proofs.YtmbbmibkjnlkkaaDoor
open Go.ChangeShapes Go.WideShapes Go.ChangeAt Go.RowKit
set_option maxRecDepth 100000 in
set_option maxHeartbeats 8000000 in
theorem implMt (p l : List Sg) (pv lv : Value) (w : World) (hP : SgL w pv p) (hL : SgL w lv l) (np : p.length ≤ 1048576) (nl : l.length ≤ 1048576) (hT : TabV w) :
    Calls Tryd.prog 14 #[pv, lv] w fun e w' => e = .returned (.bool (matchAll p l)) ∧ Below w.heap.size w w' := by
  have cP := stepsOf_any w pv p hP np hT
  have HL : Hid (SgL w lv l ∧ l.length ≤ 1048576 ∧ p.length ≤ 1048576 ∧ TabV w) := ⟨hL, nl, np, hT⟩
  obtain ⟨ans, hans⟩ : ∃ ans, matchAll p l = ans := ⟨_, rfl⟩
  have HA : Hid ((p.all segOk && (l.all segOk && matchP p l)) = ans) := by
    show _ = _
    rw [← hans]
    unfold matchAll
    rw [once_match]
  rw [hans]
  clear hP hL np nl hT hans
  go_enter Tryd.func14, Tryd.ntmps14
  go_wp2_with fail
  refine cP.mono ?_
  rintro e w1 ⟨pv1, rfl, hp1, hb1⟩
  have HB1 : Hid (Below w.heap.size w w1) := hb1
  have HP1 : Hid (p.all segOk = true → StL w1 pv1 p) := hp1
  have cL := stepsOf_any w1 lv l (HL.out.1.stays hb1) HL.out.2.1 (HL.out.2.2.2.lasts hb1)
  clear hb1 hp1 cP
  cases hpa : p.all segOk with
  | false =>
    have HO : Hid (false = ans) := by show _ = _; rw [← HA.out, hpa]; rfl
    clear hpa HA cL
    go_wp2_with fail
    go_ret
    exact ⟨ret_bJ HO.out, HB1.out⟩
  | true =>
    have HPA : Hid (p.all segOk = true) := hpa
    clear hpa
    go_wp2_with fail
    refine cL.mono ?_
    rintro e w2 ⟨lv2, rfl, hl2, hb2⟩
    have HB2 : Hid (Below w.heap.size w w2) := HB1.out.trans (hb2.mono HB1.out.size)
    have HL2 : Hid (l.all segOk = true → StL w2 lv2 l) := hl2
    have HP2 : Hid (StL w2 pv1 p) := (HP1.out HPA.out).stays hb2
    clear hl2 hb2 cL
    cases hla : l.all segOk with
    | false =>
      have HO : Hid (false = ans) := by show _ = _; rw [← HA.out, HPA.out, hla]; rfl
      clear hla HA
      go_wp2_with fail
      go_ret
      exact ⟨ret_bJ HO.out, HB2.out⟩
    | true =>
      have HO : Hid (matchP p l = ans) := by show _ = _; rw [← HA.out, HPA.out, hla]; rfl
      have HC : Hid (Calls Tryd.prog 33 #[pv1, lv2] w2 fun e w' => e = .returned (.bool (matchP p l)) ∧ Below w2.heap.size w2 w') := tells_any w2 pv1 lv2 p l HP2.out (HL2.out hla) (all_okS HPA.out) (all_okS hla) HL.out.2.2.1 HL.out.2.1
      clear hla HA HL2 HP2
      go_wp2_with fail
      refine HC.out.mono ?_
      rintro e w3 ⟨rfl, hb3⟩
      have HB3 : Hid (Below w.heap.size w w3) := HB2.out.trans (hb3.mono HB2.out.size)
      go_wp2_with fail
      go_ret
      exact ⟨ret_bJ HO.out, HB3.out⟩
end Go.Proofs.YtmbbmibkjnlkkaaDoor
