/- The law on Match, walked, where impl's tables are as their text lays them. -/
import Derived.Test.YtmbbmibkjnlkkaaDoorHsq
import Derived.Test.YtmbbmibkjnlkkaaDoorHpc
import Derived.Test.YtmbbmibkjnlkkaaDoorJmt
import Derived.Deep.RegionHeld3
namespace Go.Proofs.YtmbbmibkjnlkkaaDoor
open Go.ChangeShapes Go.WideShapes Go.ChangeAt Go.RowKit Go.Deep
def SzPsL (es : List Sg) (L : Int) (w : World) (e : Ending) (w' : World) : Prop :=
  (∃ r : Int, e = .returned (.int .i64 r) ∧ (r = -1 ∨ (0 ≤ r ∧ r + (totP es : Int) + (es.length : Int) = L))) ∧ Below w.heap.size w w'
set_option maxHeartbeats 4000000 in
theorem szPsL_ (L : Int) (hL0 : 0 ≤ L) (hL1 : L ≤ 1048576) (w : World) (v : Value) (es : List Sg) (hV : SgL w v es) (hw : (∀ e ∈ es, wideP e)) (hl : es.length ≤ 9223372036854775807) :
    Calls Tryd.prog 18 #[v, .int .i64 L] w fun e w' => SzPsL es L w e w' := by
  obtain ⟨a, c, rfl⟩ := hV.sl
  have HV : Hid (SgL w (.slice a es.length c) es) := hV
  have HW : Hid ((∀ e ∈ es, wideP e)) := hw
  clear hV hw
  by_cases h : L < (es.length : Int)
  · go_enter Tryd.func18, Tryd.ntmps18
    go_wp2_with fail
    go_ret
    exact ⟨⟨_, rfl, .inl rfl⟩, Below.refl _ _⟩
  · go_enter Tryd.func18, Tryd.ntmps18
    go_wp2_with fail
    go_loopw [1, 5] (fun l i wr => ∃ (k : Nat) (m : Int), k ≤ es.length ∧ i = .int .i64 k ∧ l = .int .i64 m ∧ 0 ≤ m ∧ m + (totP (es.take k) : Int) + (es.length : Int) = L ∧ Below w.heap.size w wr) (fun _ i _ => es.length - (intOf i).toNat)
    case atStart => exact ⟨0, L - es.length, Nat.zero_le _, rfl, by go_num, by omega, by simp [totP], Below.refl _ _⟩
    case round =>
      obtain ⟨k, m, hk, rfl, rfl, hm0, hsum, hb⟩ := hrel
      by_cases hlt : k < es.length
      · obtain ⟨e, hx⟩ : ∃ e, es[k]? = some e := ⟨_, List.getElem?_eq_getElem hlt⟩
        obtain ⟨b, off, rfl, _, ⟨c0, c1, c2⟩⟩ := HV.out.at hb hx
        have hzn := HW.out _ (List.mem_of_getElem? hx)
        have hts := totP_take hx
        have hE := szP_any e m wr hm0 (by omega) hzn
        have hlt' : (k : Int) < (es.length : Int) := by omega
        have hlc := szP_cases e m
        have HTS : Hid (totP (es.take (k + 1)) = totP (es.take k) + (e.text.size)) := hts
        have HSUM : Hid (m + (totP (es.take k) : Int) + (es.length : Int) = L) := hsum
        clear hx hts hsum hzn
        generalize hzz : szP e m = m' at *
        clear hzz
        obtain ⟨kind, n, text⟩ := e
        unfold Sg.row at hE
        go_wp2_with fail
        refine hE.mono ?_
        rintro e w1 ⟨rfl, hb1⟩
        have hB1 : Below w.heap.size w w1 := hb.trans (hb1.mono hb.size)
        clear hE hb1 c0 c1 c2
        rcases hlc with rfl | ⟨e, hge⟩
        · go_wp2_with fail
          go_ret
          exact ⟨⟨_, rfl, .inl rfl⟩, hB1⟩
        · have hge' : ¬ m' < 0 := by omega
          have HEQ : Hid (m' = m - text.size) := e
          clear e hge
          go_wp2_with fail
          go_roundw
          case rel => exact ⟨k + 1, _, hlt, by go_num, rfl, by omega, by have h1 := HTS.out; have h2 := HSUM.out; have h3 := HEQ.out; omega, hB1⟩
          case measure => simp [intOf]; omega
      · obtain rfl : k = es.length := by omega
        rw [List.take_length] at hsum
        have HSUM : Hid (m + (totP es : Int) + (es.length : Int) = L) := hsum
        clear hsum
        go_wp2_with fail
        go_ret
        exact ⟨⟨_, rfl, .inr ⟨hm0, by have := HSUM.out; omega⟩⟩, hb⟩
set_option maxHeartbeats 8000000 in
set_option maxRecDepth 100000 in
theorem law_match (pv lv : Value) (p l : List Sg) (w : World) (hP : SgL w pv p) (hL : SgL w lv l) (wp : ∀ e ∈ p, wideP e) (wl : ∀ e ∈ l, wideP e) (hp : p.length ≤ 9223372036854775807) (hl : l.length ≤ 9223372036854775807) (hT : TabV w) :
    Calls Tryd.prog 8 #[pv, lv] w fun e w' => e = .returned (.bool true) ∧ Below w.heap.size w w' := by
  obtain ⟨pa, pc, rfl⟩ := hP.sl
  obtain ⟨la, lc, rfl⟩ := hL.sl
  have HP : Hid (SgL w (.slice pa p.length pc) p) := hP
  have HL : Hid (SgL w (.slice la l.length lc) l) := hL
  have HW : Hid ((∀ e ∈ l, wideP e) ∧ l.length ≤ 9223372036854775807) := ⟨wl, hl⟩
  have HTV : Hid (TabV w) := hT
  have cZ := szPsL_ 1048576 (by omega) (by omega) w _ p hP wp hp
  clear hP hL wp wl hp hl hT
  go_enter Tryd.func8, Tryd.ntmps8
  go_wp2_with fail
  refine cZ.mono ?_
  rintro e w1 ⟨⟨z, rfl, hz⟩, hb1⟩
  have HB1 : Hid (Below w.heap.size w w1) := hb1
  clear hb1 cZ
  rcases hz with rfl | ⟨hz, hz0⟩
  · go_wp2_with fail
    go_ret
    exact ⟨rfl, HB1.out⟩
  have hz1 : ¬ z < 0 := by omega
  have HTP : Hid (p.length ≤ 1048576) := by show _ ≤ _; omega
  have cY := szPsL_ z hz (by omega) w1 _ l (HL.out.stays HB1.out) HW.out.1 HW.out.2
  have HZ : Hid (z ≤ 1048576) := by show _ ≤ _; omega
  clear hz hz0
  go_wp2_with fail
  refine cY.mono ?_
  rintro e w2 ⟨⟨y, rfl, hy⟩, hb2⟩
  have HB2 : Hid (Below w.heap.size w w2) := HB1.out.trans (hb2.mono HB1.out.size)
  clear hb2 cY
  rcases hy with rfl | ⟨hy, hy0⟩
  · go_wp2_with fail
    go_ret
    exact ⟨rfl, HB2.out⟩
  have hy1 : ¬ y < 0 := by omega
  have HTL : Hid (l.length ≤ 1048576) := by have := HZ.out; show _ ≤ _; omega
  obtain ⟨b, hb⟩ : ∃ b, matchAll p l = b := ⟨_, rfl⟩
  have CTP : Hid (∀ x, Below w.heap.size w x → Calls Tryd.prog 20 #[.slice pa p.length pc] x fun e w' => (∃ v', e = .returned v' ∧ SgL w' v' p) ∧ Below x.heap.size x w') := fun x hx => toPs_ x _ p (HP.out.stays hx) HTP.out
  have CTL : Hid (∀ x, Below w.heap.size w x → Calls Tryd.prog 20 #[.slice la l.length lc] x fun e w' => (∃ v', e = .returned v' ∧ SgL w' v' l) ∧ Below x.heap.size x w') := fun x hx => toPs_ x _ l (HL.out.stays hx) HTL.out
  have CS : Hid (∀ x u v, SgL x u p → SgL x v l → Calls Tryd.prog 25 #[u, v] x fun e w' => e = .returned (.bool b) ∧ Below x.heap.size x w') := fun x u v hu hv => by rw [← hb]; exact spec_matchAll x u v p l hu hv HTP.out HTL.out
  have CI : Hid (∀ x u v, Below w.heap.size w x → SgL x u p → SgL x v l → Calls Tryd.prog 14 #[u, v] x fun e w' => e = .returned (.bool b) ∧ Below x.heap.size x w') := fun x u v hx hu hv => by rw [← hb]; exact implMt p l u v x hu hv HTP.out HTL.out (HTV.out.lasts hx)
  have CEP : Hid (∀ x u v, SgL x u p → SgL x v p → Calls Tryd.prog 21 #[u, v] x fun e w' => e = .returned (.bool true) ∧ Below x.heap.size x w') := fun x u v hu hv => eqPs_ x u v p hu hv (by have := HTP.out; omega)
  have CEL : Hid (∀ x u v, SgL x u l → SgL x v l → Calls Tryd.prog 21 #[u, v] x fun e w' => e = .returned (.bool true) ∧ Below x.heap.size x w') := fun x u v hu hv => eqPs_ x u v l hu hv (by have := HTL.out; omega)
  clear hb hy hy0
  go_wp2_with fail
  refine (CTP.out _ HB2.out).mono ?_
  rintro e w3 ⟨⟨v3, rfl, h3⟩, hb3⟩
  have HB3 : Hid (Below w.heap.size w w3) := HB2.out.trans (hb3.mono HB2.out.size)
  have H3 : Hid (SgL w3 v3 p) := h3
  clear hb3 h3
  go_wp2_with fail
  refine (CTL.out _ HB3.out).mono ?_
  rintro e w4 ⟨⟨v4, rfl, h4⟩, hb4⟩
  have HB4 : Hid (Below w.heap.size w w4) := HB3.out.trans (hb4.mono HB3.out.size)
  have cS := CS.out w4 v3 v4 (H3.out.stays hb4) h4
  clear hb4 h4
  go_wp2_with fail
  refine cS.mono ?_
  rintro e w5 ⟨rfl, hb5⟩
  have HB5 : Hid (Below w.heap.size w w5) := HB4.out.trans (hb5.mono HB4.out.size)
  clear hb5 cS
  go_wp2_with fail
  refine (CTP.out _ HB5.out).mono ?_
  rintro e w6 ⟨⟨v6, rfl, h6⟩, hb6⟩
  have HB6 : Hid (Below w.heap.size w w6) := HB5.out.trans (hb6.mono HB5.out.size)
  have H6 : Hid (SgL w6 v6 p) := h6
  clear hb6 h6
  go_wp2_with fail
  refine (CTL.out _ HB6.out).mono ?_
  rintro e w7 ⟨⟨v7, rfl, h7⟩, hb7⟩
  have HB7 : Hid (Below w.heap.size w w7) := HB6.out.trans (hb7.mono HB6.out.size)
  have H67 : Hid (SgL w7 v6 p) := H6.out.stays hb7
  have H7 : Hid (SgL w7 v7 l) := h7
  have cI := CI.out w7 v6 v7 HB7.out H67.out h7
  clear hb7 h7
  go_wp2_with fail
  refine cI.mono ?_
  rintro e w8 ⟨rfl, hb8⟩
  have HB8 : Hid (Below w.heap.size w w8) := HB7.out.trans (hb8.mono HB7.out.size)
  have H68 : Hid (SgL w8 v6 p) := H67.out.stays hb8
  have H78 : Hid (SgL w8 v7 l) := H7.out.stays hb8
  have hbb : (b != b) = false := by simp
  clear hb8 cI
  go_wp2_with fail
  refine (CTP.out _ HB8.out).mono ?_
  rintro e w9 ⟨⟨v9, rfl, h9⟩, hb9⟩
  have HB9 : Hid (Below w.heap.size w w9) := HB8.out.trans (hb9.mono HB8.out.size)
  have H79 : Hid (SgL w9 v7 l) := H78.out.stays hb9
  have cE := CEP.out w9 v6 v9 (H68.out.stays hb9) h9
  clear hb9 h9
  go_wp2_with fail
  refine cE.mono ?_
  rintro e wa ⟨rfl, hba⟩
  have HBa : Hid (Below w.heap.size w wa) := HB9.out.trans (hba.mono HB9.out.size)
  have H7a : Hid (SgL wa v7 l) := H79.out.stays hba
  clear hba cE
  go_wp2_with fail
  refine (CTL.out _ HBa.out).mono ?_
  rintro e wb ⟨⟨vb, rfl, h9⟩, hb9⟩
  have HBb : Hid (Below w.heap.size w wb) := HBa.out.trans (hb9.mono HBa.out.size)
  have cE := CEL.out wb v7 vb (H7a.out.stays hb9) h9
  clear hb9 h9
  go_wp2_with fail
  refine cE.mono ?_
  rintro e wc ⟨rfl, hbc⟩
  have HBc : Hid (Below w.heap.size w wc) := HBb.out.trans (hbc.mono HBb.out.size)
  clear hbc cE
  go_wp2_with fail
  go_ret
  exact ⟨rfl, HBc.out⟩
end Go.Proofs.YtmbbmibkjnlkkaaDoor
