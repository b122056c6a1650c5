/- The laws on nodes within events, walked, over impl's contracts: lists of numbers. -/
import Derived.Test.YtepodbjdicnjoaaMsu
import Derived.Test.YtepodbjdicnjoaaTin
import Derived.Test.YtepodbjdicnjoaaTeo
import Derived.Test.YtepodbjdicnjoaaRwf
import Derived.Test.YtepodbjdicnjoaaTeq
import Derived.Test.YtepodbjdicnjoaaOev
namespace Go.Proofs.Ytepodbjdicnjoaa
open Go.ChangeShapes Go.WideShapes Go.ChangeAt Go.RowKit
theorem rlenI {w : World} {lo e sz : Nat} {a : Option Addr} {m c n : Nat} {xs : List Value} (h : w.ownsRow lo e sz (.slice a m c) n xs) : m = n := by
  rcases h.2 with ⟨e1, e2⟩ | ⟨g, cap, cur, e1, _⟩
  · injection e1 with _ e1 e3; omega
  · injection e1 with _ e1 e3
theorem row_lowerI {w : World} {lo lo' e sz : Nat} {v : Value} {n : Nat} {xs : List Value} (h : w.ownsRow lo e sz v n xs) (hl : lo' ≤ lo) : w.ownsRow lo' e sz v n xs := by
  refine ⟨h.1, ?_⟩
  rcases h.2 with hn | ⟨g, cap, cur, e1, e2, rest⟩
  · exact .inl hn
  · exact .inr ⟨g, cap, cur, e1, by omega, rest⟩
theorem row_farI {w w' : World} {v v' : Value} {lo e sz n : Nat} {xs : List Value} (h : w.ownsRow lo e sz v n xs) {B : Nat} (hB : ∀ b, v.ownBlock = some b → b < B) (hg : w.grownBy w' v'.ownBlock) (hf : ∀ b, v'.ownBlock = some b → B ≤ b) : w'.ownsRow lo e sz v n xs := by
  refine ⟨h.1, ?_⟩
  rcases h.2 with hn | ⟨g, cap, cur, rfl, hlo, hgg, rest⟩
  · exact .inl hn
  · refine .inr ⟨g, cap, cur, rfl, hlo, ?_, rest⟩
    rw [hg.block g (Array.getElem?_eq_some_iff.1 hgg).1 (fun e => by have h1 := hB g rfl; have h2 := hf g e.symm; omega)]
    exact hgg
theorem kidG_len (l : List Ev) : ∀ (f k : Nat) (acc : List Nat), k ≤ l.length → acc.length ≤ k → (kidG l f k acc).length ≤ l.length
  | 0, k, acc, h1, h2 => by rw [kidG]; omega
  | f + 1, k, acc, h1, h2 => by
    rw [kidG]
    split
    · omega
    · rename_i e he
      have hlt : k < l.length := (List.getElem?_eq_some_iff.1 he).1
      split
      · omega
      · split
        · rw [List.length_append]
          show acc.length + 1 ≤ _
          omega
        · rename_i hy
          have h := endN_le l k h1
          exact kidG_len l f _ _ (by omega) (by rw [List.length_append]; show acc.length + 1 ≤ _; omega)
theorem kidsOf_len (l : List Ev) (i : Int) (h : l.length ≤ 1048576) : (kidsOf l i).length ≤ 1048576 := by
  unfold kidsOf
  split
  · simp
  · rename_i hn
    unfold kidN
    split
    · simp
    · rename_i e he
      have hlt := (List.getElem?_eq_some_iff.1 he).1
      split
      · simp
      · exact Nat.le_trans (kidG_len l _ _ _ (by omega) (by simp)) h
theorem rootsOf_len (l : List Ev) (h : l.length ≤ 1048576) : (rootsOf l).length ≤ 1048576 := Nat.le_trans (rootsTo_len l l.length) h
/-- What is asked of impl.KidsOf. -/
def ImplKidsOf : Prop := ∀ (w : World) (v : Value) (es : List Ev) (i : Int) (L : List Nat), SlE w v es → totE es + es.length ≤ 1048576 → (∀ e ∈ es, wfE e) → (Lit.int .i64 i).wf = true → kidsOf es i = L → Calls Try.prog 16 #[v, .int .i64 i] w fun e w' => OwnI w L e w'
set_option maxRecDepth 100000 in
set_option maxHeartbeats 8000000 in
theorem law_kidsOf (HI : ImplKidsOf) (v : Value) (es : List Ev) (w : World) (hV : SlE w v es) (hw : wideEs es) (hf : ∀ e ∈ es, wfE e) (hl : es.length ≤ 9223372036854775807) (i : Int) (wi : (Lit.int .i64 i).wf = true) :
    Calls Try.prog 4 #[v, .int .i64 i] w fun e w' => e = .returned (.bool true) ∧ Below w.heap.size w w' := by
  obtain ⟨a, c, rfl⟩ := hV.sl
  have hSz := szEs_ w _ es hV hw hl
  have HV : Hid (SlE w (.slice a es.length c) es) := hV
  obtain ⟨L, hL⟩ : ∃ L, kidsOf es i = L := ⟨_, rfl⟩
  have cI : Hid (totE es + es.length ≤ 1048576 → ∀ w' v', SlE w' v' es → Calls Try.prog 16 #[v', .int .i64 i] w' fun e w'' => OwnI w' L e w'') := fun hb w' v' h => HI w' v' es i L h hb hf wi hL
  have cS : Hid (totE es + es.length ≤ 1048576 → ∀ w' v', SlE w' v' es → Calls Try.prog 15 #[v', .int .i64 i] w' fun e w'' => OwnI w' L e w'') := fun hb w' v' h => spec_kidsOf w' v' es h hb i L hL
  have HLL : Hid (es.length ≤ 1048576 → L.length ≤ 1048576) := fun h => by rw [← hL]; exact kidsOf_len es i h
  clear hV hw hl hf HI hL wi
  go_enter Try.func4, Try.ntmps4
  go_wp2_with fail
  refine hSz.mono ?_
  rintro e w1 ⟨⟨r, rfl, hr⟩, hb1⟩
  clear hSz
  rcases hr with rfl | ⟨hr0, hrt⟩
  · go_wp2_with fail
    go_ret
    exact ⟨rfl, hb1⟩
  have HES : Hid (es.length ≤ 1048576) := by show es.length ≤ 1048576; omega
  have HLN : Hid (L.length ≤ 1048576) := HLL.out (by omega)
  have cI2 : Hid (∀ w' v', SlE w' v' es → Calls Try.prog 16 #[v', .int .i64 i] w' fun e w'' => OwnI w' L e w'') := cI.out hrt
  have cS2 : Hid (∀ w' v', SlE w' v' es → Calls Try.prog 15 #[v', .int .i64 i] w' fun e w'' => OwnI w' L e w'') := cS.out hrt
  have cT : Hid (∀ w', Below w.heap.size w w' → Calls Try.prog 12 #[.slice a es.length c] w' fun e w'' => (e = .returned (.slice (some ⟨w'.heap.size, 0, none⟩) es.length es.length) ∧ w''.ownsRow w'.heap.size 39 8 (.slice (some ⟨w'.heap.size, 0, none⟩) es.length es.length) es.length (rowsE es)) ∧ Below w'.heap.size w' w'') := fun w' hb => toEs_own w' _ es (HV.out.stays hb) HES.out
  have hr0' : ¬ r < 0 := by omega
  have HB1 : Hid (Below w.heap.size w w1) := hb1
  clear hrt cI cS HLL hb1
  go_wp2_with fail
  refine (cT.out w1 HB1.out).mono ?_
  rintro e w2 ⟨⟨rfl, ho2⟩, hb2⟩
  have HS2 : Hid (SlE w2 (.slice (some ⟨w1.heap.size, 0, none⟩) es.length es.length) es) := slE_row ho2
  have HB2 : Hid (Below w.heap.size w w2) := HB1.out.trans (hb2.mono HB1.out.size)
  clear ho2 hb2 HB1
  go_wp2_with fail
  refine (cS2.out w2 _ HS2.out).mono ?_
  rintro e w3 ⟨a0, n0, c0, rfl, ho3, hb3⟩
  obtain rfl := rlenI ho3
  have HO3 : Hid (w3.ownsRow w.heap.size 3 1 (.slice a0 L.length c0) L.length (intsV L)) := row_lowerI ho3 HB2.out.size
  have HB3 : Hid (Below w.heap.size w w3) := HB2.out.trans (hb3.mono HB2.out.size)
  clear ho3 hb3 HB2 HS2
  go_wp2_with fail
  refine (cT.out w3 HB3.out).mono ?_
  rintro e w4 ⟨⟨rfl, ho4⟩, hb4⟩
  have HX4 : Hid (w4.ownsRow w3.heap.size 39 8 (.slice (some ⟨w3.heap.size, 0, none⟩) es.length es.length) es.length (rowsE es)) := ho4
  have HO4 : Hid (w4.ownsRow w.heap.size 3 1 (.slice a0 L.length c0) L.length (intsV L)) := row_below HO3.out hb4
  have HB4 : Hid (Below w.heap.size w w4) := HB3.out.trans (hb4.mono HB3.out.size)
  have HW3 : Hid (w.heap.size ≤ w3.heap.size ∧ w3.heap.size < w4.heap.size) := ⟨HB3.out.size, (ho4.lt w3.heap.size rfl).2⟩
  have HA0 : Hid (∀ b, (Value.slice a0 L.length c0).ownBlock = some b → b < w3.heap.size) := fun b hb => (HO3.out.lt b hb).2
  clear ho4 hb4 HB3 HO3
  go_wp2_with fail
  refine (cI2.out w4 _ (slE_row HX4.out)).mono ?_
  rintro e w5 ⟨a1, n1, c1, rfl, ho5, hb5⟩
  obtain rfl := rlenI ho5
  have HG5 : Hid (w5.ownsRow w4.heap.size 3 1 (.slice a1 L.length c1) L.length (intsV L)) := ho5
  have HX5 : Hid (w5.ownsRow w3.heap.size 39 8 (.slice (some ⟨w3.heap.size, 0, none⟩) es.length es.length) es.length (rowsE es)) := row_below HX4.out hb5
  have HO5 : Hid (w5.ownsRow w.heap.size 3 1 (.slice a0 L.length c0) L.length (intsV L)) := row_below HO4.out hb5
  have HB5 : Hid (Below w.heap.size w w5) := HB4.out.trans (hb5.mono HB4.out.size)
  have HA1 : Hid (∀ b, (Value.slice a1 L.length c1).ownBlock = some b → w4.heap.size ≤ b) := fun b hb => (ho5.lt b hb).1
  clear ho5 hb5 HX4 HO4 HB4
  go_wp2_with fail
  refine (eqI_same _ _ L w5 (slI_own HG5.out) (slI_own HO5.out) HLN.out).mono ?_
  rintro e w6 ⟨rfl, hb6⟩
  have HG6 : Hid (w6.ownsRow w4.heap.size 3 1 (.slice a1 L.length c1) L.length (intsV L)) := row_below HG5.out hb6
  have HX6 : Hid (w6.ownsRow w3.heap.size 39 8 (.slice (some ⟨w3.heap.size, 0, none⟩) es.length es.length) es.length (rowsE es)) := row_below HX5.out hb6
  have HO6 : Hid (w6.ownsRow w.heap.size 3 1 (.slice a0 L.length c0) L.length (intsV L)) := row_below HO5.out hb6
  have HB6 : Hid (Below w.heap.size w w6) := HB5.out.trans (hb6.mono HB5.out.size)
  clear hb6 HG5 HX5 HO5 HB5
  go_wp2_with fail
  refine (cT.out w6 HB6.out).mono ?_
  rintro e w7 ⟨⟨rfl, ho7⟩, hb7⟩
  have HG7 : Hid (w7.ownsRow w4.heap.size 3 1 (.slice a1 L.length c1) L.length (intsV L)) := row_below HG6.out hb7
  have HX7 : Hid (w7.ownsRow w3.heap.size 39 8 (.slice (some ⟨w3.heap.size, 0, none⟩) es.length es.length) es.length (rowsE es)) := row_below HX6.out hb7
  have HO7 : Hid (w7.ownsRow w.heap.size 3 1 (.slice a0 L.length c0) L.length (intsV L)) := row_below HO6.out hb7
  have HB7 : Hid (Below w.heap.size w w7) := HB6.out.trans (hb7.mono HB6.out.size)
  have cE := eqEs_ w7 _ _ es (slE_row HX7.out) (slE_row ho7) (by have := HES.out; omega)
  clear ho7 hb7 HG6 HX6 HO6 HB6
  go_wp2_with fail
  refine cE.mono ?_
  rintro e w8 ⟨rfl, hb8⟩
  have HG8 : Hid (w8.ownsRow w4.heap.size 3 1 (.slice a1 L.length c1) L.length (intsV L)) := row_below HG7.out hb8
  have HX8 : Hid (w8.ownsRow w3.heap.size 39 8 (.slice (some ⟨w3.heap.size, 0, none⟩) es.length es.length) es.length (rowsE es)) := row_below HX7.out hb8
  have HO8 : Hid (w8.ownsRow w.heap.size 3 1 (.slice a0 L.length c0) L.length (intsV L)) := row_below HO7.out hb8
  have HB8 : Hid (Below w.heap.size w w8) := HB7.out.trans (hb8.mono HB7.out.size)
  clear hb8 cE HG7 HX7 HO7 HB7
  go_wp2_with fail
  refine (markEs_any w8 w3.heap.size _ es 1 HX8.out (by have := HES.out; omega) (by decide) (by decide)).mono ?_
  rintro e w9 ⟨rfl, _, hg9⟩
  have HG9 : Hid (w9.ownsRow w4.heap.size 3 1 (.slice a1 L.length c1) L.length (intsV L)) := row_same HG8.out (fun k hk hlt => hg9.block k hlt (by intro e; have h1 := HW3.out; simp [Value.ownBlock] at e; omega))
  have HO9 : Hid (w9.ownsRow w.heap.size 3 1 (.slice a0 L.length c0) L.length (intsV L)) := row_farI HO8.out HA0.out hg9 (fun b e => by simp [Value.ownBlock] at e; omega)
  have HB9 : Hid (Below w.heap.size w w9) := HB8.out.trans ⟨hg9.os, hg9.tape, hg9.output, hg9.size, fun k hk => hg9.block k (by have := HB8.out.size; omega) (fun e => by have h2 := HW3.out; simp [Value.ownBlock] at e; omega)⟩
  have hm8 : ((1 + 8 * es.length : Nat) : Int) ≤ 35154433 := by have := HES.out; omega
  have hm0 : (1 : Int) ≤ ((1 + 8 * es.length : Nat) : Int) := by omega
  generalize ((1 + 8 * es.length : Nat) : Int) = M at *
  have hM2 : ¬ M < 0 := by omega
  have HW4 : Hid (w.heap.size ≤ w4.heap.size) := by show _ ≤ _; have := HW3.out; omega
  have HA0b : Hid (∀ b, (Value.slice a0 L.length c0).ownBlock = some b → b < w4.heap.size) := fun b hb => by have h1 := HA0.out b hb; have h2 := HW3.out; omega
  clear hg9 HG8 HX8 HO8 HB8 HA0 HW3
  go_wp2_with fail
  refine (eqI_same _ _ L w9 (slI_own HG9.out) (slI_own HO9.out) HLN.out).mono ?_
  rintro e w10 ⟨rfl, hb10⟩
  have HG10 : Hid (w10.ownsRow w4.heap.size 3 1 (.slice a1 L.length c1) L.length (intsV L)) := row_below HG9.out hb10
  have HO10 : Hid (w10.ownsRow w.heap.size 3 1 (.slice a0 L.length c0) L.length (intsV L)) := row_below HO9.out hb10
  have HB10 : Hid (Below w.heap.size w w10) := HB9.out.trans (hb10.mono HB9.out.size)
  clear hb10 HG9 HO9 HB9 hm8 hm0
  have hM3 : decide (M < 0) = false := by simpa using hM2
  have cM := markI_any w10 w4.heap.size _ L 1 HG10.out HLN.out (by decide)
  obtain ⟨Q, hQ⟩ : ∃ Q : Int, ((1 + L.length : Nat) : Int) = Q := ⟨_, rfl⟩
  rw [hQ] at cM
  have HQ : Hid (((1 + L.length : Nat) : Int) = Q) := hQ
  have hQ1 : ¬ Q < 0 := by omega
  have hQ2 : (Q != Q) = false := by simp
  have cH : Hid (∀ w', SlI w' (.slice a1 L.length c1) (mksI 1 L.length) → Calls Try.prog 20 #[.slice a1 L.length c1, .int .i64 1] w' fun e w'' => e = .returned (.int .i64 Q) ∧ Below w'.heap.size w' w'') := fun w' h => by
    have := heldI_any w' _ L.length 1 h HLN.out (by decide)
    rw [HQ.out] at this
    exact this
  clear hQ
  go_wp2_with fail
  refine cM.mono ?_
  rintro e w11 ⟨rfl, ho11, hg11⟩
  have HG11 : Hid (w11.ownsRow w4.heap.size 3 1 (.slice a1 L.length c1) (mksI 1 L.length).length (intsV (mksI 1 L.length))) := by show World.ownsRow _ _ _ _ _ _ _; rw [mksI_len]; exact ho11
  have HO11 : Hid (w11.ownsRow w.heap.size 3 1 (.slice a0 L.length c0) L.length (intsV L)) := row_farI HO10.out HA0b.out hg11 HA1.out
  have HB11 : Hid (Below w.heap.size w w11) := HB10.out.trans ⟨hg11.os, hg11.tape, hg11.output, hg11.size, fun k hk => hg11.block k (by have := HB10.out.size; omega) (fun e => by have h1 := HA1.out k e.symm; have h2 := HW4.out; omega)⟩
  clear ho11 hg11 cM HG10 HO10 HB10
  go_wp2_with fail
  refine (cH.out w11 (slI_own HG11.out)).mono ?_
  rintro e w12 ⟨rfl, hb12⟩
  have HG12 : Hid (w12.ownsRow w4.heap.size 3 1 (.slice a1 L.length c1) (mksI 1 L.length).length (intsV (mksI 1 L.length))) := row_below HG11.out hb12
  have HO12 : Hid (w12.ownsRow w.heap.size 3 1 (.slice a0 L.length c0) L.length (intsV L)) := row_below HO11.out hb12
  have HB12 : Hid (Below w.heap.size w w12) := HB11.out.trans (hb12.mono HB11.out.size)
  clear hb12 HG11 HO11 HB11
  go_wp2_with fail
  refine (cT.out w12 HB12.out).mono ?_
  rintro e w13 ⟨⟨rfl, ho13⟩, hb13⟩
  have HS13 : Hid (SlE w13 (.slice (some ⟨w12.heap.size, 0, none⟩) es.length es.length) es) := slE_row ho13
  have HG13 : Hid (w13.ownsRow w4.heap.size 3 1 (.slice a1 L.length c1) (mksI 1 L.length).length (intsV (mksI 1 L.length))) := row_below HG12.out hb13
  have HO13 : Hid (w13.ownsRow w.heap.size 3 1 (.slice a0 L.length c0) L.length (intsV L)) := row_below HO12.out hb13
  have HB13 : Hid (Below w.heap.size w w13) := HB12.out.trans (hb13.mono HB12.out.size)
  clear ho13 hb13 HG12 HO12 HB12
  go_wp2_with fail
  refine (cI2.out w13 _ HS13.out).mono ?_
  rintro e w14 ⟨a2, n2, c2, rfl, ho14, hb14⟩
  obtain rfl := rlenI ho14
  have HH14 : Hid (SlI w14 (.slice a2 L.length c2) L) := slI_own ho14
  have HG14 : Hid (w14.ownsRow w4.heap.size 3 1 (.slice a1 L.length c1) (mksI 1 L.length).length (intsV (mksI 1 L.length))) := row_below HG13.out hb14
  have HO14 : Hid (w14.ownsRow w.heap.size 3 1 (.slice a0 L.length c0) L.length (intsV L)) := row_below HO13.out hb14
  have HB14 : Hid (Below w.heap.size w w14) := HB13.out.trans (hb14.mono HB13.out.size)
  clear ho14 hb14 HG13 HO13 HB13 cI2
  go_wp2_with fail
  refine (eqI_same _ _ L w14 HH14.out (slI_own HO14.out) HLN.out).mono ?_
  rintro e w15 ⟨rfl, hb15⟩
  have HG15 : Hid (w15.ownsRow w4.heap.size 3 1 (.slice a1 L.length c1) (mksI 1 L.length).length (intsV (mksI 1 L.length))) := row_below HG14.out hb15
  have HB15 : Hid (Below w.heap.size w w15) := HB14.out.trans (hb15.mono HB14.out.size)
  clear hb15 HG14 HO14 HB14 HH14
  go_wp2_with fail
  refine (cH.out w15 (slI_own HG15.out)).mono ?_
  rintro e w16 ⟨rfl, hb16⟩
  have HB16 : Hid (Below w.heap.size w w16) := HB15.out.trans (hb16.mono HB15.out.size)
  clear hb16 HG15 HB15 cH
  go_wp2_with fail
  go_ret
  exact ⟨rfl, HB16.out⟩
/-- What is asked of impl.RootsOf. -/
def ImplRootsOf : Prop := ∀ (w : World) (v : Value) (es : List Ev) (L : List Nat), SlE w v es → totE es + es.length ≤ 1048576 → (∀ e ∈ es, wfE e) → rootsOf es = L → Calls Try.prog 26 #[v] w fun e w' => OwnI w L e w'
set_option maxRecDepth 100000 in
set_option maxHeartbeats 8000000 in
theorem law_rootsOf (HI : ImplRootsOf) (v : Value) (es : List Ev) (w : World) (hV : SlE w v es) (hw : wideEs es) (hf : ∀ e ∈ es, wfE e) (hl : es.length ≤ 9223372036854775807) :
    Calls Try.prog 7 #[v] w fun e w' => e = .returned (.bool true) ∧ Below w.heap.size w w' := by
  obtain ⟨a, c, rfl⟩ := hV.sl
  have hSz := szEs_ w _ es hV hw hl
  have HV : Hid (SlE w (.slice a es.length c) es) := hV
  obtain ⟨L, hL⟩ : ∃ L, rootsOf es = L := ⟨_, rfl⟩
  have cI : Hid (totE es + es.length ≤ 1048576 → ∀ w' v', SlE w' v' es → Calls Try.prog 26 #[v'] w' fun e w'' => OwnI w' L e w'') := fun hb w' v' h => HI w' v' es L h hb hf hL
  have cS : Hid (totE es + es.length ≤ 1048576 → ∀ w' v', SlE w' v' es → Calls Try.prog 25 #[v'] w' fun e w'' => OwnI w' L e w'') := fun hb w' v' h => spec_rootsOf w' v' es h hb L hL
  have HLL : Hid (es.length ≤ 1048576 → L.length ≤ 1048576) := fun h => by rw [← hL]; exact rootsOf_len es h
  clear hV hw hl hf HI hL
  go_enter Try.func7, Try.ntmps7
  go_wp2_with fail
  refine hSz.mono ?_
  rintro e w1 ⟨⟨r, rfl, hr⟩, hb1⟩
  clear hSz
  rcases hr with rfl | ⟨hr0, hrt⟩
  · go_wp2_with fail
    go_ret
    exact ⟨rfl, hb1⟩
  have HES : Hid (es.length ≤ 1048576) := by show es.length ≤ 1048576; omega
  have HLN : Hid (L.length ≤ 1048576) := HLL.out (by omega)
  have cI2 : Hid (∀ w' v', SlE w' v' es → Calls Try.prog 26 #[v'] w' fun e w'' => OwnI w' L e w'') := cI.out hrt
  have cS2 : Hid (∀ w' v', SlE w' v' es → Calls Try.prog 25 #[v'] w' fun e w'' => OwnI w' L e w'') := cS.out hrt
  have cT : Hid (∀ w', Below w.heap.size w w' → Calls Try.prog 12 #[.slice a es.length c] w' fun e w'' => (e = .returned (.slice (some ⟨w'.heap.size, 0, none⟩) es.length es.length) ∧ w''.ownsRow w'.heap.size 39 8 (.slice (some ⟨w'.heap.size, 0, none⟩) es.length es.length) es.length (rowsE es)) ∧ Below w'.heap.size w' w'') := fun w' hb => toEs_own w' _ es (HV.out.stays hb) HES.out
  have hr0' : ¬ r < 0 := by omega
  have HB1 : Hid (Below w.heap.size w w1) := hb1
  clear hrt cI cS HLL hb1
  go_wp2_with fail
  refine (cT.out w1 HB1.out).mono ?_
  rintro e w2 ⟨⟨rfl, ho2⟩, hb2⟩
  have HS2 : Hid (SlE w2 (.slice (some ⟨w1.heap.size, 0, none⟩) es.length es.length) es) := slE_row ho2
  have HB2 : Hid (Below w.heap.size w w2) := HB1.out.trans (hb2.mono HB1.out.size)
  clear ho2 hb2 HB1
  go_wp2_with fail
  refine (cS2.out w2 _ HS2.out).mono ?_
  rintro e w3 ⟨a0, n0, c0, rfl, ho3, hb3⟩
  obtain rfl := rlenI ho3
  have HO3 : Hid (w3.ownsRow w.heap.size 3 1 (.slice a0 L.length c0) L.length (intsV L)) := row_lowerI ho3 HB2.out.size
  have HB3 : Hid (Below w.heap.size w w3) := HB2.out.trans (hb3.mono HB2.out.size)
  clear ho3 hb3 HB2 HS2
  go_wp2_with fail
  refine (cT.out w3 HB3.out).mono ?_
  rintro e w4 ⟨⟨rfl, ho4⟩, hb4⟩
  have HX4 : Hid (w4.ownsRow w3.heap.size 39 8 (.slice (some ⟨w3.heap.size, 0, none⟩) es.length es.length) es.length (rowsE es)) := ho4
  have HO4 : Hid (w4.ownsRow w.heap.size 3 1 (.slice a0 L.length c0) L.length (intsV L)) := row_below HO3.out hb4
  have HB4 : Hid (Below w.heap.size w w4) := HB3.out.trans (hb4.mono HB3.out.size)
  have HW3 : Hid (w.heap.size ≤ w3.heap.size ∧ w3.heap.size < w4.heap.size) := ⟨HB3.out.size, (ho4.lt w3.heap.size rfl).2⟩
  have HA0 : Hid (∀ b, (Value.slice a0 L.length c0).ownBlock = some b → b < w3.heap.size) := fun b hb => (HO3.out.lt b hb).2
  clear ho4 hb4 HB3 HO3
  go_wp2_with fail
  refine (cI2.out w4 _ (slE_row HX4.out)).mono ?_
  rintro e w5 ⟨a1, n1, c1, rfl, ho5, hb5⟩
  obtain rfl := rlenI ho5
  have HG5 : Hid (w5.ownsRow w4.heap.size 3 1 (.slice a1 L.length c1) L.length (intsV L)) := ho5
  have HX5 : Hid (w5.ownsRow w3.heap.size 39 8 (.slice (some ⟨w3.heap.size, 0, none⟩) es.length es.length) es.length (rowsE es)) := row_below HX4.out hb5
  have HO5 : Hid (w5.ownsRow w.heap.size 3 1 (.slice a0 L.length c0) L.length (intsV L)) := row_below HO4.out hb5
  have HB5 : Hid (Below w.heap.size w w5) := HB4.out.trans (hb5.mono HB4.out.size)
  have HA1 : Hid (∀ b, (Value.slice a1 L.length c1).ownBlock = some b → w4.heap.size ≤ b) := fun b hb => (ho5.lt b hb).1
  clear ho5 hb5 HX4 HO4 HB4
  go_wp2_with fail
  refine (eqI_same _ _ L w5 (slI_own HG5.out) (slI_own HO5.out) HLN.out).mono ?_
  rintro e w6 ⟨rfl, hb6⟩
  have HG6 : Hid (w6.ownsRow w4.heap.size 3 1 (.slice a1 L.length c1) L.length (intsV L)) := row_below HG5.out hb6
  have HX6 : Hid (w6.ownsRow w3.heap.size 39 8 (.slice (some ⟨w3.heap.size, 0, none⟩) es.length es.length) es.length (rowsE es)) := row_below HX5.out hb6
  have HO6 : Hid (w6.ownsRow w.heap.size 3 1 (.slice a0 L.length c0) L.length (intsV L)) := row_below HO5.out hb6
  have HB6 : Hid (Below w.heap.size w w6) := HB5.out.trans (hb6.mono HB5.out.size)
  clear hb6 HG5 HX5 HO5 HB5
  go_wp2_with fail
  refine (cT.out w6 HB6.out).mono ?_
  rintro e w7 ⟨⟨rfl, ho7⟩, hb7⟩
  have HG7 : Hid (w7.ownsRow w4.heap.size 3 1 (.slice a1 L.length c1) L.length (intsV L)) := row_below HG6.out hb7
  have HX7 : Hid (w7.ownsRow w3.heap.size 39 8 (.slice (some ⟨w3.heap.size, 0, none⟩) es.length es.length) es.length (rowsE es)) := row_below HX6.out hb7
  have HO7 : Hid (w7.ownsRow w.heap.size 3 1 (.slice a0 L.length c0) L.length (intsV L)) := row_below HO6.out hb7
  have HB7 : Hid (Below w.heap.size w w7) := HB6.out.trans (hb7.mono HB6.out.size)
  have cE := eqEs_ w7 _ _ es (slE_row HX7.out) (slE_row ho7) (by have := HES.out; omega)
  clear ho7 hb7 HG6 HX6 HO6 HB6
  go_wp2_with fail
  refine cE.mono ?_
  rintro e w8 ⟨rfl, hb8⟩
  have HG8 : Hid (w8.ownsRow w4.heap.size 3 1 (.slice a1 L.length c1) L.length (intsV L)) := row_below HG7.out hb8
  have HX8 : Hid (w8.ownsRow w3.heap.size 39 8 (.slice (some ⟨w3.heap.size, 0, none⟩) es.length es.length) es.length (rowsE es)) := row_below HX7.out hb8
  have HO8 : Hid (w8.ownsRow w.heap.size 3 1 (.slice a0 L.length c0) L.length (intsV L)) := row_below HO7.out hb8
  have HB8 : Hid (Below w.heap.size w w8) := HB7.out.trans (hb8.mono HB7.out.size)
  clear hb8 cE HG7 HX7 HO7 HB7
  go_wp2_with fail
  refine (markEs_any w8 w3.heap.size _ es 1 HX8.out (by have := HES.out; omega) (by decide) (by decide)).mono ?_
  rintro e w9 ⟨rfl, _, hg9⟩
  have HG9 : Hid (w9.ownsRow w4.heap.size 3 1 (.slice a1 L.length c1) L.length (intsV L)) := row_same HG8.out (fun k hk hlt => hg9.block k hlt (by intro e; have h1 := HW3.out; simp [Value.ownBlock] at e; omega))
  have HO9 : Hid (w9.ownsRow w.heap.size 3 1 (.slice a0 L.length c0) L.length (intsV L)) := row_farI HO8.out HA0.out hg9 (fun b e => by simp [Value.ownBlock] at e; omega)
  have HB9 : Hid (Below w.heap.size w w9) := HB8.out.trans ⟨hg9.os, hg9.tape, hg9.output, hg9.size, fun k hk => hg9.block k (by have := HB8.out.size; omega) (fun e => by have h2 := HW3.out; simp [Value.ownBlock] at e; omega)⟩
  have hm8 : ((1 + 8 * es.length : Nat) : Int) ≤ 35154433 := by have := HES.out; omega
  have hm0 : (1 : Int) ≤ ((1 + 8 * es.length : Nat) : Int) := by omega
  generalize ((1 + 8 * es.length : Nat) : Int) = M at *
  have hM2 : ¬ M < 0 := by omega
  have HW4 : Hid (w.heap.size ≤ w4.heap.size) := by show _ ≤ _; have := HW3.out; omega
  have HA0b : Hid (∀ b, (Value.slice a0 L.length c0).ownBlock = some b → b < w4.heap.size) := fun b hb => by have h1 := HA0.out b hb; have h2 := HW3.out; omega
  clear hg9 HG8 HX8 HO8 HB8 HA0 HW3
  go_wp2_with fail
  refine (eqI_same _ _ L w9 (slI_own HG9.out) (slI_own HO9.out) HLN.out).mono ?_
  rintro e w10 ⟨rfl, hb10⟩
  have HG10 : Hid (w10.ownsRow w4.heap.size 3 1 (.slice a1 L.length c1) L.length (intsV L)) := row_below HG9.out hb10
  have HO10 : Hid (w10.ownsRow w.heap.size 3 1 (.slice a0 L.length c0) L.length (intsV L)) := row_below HO9.out hb10
  have HB10 : Hid (Below w.heap.size w w10) := HB9.out.trans (hb10.mono HB9.out.size)
  clear hb10 HG9 HO9 HB9 hm8 hm0
  have hM3 : decide (M < 0) = false := by simpa using hM2
  have cM := markI_any w10 w4.heap.size _ L 1 HG10.out HLN.out (by decide)
  obtain ⟨Q, hQ⟩ : ∃ Q : Int, ((1 + L.length : Nat) : Int) = Q := ⟨_, rfl⟩
  rw [hQ] at cM
  have HQ : Hid (((1 + L.length : Nat) : Int) = Q) := hQ
  have hQ1 : ¬ Q < 0 := by omega
  have hQ2 : (Q != Q) = false := by simp
  have cH : Hid (∀ w', SlI w' (.slice a1 L.length c1) (mksI 1 L.length) → Calls Try.prog 20 #[.slice a1 L.length c1, .int .i64 1] w' fun e w'' => e = .returned (.int .i64 Q) ∧ Below w'.heap.size w' w'') := fun w' h => by
    have := heldI_any w' _ L.length 1 h HLN.out (by decide)
    rw [HQ.out] at this
    exact this
  clear hQ
  go_wp2_with fail
  refine cM.mono ?_
  rintro e w11 ⟨rfl, ho11, hg11⟩
  have HG11 : Hid (w11.ownsRow w4.heap.size 3 1 (.slice a1 L.length c1) (mksI 1 L.length).length (intsV (mksI 1 L.length))) := by show World.ownsRow _ _ _ _ _ _ _; rw [mksI_len]; exact ho11
  have HO11 : Hid (w11.ownsRow w.heap.size 3 1 (.slice a0 L.length c0) L.length (intsV L)) := row_farI HO10.out HA0b.out hg11 HA1.out
  have HB11 : Hid (Below w.heap.size w w11) := HB10.out.trans ⟨hg11.os, hg11.tape, hg11.output, hg11.size, fun k hk => hg11.block k (by have := HB10.out.size; omega) (fun e => by have h1 := HA1.out k e.symm; have h2 := HW4.out; omega)⟩
  clear ho11 hg11 cM HG10 HO10 HB10
  go_wp2_with fail
  refine (cH.out w11 (slI_own HG11.out)).mono ?_
  rintro e w12 ⟨rfl, hb12⟩
  have HG12 : Hid (w12.ownsRow w4.heap.size 3 1 (.slice a1 L.length c1) (mksI 1 L.length).length (intsV (mksI 1 L.length))) := row_below HG11.out hb12
  have HO12 : Hid (w12.ownsRow w.heap.size 3 1 (.slice a0 L.length c0) L.length (intsV L)) := row_below HO11.out hb12
  have HB12 : Hid (Below w.heap.size w w12) := HB11.out.trans (hb12.mono HB11.out.size)
  clear hb12 HG11 HO11 HB11
  go_wp2_with fail
  refine (cT.out w12 HB12.out).mono ?_
  rintro e w13 ⟨⟨rfl, ho13⟩, hb13⟩
  have HS13 : Hid (SlE w13 (.slice (some ⟨w12.heap.size, 0, none⟩) es.length es.length) es) := slE_row ho13
  have HG13 : Hid (w13.ownsRow w4.heap.size 3 1 (.slice a1 L.length c1) (mksI 1 L.length).length (intsV (mksI 1 L.length))) := row_below HG12.out hb13
  have HO13 : Hid (w13.ownsRow w.heap.size 3 1 (.slice a0 L.length c0) L.length (intsV L)) := row_below HO12.out hb13
  have HB13 : Hid (Below w.heap.size w w13) := HB12.out.trans (hb13.mono HB12.out.size)
  clear ho13 hb13 HG12 HO12 HB12
  go_wp2_with fail
  refine (cI2.out w13 _ HS13.out).mono ?_
  rintro e w14 ⟨a2, n2, c2, rfl, ho14, hb14⟩
  obtain rfl := rlenI ho14
  have HH14 : Hid (SlI w14 (.slice a2 L.length c2) L) := slI_own ho14
  have HG14 : Hid (w14.ownsRow w4.heap.size 3 1 (.slice a1 L.length c1) (mksI 1 L.length).length (intsV (mksI 1 L.length))) := row_below HG13.out hb14
  have HO14 : Hid (w14.ownsRow w.heap.size 3 1 (.slice a0 L.length c0) L.length (intsV L)) := row_below HO13.out hb14
  have HB14 : Hid (Below w.heap.size w w14) := HB13.out.trans (hb14.mono HB13.out.size)
  clear ho14 hb14 HG13 HO13 HB13 cI2
  go_wp2_with fail
  refine (eqI_same _ _ L w14 HH14.out (slI_own HO14.out) HLN.out).mono ?_
  rintro e w15 ⟨rfl, hb15⟩
  have HG15 : Hid (w15.ownsRow w4.heap.size 3 1 (.slice a1 L.length c1) (mksI 1 L.length).length (intsV (mksI 1 L.length))) := row_below HG14.out hb15
  have HB15 : Hid (Below w.heap.size w w15) := HB14.out.trans (hb15.mono HB14.out.size)
  clear hb15 HG14 HO14 HB14 HH14
  go_wp2_with fail
  refine (cH.out w15 (slI_own HG15.out)).mono ?_
  rintro e w16 ⟨rfl, hb16⟩
  have HB16 : Hid (Below w.heap.size w w16) := HB15.out.trans (hb16.mono HB15.out.size)
  clear hb16 HG15 HB15 cH
  go_wp2_with fail
  go_ret
  exact ⟨rfl, HB16.out⟩
end Go.Proofs.Ytepodbjdicnjoaa
