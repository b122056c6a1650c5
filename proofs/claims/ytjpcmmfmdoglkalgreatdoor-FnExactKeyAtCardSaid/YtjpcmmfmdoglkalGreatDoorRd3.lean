/- The reader's method turn. -/
import Derived.Test.YtjpcmmfmdoglkalGreatDoorRd2
import Derived.Test.YtjpcmmfmdoglkalGreatDoorTrm
import Derived.Test.YtjpcmmfmdoglkalGreatDoorNat
namespace Go.Proofs.YtjpcmmfmdoglkalGreatDoor
open Go.ChangeShapes Go.WideShapes Go.ChangeAt Go.RowKit Go.Deep
theorem getD_drop (xs : List UInt8) (k j : Nat) : (xs.drop k).getD j 0 = xs.getD (k + j) 0 := by
  simp [List.getD, List.getElem?_drop]
/-- What is behind the firm bytes of a row. -/
theorem row_behind {w : World} {lo : Nat} {ca : Option Addr} {cn cc fm : Nat} {cur : ByteArray} (h : w.ownsRow lo 5 1 (.slice ca cn cc) cur.size (Lib.strCells cur)) (hf : fm ≤ cur.size) :
    Lib.BytesAt w (if cc = fm then ca else Option.map (fun x => x.add fm) ca) (cn - fm) (cur.data.toList.drop fm) := by
  intro h0
  obtain ⟨hl, hc⟩ := row_len h
  rcases h.2 with ⟨e1, e2⟩ | ⟨g, cap, cu, e1, h1, h2, h3, h4, h5, h6⟩
  · omega
  · injection e1 with e0 e1 e3
    subst e0
    subst e3
    subst hl
    refine ⟨g, fm, ?_, ?_⟩
    · rw [if_neg (by omega)]
      simp [Addr.add]
      omega
    · intro j hj
      have hlt : fm + j < cur.data.toList.length := by rw [Array.length_toList]; show fm + j < cur.size; omega
      have := h.cellAt (fm + j) (by omega)
      rw [this]
      unfold Lib.strCells
      rw [List.getElem?_map, List.getElem?_eq_getElem hlt, getD_drop]
      simp [List.getD, List.getElem?_eq_getElem hlt]
theorem white_ascii : ∀ (j : Nat) (b : UInt8), (ByteArray.mk #[32, 9]).data.toList[j]? = some b → b.toNat < 128 := by
  intro j b h
  match j, h with
  | 0, h => injection h with h; subst h; decide
  | 1, h => injection h with h; subst h; decide
theorem trim_any {w : World} {lo : Nat} {ca : Option Addr} {cn cc fm : Nat} {cur : ByteArray} (h : w.ownsRow lo 5 1 (.slice ca cn cc) cur.size (Lib.strCells cur)) (hf : fm ≤ cur.size) (k : Nat) (hk : cutN cur fm cur.size = fm + k) (hcc : cc ≤ 9223372036854775807) :
    Calls Tryz.prog 198 #[.slice (if cc = fm then ca else Option.map (fun x => x.add fm) ca) (cn - fm) (cc - fm), .string ⟨#[32, 9]⟩] w fun e w' => (∃ p c, e = .returned (.slice p k c)) ∧ Below w.heap.size w w' := by
  obtain ⟨hl, hc⟩ := row_len h
  have hz : (Tryz.prog.info? (Tryz.laysV7_ren.t 27)).map (fun i => (i.zero, i.size)) = some (some (.agg (Array.replicate 256 (.bool false))), 256) := by kernel_rfl
  have := Any.bytes_TrimRight_ascii Tryz.laysV7 (zero_of_info hz).1 (zero_of_info hz).2 (if cc = fm then ca else Option.map (fun x => x.add fm) ca) (cn - fm) (cc - fm) (cur.data.toList.drop fm) ⟨#[32, 9]⟩ w (by rw [List.length_drop, Array.length_toList]; show cur.size - fm = cn - fm; omega) (by omega) (by omega) (row_behind h hf) (by show 2 < 4294967281; omega) white_ascii
  refine Calls.mono this ?_
  rintro e w' ⟨rfl, hb⟩
  have ek : (Lib.trimRightS (cur.data.toList.drop fm) (ByteArray.mk #[32, 9]).data.toList).length = k := by
    have := cutN_all cur fm hf
    rw [hk] at this
    have e2 : (ByteArray.mk #[32, 9]).data.toList = [32, 9] := rfl
    rw [e2]
    omega
  exact ⟨⟨_, _, by rw [ek]⟩, hb⟩
/-- What turn leaves. -/
def TurnPost (b : Nat) (s : ByteArray) (i : Nat) (l : List Pc) (cur : ByteArray) (gl : Bool) (w : World) (e : Ending) (w' : World) : Prop :=
  if 0 < markN s (i + 1) then e = faultE 4 (i + 1) ∧ Fq b w w'
  else e = .returned (.tuple #[]) ∧ RdM b s (wh s (i + 1)) (l ++ [(cur, gl)]) ByteArray.empty 0 w' ∧ Fq b w w'
theorem white_nat (s : ByteArray) (k v : Nat) (w : World) (hs : s.size ≤ mx) (hk : k ≤ s.size) (hv : wh s k = v) :
    Calls Tryz.prog 36 #[.string s, .int .i64 (k : Int)] w fun e w' => e = .returned (.int .i64 (v : Int)) ∧ Below w.heap.size w w' := by
  have := white_any s (k : Int) w hs
  rw [cl_nat _ _ hk] at this
  subst hv
  exact this
theorem mark_nat' (s : ByteArray) (k v : Nat) (w : World) (hs : s.size ≤ mx) (hk : k ≤ s.size) (hv : markN s k = v) :
    Calls Tryz.prog 135 #[.string s, .int .i64 (k : Int)] w fun e w' => e = .returned (.int .i64 (v : Int)) ∧ Below w.heap.size w w' := by
  have := mark_any s (k : Int) w hs
  rw [cl_nat _ _ hk] at this
  subst hv
  exact this
set_option maxHeartbeats 4000000 in
theorem turn_glue (b : Nat) (s : ByteArray) (i : Nat) (l : List Pc) (cur : ByteArray) (fm : Nat) (w : World) (hR : RdM b s i l cur fm w) (hs : s.size ≤ 1048576) (hi : i < s.size) (hn : l.length ≤ 100000000) :
    Calls Tryz.prog 169 #[.pointer (some ⟨b, 0, none⟩), .bool true] w fun e w' => TurnPost b s i l cur true w e w' := by
  have hmx : s.size ≤ mx := by unfold mx; omega
  have cK := keep_any b s i l cur fm true w hR hn
  have hi' : (i : Int) < (s.size : Int) := by omega
  clear hR hn
  go_enter Tryz.func169, Tryz.ntmps169
  go_wp2_with fail
  refine cK.mono ?_
  rintro e w1 ⟨rfl, hR1, hb1⟩
  clear cK
  obtain ⟨l1, hl1⟩ : ∃ l1, l ++ [(cur, true)] = l1 := ⟨_, rfl⟩
  rw [hl1] at hR1
  have HL1 : Hid (l ++ [(cur, true)] = l1) := hl1
  have HR1 : Hid (RdM b s i l1 ByteArray.empty 0 w1) := hR1
  have HB1 : Hid (Fq b w w1) := hb1
  have hlt := hR1.lt
  obtain ⟨la, ln, lc, ca, cn, cc, h1, h2, h3⟩ := hR1
  have c0 := h1.c0
  have c1 := h1.c1
  clear h1 h2 h3 hb1 hl1
  obtain ⟨m, hm⟩ : ∃ m, markN s (i + 1) = m := ⟨_, rfl⟩
  have HM : Hid (markN s (i + 1) = m) := hm
  have EI : Hid ((i : Int) + 1 = ((i + 1 : Nat) : Int)) := by show _ = _; omega
  have cM : Calls Tryz.prog 135 #[.string s, .int .i64 ((i : Int) + 1)] w1 fun e w' => e = .returned (.int .i64 (m : Int)) ∧ Below w1.heap.size w1 w' := by
    rw [EI.out]
    exact mark_nat' s (i + 1) m w1 hmx hi hm
  clear hm
  by_cases h0 : 0 < m
  · have hm' : ((m : Int) != 0) = true := by rw [bne_iff_ne]; omega
    have HO : Hid (∀ w', Fq b w w' → TurnPost b s i l cur true w (faultE 4 (i + 1)) w') := fun w' hb => by
      unfold TurnPost
      rw [if_pos (by rw [HM.out]; exact h0)]
      exact ⟨rfl, hb⟩
    clear h0
    go_wp2_with fail
    refine cM.mono ?_
    rintro e w2 ⟨rfl, hb2⟩
    clear cM
    go_wp2_with fail
    refine ⟨rfl, ?_⟩
    exact HO.out _ (HB1.out.trans (Fq.of hb2 hlt))
  · have hm' : ((m : Int) != 0) = false := by rw [bne_eq_false_iff_eq]; omega
    obtain ⟨v, hv⟩ : ∃ v, wh s (i + 1) = v := ⟨_, rfl⟩
    have HV : Hid (wh s (i + 1) = v) := hv
    have HO : Hid (∀ w', Fq b w w' → RdM b s v l1 ByteArray.empty 0 w' → TurnPost b s i l cur true w (.returned (.tuple #[])) w') := fun w' hb hr => by
      unfold TurnPost
      rw [if_neg (by rw [HM.out]; exact h0), HV.out, HL1.out]
      exact ⟨rfl, hr, hb⟩
    clear h0 hv
    go_wp2_with fail
    refine cM.mono ?_
    rintro e w2 ⟨rfl, hb2⟩
    clear cM
    have HB2 : Hid (Fq b w w2) := HB1.out.trans (Fq.of hb2 hlt)
    have hR2 := HR1.out.stays hb2
    have hlt2 := hR2.lt
    have HR2 : Hid (RdM b s i l1 ByteArray.empty 0 w2) := hR2
    obtain ⟨la2, ln2, lc2, ca2, cn2, cc2, h1, h2, h3⟩ := hR2
    have d0 := h1.c0
    have cW : Calls Tryz.prog 36 #[.string s, .int .i64 ((i : Int) + 1)] w2 fun e w' => e = .returned (.int .i64 (v : Int)) ∧ Below w2.heap.size w2 w' := by
      rw [EI.out]
      exact white_nat s (i + 1) v w2 hmx hi HV.out
    clear h1 h2 h3 hb2 c0 c1
    go_wp2_with fail
    refine cW.mono ?_
    rintro e w3 ⟨rfl, hb3⟩
    clear cW
    obtain ⟨la3, ln3, lc3, ca3, cn3, cc3, h1, h2, h3⟩ := HR2.out.stays hb3
    have e1 := h1.c1
    have g1 := h1.fz 1
    have HR3 : Hid (RdM b s v l1 ByteArray.empty 0 (w3.setCell ⟨b, 1, none⟩ (.int .i64 (v : Int)))) := ⟨la3, ln3, lc3, ca3, cn3, cc3, h1.set1 v, row_past h2, row_past h3⟩
    have HB3 : Hid (Fq b w (w3.setCell ⟨b, 1, none⟩ (.int .i64 (v : Int)))) := (HB2.out.trans (Fq.of hb3 hlt2)).setB _ _
    clear h1 h2 h3 hb3
    go_wp2_with fail
    go_end0
    exact HO.out _ HB3.out HR3.out
set_option maxHeartbeats 8000000 in
theorem turn_plain (b : Nat) (s : ByteArray) (i : Nat) (l : List Pc) (cur : ByteArray) (fm : Nat) (w : World) (hR : RdM b s i l cur fm w) (hs : s.size ≤ 1048576) (hi : i < s.size) (hn : l.length ≤ 100000000) (hf : fm ≤ cur.size) (hcz : cur.size ≤ 100000000) :
    Calls Tryz.prog 169 #[.pointer (some ⟨b, 0, none⟩), .bool false] w fun e w' => TurnPost b s i l (cutB cur fm) false w e w' := by
  have hmx : s.size ≤ mx := by unfold mx; omega
  have hi' : (i : Int) < (s.size : Int) := by omega
  have hlt0 := hR.lt
  obtain ⟨xa, xn, xc, ya, yn, yc, h1, h2, h3⟩ := hR
  obtain ⟨rfl, hyc⟩ := row_len h3
  obtain ⟨k, hk⟩ : ∃ k, cutN cur fm cur.size = fm + k := ⟨cutN cur fm cur.size - fm, by have := cutN_all cur fm hf; omega⟩
  have hkl : fm + k ≤ cur.size := by rw [← hk]; exact cutN_le _ _ _
  have hymax : yc ≤ 9223372036854775807 := by
    rcases h3.2 with ⟨e1, _⟩ | ⟨g, cap, cu, e1, _, _, _, e4, _⟩
    · injection e1 with _ _ e3; omega
    · injection e1 with _ _ e3; unfold maxLen at e4; omega
  have cT := trim_any (w := w.drew) h3.drew hf k hk hymax
  obtain ⟨z, hz⟩ : ∃ z, fm + k = z := ⟨_, rfl⟩
  obtain ⟨cu2, hcu2⟩ : ∃ cu2, cur.extract 0 z = cu2 := ⟨_, rfl⟩
  have HCU : Hid (cu2 = cutB cur fm) := by show _ = _; rw [← hcu2, ← hz, ← hk]; rfl
  have H3T : Hid (w.ownsRow (b + 1) 5 1 (.slice ya z yc) cu2.size (Lib.strCells cu2)) := by
    show World.ownsRow _ _ _ _ _ _ _
    rw [← hcu2]
    exact row_take h3 (by omega)
  have e0 := h1.c3
  have e4 := h1.c4
  have H1 : Hid (RdAt b s i (.slice xa xn xc) (.slice ya cur.size yc) fm w) := h1
  have H2 : Hid (w.ownsRow (b + 1) 92 2 (.slice xa xn xc) l.length (cellsC l)) := h2
  have HLT : Hid (b < w.heap.size) := hlt0
  have HN : Hid (l.length ≤ 100000000) := hn
  obtain ⟨n, hn⟩ : ∃ n, cur.size = n := ⟨_, rfl⟩
  rw [hn] at e0 H1 cT hf hcz hyc hkl
  clear h1 h2 h3 hk hlt0 hcu2 hn
  by_cases hyf : yc = fm
  · have en : n = fm := by omega
    have ek : k = 0 := by omega
    have ez : z = fm := by omega
    have f4 : (fm : Int) ≤ 100000000 := by omega
    rw [en, hyf] at e0 H1 cT
    rw [ez] at H3T
    rw [hyf] at H3T
    rw [if_pos rfl, Nat.sub_self, ek] at cT
    have hwr : IntKind.i64.wrap ((fm : Int)) = (fm : Int) := IntWalk.i64_in _ (by omega)
    clear en ek ez hz hkl hf hyc hymax hcz hyf
    go_enter Tryz.func169, Tryz.ntmps169
    go_wp2_with fail
    go_region_with (go_at_call 198; refine cT.mono ?_; rintro e w1 ⟨⟨zp, zc, rfl⟩, hb1⟩)
    all_goals (
      have hb1' : Below w.heap.size w w1 := ((Below.refl _ w).drew).trans hb1
      have h1' := H1.out.stays hb1' HLT.out
      have h2' : w1.ownsRow (b + 1) 92 2 (.slice xa xn xc) l.length (cellsC l) := row_same H2.out (fun k _ hk => hb1'.block k hk)
      have h3' : w1.ownsRow (b + 1) 5 1 (.slice ya fm fm) cu2.size (Lib.strCells cu2) := row_same H3T.out (fun k _ hk => hb1'.block k hk)
      have d3 := h1'.c3
      have d4 := h1'.c4
      have g3 := h1'.fz 3
      have HRD : Hid (RdM b s i l cu2 fm ((w1.setCell ⟨b, 3, none⟩ (.slice ya fm fm)).drew)) := ⟨xa, xn, xc, ya, fm, fm, RdAt.set3 h1' _, (row_past h2').drew, (row_past h3').drew⟩
      have HBD : Hid (Fq b w ((w1.setCell ⟨b, 3, none⟩ (.slice ya fm fm)).drew)) := ((Fq.of hb1' HLT.out).setB _ _).drew
      clear hb1 cT e0 e4 h1' h2' h3' hb1'
      go_wp2_with fail
      go_region
      all_goals (
        have cK := keep_any b s i l cu2 fm false _ HRD.out HN.out
        generalize (w1.setCell ⟨b, 3, none⟩ (.slice ya fm fm)).drew = wZ at *
        clear d3 d4 g3
        go_wp2_with fail
        refine cK.mono ?_
        rintro e w1 ⟨rfl, hR1, hb0⟩
        clear cK
        have hb1 : Fq b w w1 := HBD.out.trans hb0
        rw [HCU.out] at hR1
        obtain ⟨l1, hl1⟩ : ∃ l1, l ++ [((cutB cur fm), false)] = l1 := ⟨_, rfl⟩
        rw [hl1] at hR1
        have HL1 : Hid (l ++ [((cutB cur fm), false)] = l1) := hl1
        have HR1 : Hid (RdM b s i l1 ByteArray.empty 0 w1) := hR1
        have HB1 : Hid (Fq b w w1) := hb1
        have hlt := hR1.lt
        obtain ⟨la, ln, lc, ca, cn, cc, h1, h2, h3⟩ := hR1
        have c0 := h1.c0
        have c1 := h1.c1
        clear h1 h2 h3 hb1 hl1
        obtain ⟨m, hm⟩ : ∃ m, markN s (i + 1) = m := ⟨_, rfl⟩
        have HM : Hid (markN s (i + 1) = m) := hm
        have EI : Hid ((i : Int) + 1 = ((i + 1 : Nat) : Int)) := by show _ = _; omega
        have cM : Calls Tryz.prog 135 #[.string s, .int .i64 ((i : Int) + 1)] w1 fun e w' => e = .returned (.int .i64 (m : Int)) ∧ Below w1.heap.size w1 w' := by
          rw [EI.out]
          exact mark_nat' s (i + 1) m w1 hmx hi hm
        clear hm
        by_cases h0 : 0 < m
        · have hm' : ((m : Int) != 0) = true := by rw [bne_iff_ne]; omega
          have HO : Hid (∀ w', Fq b w w' → TurnPost b s i l (cutB cur fm) false w (faultE 4 (i + 1)) w') := fun w' hb => by
            unfold TurnPost
            rw [if_pos (by rw [HM.out]; exact h0)]
            exact ⟨rfl, hb⟩
          clear h0
          go_wp2_with fail
          refine cM.mono ?_
          rintro e w2 ⟨rfl, hb2⟩
          clear cM
          go_wp2_with fail
          refine ⟨rfl, ?_⟩
          exact HO.out _ (HB1.out.trans (Fq.of hb2 hlt))
        · have hm' : ((m : Int) != 0) = false := by rw [bne_eq_false_iff_eq]; omega
          obtain ⟨v, hv⟩ : ∃ v, wh s (i + 1) = v := ⟨_, rfl⟩
          have HV : Hid (wh s (i + 1) = v) := hv
          have HO : Hid (∀ w', Fq b w w' → RdM b s v l1 ByteArray.empty 0 w' → TurnPost b s i l (cutB cur fm) false w (.returned (.tuple #[])) w') := fun w' hb hr => by
            unfold TurnPost
            rw [if_neg (by rw [HM.out]; exact h0), HV.out, HL1.out]
            exact ⟨rfl, hr, hb⟩
          clear h0 hv
          go_wp2_with fail
          refine cM.mono ?_
          rintro e w2 ⟨rfl, hb2⟩
          clear cM
          have HB2 : Hid (Fq b w w2) := HB1.out.trans (Fq.of hb2 hlt)
          have hR2 := HR1.out.stays hb2
          have hlt2 := hR2.lt
          have HR2 : Hid (RdM b s i l1 ByteArray.empty 0 w2) := hR2
          obtain ⟨la2, ln2, lc2, ca2, cn2, cc2, h1, h2, h3⟩ := hR2
          have d0 := h1.c0
          have cW : Calls Tryz.prog 36 #[.string s, .int .i64 ((i : Int) + 1)] w2 fun e w' => e = .returned (.int .i64 (v : Int)) ∧ Below w2.heap.size w2 w' := by
            rw [EI.out]
            exact white_nat s (i + 1) v w2 hmx hi HV.out
          clear h1 h2 h3 hb2 c0 c1
          go_wp2_with fail
          refine cW.mono ?_
          rintro e w3 ⟨rfl, hb3⟩
          clear cW
          obtain ⟨la3, ln3, lc3, ca3, cn3, cc3, h1, h2, h3⟩ := HR2.out.stays hb3
          have e1 := h1.c1
          have g1 := h1.fz 1
          have HR3 : Hid (RdM b s v l1 ByteArray.empty 0 (w3.setCell ⟨b, 1, none⟩ (.int .i64 (v : Int)))) := ⟨la3, ln3, lc3, ca3, cn3, cc3, h1.set1 v, row_past h2, row_past h3⟩
          have HB3 : Hid (Fq b w (w3.setCell ⟨b, 1, none⟩ (.int .i64 (v : Int)))) := (HB2.out.trans (Fq.of hb3 hlt2)).setB _ _
          clear h1 h2 h3 hb3
          go_wp2_with fail
          go_end0
          exact HO.out _ HB3.out HR3.out))
  · rw [if_neg hyf] at cT
    have hwr : IntKind.i64.wrap ((fm : Int) + (k : Int)) = (z : Int) := by rw [IntWalk.i64_in _ (by omega)]; omega
    have f1 : (fm : Int) ≤ (n : Int) := by omega
    have f3 : (n : Int) ≤ (yc : Int) := by omega
    have f4 : (n : Int) ≤ 100000000 := by omega
    have f5 : (z : Int) ≤ (yc : Int) := by omega
    clear hz hkl hf hyc hymax hcz
    go_enter Tryz.func169, Tryz.ntmps169
    go_wp2_with fail
    go_region_with (go_at_call 198; refine cT.mono ?_; rintro e w1 ⟨⟨zp, zc, rfl⟩, hb1⟩)
    all_goals (
      have hb1' : Below w.heap.size w w1 := ((Below.refl _ w).drew).trans hb1
      have h1' := H1.out.stays hb1' HLT.out
      have h2' : w1.ownsRow (b + 1) 92 2 (.slice xa xn xc) l.length (cellsC l) := row_same H2.out (fun k _ hk => hb1'.block k hk)
      have h3' : w1.ownsRow (b + 1) 5 1 (.slice ya z yc) cu2.size (Lib.strCells cu2) := row_same H3T.out (fun k _ hk => hb1'.block k hk)
      have d3 := h1'.c3
      have d4 := h1'.c4
      have g3 := h1'.fz 3
      have HRD : Hid (RdM b s i l cu2 fm ((w1.setCell ⟨b, 3, none⟩ (.slice ya z yc)).drew)) := ⟨xa, xn, xc, ya, z, yc, RdAt.set3 h1' _, (row_past h2').drew, (row_past h3').drew⟩
      have HBD : Hid (Fq b w ((w1.setCell ⟨b, 3, none⟩ (.slice ya z yc)).drew)) := ((Fq.of hb1' HLT.out).setB _ _).drew
      clear hb1 cT e0 e4 h1' h2' h3' hb1'
      go_wp2_with fail
      go_region
      all_goals (
        have cK := keep_any b s i l cu2 fm false _ HRD.out HN.out
        generalize (w1.setCell ⟨b, 3, none⟩ (.slice ya z yc)).drew = wZ at *
        clear d3 d4 g3
        go_wp2_with fail
        refine cK.mono ?_
        rintro e w1 ⟨rfl, hR1, hb0⟩
        clear cK
        have hb1 : Fq b w w1 := HBD.out.trans hb0
        rw [HCU.out] at hR1
        obtain ⟨l1, hl1⟩ : ∃ l1, l ++ [((cutB cur fm), false)] = l1 := ⟨_, rfl⟩
        rw [hl1] at hR1
        have HL1 : Hid (l ++ [((cutB cur fm), false)] = l1) := hl1
        have HR1 : Hid (RdM b s i l1 ByteArray.empty 0 w1) := hR1
        have HB1 : Hid (Fq b w w1) := hb1
        have hlt := hR1.lt
        obtain ⟨la, ln, lc, ca, cn, cc, h1, h2, h3⟩ := hR1
        have c0 := h1.c0
        have c1 := h1.c1
        clear h1 h2 h3 hb1 hl1
        obtain ⟨m, hm⟩ : ∃ m, markN s (i + 1) = m := ⟨_, rfl⟩
        have HM : Hid (markN s (i + 1) = m) := hm
        have EI : Hid ((i : Int) + 1 = ((i + 1 : Nat) : Int)) := by show _ = _; omega
        have cM : Calls Tryz.prog 135 #[.string s, .int .i64 ((i : Int) + 1)] w1 fun e w' => e = .returned (.int .i64 (m : Int)) ∧ Below w1.heap.size w1 w' := by
          rw [EI.out]
          exact mark_nat' s (i + 1) m w1 hmx hi hm
        clear hm
        by_cases h0 : 0 < m
        · have hm' : ((m : Int) != 0) = true := by rw [bne_iff_ne]; omega
          have HO : Hid (∀ w', Fq b w w' → TurnPost b s i l (cutB cur fm) false w (faultE 4 (i + 1)) w') := fun w' hb => by
            unfold TurnPost
            rw [if_pos (by rw [HM.out]; exact h0)]
            exact ⟨rfl, hb⟩
          clear h0
          go_wp2_with fail
          refine cM.mono ?_
          rintro e w2 ⟨rfl, hb2⟩
          clear cM
          go_wp2_with fail
          refine ⟨rfl, ?_⟩
          exact HO.out _ (HB1.out.trans (Fq.of hb2 hlt))
        · have hm' : ((m : Int) != 0) = false := by rw [bne_eq_false_iff_eq]; omega
          obtain ⟨v, hv⟩ : ∃ v, wh s (i + 1) = v := ⟨_, rfl⟩
          have HV : Hid (wh s (i + 1) = v) := hv
          have HO : Hid (∀ w', Fq b w w' → RdM b s v l1 ByteArray.empty 0 w' → TurnPost b s i l (cutB cur fm) false w (.returned (.tuple #[])) w') := fun w' hb hr => by
            unfold TurnPost
            rw [if_neg (by rw [HM.out]; exact h0), HV.out, HL1.out]
            exact ⟨rfl, hr, hb⟩
          clear h0 hv
          go_wp2_with fail
          refine cM.mono ?_
          rintro e w2 ⟨rfl, hb2⟩
          clear cM
          have HB2 : Hid (Fq b w w2) := HB1.out.trans (Fq.of hb2 hlt)
          have hR2 := HR1.out.stays hb2
          have hlt2 := hR2.lt
          have HR2 : Hid (RdM b s i l1 ByteArray.empty 0 w2) := hR2
          obtain ⟨la2, ln2, lc2, ca2, cn2, cc2, h1, h2, h3⟩ := hR2
          have d0 := h1.c0
          have cW : Calls Tryz.prog 36 #[.string s, .int .i64 ((i : Int) + 1)] w2 fun e w' => e = .returned (.int .i64 (v : Int)) ∧ Below w2.heap.size w2 w' := by
            rw [EI.out]
            exact white_nat s (i + 1) v w2 hmx hi HV.out
          clear h1 h2 h3 hb2 c0 c1
          go_wp2_with fail
          refine cW.mono ?_
          rintro e w3 ⟨rfl, hb3⟩
          clear cW
          obtain ⟨la3, ln3, lc3, ca3, cn3, cc3, h1, h2, h3⟩ := HR2.out.stays hb3
          have e1 := h1.c1
          have g1 := h1.fz 1
          have HR3 : Hid (RdM b s v l1 ByteArray.empty 0 (w3.setCell ⟨b, 1, none⟩ (.int .i64 (v : Int)))) := ⟨la3, ln3, lc3, ca3, cn3, cc3, h1.set1 v, row_past h2, row_past h3⟩
          have HB3 : Hid (Fq b w (w3.setCell ⟨b, 1, none⟩ (.int .i64 (v : Int)))) := (HB2.out.trans (Fq.of hb3 hlt2)).setB _ _
          clear h1 h2 h3 hb3
          go_wp2_with fail
          go_end0
          exact HO.out _ HB3.out HR3.out))
end Go.Proofs.YtjpcmmfmdoglkalGreatDoor
