/- The contract of spec.SingleAt. -/
import Derived.Test.YtjpcmmfmdoglkalGreatDoorScu
import Derived.Test.YtjpcmmfmdoglkalGreatDoorSph
namespace Go.Proofs.YtjpcmmfmdoglkalGreatDoor
open Go.ChangeShapes Go.WideShapes Go.ChangeAt Go.RowKit Go.Deep
theorem infoB : (Tryz.prog.info? 5).map (fun i => (i.zero, i.size, i.bytes)) = some (some (.int .u8 0), 1, 1) := by kernel_rfl
theorem own_slice {w : World} {lo e sz : Nat} {v : Value} {n : Nat} {xs : List Value} (h : w.ownsRow lo e sz v (n + 1) xs) : ∃ g c, v = .slice (some ⟨g, 0, none⟩) (n + 1) c := by
  rcases h.2 with ⟨_, e⟩ | ⟨g, cap, cur, e, _⟩
  · omega
  · exact ⟨g, cap, e⟩
theorem own_cap {w : World} {lo e sz g c : Nat} {n : Nat} {xs : List Value} (h : w.ownsRow lo e sz (.slice (some ⟨g, 0, none⟩) n c) n xs) : n ≤ c := by
  rcases h.2 with ⟨e, _⟩ | ⟨g', cap, cur, e, _, _, hn, _⟩
  · cases e
  · injection e with _ _ e; rw [e]; exact hn
theorem sg_end {s : ByteArray} {f i : Nat} {l : List Pc} {cur : ByteArray} (h : s.size ≤ i) : sgGo s f i l cur = (ByteArray.empty, s.size, 3) := by
  cases f with
  | zero => rfl
  | succ f => rw [sgGo, if_pos h]
theorem sg_two {s : ByteArray} {f i : Nat} {l : List Pc} {cur : ByteArray} (_ : i < s.size) (h : bt s i = 39) (h1 : i + 1 < s.size) (h2 : bt s (i + 1) = 39) : sgGo s (f + 1) i l cur = sgGo s f (i + 2) l (cur ++ b1 39) := by
  rw [sgGo, if_neg (by omega), if_pos h, if_pos ⟨h1, h2⟩]
theorem sg_close {s : ByteArray} {f i : Nat} {l : List Pc} {cur : ByteArray} (hi : i < s.size) (h : bt s i = 39) (h1 : ¬ (i + 1 < s.size ∧ bt s (i + 1) = 39)) : sgGo s (f + 1) i l cur = (foldFlow (l ++ [(cur, false)]), i + 1, 0) := by
  rw [sgGo, if_neg (by omega), if_pos h, if_neg h1]
theorem sg_mark {s : ByteArray} {f i : Nat} {l : List Pc} {cur : ByteArray} (hi : i < s.size) (h : bt s i = 10) (h1 : 0 < markN s (i + 1)) : sgGo s (f + 1) i l cur = (ByteArray.empty, i + 1, 4) := by
  rw [sgGo, if_neg (by omega), if_neg (by omega), if_pos h, if_pos h1]
theorem sg_line {s : ByteArray} {f i : Nat} {l : List Pc} {cur : ByteArray} (hi : i < s.size) (h : bt s i = 10) (h1 : ¬ 0 < markN s (i + 1)) : sgGo s (f + 1) i l cur = sgGo s f (wh s (i + 1)) (l ++ [(cutB cur 0, false)]) ByteArray.empty := by
  rw [sgGo, if_neg (by omega), if_neg (by omega), if_pos h, if_neg h1]
theorem sg_byte {s : ByteArray} {f i : Nat} {l : List Pc} {cur : ByteArray} (hi : i < s.size) (h : bt s i ≠ 39) (h1 : bt s i ≠ 10) : sgGo s (f + 1) i l cur = sgGo s f (i + 1) l (cur ++ b1 (bt s i)) := by
  rw [sgGo, if_neg (by omega), if_neg h, if_neg h1]
theorem totC_snoc (l : List Pc) (x : ByteArray) (b : Bool) : totC (l ++ [(x, b)]) = totC l + x.size := by rw [totC_app]; rfl
theorem strCells_b1 (x : Nat) (h : x < 256) : Lib.strCells (b1 x) = [.int .u8 (x : Int)] := by
  have : (x.toUInt8).toNat = x := by show (UInt8.ofNat x).toNat = x; rw [UInt8.toNat_ofNat']; omega
  unfold Lib.strCells b1
  simp [this]
theorem b1_size (x : Nat) : (b1 x).size = 1 := rfl
set_option maxRecDepth 100000 in
set_option maxHeartbeats 32000000 in
theorem spec_singleAt (s : ByteArray) (p : Int) (w : World) (hs : s.size ≤ 1048576) (T : ByteArray) (E C : Nat) (hr : sgAt s (cl s.size p) = (T, E, C)) :
    Calls Tryz.prog 27 #[.string s, .int .i64 p] w fun e w' => e = .returned (.tuple #[.string T, .int .i64 (E : Int), .int .i64 (C : Int)]) ∧ Below w.heap.size w w' := by
  have hcl := cl_le s.size p
  have hmx : s.size ≤ mx := by unfold mx; omega
  have HR0 : Hid (sgAt s (cl s.size p) = (T, E, C)) := hr
  clear hr
  go_enter Tryz.func27, Tryz.ntmps27
  go_wp2_with fail
  refine (l01P_any _ _ _ hmx).mono ?_
  rintro e w ⟨rfl, rfl⟩
  generalize cl s.size p = k at *
  by_cases hk : k < s.size
  · have hk' : ¬ (s.size : Int) ≤ (k : Int) := by omega
    have hkn : ¬ s.size ≤ k := by omega
    by_cases hq : (s[k]'hk).toNat = 39
    · have hq' : (((s[k]'hk).toNat : Int) != 39) = false := by rw [hq]; rfl
      have HG0 : Hid (sgGo s (s.size + 1) (k + 1) [] ByteArray.empty = (T, E, C)) := by
        show _ = (T, E, C)
        rw [← HR0.out]; unfold sgAt
        rw [if_neg (by rw [← bt_get s k hk]; omega)]
      clear hq HR0
      go_wp2_with fail
      obtain ⟨lo, hlo⟩ : ∃ lo, w.heap.size = lo := ⟨_, rfl⟩
      have HLOE : Hid (w.heap.size = lo) := hlo
      rw [hlo]
      go_loopw [7, 8, 9] (fun lv cv iv wr => ∃ (i f g cap : Nat) (l : List Pc) (cur : ByteArray) (l0 : Option Addr) (l1 l2 : Nat), iv = .int .i64 i ∧ lv = .slice l0 l1 l2 ∧ cv = .slice (some ⟨g, 0, none⟩) cur.size cap ∧ i ≤ s.size ∧ Hid (s.size < f + i) ∧ Hid (wr.ownsRow lo 92 2 (.slice l0 l1 l2) l.length (cellsC l)) ∧ Hid (wr.ownsRow lo 5 1 (.slice (some ⟨g, 0, none⟩) cur.size cap) cur.size (Lib.strCells cur)) ∧ Hid (sgGo s f i l cur = (T, E, C)) ∧ Hid (totC l + l.length + cur.size ≤ i) ∧ Hid (lo ≤ wr.heap.size) ∧ Hid (Below lo w wr)) (fun _ _ iv _ => s.size + 2 - (intOf iv).toNat)
      case atStart =>
        refine ⟨k + 1, s.size + 1, lo + 1, 0, [], ByteArray.empty, some ⟨lo, 0, none⟩, 0, 0, by go_num, rfl, ?_, hk, ?_, ?_, ?_, HG0, ?_, ?_, ?_⟩
        · show Value.slice _ _ _ = _; rfl
        · show s.size < s.size + 1 + (k + 1); omega
        · rw [← HLOE.out]; exact (World.ownsRow_made w #[] 0 (Nat.le_refl _) (by unfold maxLen; omega) rfl).alloc _
        · have h := World.ownsRow_made (base := w.heap.size) (e := 5) (size := 1) (w.alloc (.cells #[] 92)) #[] 0 (by simp) (by unfold maxLen; omega) rfl
          rw [show (w.alloc (.cells #[] 92)).heap.size = lo + 1 by rw [← HLOE.out]; simp] at h
          rw [← HLOE.out] at h ⊢
          exact h
        · show 0 + 0 + 0 ≤ k + 1; omega
        · rw [← HLOE.out]; show w.heap.size ≤ _; simp; omega
        · rw [← HLOE.out]; exact ((Below.refl _ w).alloc (Nat.le_refl _) _).alloc (by simp) _
      case round =>
        obtain ⟨i, f, g, cap, l, cur, l0, l1, l2, rfl, rfl, rfl, hi, HF, HL, HC, HG, HT, HLO, HB⟩ := hrel
        have HBW0 : Hid (Below w.heap.size w wr) := by rw [HLOE.out]; exact HB.out
        by_cases hlt : i < s.size
        · have hlt' : (i : Int) < (s.size : Int) := by omega
          obtain ⟨f, rfl⟩ : ∃ f', f = f' + 1 := ⟨f - 1, by have := HF.out; omega⟩
          have hb := bt_get s i hlt
          by_cases h39 : (s[i]'hlt).toNat = 39
          · have t1 : (((s[i]'hlt).toNat : Int) == 39) = true := by rw [h39]; rfl
            have H39 : Hid (bt s i = 39) := by show bt s i = 39; rw [← hb]; exact h39
            by_cases hl1 : i + 1 < s.size
            · have hl1' : (i : Int) + 1 < (s.size : Int) := by omega
              have hb1 := bt_get s (i + 1) hl1
              by_cases h391 : (s[i + 1]'hl1).toNat = 39
              · have t2 : (((s[i + 1]'hl1).toNat : Int) == 39) = true := by rw [h391]; rfl
                have HG2 : Hid (sgGo s f (i + 2) l (cur ++ b1 39) = (T, E, C)) := by
                  show _ = (T, E, C)
                  rw [← HG.out, sg_two hlt H39.out hl1 (by rw [← hb1]; exact h391)]
                clear h39 h391 hb hb1 HG H39
                obtain ⟨v4, w4, hrun, hsl4, hown, hbel, hot4⟩ := push_own (P := Tryz.prog) Tryz.underlying89 infoB rfl (by decide) wr lo _ _ _ HC.out #[.int .u8 39] rfl (by intro u hu; simp at hu; subst hu; rfl) (by have := HT.out; omega) (by omega) HLO.out 89
                obtain ⟨g4, c4, rfl⟩ := own_slice hown
                have HC4 : Hid (w4.ownsRow lo 5 1 (.slice (some ⟨g4, 0, none⟩) (cur ++ b1 39).size c4) (cur ++ b1 39).size (Lib.strCells (cur ++ b1 39))) := by
                  show w4.ownsRow _ _ _ _ _ _
                  rw [ByteArray.size_append, strCells_snoc, strCells_b1 39 (by decide)]
                  exact hown
                have HL4 : Hid (w4.ownsRow lo 92 2 (.slice l0 l1 l2) l.length (cellsC l)) := row_beside HL.out hot4 (rows_apart HL.out HC.out (by decide))
                have HB4 : Hid (Below lo w wr → Below lo w w4) := fun h => h.trans hbel
                have HBW : Hid (Below lo w w4) := HB4.out HB.out
                have HLO4 : Hid (lo ≤ w4.heap.size) := Nat.le_trans HLO.out hbel.size
                have HT4 : Hid (totC l + l.length + (cur ++ b1 39).size ≤ i + 1) := by
                  show totC l + l.length + (cur ++ b1 39).size ≤ i + 1
                  rw [ByteArray.size_append]
                  have h1 : (b1 39).size = 1 := rfl
                  have := HT.out
                  omega
                have E4 : Hid ((.slice (some ⟨g4, 0, none⟩) (cur.size + 1) c4 : Value) = .slice (some ⟨g4, 0, none⟩) (cur ++ b1 39).size c4) := by show (_ : Value) = _; rw [ByteArray.size_append]; rfl
                clear hsl4 hown hbel hot4 HB4 HC HL HB HLO HT
                go_wp2_with (at_builtin; refine append_run rfl _ _ 89 rfl _ _ rfl rfl _ w4 hrun ?_)
                go_roundw
                case rel =>
                  exact ⟨i + 2, f, g4, c4, l, cur ++ b1 39, l0, l1, l2, by go_num, rfl, E4.out, by omega, by have := HF.out; show s.size < f + (i + 2); omega, HL4, HC4, HG2, by have := HT4.out; show _ ≤ i + 2; omega, HLO4, HBW⟩
                case measure => simp [intOf]; omega
              · have t2 : (((s[i + 1]'hl1).toNat : Int) == 39) = false := by rw [beq_eq_false_iff_ne]; omega
                have HN : Hid (¬ (i + 1 < s.size ∧ bt s (i + 1) = 39)) := by show ¬ _; rintro ⟨_, h⟩; rw [← hb1] at h; exact h391 h
                clear h391 hb1 h39
                have HRES : Hid ((foldFlow (l ++ [(cur, false)]), i + 1, 0) = (T, E, C)) := by
                  show _ = (T, E, C)
                  rw [← HG.out, sg_close hlt H39.out HN.out]
                have hcv := Lib.run_convert_whole (P := Tryz.prog) wr 89 5 9 Tryz.underlying89 Tryz.underlying5 Tryz.underlying9 g 0 cur (bytes_own HC.out) cap
                obtain ⟨v5, w5, hrun5, hsl5, hown5, hbel5, hot5⟩ := push_own (P := Tryz.prog) Tryz.underlying90 infoC rfl (by decide) wr lo _ _ _ HL.out #[.string cur, .bool false] rfl (by intro u hu; simp at hu; rcases hu with rfl | rfl <;> rfl) (by have := HT.out; omega) (by omega) HLO.out 90
                obtain ⟨g5, c5, rfl⟩ := own_slice hown5
                have HL5 : Hid (w5.ownsRow lo 92 2 (.slice (some ⟨g5, 0, none⟩) (l.length + 1) c5) (l ++ [(cur, false)]).length (cellsC (l ++ [(cur, false)]))) := by
                  show w5.ownsRow _ _ _ _ _ _
                  rw [List.length_append, cellsC_snoc]
                  exact hown5
                have HB5 : Hid (Below lo w w5) := HB.out.trans hbel5
                have HLO5 : Hid (lo ≤ w5.heap.size) := Nat.le_trans HLO.out hbel5.size
                clear hsl5 hown5 hbel5 hot5
                have cF := spec_foldFlow w5 _ (l ++ [(cur, false)]) (slc_row HL5.out) (by rw [totC_snoc, List.length_append]; have := HT.out; simp; omega)
                have HBX : Hid (Below w.heap.size w w5) := by rw [HLOE.out]; exact HB5.out
                obtain ⟨Y, hY⟩ : ∃ Y, foldFlow (l ++ [(cur, false)]) = Y := ⟨_, rfl⟩
                rw [hY] at cF HRES
                clear hY HG HN hb
                go_wp2_with (at_builtin; refine append_run rfl _ _ 90 rfl _ _ rfl rfl _ w5 hrun5 ?_)
                refine cF.mono ?_
                rintro e9 w9 ⟨rfl, hb9⟩
                have hB9 : Below w.heap.size w w9 := HBX.out.trans (hb9.mono HBX.out.size)
                clear cF hb9
                go_wp2_with fail
                go_ret3
                have e0 := HRES.out
                injection e0 with e1 e2
                injection e2 with e2 e3
                subst e1
                subst e2
                subst e3
                exact ⟨by first | rfl | simp, hB9⟩
            · have hl1' : ¬ (i : Int) + 1 < (s.size : Int) := by omega
              have HN : Hid (¬ (i + 1 < s.size ∧ bt s (i + 1) = 39)) := by show ¬ _; rintro ⟨h, _⟩; exact hl1 h
              clear h39
              have HRES : Hid ((foldFlow (l ++ [(cur, false)]), i + 1, 0) = (T, E, C)) := by
                show _ = (T, E, C)
                rw [← HG.out, sg_close hlt H39.out HN.out]
              have hcv := Lib.run_convert_whole (P := Tryz.prog) wr 89 5 9 Tryz.underlying89 Tryz.underlying5 Tryz.underlying9 g 0 cur (bytes_own HC.out) cap
              obtain ⟨v5, w5, hrun5, hsl5, hown5, hbel5, hot5⟩ := push_own (P := Tryz.prog) Tryz.underlying90 infoC rfl (by decide) wr lo _ _ _ HL.out #[.string cur, .bool false] rfl (by intro u hu; simp at hu; rcases hu with rfl | rfl <;> rfl) (by have := HT.out; omega) (by omega) HLO.out 90
              obtain ⟨g5, c5, rfl⟩ := own_slice hown5
              have HL5 : Hid (w5.ownsRow lo 92 2 (.slice (some ⟨g5, 0, none⟩) (l.length + 1) c5) (l ++ [(cur, false)]).length (cellsC (l ++ [(cur, false)]))) := by
                show w5.ownsRow _ _ _ _ _ _
                rw [List.length_append, cellsC_snoc]
                exact hown5
              have HB5 : Hid (Below lo w w5) := HB.out.trans hbel5
              have HLO5 : Hid (lo ≤ w5.heap.size) := Nat.le_trans HLO.out hbel5.size
              clear hsl5 hown5 hbel5 hot5
              have cF := spec_foldFlow w5 _ (l ++ [(cur, false)]) (slc_row HL5.out) (by rw [totC_snoc, List.length_append]; have := HT.out; simp; omega)
              have HBX : Hid (Below w.heap.size w w5) := by rw [HLOE.out]; exact HB5.out
              obtain ⟨Y, hY⟩ : ∃ Y, foldFlow (l ++ [(cur, false)]) = Y := ⟨_, rfl⟩
              rw [hY] at cF HRES
              clear hY HG HN hb
              go_wp2_with (at_builtin; refine append_run rfl _ _ 90 rfl _ _ rfl rfl _ w5 hrun5 ?_)
              refine cF.mono ?_
              rintro e9 w9 ⟨rfl, hb9⟩
              have hB9 : Below w.heap.size w w9 := HBX.out.trans (hb9.mono HBX.out.size)
              clear cF hb9
              go_wp2_with fail
              go_ret3
              have e0 := HRES.out
              injection e0 with e1 e2
              injection e2 with e2 e3
              subst e1
              subst e2
              subst e3
              exact ⟨by first | rfl | simp, hB9⟩
          · have t1 : (((s[i]'hlt).toNat : Int) == 39) = false := by rw [beq_eq_false_iff_ne]; omega
            have N39 : Hid (bt s i ≠ 39) := by show bt s i ≠ 39; rw [← hb]; exact h39
            by_cases h10 : (s[i]'hlt).toNat = 10
            · have t3 : (((s[i]'hlt).toNat : Int) == 10) = true := by rw [h10]; rfl
              have H10 : Hid (bt s i = 10) := by show bt s i = 10; rw [← hb]; exact h10
              clear h10 h39 hb
              have hBy := bytes_own HC.out
              have cC := cut_any wr g cap 0 cur hBy (own_cap HC.out) (by have := HT.out; omega) (by omega)
              obtain ⟨X, hX⟩ : ∃ X, cutB cur 0 = X := ⟨_, rfl⟩
              have hXs : X.size ≤ cur.size := by rw [← hX]; exact cutB_size _ _
              rw [hX] at cC
              have HX : Hid (cutB cur 0 = X) := hX
              clear hX hBy
              obtain ⟨v5, w5, hrun5, hsl5, hown5, hbel5, hot5⟩ := push_own (P := Tryz.prog) Tryz.underlying90 infoC rfl (by decide) wr lo _ _ _ HL.out #[.string X, .bool false] rfl (by intro u hu; simp at hu; rcases hu with rfl | rfl <;> rfl) (by have := HT.out; omega) (by omega) HLO.out 90
              obtain ⟨g5, c5, rfl⟩ := own_slice hown5
              have HL5 : Hid (w5.ownsRow lo 92 2 (.slice (some ⟨g5, 0, none⟩) (l.length + 1) c5) (l ++ [(X, false)]).length (cellsC (l ++ [(X, false)]))) := by
                show w5.ownsRow _ _ _ _ _ _
                rw [List.length_append, cellsC_snoc]
                exact hown5
              have HB5 : Hid (Below lo w w5) := HB.out.trans hbel5
              have HLO5 : Hid (lo ≤ w5.heap.size) := Nat.le_trans HLO.out hbel5.size
              clear hsl5 hown5 hbel5 hot5
              have cM := spec_mark s ((i + 1 : Nat) : Int) (w5.alloc (.cells #[] 5)) hmx
              rw [cl_nat _ _ (by omega)] at cM
              obtain ⟨mk, hmk⟩ : ∃ mk, markN s (i + 1) = mk := ⟨_, rfl⟩
              have HMK : Hid (markN s (i + 1) = mk) := hmk
              rw [hmk] at cM
              clear hmk
              have hi1 : ((i + 1 : Nat) : Int) = (i : Int) + 1 := by omega
              rw [hi1] at cM
              by_cases hm0 : 0 < mk
              · have hm0' : (0 : Int) < (mk : Int) := by omega
                have HRES : Hid ((ByteArray.empty, i + 1, 4) = (T, E, C)) := by
                  show _ = (T, E, C)
                  rw [← HG.out, sg_mark hlt H10.out (by rw [HMK.out]; exact hm0)]
                have HBX : Hid (Below w.heap.size w (w5.alloc (.cells #[] 5))) := by
                  have h := HB5.out
                  rw [← HLOE.out] at h
                  exact h.alloc h.size _
                clear HG hm0 hi1
                go_wp2_with fail
                refine cC.mono ?_
                rintro e9 wz ⟨rfl, rfl⟩
                clear cC
                go_wp2_with (at_builtin; refine append_run rfl _ _ 90 rfl _ _ rfl rfl _ w5 hrun5 ?_)
                refine cM.mono ?_
                rintro e9 wz ⟨rfl, rfl⟩
                clear cM
                go_wp2_with fail
                go_ret3
                have e0 := HRES.out
                injection e0 with e1 e2
                injection e2 with e2 e3
                subst e1
                subst e2
                subst e3
                exact ⟨by first | rfl | simp, HBX.out⟩
              · have hm0' : ¬ (0 : Int) < (mk : Int) := by omega
                have cW := spec_white_nat s (i + 1) (wh s (i + 1)) (w5.alloc (.cells #[] 5)) hmx (by omega) rfl
                have hq1 := wh_ge s (i + 1)
                have hq2 := wh_le s (i + 1) (by omega)
                have HG2 : Hid (sgGo s f (wh s (i + 1)) (l ++ [(X, false)]) ByteArray.empty = (T, E, C)) := by
                  show _ = (T, E, C)
                  rw [← HG.out, sg_line hlt H10.out (by rw [HMK.out]; exact hm0), HX.out]
                obtain ⟨q, hqq⟩ : ∃ q, wh s (i + 1) = q := ⟨_, rfl⟩
                rw [hqq] at cW hq1 hq2 HG2
                rw [hi1] at cW
                have HTQ : Hid (totC (l ++ [(X, false)]) + (l ++ [(X, false)]).length + ByteArray.empty.size ≤ q) := by
                  show totC (l ++ [(X, false)]) + (l ++ [(X, false)]).length + 0 ≤ q
                  rw [totC_snoc, List.length_append]
                  have := HT.out
                  simp
                  omega
                have HL6 : Hid ((w5.alloc (.cells #[] 5)).ownsRow lo 92 2 (.slice (some ⟨g5, 0, none⟩) (l.length + 1) c5) (l ++ [(X, false)]).length (cellsC (l ++ [(X, false)]))) := HL5.out.alloc _
                have HC6 : Hid ((w5.alloc (.cells #[] 5)).ownsRow lo 5 1 (.slice (some ⟨w5.heap.size, 0, none⟩) ByteArray.empty.size 0) ByteArray.empty.size (Lib.strCells ByteArray.empty)) := World.ownsRow_made w5 #[] 0 HLO5.out (by unfold maxLen; omega) rfl
                have HB6 : Hid (Below lo w (w5.alloc (.cells #[] 5))) := HB5.out.alloc HLO5.out _
                have HLO6 : Hid (lo ≤ (w5.alloc (.cells #[] 5)).heap.size) := by show lo ≤ _; have := HLO5.out; simp; omega
                have HF6 : Hid (s.size < f + q) := by have := HF.out; show s.size < f + q; omega
                have hqe : (q : Int) - 1 + 1 = (q : Int) := by omega
                clear HG hm0 hi1 hqq HT HL HC HB HLO HL5 HB5 HLO5 HF
                go_wp2_with fail
                refine cC.mono ?_
                rintro e9 wz ⟨rfl, rfl⟩
                clear cC
                go_wp2_with (at_builtin; refine append_run rfl _ _ 90 rfl _ _ rfl rfl _ w5 hrun5 ?_)
                refine cM.mono ?_
                rintro e9 wz ⟨rfl, hwz⟩
                subst hwz
                clear cM
                go_wp2_with fail
                refine cW.mono ?_
                rintro e9 wz ⟨rfl, hwz⟩
                subst hwz
                clear cW
                go_wp2_with fail
                go_roundw
                case rel =>
                  exact ⟨q, f, w5.heap.size, 0, l ++ [(X, false)], ByteArray.empty, some ⟨g5, 0, none⟩, l.length + 1, c5, by go_num, rfl, rfl, hq2, HF6, HL6, HC6, HG2, HTQ, HLO6, HB6⟩
                case measure => simp [intOf]; omega
            · have t3 : (((s[i]'hlt).toNat : Int) == 10) = false := by rw [beq_eq_false_iff_ne]; omega
              have HG2 : Hid (sgGo s f (i + 1) l (cur ++ b1 (bt s i)) = (T, E, C)) := by
                show _ = (T, E, C)
                rw [← HG.out, sg_byte hlt N39.out (by rw [← hb]; exact h10)]
              clear h10 h39 hb HG N39
              obtain ⟨v4, w4, hrun, hsl4, hown, hbel, hot4⟩ := push_own (P := Tryz.prog) Tryz.underlying89 infoB rfl (by decide) wr lo _ _ _ HC.out #[.int .u8 ((s[i]'hlt).toNat : Int)] rfl (by intro u hu; simp at hu; subst hu; rfl) (by have := HT.out; omega) (by omega) HLO.out 89
              obtain ⟨g4, c4, rfl⟩ := own_slice hown
              have HC4 : Hid (w4.ownsRow lo 5 1 (.slice (some ⟨g4, 0, none⟩) (cur ++ b1 (bt s i)).size c4) (cur ++ b1 (bt s i)).size (Lib.strCells (cur ++ b1 (bt s i)))) := by
                show w4.ownsRow _ _ _ _ _ _
                rw [ByteArray.size_append, strCells_snoc, b1_get s i hlt]
                exact hown
              have HL4 : Hid (w4.ownsRow lo 92 2 (.slice l0 l1 l2) l.length (cellsC l)) := row_beside HL.out hot4 (rows_apart HL.out HC.out (by decide))
              have HB4 : Hid (Below lo w wr → Below lo w w4) := fun h => h.trans hbel
              have HBW : Hid (Below lo w w4) := HB4.out HB.out
              have HLO4 : Hid (lo ≤ w4.heap.size) := Nat.le_trans HLO.out hbel.size
              have HT4 : Hid (totC l + l.length + (cur ++ b1 (bt s i)).size ≤ i + 1) := by
                show totC l + l.length + (cur ++ b1 (bt s i)).size ≤ i + 1
                rw [ByteArray.size_append]
                have h1 : (b1 (bt s i)).size = 1 := rfl
                have := HT.out
                omega
              have E4 : Hid ((.slice (some ⟨g4, 0, none⟩) (cur.size + 1) c4 : Value) = .slice (some ⟨g4, 0, none⟩) (cur ++ b1 (bt s i)).size c4) := by show (_ : Value) = _; rw [ByteArray.size_append]; rfl
              clear hsl4 hown hbel hot4 HB4 HC HL HB HLO HT
              go_wp2_with (at_builtin; refine append_run rfl _ _ 89 rfl _ _ rfl rfl _ w4 hrun ?_)
              go_roundw
              case rel =>
                exact ⟨i + 1, f, g4, c4, l, cur ++ b1 (bt s i), l0, l1, l2, by go_num, rfl, E4.out, hlt, by have := HF.out; show s.size < f + (i + 1); omega, HL4, HC4, HG2, HT4, HLO4, HBW⟩
              case measure => simp [intOf]; omega
        · have hlt' : ¬ (i : Int) < (s.size : Int) := by omega
          have HRES : Hid ((ByteArray.empty, s.size, 3) = (T, E, C)) := by
            show _ = (T, E, C)
            rw [← HG.out, sg_end (by omega)]
          clear HG
          go_wp2_with fail
          go_ret3
          have e0 := HRES.out
          injection e0 with e1 e2
          injection e2 with e2 e3
          subst e1
          subst e2
          subst e3
          exact ⟨by first | rfl | simp, by first | exact HBW0.out | exact HB.out⟩
    · have hq' : (((s[k]'hk).toNat : Int) != 39) = true := by rw [bne_iff_ne]; omega
      have HRES : Hid ((ByteArray.empty, k, 10) = (T, E, C)) := by
        show _ = (T, E, C)
        rw [← HR0.out]; unfold sgAt
        rw [if_pos (.inr (by rw [← bt_get s k hk]; exact hq))]
      clear hq HR0
      go_wp2_with fail
      go_ret3
      have e0 := HRES.out
      injection e0 with e1 e2
      injection e2 with e2 e3
      subst e1
      subst e2
      subst e3
      exact ⟨by first | rfl | simp, Below.refl _ _⟩
  · have hk' : (s.size : Int) ≤ (k : Int) := by omega
    have HRES : Hid ((ByteArray.empty, k, 10) = (T, E, C)) := by
      show _ = (T, E, C)
      rw [← HR0.out]; unfold sgAt
      rw [if_pos (.inl (by omega))]
    clear HR0
    go_wp2_with fail
    go_ret3
    have e0 := HRES.out
    injection e0 with e1 e2
    injection e2 with e2 e3
    subst e1
    subst e2
    subst e3
    exact ⟨by first | rfl | simp, Below.refl _ _⟩
end Go.Proofs.YtjpcmmfmdoglkalGreatDoor
