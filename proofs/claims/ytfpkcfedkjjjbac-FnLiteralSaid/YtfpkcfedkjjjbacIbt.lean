/- impl.BlockText answers blockText. -/
import Derived.Test.YtfpkcfedkjjjbacIfe
import Derived.Test.YtfpkcfedkjjjbacIfb
namespace Go.Proofs.Ytfpkcfedkjjjbac
open Go.ChangeShapes Go.WideShapes Go.ChangeAt Go.RowKit
theorem bt_ends (ss : List ByteArray) (fd : Bool) (ch : Int) (E : Nat) (hE : endB ss ss.length = E) : blockText ss fd ch = (if fd = true then foldBlock (ss.take E) else joinB (ss.take E)) ++ brks (eN ch (decide (0 < E)) (ss.length - E)) := by
  rw [blockText_eq, hE]
  generalize (if fd = true then foldBlock (ss.take E) else joinB (ss.take E)) = B
  unfold tailB restN eN
  by_cases h1 : ch = 1
  · subst h1
    rw [if_neg (fun h => h.2 rfl), if_neg (by decide), if_pos rfl]
  · rw [if_neg h1]
    by_cases h0 : 0 < E
    · rw [if_pos ⟨h0, h1⟩, if_pos (decide_eq_true h0)]
      rw [Nat.add_comm 1, brks, app_assoc]
    · rw [if_neg (fun h => h0 h.1), decide_eq_false h0, if_neg (show ¬ (false = true) by simp), Nat.zero_add]
theorem eN_le (ch : Int) (f : Bool) (n : Nat) : eN ch f n ≤ n + 1 := by
  unfold eN
  split
  · omega
  · split <;> split <;> omega
theorem dec_int (E : Nat) : decide ((0 : Int) < (E : Int)) = decide (0 < E) := by
  by_cases h : 0 < E
  · rw [decide_eq_true h, decide_eq_true (by omega)]
  · rw [decide_eq_false h, decide_eq_false (by omega)]
set_option maxHeartbeats 16000000 in
theorem implBt_true_none (w : World) (c : Nat) (ss : List ByteArray) (ch : Int) (hV : SlS w (.slice none ss.length c) ss) (hl : totS ss + ss.length ≤ 8388608) (hz : ss.length = 0) :
    Calls Try.prog 8 #[.slice none ss.length c, .bool true, .int .i64 ch] w fun e w' => e = .returned (.string (blockText ss true ch)) ∧ Below w.heap.size w w' := by
  obtain ⟨E, hE⟩ : ∃ E, endB ss ss.length = E := ⟨_, rfl⟩
  have hEl : E ≤ ss.length := by rw [← hE]; exact endB_le _ _
  have hcap : E ≤ c := by
    by_cases h0 : ss = []
    · subst h0; simp at hEl; omega
    · have := hV.le h0; omega
  have hcap' : (E : Int) ≤ (c : Int) := by omega
  have hEn : (0 : Int) ≤ (E : Int) := by omega
  have hTk := hV.take E hEl
  have hTt := totS_le ss E
  have hL : ss.length ≤ 8388608 := by omega
  have HE : Hid (endB ss ss.length = E) := hE
  have htl : (ss.take E).length = E := by rw [List.length_take]; omega
  have HTL : Hid ((ss.take E).length = E) := htl
  have HBT : Hid (totS (ss.take E) + (ss.take E).length ≤ 8388608) := by show totS (ss.take E) + (ss.take E).length ≤ 8388608; omega
  obtain ⟨R, hR⟩ : ∃ R, blockText ss true ch = R := ⟨_, rfl⟩
  have HR0 : Hid ((if true = true then foldBlock (ss.take E) else joinB (ss.take E)) ++ brks (eN ch (decide (0 < E)) (ss.length - E)) = R) := by
    show _ = R
    rw [← hR, bt_ends ss true ch E hE]
  rw [hR]
  have HV : Hid (SlS w (.slice none ss.length c) ss) := hV
  have HTK : Hid (SlS w (.slice none E c) (ss.take E)) := hTk
  clear hR hE hTt hl htl hV hTk
  have HZ : Hid (ss.length = 0) := hz
  clear hz
  go_enter Try.func8, Try.ntmps8
  go_wp2_with fail
  go_loop [7] (fun ev => ∃ k : Nat, k ≤ ss.length ∧ ev = .int .i64 k ∧ Hid (endB ss k = E)) (fun ev => (intOf ev).toNat)
  case atStart => exact ⟨ss.length, Nat.le_refl _, rfl, HE⟩
  case round =>
    obtain ⟨k, hk, rfl, HK⟩ := hrel
    by_cases h0 : k = 0
    · have hkE : E = k := by rw [← HK.out, h0]; rfl
      subst hkE
      have h0' : ¬ (0 : Int) < (E : Int) := by omega
      have HR : Hid ((if true = true then foldBlock (ss.take E) else joinB (ss.take E)) ++ brks (eN ch false (ss.length - E)) = R) := by
        have h := HR0.out
        rw [decide_eq_false (show ¬ 0 < E by omega)] at h
        exact h
      clear h0 HK HR0
      have cE := endingOf_any ch w
      go_wp2_with fail
      refine cE.mono ?_
      rintro e w1 ⟨g, rfl, hg, hb1⟩
      clear cE
      obtain ⟨eg, hgc⟩ := hg
      have cG : Calls Try.prog g #[.bool false, .int .i64 ((ss.length - E : Nat) : Int)] w1 _ := hgc false (ss.length - E) w1 (by omega)
      obtain ⟨N, hN⟩ : ∃ N, eN ch false (ss.length - E) = N := ⟨_, rfl⟩
      have hNl : N ≤ 8388609 := by rw [← hN]; have := eN_le ch false (ss.length - E); omega
      rw [hN] at cG
      have HN : Hid (eN ch false (ss.length - E) = N) := hN
      have HB1 : Hid (Below w.heap.size w w1) := hb1
      clear hN hgc hb1
      have hsub : ((ss.length - E : Nat) : Int) = (ss.length : Int) - (E : Int) := by omega
      rw [hsub] at cG
      clear hsub
      go_wp2_with (go_at_fn g; refine cG.mono ?_; rintro e w2 ⟨rfl, hw2⟩)
      subst hw2
      clear cG
      have cP := implFb w2 _ (ss.take E) (HTK.out.stays HB1.out) (by have := HBT.out; omega)
      obtain ⟨T, hT⟩ : ∃ T, foldBlock (ss.take E) = T := ⟨_, rfl⟩
      have hTz : T.size ≤ 33554432 := by
        rw [← hT]
        have h1 := fb_size (ss.take E) ByteArray.empty 0 none
        have h2 := HBT.out
        have h3 : ByteArray.empty.size = 0 := rfl
        have h4 : foldBlock (ss.take E) = fbGo (ss.take E) ByteArray.empty 0 none := rfl
        rw [h4]; omega
      rw [hT] at cP
      have HO : Hid (T ++ brks N = R) := by
        show T ++ brks N = R
        rw [← HR.out, ← HN.out, ← hT]
        rfl
      clear hT HR HN
      go_wp2_with fail
      refine cP.mono ?_
      rintro e w3 ⟨rfl, hb3⟩
      clear cP
      obtain ⟨T2, hT2⟩ : ∃ T2, brks N = T2 := ⟨_, rfl⟩
      have hT2z : T2.size ≤ 33554432 := by rw [← hT2, brks_size]; omega
      have cR := rep_any N w3 (by omega)
      rw [hT2] at cR HO
      clear hT2
      go_wp2_with fail
      refine cR.mono ?_
      rintro e w4 ⟨rfl, hb4⟩
      clear cR
      go_wp2_with fail
      go_ret
      have hB3 : Below w.heap.size w w3 := HB1.out.trans (hb3.mono HB1.out.size)
      exact ⟨ret_str HO.out, hB3.trans (hb4.mono hB3.size)⟩
    · exfalso
      have := HZ.out
      omega
set_option maxHeartbeats 16000000 in
theorem implBt_false_none (w : World) (c : Nat) (ss : List ByteArray) (ch : Int) (hV : SlS w (.slice none ss.length c) ss) (hl : totS ss + ss.length ≤ 8388608) (hz : ss.length = 0) :
    Calls Try.prog 8 #[.slice none ss.length c, .bool false, .int .i64 ch] w fun e w' => e = .returned (.string (blockText ss false ch)) ∧ Below w.heap.size w w' := by
  obtain ⟨E, hE⟩ : ∃ E, endB ss ss.length = E := ⟨_, rfl⟩
  have hEl : E ≤ ss.length := by rw [← hE]; exact endB_le _ _
  have hcap : E ≤ c := by
    by_cases h0 : ss = []
    · subst h0; simp at hEl; omega
    · have := hV.le h0; omega
  have hcap' : (E : Int) ≤ (c : Int) := by omega
  have hEn : (0 : Int) ≤ (E : Int) := by omega
  have hTk := hV.take E hEl
  have hTt := totS_le ss E
  have hL : ss.length ≤ 8388608 := by omega
  have HE : Hid (endB ss ss.length = E) := hE
  have htl : (ss.take E).length = E := by rw [List.length_take]; omega
  have HTL : Hid ((ss.take E).length = E) := htl
  have HBT : Hid (totS (ss.take E) + (ss.take E).length ≤ 8388608) := by show totS (ss.take E) + (ss.take E).length ≤ 8388608; omega
  obtain ⟨R, hR⟩ : ∃ R, blockText ss false ch = R := ⟨_, rfl⟩
  have HR0 : Hid ((if false = true then foldBlock (ss.take E) else joinB (ss.take E)) ++ brks (eN ch (decide (0 < E)) (ss.length - E)) = R) := by
    show _ = R
    rw [← hR, bt_ends ss false ch E hE]
  rw [hR]
  have HV : Hid (SlS w (.slice none ss.length c) ss) := hV
  have HTK : Hid (SlS w (.slice none E c) (ss.take E)) := hTk
  clear hR hE hTt hl htl hV hTk
  have HZ : Hid (ss.length = 0) := hz
  clear hz
  go_enter Try.func8, Try.ntmps8
  go_wp2_with fail
  go_loop [7] (fun ev => ∃ k : Nat, k ≤ ss.length ∧ ev = .int .i64 k ∧ Hid (endB ss k = E)) (fun ev => (intOf ev).toNat)
  case atStart => exact ⟨ss.length, Nat.le_refl _, rfl, HE⟩
  case round =>
    obtain ⟨k, hk, rfl, HK⟩ := hrel
    by_cases h0 : k = 0
    · have hkE : E = k := by rw [← HK.out, h0]; rfl
      subst hkE
      have h0' : ¬ (0 : Int) < (E : Int) := by omega
      have HR : Hid ((if false = true then foldBlock (ss.take E) else joinB (ss.take E)) ++ brks (eN ch false (ss.length - E)) = R) := by
        have h := HR0.out
        rw [decide_eq_false (show ¬ 0 < E by omega)] at h
        exact h
      clear h0 HK HR0
      have cE := endingOf_any ch w
      go_wp2_with fail
      refine cE.mono ?_
      rintro e w1 ⟨g, rfl, hg, hb1⟩
      clear cE
      obtain ⟨eg, hgc⟩ := hg
      have cG : Calls Try.prog g #[.bool false, .int .i64 ((ss.length - E : Nat) : Int)] w1 _ := hgc false (ss.length - E) w1 (by omega)
      obtain ⟨N, hN⟩ : ∃ N, eN ch false (ss.length - E) = N := ⟨_, rfl⟩
      have hNl : N ≤ 8388609 := by rw [← hN]; have := eN_le ch false (ss.length - E); omega
      rw [hN] at cG
      have HN : Hid (eN ch false (ss.length - E) = N) := hN
      have HB1 : Hid (Below w.heap.size w w1) := hb1
      clear hN hgc hb1
      have hsub : ((ss.length - E : Nat) : Int) = (ss.length : Int) - (E : Int) := by omega
      rw [hsub] at cG
      clear hsub
      go_wp2_with (go_at_fn g; refine cG.mono ?_; rintro e w2 ⟨rfl, hw2⟩)
      subst hw2
      clear cG
      have cP := keepLines_any w2 _ (ss.take E) (HTK.out.stays HB1.out) (by have := HBT.out; omega)
      obtain ⟨T, hT⟩ : ∃ T, joinB (ss.take E) = T := ⟨_, rfl⟩
      have hTz : T.size ≤ 33554432 := by
        rw [← hT]
        have h1 := joinB_size (ss.take E)
        have h2 := HBT.out
        omega
      rw [hT] at cP
      have HO : Hid (T ++ brks N = R) := by
        show T ++ brks N = R
        rw [← HR.out, ← HN.out, ← hT]
        rfl
      clear hT HR HN
      go_wp2_with fail
      refine cP.mono ?_
      rintro e w3 ⟨rfl, hb3⟩
      clear cP
      obtain ⟨T2, hT2⟩ : ∃ T2, brks N = T2 := ⟨_, rfl⟩
      have hT2z : T2.size ≤ 33554432 := by rw [← hT2, brks_size]; omega
      have cR := rep_any N w3 (by omega)
      rw [hT2] at cR HO
      clear hT2
      go_wp2_with fail
      refine cR.mono ?_
      rintro e w4 ⟨rfl, hb4⟩
      clear cR
      go_wp2_with fail
      go_ret
      have hB3 : Below w.heap.size w w3 := HB1.out.trans (hb3.mono HB1.out.size)
      exact ⟨ret_str HO.out, hB3.trans (hb4.mono hB3.size)⟩
    · exfalso
      have := HZ.out
      omega
set_option maxHeartbeats 16000000 in
theorem implBt_true_p (w : World) (p : Addr) (c : Nat) (ss : List ByteArray) (ch : Int) (hV : SlS w (.slice (some p) ss.length c) ss) (hl : totS ss + ss.length ≤ 8388608) (hz : ss.length = 0) :
    Calls Try.prog 8 #[.slice (some p) ss.length c, .bool true, .int .i64 ch] w fun e w' => e = .returned (.string (blockText ss true ch)) ∧ Below w.heap.size w w' := by
  obtain ⟨E, hE⟩ : ∃ E, endB ss ss.length = E := ⟨_, rfl⟩
  have hEl : E ≤ ss.length := by rw [← hE]; exact endB_le _ _
  have hcap : E ≤ c := by
    by_cases h0 : ss = []
    · subst h0; simp at hEl; omega
    · have := hV.le h0; omega
  have hcap' : (E : Int) ≤ (c : Int) := by omega
  have hEn : (0 : Int) ≤ (E : Int) := by omega
  have hTk := hV.take E hEl
  have hTt := totS_le ss E
  have hL : ss.length ≤ 8388608 := by omega
  have HE : Hid (endB ss ss.length = E) := hE
  have htl : (ss.take E).length = E := by rw [List.length_take]; omega
  have HTL : Hid ((ss.take E).length = E) := htl
  have HBT : Hid (totS (ss.take E) + (ss.take E).length ≤ 8388608) := by show totS (ss.take E) + (ss.take E).length ≤ 8388608; omega
  obtain ⟨R, hR⟩ : ∃ R, blockText ss true ch = R := ⟨_, rfl⟩
  have HR0 : Hid ((if true = true then foldBlock (ss.take E) else joinB (ss.take E)) ++ brks (eN ch (decide (0 < E)) (ss.length - E)) = R) := by
    show _ = R
    rw [← hR, bt_ends ss true ch E hE]
  rw [hR]
  have HV : Hid (SlS w (.slice (some p) ss.length c) ss) := hV
  have HTK : Hid (SlS w (.slice (some p) E c) (ss.take E)) := hTk
  clear hR hE hTt hl htl hV hTk
  have HZ : Hid (ss.length = 0) := hz
  clear hz
  go_enter Try.func8, Try.ntmps8
  go_wp2_with fail
  go_loop [7] (fun ev => ∃ k : Nat, k ≤ ss.length ∧ ev = .int .i64 k ∧ Hid (endB ss k = E)) (fun ev => (intOf ev).toNat)
  case atStart => exact ⟨ss.length, Nat.le_refl _, rfl, HE⟩
  case round =>
    obtain ⟨k, hk, rfl, HK⟩ := hrel
    by_cases h0 : k = 0
    · have hkE : E = k := by rw [← HK.out, h0]; rfl
      subst hkE
      have h0' : ¬ (0 : Int) < (E : Int) := by omega
      have HR : Hid ((if true = true then foldBlock (ss.take E) else joinB (ss.take E)) ++ brks (eN ch false (ss.length - E)) = R) := by
        have h := HR0.out
        rw [decide_eq_false (show ¬ 0 < E by omega)] at h
        exact h
      clear h0 HK HR0
      have cE := endingOf_any ch w
      go_wp2_with fail
      refine cE.mono ?_
      rintro e w1 ⟨g, rfl, hg, hb1⟩
      clear cE
      obtain ⟨eg, hgc⟩ := hg
      have cG : Calls Try.prog g #[.bool false, .int .i64 ((ss.length - E : Nat) : Int)] w1 _ := hgc false (ss.length - E) w1 (by omega)
      obtain ⟨N, hN⟩ : ∃ N, eN ch false (ss.length - E) = N := ⟨_, rfl⟩
      have hNl : N ≤ 8388609 := by rw [← hN]; have := eN_le ch false (ss.length - E); omega
      rw [hN] at cG
      have HN : Hid (eN ch false (ss.length - E) = N) := hN
      have HB1 : Hid (Below w.heap.size w w1) := hb1
      clear hN hgc hb1
      have hsub : ((ss.length - E : Nat) : Int) = (ss.length : Int) - (E : Int) := by omega
      rw [hsub] at cG
      clear hsub
      go_wp2_with (go_at_fn g; refine cG.mono ?_; rintro e w2 ⟨rfl, hw2⟩)
      subst hw2
      clear cG
      have cP := implFb w2 _ (ss.take E) (HTK.out.stays HB1.out) (by have := HBT.out; omega)
      obtain ⟨T, hT⟩ : ∃ T, foldBlock (ss.take E) = T := ⟨_, rfl⟩
      have hTz : T.size ≤ 33554432 := by
        rw [← hT]
        have h1 := fb_size (ss.take E) ByteArray.empty 0 none
        have h2 := HBT.out
        have h3 : ByteArray.empty.size = 0 := rfl
        have h4 : foldBlock (ss.take E) = fbGo (ss.take E) ByteArray.empty 0 none := rfl
        rw [h4]; omega
      rw [hT] at cP
      have HO : Hid (T ++ brks N = R) := by
        show T ++ brks N = R
        rw [← HR.out, ← HN.out, ← hT]
        rfl
      clear hT HR HN
      go_wp2_with fail
      refine cP.mono ?_
      rintro e w3 ⟨rfl, hb3⟩
      clear cP
      obtain ⟨T2, hT2⟩ : ∃ T2, brks N = T2 := ⟨_, rfl⟩
      have hT2z : T2.size ≤ 33554432 := by rw [← hT2, brks_size]; omega
      have cR := rep_any N w3 (by omega)
      rw [hT2] at cR HO
      clear hT2
      go_wp2_with fail
      refine cR.mono ?_
      rintro e w4 ⟨rfl, hb4⟩
      clear cR
      go_wp2_with fail
      go_ret
      have hB3 : Below w.heap.size w w3 := HB1.out.trans (hb3.mono HB1.out.size)
      exact ⟨ret_str HO.out, hB3.trans (hb4.mono hB3.size)⟩
    · exfalso
      have := HZ.out
      omega
set_option maxHeartbeats 16000000 in
theorem implBt_false_p (w : World) (p : Addr) (c : Nat) (ss : List ByteArray) (ch : Int) (hV : SlS w (.slice (some p) ss.length c) ss) (hl : totS ss + ss.length ≤ 8388608) (hz : ss.length = 0) :
    Calls Try.prog 8 #[.slice (some p) ss.length c, .bool false, .int .i64 ch] w fun e w' => e = .returned (.string (blockText ss false ch)) ∧ Below w.heap.size w w' := by
  obtain ⟨E, hE⟩ : ∃ E, endB ss ss.length = E := ⟨_, rfl⟩
  have hEl : E ≤ ss.length := by rw [← hE]; exact endB_le _ _
  have hcap : E ≤ c := by
    by_cases h0 : ss = []
    · subst h0; simp at hEl; omega
    · have := hV.le h0; omega
  have hcap' : (E : Int) ≤ (c : Int) := by omega
  have hEn : (0 : Int) ≤ (E : Int) := by omega
  have hTk := hV.take E hEl
  have hTt := totS_le ss E
  have hL : ss.length ≤ 8388608 := by omega
  have HE : Hid (endB ss ss.length = E) := hE
  have htl : (ss.take E).length = E := by rw [List.length_take]; omega
  have HTL : Hid ((ss.take E).length = E) := htl
  have HBT : Hid (totS (ss.take E) + (ss.take E).length ≤ 8388608) := by show totS (ss.take E) + (ss.take E).length ≤ 8388608; omega
  obtain ⟨R, hR⟩ : ∃ R, blockText ss false ch = R := ⟨_, rfl⟩
  have HR0 : Hid ((if false = true then foldBlock (ss.take E) else joinB (ss.take E)) ++ brks (eN ch (decide (0 < E)) (ss.length - E)) = R) := by
    show _ = R
    rw [← hR, bt_ends ss false ch E hE]
  rw [hR]
  have HV : Hid (SlS w (.slice (some p) ss.length c) ss) := hV
  have HTK : Hid (SlS w (.slice (some p) E c) (ss.take E)) := hTk
  clear hR hE hTt hl htl hV hTk
  have HZ : Hid (ss.length = 0) := hz
  clear hz
  go_enter Try.func8, Try.ntmps8
  go_wp2_with fail
  go_loop [7] (fun ev => ∃ k : Nat, k ≤ ss.length ∧ ev = .int .i64 k ∧ Hid (endB ss k = E)) (fun ev => (intOf ev).toNat)
  case atStart => exact ⟨ss.length, Nat.le_refl _, rfl, HE⟩
  case round =>
    obtain ⟨k, hk, rfl, HK⟩ := hrel
    by_cases h0 : k = 0
    · have hkE : E = k := by rw [← HK.out, h0]; rfl
      subst hkE
      have h0' : ¬ (0 : Int) < (E : Int) := by omega
      have HR : Hid ((if false = true then foldBlock (ss.take E) else joinB (ss.take E)) ++ brks (eN ch false (ss.length - E)) = R) := by
        have h := HR0.out
        rw [decide_eq_false (show ¬ 0 < E by omega)] at h
        exact h
      clear h0 HK HR0
      have cE := endingOf_any ch w
      go_wp2_with fail
      refine cE.mono ?_
      rintro e w1 ⟨g, rfl, hg, hb1⟩
      clear cE
      obtain ⟨eg, hgc⟩ := hg
      have cG : Calls Try.prog g #[.bool false, .int .i64 ((ss.length - E : Nat) : Int)] w1 _ := hgc false (ss.length - E) w1 (by omega)
      obtain ⟨N, hN⟩ : ∃ N, eN ch false (ss.length - E) = N := ⟨_, rfl⟩
      have hNl : N ≤ 8388609 := by rw [← hN]; have := eN_le ch false (ss.length - E); omega
      rw [hN] at cG
      have HN : Hid (eN ch false (ss.length - E) = N) := hN
      have HB1 : Hid (Below w.heap.size w w1) := hb1
      clear hN hgc hb1
      have hsub : ((ss.length - E : Nat) : Int) = (ss.length : Int) - (E : Int) := by omega
      rw [hsub] at cG
      clear hsub
      go_wp2_with (go_at_fn g; refine cG.mono ?_; rintro e w2 ⟨rfl, hw2⟩)
      subst hw2
      clear cG
      have cP := keepLines_any w2 _ (ss.take E) (HTK.out.stays HB1.out) (by have := HBT.out; omega)
      obtain ⟨T, hT⟩ : ∃ T, joinB (ss.take E) = T := ⟨_, rfl⟩
      have hTz : T.size ≤ 33554432 := by
        rw [← hT]
        have h1 := joinB_size (ss.take E)
        have h2 := HBT.out
        omega
      rw [hT] at cP
      have HO : Hid (T ++ brks N = R) := by
        show T ++ brks N = R
        rw [← HR.out, ← HN.out, ← hT]
        rfl
      clear hT HR HN
      go_wp2_with fail
      refine cP.mono ?_
      rintro e w3 ⟨rfl, hb3⟩
      clear cP
      obtain ⟨T2, hT2⟩ : ∃ T2, brks N = T2 := ⟨_, rfl⟩
      have hT2z : T2.size ≤ 33554432 := by rw [← hT2, brks_size]; omega
      have cR := rep_any N w3 (by omega)
      rw [hT2] at cR HO
      clear hT2
      go_wp2_with fail
      refine cR.mono ?_
      rintro e w4 ⟨rfl, hb4⟩
      clear cR
      go_wp2_with fail
      go_ret
      have hB3 : Below w.heap.size w w3 := HB1.out.trans (hb3.mono HB1.out.size)
      exact ⟨ret_str HO.out, hB3.trans (hb4.mono hB3.size)⟩
    · exfalso
      have := HZ.out
      omega
set_option maxHeartbeats 16000000 in
theorem implBt_true_some (w : World) (b off : Nat) (c : Nat) (ss : List ByteArray) (ch : Int) (hV : SlS w (.slice (some ⟨b, off, none⟩) ss.length c) ss) (hl : totS ss + ss.length ≤ 8388608) :
    Calls Try.prog 8 #[.slice (some ⟨b, off, none⟩) ss.length c, .bool true, .int .i64 ch] w fun e w' => e = .returned (.string (blockText ss true ch)) ∧ Below w.heap.size w w' := by
  obtain ⟨E, hE⟩ : ∃ E, endB ss ss.length = E := ⟨_, rfl⟩
  have hEl : E ≤ ss.length := by rw [← hE]; exact endB_le _ _
  have hcap : E ≤ c := by
    by_cases h0 : ss = []
    · subst h0; simp at hEl; omega
    · have := hV.le h0; omega
  have hcap' : (E : Int) ≤ (c : Int) := by omega
  have hEn : (0 : Int) ≤ (E : Int) := by omega
  have hTk := hV.take E hEl
  have hTt := totS_le ss E
  have hL : ss.length ≤ 8388608 := by omega
  have HE : Hid (endB ss ss.length = E) := hE
  have htl : (ss.take E).length = E := by rw [List.length_take]; omega
  have HTL : Hid ((ss.take E).length = E) := htl
  have HBT : Hid (totS (ss.take E) + (ss.take E).length ≤ 8388608) := by show totS (ss.take E) + (ss.take E).length ≤ 8388608; omega
  obtain ⟨R, hR⟩ : ∃ R, blockText ss true ch = R := ⟨_, rfl⟩
  have HR0 : Hid ((if true = true then foldBlock (ss.take E) else joinB (ss.take E)) ++ brks (eN ch (decide (0 < E)) (ss.length - E)) = R) := by
    show _ = R
    rw [← hR, bt_ends ss true ch E hE]
  rw [hR]
  have HV : Hid (SlS w (.slice (some ⟨b, off, none⟩) ss.length c) ss) := hV
  have HTK : Hid (SlS w (.slice (some ⟨b, off, none⟩) E c) (ss.take E)) := hTk
  clear hR hE hTt hl htl hV hTk
  go_enter Try.func8, Try.ntmps8
  go_wp2_with fail
  go_loop [7] (fun ev => ∃ k : Nat, k ≤ ss.length ∧ ev = .int .i64 k ∧ Hid (endB ss k = E)) (fun ev => (intOf ev).toNat)
  case atStart => exact ⟨ss.length, Nat.le_refl _, rfl, HE⟩
  case round =>
    obtain ⟨k, hk, rfl, HK⟩ := hrel
    by_cases h0 : k = 0
    · have hkE : E = k := by rw [← HK.out, h0]; rfl
      subst hkE
      have h0' : ¬ (0 : Int) < (E : Int) := by omega
      have HR : Hid ((if true = true then foldBlock (ss.take E) else joinB (ss.take E)) ++ brks (eN ch false (ss.length - E)) = R) := by
        have h := HR0.out
        rw [decide_eq_false (show ¬ 0 < E by omega)] at h
        exact h
      clear h0 HK HR0
      have cE := endingOf_any ch w
      go_wp2_with fail
      refine cE.mono ?_
      rintro e w1 ⟨g, rfl, hg, hb1⟩
      clear cE
      obtain ⟨eg, hgc⟩ := hg
      have cG : Calls Try.prog g #[.bool false, .int .i64 ((ss.length - E : Nat) : Int)] w1 _ := hgc false (ss.length - E) w1 (by omega)
      obtain ⟨N, hN⟩ : ∃ N, eN ch false (ss.length - E) = N := ⟨_, rfl⟩
      have hNl : N ≤ 8388609 := by rw [← hN]; have := eN_le ch false (ss.length - E); omega
      rw [hN] at cG
      have HN : Hid (eN ch false (ss.length - E) = N) := hN
      have HB1 : Hid (Below w.heap.size w w1) := hb1
      clear hN hgc hb1
      have hsub : ((ss.length - E : Nat) : Int) = (ss.length : Int) - (E : Int) := by omega
      rw [hsub] at cG
      clear hsub
      go_wp2_with (go_at_fn g; refine cG.mono ?_; rintro e w2 ⟨rfl, hw2⟩)
      subst hw2
      clear cG
      have cP := implFb w2 _ (ss.take E) (HTK.out.stays HB1.out) (by have := HBT.out; omega)
      obtain ⟨T, hT⟩ : ∃ T, foldBlock (ss.take E) = T := ⟨_, rfl⟩
      have hTz : T.size ≤ 33554432 := by
        rw [← hT]
        have h1 := fb_size (ss.take E) ByteArray.empty 0 none
        have h2 := HBT.out
        have h3 : ByteArray.empty.size = 0 := rfl
        have h4 : foldBlock (ss.take E) = fbGo (ss.take E) ByteArray.empty 0 none := rfl
        rw [h4]; omega
      rw [hT] at cP
      have HO : Hid (T ++ brks N = R) := by
        show T ++ brks N = R
        rw [← HR.out, ← HN.out, ← hT]
        rfl
      clear hT HR HN
      go_wp2_with fail
      refine cP.mono ?_
      rintro e w3 ⟨rfl, hb3⟩
      clear cP
      obtain ⟨T2, hT2⟩ : ∃ T2, brks N = T2 := ⟨_, rfl⟩
      have hT2z : T2.size ≤ 33554432 := by rw [← hT2, brks_size]; omega
      have cR := rep_any N w3 (by omega)
      rw [hT2] at cR HO
      clear hT2
      go_wp2_with fail
      refine cR.mono ?_
      rintro e w4 ⟨rfl, hb4⟩
      clear cR
      go_wp2_with fail
      go_ret
      have hB3 : Below w.heap.size w w3 := HB1.out.trans (hb3.mono HB1.out.size)
      exact ⟨ret_str HO.out, hB3.trans (hb4.mono hB3.size)⟩
    · obtain ⟨x, hx⟩ : ∃ x, ss[k - 1]? = some x := ⟨_, List.getElem?_eq_getElem (by omega)⟩
      obtain ⟨j, hj⟩ : ∃ j, k = j + 1 := ⟨k - 1, by omega⟩
      have hx' : ss[j]? = some x := by rw [show j = k - 1 by omega]; exact hx
      obtain ⟨b', off', hbo, c1⟩ := HV.out.cells (Below.refl _ _) hx'
      injection hbo with hbo
      injection hbo with e1 e2 e3
      subst e1
      subst e2
      have e1 : (k : Int) - 1 = (j : Int) := by omega
      have h0' : (0 : Int) < (k : Int) := by omega
      have hjl : j < ss.length := by omega
      have hjl' : (j : Int) < (ss.length : Int) := by omega
      by_cases hxe : x = ByteArray.empty
      · have hX : (x.toList == []) = true := by rw [hxe]; exact empty_list
        have HK2 : Hid (endB ss j = E) := by show endB ss j = E; rw [← HK.out, hj, endB_step hx' hxe]
        clear hx hx' hxe HK h0
        go_wp2_with fail
        go_round
        case rel => exact ⟨j, by omega, by go_num, HK2⟩
        case measure => simp [intOf]; omega
      · have hX := nonempty_list hxe
        have hkE : E = k := by rw [← HK.out]; exact endB_fix (.inr ⟨x, hx, hxe⟩)
        have HR : Hid ((if true = true then foldBlock (ss.take E) else joinB (ss.take E)) ++ brks (eN ch true (ss.length - E)) = R) := by
          have h := HR0.out
          rw [decide_eq_true (show 0 < E by omega)] at h
          exact h
        clear hx hx' hxe HK HR0 h0
        subst hkE
        clear hj
        have cE := endingOf_any ch w
        go_wp2_with fail
        refine cE.mono ?_
        rintro e w1 ⟨g, rfl, hg, hb1⟩
        clear cE
        obtain ⟨eg, hgc⟩ := hg
        have cG : Calls Try.prog g #[.bool true, .int .i64 ((ss.length - E : Nat) : Int)] w1 _ := hgc true (ss.length - E) w1 (by omega)
        obtain ⟨N, hN⟩ : ∃ N, eN ch true (ss.length - E) = N := ⟨_, rfl⟩
        have hNl : N ≤ 8388609 := by rw [← hN]; have := eN_le ch true (ss.length - E); omega
        rw [hN] at cG
        have HN : Hid (eN ch true (ss.length - E) = N) := hN
        have HB1 : Hid (Below w.heap.size w w1) := hb1
        clear hN hgc hb1
        have hsub : ((ss.length - E : Nat) : Int) = (ss.length : Int) - (E : Int) := by omega
        rw [hsub] at cG
        clear hsub
        go_wp2_with (go_at_fn g; refine cG.mono ?_; rintro e w2 ⟨rfl, hw2⟩)
        subst hw2
        clear cG
        have cP := implFb w2 _ (ss.take E) (HTK.out.stays HB1.out) (by have := HBT.out; omega)
        obtain ⟨T, hT⟩ : ∃ T, foldBlock (ss.take E) = T := ⟨_, rfl⟩
        have hTz : T.size ≤ 33554432 := by
          rw [← hT]
          have h1 := fb_size (ss.take E) ByteArray.empty 0 none
          have h2 := HBT.out
          have h3 : ByteArray.empty.size = 0 := rfl
          have h4 : foldBlock (ss.take E) = fbGo (ss.take E) ByteArray.empty 0 none := rfl
          rw [h4]; omega
        rw [hT] at cP
        have HO : Hid (T ++ brks N = R) := by
          show T ++ brks N = R
          rw [← HR.out, ← HN.out, ← hT]
          rfl
        clear hT HR HN
        go_wp2_with fail
        refine cP.mono ?_
        rintro e w3 ⟨rfl, hb3⟩
        clear cP
        obtain ⟨T2, hT2⟩ : ∃ T2, brks N = T2 := ⟨_, rfl⟩
        have hT2z : T2.size ≤ 33554432 := by rw [← hT2, brks_size]; omega
        have cR := rep_any N w3 (by omega)
        rw [hT2] at cR HO
        clear hT2
        go_wp2_with fail
        refine cR.mono ?_
        rintro e w4 ⟨rfl, hb4⟩
        clear cR
        go_wp2_with fail
        go_ret
        have hB3 : Below w.heap.size w w3 := HB1.out.trans (hb3.mono HB1.out.size)
        exact ⟨ret_str HO.out, hB3.trans (hb4.mono hB3.size)⟩
set_option maxHeartbeats 16000000 in
theorem implBt_false_some (w : World) (b off : Nat) (c : Nat) (ss : List ByteArray) (ch : Int) (hV : SlS w (.slice (some ⟨b, off, none⟩) ss.length c) ss) (hl : totS ss + ss.length ≤ 8388608) :
    Calls Try.prog 8 #[.slice (some ⟨b, off, none⟩) ss.length c, .bool false, .int .i64 ch] w fun e w' => e = .returned (.string (blockText ss false ch)) ∧ Below w.heap.size w w' := by
  obtain ⟨E, hE⟩ : ∃ E, endB ss ss.length = E := ⟨_, rfl⟩
  have hEl : E ≤ ss.length := by rw [← hE]; exact endB_le _ _
  have hcap : E ≤ c := by
    by_cases h0 : ss = []
    · subst h0; simp at hEl; omega
    · have := hV.le h0; omega
  have hcap' : (E : Int) ≤ (c : Int) := by omega
  have hEn : (0 : Int) ≤ (E : Int) := by omega
  have hTk := hV.take E hEl
  have hTt := totS_le ss E
  have hL : ss.length ≤ 8388608 := by omega
  have HE : Hid (endB ss ss.length = E) := hE
  have htl : (ss.take E).length = E := by rw [List.length_take]; omega
  have HTL : Hid ((ss.take E).length = E) := htl
  have HBT : Hid (totS (ss.take E) + (ss.take E).length ≤ 8388608) := by show totS (ss.take E) + (ss.take E).length ≤ 8388608; omega
  obtain ⟨R, hR⟩ : ∃ R, blockText ss false ch = R := ⟨_, rfl⟩
  have HR0 : Hid ((if false = true then foldBlock (ss.take E) else joinB (ss.take E)) ++ brks (eN ch (decide (0 < E)) (ss.length - E)) = R) := by
    show _ = R
    rw [← hR, bt_ends ss false ch E hE]
  rw [hR]
  have HV : Hid (SlS w (.slice (some ⟨b, off, none⟩) ss.length c) ss) := hV
  have HTK : Hid (SlS w (.slice (some ⟨b, off, none⟩) E c) (ss.take E)) := hTk
  clear hR hE hTt hl htl hV hTk
  go_enter Try.func8, Try.ntmps8
  go_wp2_with fail
  go_loop [7] (fun ev => ∃ k : Nat, k ≤ ss.length ∧ ev = .int .i64 k ∧ Hid (endB ss k = E)) (fun ev => (intOf ev).toNat)
  case atStart => exact ⟨ss.length, Nat.le_refl _, rfl, HE⟩
  case round =>
    obtain ⟨k, hk, rfl, HK⟩ := hrel
    by_cases h0 : k = 0
    · have hkE : E = k := by rw [← HK.out, h0]; rfl
      subst hkE
      have h0' : ¬ (0 : Int) < (E : Int) := by omega
      have HR : Hid ((if false = true then foldBlock (ss.take E) else joinB (ss.take E)) ++ brks (eN ch false (ss.length - E)) = R) := by
        have h := HR0.out
        rw [decide_eq_false (show ¬ 0 < E by omega)] at h
        exact h
      clear h0 HK HR0
      have cE := endingOf_any ch w
      go_wp2_with fail
      refine cE.mono ?_
      rintro e w1 ⟨g, rfl, hg, hb1⟩
      clear cE
      obtain ⟨eg, hgc⟩ := hg
      have cG : Calls Try.prog g #[.bool false, .int .i64 ((ss.length - E : Nat) : Int)] w1 _ := hgc false (ss.length - E) w1 (by omega)
      obtain ⟨N, hN⟩ : ∃ N, eN ch false (ss.length - E) = N := ⟨_, rfl⟩
      have hNl : N ≤ 8388609 := by rw [← hN]; have := eN_le ch false (ss.length - E); omega
      rw [hN] at cG
      have HN : Hid (eN ch false (ss.length - E) = N) := hN
      have HB1 : Hid (Below w.heap.size w w1) := hb1
      clear hN hgc hb1
      have hsub : ((ss.length - E : Nat) : Int) = (ss.length : Int) - (E : Int) := by omega
      rw [hsub] at cG
      clear hsub
      go_wp2_with (go_at_fn g; refine cG.mono ?_; rintro e w2 ⟨rfl, hw2⟩)
      subst hw2
      clear cG
      have cP := keepLines_any w2 _ (ss.take E) (HTK.out.stays HB1.out) (by have := HBT.out; omega)
      obtain ⟨T, hT⟩ : ∃ T, joinB (ss.take E) = T := ⟨_, rfl⟩
      have hTz : T.size ≤ 33554432 := by
        rw [← hT]
        have h1 := joinB_size (ss.take E)
        have h2 := HBT.out
        omega
      rw [hT] at cP
      have HO : Hid (T ++ brks N = R) := by
        show T ++ brks N = R
        rw [← HR.out, ← HN.out, ← hT]
        rfl
      clear hT HR HN
      go_wp2_with fail
      refine cP.mono ?_
      rintro e w3 ⟨rfl, hb3⟩
      clear cP
      obtain ⟨T2, hT2⟩ : ∃ T2, brks N = T2 := ⟨_, rfl⟩
      have hT2z : T2.size ≤ 33554432 := by rw [← hT2, brks_size]; omega
      have cR := rep_any N w3 (by omega)
      rw [hT2] at cR HO
      clear hT2
      go_wp2_with fail
      refine cR.mono ?_
      rintro e w4 ⟨rfl, hb4⟩
      clear cR
      go_wp2_with fail
      go_ret
      have hB3 : Below w.heap.size w w3 := HB1.out.trans (hb3.mono HB1.out.size)
      exact ⟨ret_str HO.out, hB3.trans (hb4.mono hB3.size)⟩
    · obtain ⟨x, hx⟩ : ∃ x, ss[k - 1]? = some x := ⟨_, List.getElem?_eq_getElem (by omega)⟩
      obtain ⟨j, hj⟩ : ∃ j, k = j + 1 := ⟨k - 1, by omega⟩
      have hx' : ss[j]? = some x := by rw [show j = k - 1 by omega]; exact hx
      obtain ⟨b', off', hbo, c1⟩ := HV.out.cells (Below.refl _ _) hx'
      injection hbo with hbo
      injection hbo with e1 e2 e3
      subst e1
      subst e2
      have e1 : (k : Int) - 1 = (j : Int) := by omega
      have h0' : (0 : Int) < (k : Int) := by omega
      have hjl : j < ss.length := by omega
      have hjl' : (j : Int) < (ss.length : Int) := by omega
      by_cases hxe : x = ByteArray.empty
      · have hX : (x.toList == []) = true := by rw [hxe]; exact empty_list
        have HK2 : Hid (endB ss j = E) := by show endB ss j = E; rw [← HK.out, hj, endB_step hx' hxe]
        clear hx hx' hxe HK h0
        go_wp2_with fail
        go_round
        case rel => exact ⟨j, by omega, by go_num, HK2⟩
        case measure => simp [intOf]; omega
      · have hX := nonempty_list hxe
        have hkE : E = k := by rw [← HK.out]; exact endB_fix (.inr ⟨x, hx, hxe⟩)
        have HR : Hid ((if false = true then foldBlock (ss.take E) else joinB (ss.take E)) ++ brks (eN ch true (ss.length - E)) = R) := by
          have h := HR0.out
          rw [decide_eq_true (show 0 < E by omega)] at h
          exact h
        clear hx hx' hxe HK HR0 h0
        subst hkE
        clear hj
        have cE := endingOf_any ch w
        go_wp2_with fail
        refine cE.mono ?_
        rintro e w1 ⟨g, rfl, hg, hb1⟩
        clear cE
        obtain ⟨eg, hgc⟩ := hg
        have cG : Calls Try.prog g #[.bool true, .int .i64 ((ss.length - E : Nat) : Int)] w1 _ := hgc true (ss.length - E) w1 (by omega)
        obtain ⟨N, hN⟩ : ∃ N, eN ch true (ss.length - E) = N := ⟨_, rfl⟩
        have hNl : N ≤ 8388609 := by rw [← hN]; have := eN_le ch true (ss.length - E); omega
        rw [hN] at cG
        have HN : Hid (eN ch true (ss.length - E) = N) := hN
        have HB1 : Hid (Below w.heap.size w w1) := hb1
        clear hN hgc hb1
        have hsub : ((ss.length - E : Nat) : Int) = (ss.length : Int) - (E : Int) := by omega
        rw [hsub] at cG
        clear hsub
        go_wp2_with (go_at_fn g; refine cG.mono ?_; rintro e w2 ⟨rfl, hw2⟩)
        subst hw2
        clear cG
        have cP := keepLines_any w2 _ (ss.take E) (HTK.out.stays HB1.out) (by have := HBT.out; omega)
        obtain ⟨T, hT⟩ : ∃ T, joinB (ss.take E) = T := ⟨_, rfl⟩
        have hTz : T.size ≤ 33554432 := by
          rw [← hT]
          have h1 := joinB_size (ss.take E)
          have h2 := HBT.out
          omega
        rw [hT] at cP
        have HO : Hid (T ++ brks N = R) := by
          show T ++ brks N = R
          rw [← HR.out, ← HN.out, ← hT]
          rfl
        clear hT HR HN
        go_wp2_with fail
        refine cP.mono ?_
        rintro e w3 ⟨rfl, hb3⟩
        clear cP
        obtain ⟨T2, hT2⟩ : ∃ T2, brks N = T2 := ⟨_, rfl⟩
        have hT2z : T2.size ≤ 33554432 := by rw [← hT2, brks_size]; omega
        have cR := rep_any N w3 (by omega)
        rw [hT2] at cR HO
        clear hT2
        go_wp2_with fail
        refine cR.mono ?_
        rintro e w4 ⟨rfl, hb4⟩
        clear cR
        go_wp2_with fail
        go_ret
        have hB3 : Below w.heap.size w w3 := HB1.out.trans (hb3.mono HB1.out.size)
        exact ⟨ret_str HO.out, hB3.trans (hb4.mono hB3.size)⟩
theorem implBt : ImplBt := by
  intro w v ss fd ch hV hl _
  obtain ⟨a, c, rfl⟩ := hV.sl
  cases a with
  | none =>
    have hz : ss.length = 0 := by
      rcases hV with ⟨e, _⟩ | ⟨_, b, off, c', e, _⟩
      · rw [e]; rfl
      · cases e
    cases fd with
    | true => exact implBt_true_none w c ss ch hV hl hz
    | false => exact implBt_false_none w c ss ch hV hl hz
  | some p =>
    by_cases h0 : ss = []
    · have hz : ss.length = 0 := by rw [h0]; rfl
      cases fd with
      | true => exact implBt_true_p w p c ss ch hV hl hz
      | false => exact implBt_false_p w p c ss ch hV hl hz
    · obtain ⟨b, off, h⟩ : ∃ b off, p = ⟨b, off, none⟩ := by
        rcases hV with ⟨e, _⟩ | ⟨_, b, off, c', e, _⟩
        · exact absurd e h0
        · injection e with e _ _
          injection e with e
          exact ⟨b, off, e⟩
      subst h
      cases fd with
      | true => exact implBt_true_some w b off c ss ch hV hl
      | false => exact implBt_false_some w b off c ss ch hV hl
end Go.Proofs.Ytfpkcfedkjjjbac
