/- The contract of spec.PlainAt, with flow. -/
import Derived.Test.YthlainjkpeioeajSph
namespace Go.Proofs.Ythlainjkpeioeaj
open Go.ChangeShapes Go.WideShapes Go.ChangeAt Go.RowKit Go.Deep
set_option maxRecDepth 100000 in
set_option maxHeartbeats 32000000 in
theorem spec_plainAt_true (s : ByteArray) (p n : Int) (w : World) (hs : s.size ≤ 1048576) (T : ByteArray) (E : Nat) (b : Bool) (hr : plAt s (cl s.size p) n true = (T, E, b)) :
    Calls Try.prog 19 #[.string s, .int .i64 p, .int .i64 n, .bool true] w fun e w' => e = .returned (.tuple #[.string T, .int .i64 (E : Int), .bool b]) ∧ Below w.heap.size w w' := by
  have hcl := cl_le s.size p
  have hmx : s.size ≤ mx := by unfold mx; omega
  have HR0 : Hid (plAt s (cl s.size p) n true = (T, E, b)) := hr
  clear hr
  go_enter Try.func19, Try.ntmps19
  go_wp2_with fail
  refine (l01P_any _ _ _ hmx).mono ?_
  rintro e w ⟨rfl, rfl⟩
  generalize cl s.size p = k at *
  have cP := spec_plainFirst s (k : Int) true w hmx _ rfl
  rw [cl_nat _ _ hcl] at cP
  cases hF : plF s k true with
  | false =>
    rw [hF] at cP
    obtain ⟨rfl, rfl, rfl⟩ : ByteArray.empty = T ∧ 0 = E ∧ false = b := by
      have h := HR0.out
      unfold plAt at h
      rw [if_neg (by rw [hF]; simp)] at h
      injection h with h1 h2
      injection h2 with h2 h3
      exact ⟨h1, h2, h3⟩
    clear HR0 hF
    go_wp2_with fail
    refine cP.mono ?_
    rintro e w1 ⟨rfl, hb1⟩
    clear cP
    go_wp2_with fail
    go_ret3
    exact ⟨rfl, hb1⟩
  | true =>
    rw [hF] at cP
    obtain ⟨R, hR⟩ : ∃ R, paR s k n true = R := ⟨_, rfl⟩
    have h0 : foldFlow R.2 = T ∧ R.1 = E ∧ true = b := by
      have h := HR0.out
      unfold plAt at h
      rw [if_pos hF, hR] at h
      injection h with h1 h2
      injection h2 with h2 h3
      exact ⟨h1, h2, h3⟩
    obtain ⟨h01, h02, rfl⟩ := h0
    have HT0 : Hid (foldFlow R.2 = T) := h01
    have HE0 : Hid (R.1 = E) := h02
    have hkE := plE_ge s k true
    have hEs := plE_le s k true hcl
    have cE := fun w1 => spec_plainEnd s (k : Int) true w1 hmx _ rfl
    rw [cl_nat _ _ hcl] at cE
    unfold paR at hR
    obtain ⟨x0, hx0⟩ : ∃ x0, plE s k true = x0 := ⟨_, rfl⟩
    rw [hx0] at hkE hEs cE hR
    have HG0 : Hid (paGo s n true (s.size + 1 - x0) x0 [(s.extract k x0, false)] = R) := hR
    clear HR0 hF h01 h02 hR hx0
    have hkx : (k : Int) ≤ (x0 : Int) := by omega
    have hxs0 : (x0 : Int) ≤ (s.size : Int) := by omega
    go_wp2_with fail
    refine cP.mono ?_
    rintro e w1 ⟨rfl, hB1⟩
    clear cP
    go_wp2_with fail
    refine (cE w1).mono ?_
    rintro e w1 ⟨rfl, rfl⟩
    clear cE
    go_wp2_with fail
    go_loopw [11, 12] (fun ev lv wr => ∃ (en : Nat) (l : List Pc), ev = .int .i64 en ∧ isSl' lv ∧ en ≤ s.size ∧ Hid (wr.ownsRow w1.heap.size 55 2 lv l.length (cellsC l)) ∧ Hid (paGo s n true (s.size + 1 - en) en l = R) ∧ Hid (totC l + l.length ≤ en + 1) ∧ Below w1.heap.size w1 wr) (fun ev _ _ => s.size - (intOf ev).toNat)
    case atStart =>
      refine ⟨x0, [(s.extract k x0, false)], rfl, ⟨_, _, _, rfl⟩, hEs, ?_, HG0, ?_, (Below.refl _ _).alloc (Nat.le_refl _) _⟩
      · exact own_one w1 w1.heap.size _ (Nat.le_refl _)
      · show (s.extract k x0).size + 0 + 1 ≤ x0 + 1
        rw [ByteArray.size_extract]; omega
    case round =>
      obtain ⟨wo, rfl⟩ : ∃ wo, wo = wr := ⟨_, rfl⟩
      obtain ⟨en, l, rfl, ⟨l0, l1, l2, rfl⟩, hes, HROW, HG, HTOT, hbr⟩ := hrel
      have HBR : Hid (Below w1.heap.size w1 wo) := hbr
      have HB0 : Hid (Below w.heap.size w wo) := hB1.trans (hbr.mono hB1.size)
      clear hbr
      have cW := fun w2 => spec_white_nat s en (wh s en) w2 hmx hes rfl
      obtain ⟨q0, hq0⟩ : ∃ q0, wh s en = q0 := ⟨_, rfl⟩
      have HW0 : Hid (wh s en = q0) := hq0
      have heq : en ≤ q0 := by rw [← hq0]; exact wh_ge s en
      have hq0s : q0 ≤ s.size := by rw [← hq0]; exact wh_le s en hes
      rw [hq0] at cW
      clear hq0
      have hroE := HROW.out.alloc (.cells #[] 55)
      have HROWE : Hid ((wo.alloc (.cells #[] 55)).ownsRow w1.heap.size 55 2 (.slice l0 l1 l2) l.length (cellsC l)) := hroE
      have HBE : Hid (Below w.heap.size w (wo.alloc (.cells #[] 55))) := HB0.out.alloc HB0.out.size _
      clear hroE
      go_wp2_with fail
      refine (cW _).mono ?_
      rintro e9 w8 ⟨rfl, hw8⟩
      subst hw8
      clear cW
      by_cases hl0 : q0 < s.size
      · have hl0' : ¬ (s.size : Int) ≤ (q0 : Int) := by omega
        have hl0n : ¬ s.size ≤ q0 := by omega
        by_cases c10 : (s[q0]'hl0).toNat = 10
        · have c10' : (((s[q0]'hl0).toNat : Int) != 10) = false := by rw [c10]; rfl
          have H1 : Hid (¬ (s.size ≤ wh s en ∨ bt s (wh s en) ≠ 10)) := by
            show ¬ _
            rintro (h | h)
            · rw [HW0.out] at h; omega
            · apply h; rw [HW0.out, ← bt_get s q0 hl0]; exact c10
          clear c10 HROWE HBE
          go_wp2_with fail
          obtain ⟨S, hS⟩ : ∃ S, skl s s.size (q0 + 1) 0 = S := ⟨_, rfl⟩
          have HS : Hid (skl s s.size (q0 + 1) 0 = S) := hS
          clear hS
          go_loopw [13, 14] (fun mv qv wq => ∃ (m q g gc : Nat), qv = .int .i64 q ∧ mv = .slice (some ⟨g, 0, none⟩) m gc ∧ q0 < q ∧ q ≤ s.size ∧ Hid (m + q0 < q) ∧ Hid (wq.ownsRow wo.heap.size 55 2 mv m (cellsC (List.replicate m e0))) ∧ Below wo.heap.size wo wq ∧ Hid (skl s s.size q m = S)) (fun _ qv _ => s.size - (intOf qv).toNat)
          case atStart => exact ⟨0, q0 + 1, wo.heap.size, 0, by go_num, rfl, by omega, by omega, by show 0 + q0 < q0 + 1; omega, World.ownsRow_made wo #[] 0 (Nat.le_refl _) (by unfold maxLen; omega) rfl, (Below.refl _ _).alloc (Nat.le_refl _) _, HS⟩
          case round =>
            obtain ⟨wq, rfl⟩ : ∃ wq, wq = wr := ⟨_, rfl⟩
            obtain ⟨m, q, g, gc, rfl, rfl, hqq, hqs, HMQ, HROWM, hbq, HSK⟩ := hrel
            have HLO : Hid (w1.heap.size ≤ wq.heap.size) := Nat.le_trans HBR.out.size hbq.size
            have HBW : Hid (Below w1.heap.size w1 wq) := HBR.out.trans (hbq.mono HBR.out.size)
            have HLT : Hid (en < q) := by show en < q; omega
            by_cases hl : q < s.size
            · have hl' : (q : Int) < (s.size : Int) := by omega
              have cL := spec_lone s (q : Int) wq hmx
              rw [cl_nat _ _ hqs] at cL
              cases hlo : lone s q with
              | false =>
                rw [hlo] at cL
                have HSQ : Hid (skl s s.size (wh s en + 1) 0 = (q, m)) := by
                  show skl s s.size (wh s en + 1) 0 = (q, m)
                  rw [HW0.out, HS.out, ← HSK.out]
                  exact skl_stop (fun h => by rw [hlo] at h; cases h.2.1)
                clear hlo HSK HS
                go_wp2_with fail
                refine cL.mono ?_
                rintro e9 wq ⟨rfl, rfl⟩
                clear cL
                have HROWQ : Hid (wq.ownsRow w1.heap.size 55 2 (.slice l0 l1 l2) l.length (cellsC l)) := row_same HROW.out (fun j _ hj => hbq.block j hj)
                have HBQ : Hid (Below w.heap.size w wq) := HB0.out.trans (hbq.mono HB0.out.size)
                have cM := spec_mark s (q : Int) wq hmx
                rw [cl_nat _ _ hqs] at cM
                obtain ⟨mk, hmk⟩ : ∃ mk, markN s q = mk := ⟨_, rfl⟩
                have HMK : Hid (markN s q = mk) := hmk
                rw [hmk] at cM
                clear hmk
                by_cases hm0 : 0 < mk
                · have hm0' : (0 : Int) < (mk : Int) := by omega
                  have HM0 : Hid (0 < markN s q) := by show 0 < markN s q; rw [HMK.out]; exact hm0
                  clear hm0
                  go_wp2_with fail
                  refine cM.mono ?_
                  rintro e9 wq ⟨rfl, rfl⟩
                  clear cM
                  have HRES : Hid (R = (en, l)) := by
                    show R = (en, l)
                    rw [← HG.out]
                    exact pa_stop2 (HSQ.out) (.inl HM0.out)
                  clear HG
                  have HT : Hid (foldFlow l = T ∧ (en : Int) = (E : Int)) := by
                    have ER := HRES.out
                    exact ⟨by rw [← HT0.out, ER], by rw [← HE0.out, ER]⟩
                  have cF := spec_foldFlow wq (.slice l0 l1 l2) l (slc_row HROWQ.out) (by have := HTOT.out; omega)
                  rw [HT.out.1] at cF
                  have HBX : Hid (Below w.heap.size w wq) := HBQ.out
                  clear HRES HT0 HE0
                  go_wp2_with fail
                  refine cF.mono ?_
                  rintro e9 w9 ⟨rfl, hb9⟩
                  have hB9 : Below w.heap.size w w9 := HBX.out.trans (hb9.mono HBX.out.size)
                  clear cF hb9
                  go_wp2_with fail
                  go_ret3
                  rw [HT.out.2]
                  exact ⟨rfl, hB9⟩
                · have hm0' : ¬ (0 : Int) < (mk : Int) := by omega
                  have HM0 : Hid (¬ 0 < markN s q) := by show ¬ 0 < markN s q; rw [HMK.out]; exact hm0
                  clear hm0
                  go_wp2_with fail
                  refine cM.mono ?_
                  rintro e9 wq ⟨rfl, rfl⟩
                  clear cM
                  have HQ2 : Hid (¬ (0 < markN s q ∨ (true = false ∧ (ind s q : Int) ≤ n))) := fun h => h.elim HM0.out (fun h => by cases h.1)
                  have cW2 := spec_white_nat s q (wh s q) wq hmx hqs rfl
                  obtain ⟨q2, hq2⟩ : ∃ q2, wh s q = q2 := ⟨_, rfl⟩
                  have HW2 : Hid (wh s q = q2) := hq2
                  have hqq2 : q ≤ q2 := by rw [← hq2]; exact wh_ge s q
                  have hq2s : q2 ≤ s.size := by rw [← hq2]; exact wh_le s q hqs
                  rw [hq2] at cW2
                  clear hq2
                  go_wp2_with fail
                  refine cW2.mono ?_
                  rintro e9 wq ⟨rfl, rfl⟩
                  clear cW2
                  by_cases hl2 : q2 < s.size
                  · have hl2' : ¬ (s.size : Int) ≤ (q2 : Int) := by omega
                    by_cases c10 : (s[q2]'hl2).toNat = 10
                    · have c10' : (((s[q2]'hl2).toNat : Int) == 10) = true := by rw [c10]; rfl
                      have HC : Hid (bt s (wh s q) = 10) := by show bt s (wh s q) = 10; rw [HW2.out, ← bt_get s q2 hl2]; exact c10
                      clear c10
                      have HRES : Hid (R = (en, l)) := by
                        show R = (en, l)
                        rw [← HG.out]
                        exact pa_stop3 HSQ.out (.inr (.inl HC.out))
                      clear HG
                      have HT : Hid (foldFlow l = T ∧ (en : Int) = (E : Int)) := by
                        have ER := HRES.out
                        exact ⟨by rw [← HT0.out, ER], by rw [← HE0.out, ER]⟩
                      have cF := spec_foldFlow wq (.slice l0 l1 l2) l (slc_row HROWQ.out) (by have := HTOT.out; omega)
                      rw [HT.out.1] at cF
                      have HBX : Hid (Below w.heap.size w wq) := HBQ.out
                      clear HRES HT0 HE0
                      go_wp2_with fail
                      refine cF.mono ?_
                      rintro e9 w9 ⟨rfl, hb9⟩
                      have hB9 : Below w.heap.size w w9 := HBX.out.trans (hb9.mono HBX.out.size)
                      clear cF hb9
                      go_wp2_with fail
                      go_ret3
                      rw [HT.out.2]
                      exact ⟨rfl, hB9⟩
                    · have c10' : (((s[q2]'hl2).toNat : Int) == 10) = false := by rw [beq_eq_false_iff_ne]; omega
                      have HC10 : Hid (bt s (wh s q) ≠ 10) := by show bt s (wh s q) ≠ 10; rw [HW2.out, ← bt_get s q2 hl2]; exact c10
                      clear c10
                      by_cases c35 : (s[q2]'hl2).toNat = 35
                      · have c35' : (((s[q2]'hl2).toNat : Int) == 35) = true := by rw [c35]; rfl
                        have HC : Hid (bt s (wh s q) = 35) := by show bt s (wh s q) = 35; rw [HW2.out, ← bt_get s q2 hl2]; exact c35
                        clear c35
                        have HRES : Hid (R = (en, l)) := by
                          show R = (en, l)
                          rw [← HG.out]
                          exact pa_stop3 HSQ.out (.inr (.inr (.inl HC.out)))
                        clear HG
                        have HT : Hid (foldFlow l = T ∧ (en : Int) = (E : Int)) := by
                          have ER := HRES.out
                          exact ⟨by rw [← HT0.out, ER], by rw [← HE0.out, ER]⟩
                        have cF := spec_foldFlow wq (.slice l0 l1 l2) l (slc_row HROWQ.out) (by have := HTOT.out; omega)
                        rw [HT.out.1] at cF
                        have HBX : Hid (Below w.heap.size w wq) := HBQ.out
                        clear HRES HT0 HE0
                        go_wp2_with fail
                        refine cF.mono ?_
                        rintro e9 w9 ⟨rfl, hb9⟩
                        have hB9 : Below w.heap.size w w9 := HBX.out.trans (hb9.mono HBX.out.size)
                        clear cF hb9
                        go_wp2_with fail
                        go_ret3
                        rw [HT.out.2]
                        exact ⟨rfl, hB9⟩
                      · have c35' : (((s[q2]'hl2).toNat : Int) == 35) = false := by rw [beq_eq_false_iff_ne]; omega
                        have HC35 : Hid (bt s (wh s q) ≠ 35) := by show bt s (wh s q) ≠ 35; rw [HW2.out, ← bt_get s q2 hl2]; exact c35
                        clear c35
                        have cX := spec_plainEnd s (q2 : Int) true wq hmx _ rfl
                        rw [cl_nat _ _ hq2s] at cX
                        have hxg := plE_ge s q2 true
                        have hxs := plE_le s q2 true hq2s
                        obtain ⟨x, hx⟩ : ∃ x, plE s q2 true = x := ⟨_, rfl⟩
                        have HX : Hid (plE s q2 true = x) := hx
                        rw [hx] at cX hxg hxs
                        clear hx
                        by_cases hxe : x = q2
                        · have hxe' : ((x : Int) == (q2 : Int)) = true := by rw [hxe]; simp
                          have HC : Hid (plE s (wh s q) true = wh s q) := by show plE s (wh s q) true = wh s q; rw [HW2.out, HX.out]; exact hxe
                          clear hxe
                          go_wp2_with fail
                          refine cX.mono ?_
                          rintro e9 wq ⟨rfl, rfl⟩
                          clear cX
                          have HRES : Hid (R = (en, l)) := by
                            show R = (en, l)
                            rw [← HG.out]
                            exact pa_stop3 HSQ.out (.inr (.inr (.inr HC.out)))
                          clear HG
                          have HT : Hid (foldFlow l = T ∧ (en : Int) = (E : Int)) := by
                            have ER := HRES.out
                            exact ⟨by rw [← HT0.out, ER], by rw [← HE0.out, ER]⟩
                          have cF := spec_foldFlow wq (.slice l0 l1 l2) l (slc_row HROWQ.out) (by have := HTOT.out; omega)
                          rw [HT.out.1] at cF
                          have HBX : Hid (Below w.heap.size w wq) := HBQ.out
                          clear HRES HT0 HE0
                          go_wp2_with fail
                          refine cF.mono ?_
                          rintro e9 w9 ⟨rfl, hb9⟩
                          have hB9 : Below w.heap.size w w9 := HBX.out.trans (hb9.mono HBX.out.size)
                          clear cF hb9
                          go_wp2_with fail
                          go_ret3
                          rw [HT.out.2]
                          exact ⟨rfl, hB9⟩
                        · have hxe' : ((x : Int) == (q2 : Int)) = false := by rw [beq_eq_false_iff_ne]; omega
                          have HC : Hid (plE s (wh s q) true ≠ wh s q) := by show plE s (wh s q) true ≠ wh s q; rw [HW2.out, HX.out]; exact hxe
                          have hxlt : q2 < x := by omega
                          clear hxe
                          have HP2 : Hid (¬ (s.size ≤ wh s q ∨ bt s (wh s q) = 10 ∨ bt s (wh s q) = 35 ∨ plE s (wh s q) true = wh s q)) := by
                            show ¬ _
                            rintro (h | h | h | h)
                            · rw [HW2.out] at h; omega
                            · exact HC10.out h
                            · exact HC35.out h
                            · exact HC.out h
                          have HG2 : Hid (paGo s n true (s.size + 1 - x) x (l ++ List.replicate m e0 ++ [(s.extract q2 x, false)]) = R) := by
                            have h := pa_next (n := n) (fl := true) (l := l) hes HSQ.out H1.out (by have h := HQ2.out; first | exact h | simpa using h) HP2.out
                            rw [HW2.out, HX.out, HG.out] at h
                            exact h.symm
                          have HTOT2 : Hid (totC (l ++ List.replicate m e0 ++ [(s.extract q2 x, false)]) + (l ++ List.replicate m e0 ++ [(s.extract q2 x, false)]).length ≤ x + 1) := by
                            have h := pa_tot (fl := true) HTOT.out (fun h => H1.out (.inl h)) HSQ.out (by rw [HW2.out]; exact hq2s)
                            rw [HW2.out, HX.out] at h
                            exact h
                          have hlen : l.length ≤ 2000000 := by have := HTOT.out; omega
                          have hrl : wq.drew.ownsRow w1.heap.size 55 2 (.slice l0 l1 l2) l.length (cellsC l) := row_same HROWQ.out (fun _ _ _ => rfl)
                          have hrm : wq.drew.ownsRow wo.heap.size 55 2 (.slice (some ⟨g, 0, none⟩) (List.replicate m e0).length gc) (List.replicate m e0).length (cellsC (List.replicate m e0)) := by
                            have h := HROWM.out
                            rw [List.length_replicate]
                            exact row_same h (fun _ _ _ => rfl)
                          have hmle : m ≤ 2000000 := by have := HMQ.out; omega
                          obtain ⟨⟨u1, wA, u2, wB, a1, a2, ⟨a30, a31, a32, rfl⟩, ⟨a40, a41, a42, rfl⟩, a5, a6⟩, ⟨v1, vA, v2, vB, b1, b2, ⟨b30, b31, b32, rfl⟩, ⟨b40, b41, b42, rfl⟩, b5, b6⟩⟩ := two_apps (x := s.extract q2 x) hrl hrm (by rw [List.length_replicate]; omega) (by show w1.heap.size ≤ wq.heap.size; exact HLO.out) 56
                          rw [List.length_replicate] at a1 b1
                          have e2 : (wq.drew.heap.size) = wq.heap.size := rfl
                          rw [e2] at b2
                          have RA : Hid (wB.ownsRow w1.heap.size 55 2 (.slice a40 a41 a42) (l ++ List.replicate m e0 ++ [(s.extract q2 x, false)]).length (cellsC (l ++ List.replicate m e0 ++ [(s.extract q2 x, false)]))) := a5
                          have RB : Hid (vB.ownsRow w1.heap.size 55 2 (.slice b40 b41 b42) (l ++ List.replicate m e0 ++ [(s.extract q2 x, false)]).length (cellsC (l ++ List.replicate m e0 ++ [(s.extract q2 x, false)]))) := b5
                          have BA : Below w1.heap.size w1 wB := HBW.out.trans ⟨a6.os, a6.tape, a6.output, a6.size, a6.block⟩
                          have BB : Below w1.heap.size w1 vB := HBW.out.trans ⟨b6.os, b6.tape, b6.output, b6.size, b6.block⟩
                          have hx1 : (q2 : Int) ≤ (x : Int) := by omega
                          have hx2 : (x : Int) ≤ (s.size : Int) := by omega
                          clear hrl hrm a5 a6 b5 b6 e2 HG HTOT HROWQ HROWM HROW HBQ hbq
                          go_wp2_with fail
                          refine cX.mono ?_
                          rintro e9 wq ⟨rfl, rfl⟩
                          go_wp2_with fail
                          refine cX.mono ?_
                          rintro e9 wq ⟨rfl, rfl⟩
                          clear cX
                          go_wp2_with fail
                          refine reg_pieces hx1 hx2 a1 a2 b1 b2 ?_ ?_
                          all_goals go_wp2_with fail
                          all_goals
                            go_roundw
                            case rel =>
                              go_light
                              first
                                | exact ⟨x, _, by go_num, ⟨_, _, _, rfl⟩, hxs, RA, HG2, HTOT2, BA⟩
                                | exact ⟨x, _, by go_num, ⟨_, _, _, rfl⟩, hxs, RB, HG2, HTOT2, BB⟩
                            case measure =>
                              go_light
                              have := HLT.out
                              simp [intOf]; omega
                  · have hl2' : (s.size : Int) ≤ (q2 : Int) := by omega
                    have HC : Hid (s.size ≤ wh s q) := by show s.size ≤ wh s q; rw [HW2.out]; omega
                    clear hl2
                    have HRES : Hid (R = (en, l)) := by
                      show R = (en, l)
                      rw [← HG.out]
                      exact pa_stop3 HSQ.out (.inl HC.out)
                    clear HG
                    have HT : Hid (foldFlow l = T ∧ (en : Int) = (E : Int)) := by
                      have ER := HRES.out
                      exact ⟨by rw [← HT0.out, ER], by rw [← HE0.out, ER]⟩
                    have cF := spec_foldFlow wq (.slice l0 l1 l2) l (slc_row HROWQ.out) (by have := HTOT.out; omega)
                    rw [HT.out.1] at cF
                    have HBX : Hid (Below w.heap.size w wq) := HBQ.out
                    clear HRES HT0 HE0
                    go_wp2_with fail
                    refine cF.mono ?_
                    rintro e9 w9 ⟨rfl, hb9⟩
                    have hB9 : Below w.heap.size w w9 := HBX.out.trans (hb9.mono HBX.out.size)
                    clear cF hb9
                    go_wp2_with fail
                    go_ret3
                    rw [HT.out.2]
                    exact ⟨rfl, hB9⟩
              | true =>
                rw [hlo] at cL
                have cE := spec_end_nat s q (endL s q) wq hmx hqs rfl
                have hge := endL_ge s q
                obtain ⟨y, hy⟩ : ∃ y, endL s q = y := ⟨_, rfl⟩
                have HY : Hid (endL s q = y) := hy
                rw [hy] at cE hge
                clear hy
                by_cases hyl : y < s.size
                · have hyl' : (y : Int) < (s.size : Int) := by omega
                  have HSK2 : Hid (skl s s.size (y + 1) (m + 1) = S) := by
                    show skl s s.size (y + 1) (m + 1) = S
                    rw [← HSK.out, skl_step (by omega) ⟨hl, hlo, by rw [HY.out]; exact hyl⟩, HY.out]
                  have hrow := HROWM.out
                  obtain ⟨v4, w4, hrun, hsl4, hown, hbel, hot4⟩ := push_own (P := Try.prog) Try.underlying56 infoC rfl (by decide) wq wo.heap.size _ _ _ hrow #[.string ByteArray.empty, .bool false] rfl (by intro u hu; simp at hu; rcases hu with rfl | rfl <;> rfl) (by have := HMQ.out; omega) (by omega) hbq.size 56
                  obtain ⟨g4, c4, rfl⟩ : ∃ g c, v4 = .slice (some ⟨g, 0, none⟩) (m + 1) c := by
                    rcases hown.2 with ⟨_, e⟩ | ⟨g', cap, cur, e, _⟩
                    · omega
                    · exact ⟨g', cap, e⟩
                  have HROW4 : Hid (w4.ownsRow wo.heap.size 55 2 (.slice (some ⟨g4, 0, none⟩) (m + 1) c4) (m + 1) (cellsC (List.replicate (m + 1) e0))) := by
                    show w4.ownsRow _ _ _ _ _ _
                    rw [List.replicate_succ', cellsC_snoc]
                    exact hown
                  have hb4 : Below wo.heap.size wo w4 := hbq.trans hbel
                  have HM4 : Hid (m + 1 + q0 < y + 1) := by have := HMQ.out; show m + 1 + q0 < y + 1; omega
                  have hyq : q0 < y + 1 := by omega
                  clear hot4 hsl4
                  clear hrow hown hbel HROWM hbq HSK HMQ hlo HLO HBW
                  go_wp2_with fail
                  refine cL.mono ?_
                  rintro e9 wq ⟨rfl, rfl⟩
                  clear cL
                  go_wp2_with fail
                  refine cE.mono ?_
                  rintro e9 wq ⟨rfl, rfl⟩
                  go_wp2_with (at_builtin; refine append_run rfl _ _ 56 rfl _ _ rfl rfl _ w4 hrun ?_)
                  have cE2 := spec_end_nat s q y w4 hmx hqs HY.out
                  refine cE2.mono ?_
                  rintro e9 w5 ⟨rfl, rfl⟩
                  clear cE cE2
                  go_wp2_with fail
                  go_roundw
                  case rel =>
                    go_light
                    exact ⟨m + 1, y + 1, g4, c4, by go_num, rfl, hyq, by omega, HM4, HROW4, hb4, HSK2⟩
                  case measure =>
                    go_light
                    simp [intOf]; omega
                · have hyl' : ¬ (y : Int) < (s.size : Int) := by omega
                  have HSQ : Hid (skl s s.size (wh s en + 1) 0 = (q, m)) := by
                    show skl s s.size (wh s en + 1) 0 = (q, m)
                    rw [HW0.out, HS.out, ← HSK.out]
                    exact skl_stop (fun h => by have h3 := h.2.2; rw [HY.out] at h3; exact hyl h3)
                  clear hlo HSK HS
                  go_wp2_with fail
                  refine cL.mono ?_
                  rintro e9 wq ⟨rfl, rfl⟩
                  clear cL
                  go_wp2_with fail
                  refine cE.mono ?_
                  rintro e9 wq ⟨rfl, rfl⟩
                  clear cE
                  have HROWQ : Hid (wq.ownsRow w1.heap.size 55 2 (.slice l0 l1 l2) l.length (cellsC l)) := row_same HROW.out (fun j _ hj => hbq.block j hj)
                  have HBQ : Hid (Below w.heap.size w wq) := HB0.out.trans (hbq.mono HB0.out.size)
                  have cM := spec_mark s (q : Int) wq hmx
                  rw [cl_nat _ _ hqs] at cM
                  obtain ⟨mk, hmk⟩ : ∃ mk, markN s q = mk := ⟨_, rfl⟩
                  have HMK : Hid (markN s q = mk) := hmk
                  rw [hmk] at cM
                  clear hmk
                  by_cases hm0 : 0 < mk
                  · have hm0' : (0 : Int) < (mk : Int) := by omega
                    have HM0 : Hid (0 < markN s q) := by show 0 < markN s q; rw [HMK.out]; exact hm0
                    clear hm0
                    go_wp2_with fail
                    refine cM.mono ?_
                    rintro e9 wq ⟨rfl, rfl⟩
                    clear cM
                    have HRES : Hid (R = (en, l)) := by
                      show R = (en, l)
                      rw [← HG.out]
                      exact pa_stop2 (HSQ.out) (.inl HM0.out)
                    clear HG
                    have HT : Hid (foldFlow l = T ∧ (en : Int) = (E : Int)) := by
                      have ER := HRES.out
                      exact ⟨by rw [← HT0.out, ER], by rw [← HE0.out, ER]⟩
                    have cF := spec_foldFlow wq (.slice l0 l1 l2) l (slc_row HROWQ.out) (by have := HTOT.out; omega)
                    rw [HT.out.1] at cF
                    have HBX : Hid (Below w.heap.size w wq) := HBQ.out
                    clear HRES HT0 HE0
                    go_wp2_with fail
                    refine cF.mono ?_
                    rintro e9 w9 ⟨rfl, hb9⟩
                    have hB9 : Below w.heap.size w w9 := HBX.out.trans (hb9.mono HBX.out.size)
                    clear cF hb9
                    go_wp2_with fail
                    go_ret3
                    rw [HT.out.2]
                    exact ⟨rfl, hB9⟩
                  · have hm0' : ¬ (0 : Int) < (mk : Int) := by omega
                    have HM0 : Hid (¬ 0 < markN s q) := by show ¬ 0 < markN s q; rw [HMK.out]; exact hm0
                    clear hm0
                    go_wp2_with fail
                    refine cM.mono ?_
                    rintro e9 wq ⟨rfl, rfl⟩
                    clear cM
                    have HQ2 : Hid (¬ (0 < markN s q ∨ (true = false ∧ (ind s q : Int) ≤ n))) := fun h => h.elim HM0.out (fun h => by cases h.1)
                    have cW2 := spec_white_nat s q (wh s q) wq hmx hqs rfl
                    obtain ⟨q2, hq2⟩ : ∃ q2, wh s q = q2 := ⟨_, rfl⟩
                    have HW2 : Hid (wh s q = q2) := hq2
                    have hqq2 : q ≤ q2 := by rw [← hq2]; exact wh_ge s q
                    have hq2s : q2 ≤ s.size := by rw [← hq2]; exact wh_le s q hqs
                    rw [hq2] at cW2
                    clear hq2
                    go_wp2_with fail
                    refine cW2.mono ?_
                    rintro e9 wq ⟨rfl, rfl⟩
                    clear cW2
                    by_cases hl2 : q2 < s.size
                    · have hl2' : ¬ (s.size : Int) ≤ (q2 : Int) := by omega
                      by_cases c10 : (s[q2]'hl2).toNat = 10
                      · have c10' : (((s[q2]'hl2).toNat : Int) == 10) = true := by rw [c10]; rfl
                        have HC : Hid (bt s (wh s q) = 10) := by show bt s (wh s q) = 10; rw [HW2.out, ← bt_get s q2 hl2]; exact c10
                        clear c10
                        have HRES : Hid (R = (en, l)) := by
                          show R = (en, l)
                          rw [← HG.out]
                          exact pa_stop3 HSQ.out (.inr (.inl HC.out))
                        clear HG
                        have HT : Hid (foldFlow l = T ∧ (en : Int) = (E : Int)) := by
                          have ER := HRES.out
                          exact ⟨by rw [← HT0.out, ER], by rw [← HE0.out, ER]⟩
                        have cF := spec_foldFlow wq (.slice l0 l1 l2) l (slc_row HROWQ.out) (by have := HTOT.out; omega)
                        rw [HT.out.1] at cF
                        have HBX : Hid (Below w.heap.size w wq) := HBQ.out
                        clear HRES HT0 HE0
                        go_wp2_with fail
                        refine cF.mono ?_
                        rintro e9 w9 ⟨rfl, hb9⟩
                        have hB9 : Below w.heap.size w w9 := HBX.out.trans (hb9.mono HBX.out.size)
                        clear cF hb9
                        go_wp2_with fail
                        go_ret3
                        rw [HT.out.2]
                        exact ⟨rfl, hB9⟩
                      · have c10' : (((s[q2]'hl2).toNat : Int) == 10) = false := by rw [beq_eq_false_iff_ne]; omega
                        have HC10 : Hid (bt s (wh s q) ≠ 10) := by show bt s (wh s q) ≠ 10; rw [HW2.out, ← bt_get s q2 hl2]; exact c10
                        clear c10
                        by_cases c35 : (s[q2]'hl2).toNat = 35
                        · have c35' : (((s[q2]'hl2).toNat : Int) == 35) = true := by rw [c35]; rfl
                          have HC : Hid (bt s (wh s q) = 35) := by show bt s (wh s q) = 35; rw [HW2.out, ← bt_get s q2 hl2]; exact c35
                          clear c35
                          have HRES : Hid (R = (en, l)) := by
                            show R = (en, l)
                            rw [← HG.out]
                            exact pa_stop3 HSQ.out (.inr (.inr (.inl HC.out)))
                          clear HG
                          have HT : Hid (foldFlow l = T ∧ (en : Int) = (E : Int)) := by
                            have ER := HRES.out
                            exact ⟨by rw [← HT0.out, ER], by rw [← HE0.out, ER]⟩
                          have cF := spec_foldFlow wq (.slice l0 l1 l2) l (slc_row HROWQ.out) (by have := HTOT.out; omega)
                          rw [HT.out.1] at cF
                          have HBX : Hid (Below w.heap.size w wq) := HBQ.out
                          clear HRES HT0 HE0
                          go_wp2_with fail
                          refine cF.mono ?_
                          rintro e9 w9 ⟨rfl, hb9⟩
                          have hB9 : Below w.heap.size w w9 := HBX.out.trans (hb9.mono HBX.out.size)
                          clear cF hb9
                          go_wp2_with fail
                          go_ret3
                          rw [HT.out.2]
                          exact ⟨rfl, hB9⟩
                        · have c35' : (((s[q2]'hl2).toNat : Int) == 35) = false := by rw [beq_eq_false_iff_ne]; omega
                          have HC35 : Hid (bt s (wh s q) ≠ 35) := by show bt s (wh s q) ≠ 35; rw [HW2.out, ← bt_get s q2 hl2]; exact c35
                          clear c35
                          have cX := spec_plainEnd s (q2 : Int) true wq hmx _ rfl
                          rw [cl_nat _ _ hq2s] at cX
                          have hxg := plE_ge s q2 true
                          have hxs := plE_le s q2 true hq2s
                          obtain ⟨x, hx⟩ : ∃ x, plE s q2 true = x := ⟨_, rfl⟩
                          have HX : Hid (plE s q2 true = x) := hx
                          rw [hx] at cX hxg hxs
                          clear hx
                          by_cases hxe : x = q2
                          · have hxe' : ((x : Int) == (q2 : Int)) = true := by rw [hxe]; simp
                            have HC : Hid (plE s (wh s q) true = wh s q) := by show plE s (wh s q) true = wh s q; rw [HW2.out, HX.out]; exact hxe
                            clear hxe
                            go_wp2_with fail
                            refine cX.mono ?_
                            rintro e9 wq ⟨rfl, rfl⟩
                            clear cX
                            have HRES : Hid (R = (en, l)) := by
                              show R = (en, l)
                              rw [← HG.out]
                              exact pa_stop3 HSQ.out (.inr (.inr (.inr HC.out)))
                            clear HG
                            have HT : Hid (foldFlow l = T ∧ (en : Int) = (E : Int)) := by
                              have ER := HRES.out
                              exact ⟨by rw [← HT0.out, ER], by rw [← HE0.out, ER]⟩
                            have cF := spec_foldFlow wq (.slice l0 l1 l2) l (slc_row HROWQ.out) (by have := HTOT.out; omega)
                            rw [HT.out.1] at cF
                            have HBX : Hid (Below w.heap.size w wq) := HBQ.out
                            clear HRES HT0 HE0
                            go_wp2_with fail
                            refine cF.mono ?_
                            rintro e9 w9 ⟨rfl, hb9⟩
                            have hB9 : Below w.heap.size w w9 := HBX.out.trans (hb9.mono HBX.out.size)
                            clear cF hb9
                            go_wp2_with fail
                            go_ret3
                            rw [HT.out.2]
                            exact ⟨rfl, hB9⟩
                          · have hxe' : ((x : Int) == (q2 : Int)) = false := by rw [beq_eq_false_iff_ne]; omega
                            have HC : Hid (plE s (wh s q) true ≠ wh s q) := by show plE s (wh s q) true ≠ wh s q; rw [HW2.out, HX.out]; exact hxe
                            have hxlt : q2 < x := by omega
                            clear hxe
                            have HP2 : Hid (¬ (s.size ≤ wh s q ∨ bt s (wh s q) = 10 ∨ bt s (wh s q) = 35 ∨ plE s (wh s q) true = wh s q)) := by
                              show ¬ _
                              rintro (h | h | h | h)
                              · rw [HW2.out] at h; omega
                              · exact HC10.out h
                              · exact HC35.out h
                              · exact HC.out h
                            have HG2 : Hid (paGo s n true (s.size + 1 - x) x (l ++ List.replicate m e0 ++ [(s.extract q2 x, false)]) = R) := by
                              have h := pa_next (n := n) (fl := true) (l := l) hes HSQ.out H1.out (by have h := HQ2.out; first | exact h | simpa using h) HP2.out
                              rw [HW2.out, HX.out, HG.out] at h
                              exact h.symm
                            have HTOT2 : Hid (totC (l ++ List.replicate m e0 ++ [(s.extract q2 x, false)]) + (l ++ List.replicate m e0 ++ [(s.extract q2 x, false)]).length ≤ x + 1) := by
                              have h := pa_tot (fl := true) HTOT.out (fun h => H1.out (.inl h)) HSQ.out (by rw [HW2.out]; exact hq2s)
                              rw [HW2.out, HX.out] at h
                              exact h
                            have hlen : l.length ≤ 2000000 := by have := HTOT.out; omega
                            have hrl : wq.drew.ownsRow w1.heap.size 55 2 (.slice l0 l1 l2) l.length (cellsC l) := row_same HROWQ.out (fun _ _ _ => rfl)
                            have hrm : wq.drew.ownsRow wo.heap.size 55 2 (.slice (some ⟨g, 0, none⟩) (List.replicate m e0).length gc) (List.replicate m e0).length (cellsC (List.replicate m e0)) := by
                              have h := HROWM.out
                              rw [List.length_replicate]
                              exact row_same h (fun _ _ _ => rfl)
                            have hmle : m ≤ 2000000 := by have := HMQ.out; omega
                            obtain ⟨⟨u1, wA, u2, wB, a1, a2, ⟨a30, a31, a32, rfl⟩, ⟨a40, a41, a42, rfl⟩, a5, a6⟩, ⟨v1, vA, v2, vB, b1, b2, ⟨b30, b31, b32, rfl⟩, ⟨b40, b41, b42, rfl⟩, b5, b6⟩⟩ := two_apps (x := s.extract q2 x) hrl hrm (by rw [List.length_replicate]; omega) (by show w1.heap.size ≤ wq.heap.size; exact HLO.out) 56
                            rw [List.length_replicate] at a1 b1
                            have e2 : (wq.drew.heap.size) = wq.heap.size := rfl
                            rw [e2] at b2
                            have RA : Hid (wB.ownsRow w1.heap.size 55 2 (.slice a40 a41 a42) (l ++ List.replicate m e0 ++ [(s.extract q2 x, false)]).length (cellsC (l ++ List.replicate m e0 ++ [(s.extract q2 x, false)]))) := a5
                            have RB : Hid (vB.ownsRow w1.heap.size 55 2 (.slice b40 b41 b42) (l ++ List.replicate m e0 ++ [(s.extract q2 x, false)]).length (cellsC (l ++ List.replicate m e0 ++ [(s.extract q2 x, false)]))) := b5
                            have BA : Below w1.heap.size w1 wB := HBW.out.trans ⟨a6.os, a6.tape, a6.output, a6.size, a6.block⟩
                            have BB : Below w1.heap.size w1 vB := HBW.out.trans ⟨b6.os, b6.tape, b6.output, b6.size, b6.block⟩
                            have hx1 : (q2 : Int) ≤ (x : Int) := by omega
                            have hx2 : (x : Int) ≤ (s.size : Int) := by omega
                            clear hrl hrm a5 a6 b5 b6 e2 HG HTOT HROWQ HROWM HROW HBQ hbq
                            go_wp2_with fail
                            refine cX.mono ?_
                            rintro e9 wq ⟨rfl, rfl⟩
                            go_wp2_with fail
                            refine cX.mono ?_
                            rintro e9 wq ⟨rfl, rfl⟩
                            clear cX
                            go_wp2_with fail
                            refine reg_pieces hx1 hx2 a1 a2 b1 b2 ?_ ?_
                            all_goals go_wp2_with fail
                            all_goals
                              go_roundw
                              case rel =>
                                go_light
                                first
                                  | exact ⟨x, _, by go_num, ⟨_, _, _, rfl⟩, hxs, RA, HG2, HTOT2, BA⟩
                                  | exact ⟨x, _, by go_num, ⟨_, _, _, rfl⟩, hxs, RB, HG2, HTOT2, BB⟩
                              case measure =>
                                go_light
                                have := HLT.out
                                simp [intOf]; omega
                    · have hl2' : (s.size : Int) ≤ (q2 : Int) := by omega
                      have HC : Hid (s.size ≤ wh s q) := by show s.size ≤ wh s q; rw [HW2.out]; omega
                      clear hl2
                      have HRES : Hid (R = (en, l)) := by
                        show R = (en, l)
                        rw [← HG.out]
                        exact pa_stop3 HSQ.out (.inl HC.out)
                      clear HG
                      have HT : Hid (foldFlow l = T ∧ (en : Int) = (E : Int)) := by
                        have ER := HRES.out
                        exact ⟨by rw [← HT0.out, ER], by rw [← HE0.out, ER]⟩
                      have cF := spec_foldFlow wq (.slice l0 l1 l2) l (slc_row HROWQ.out) (by have := HTOT.out; omega)
                      rw [HT.out.1] at cF
                      have HBX : Hid (Below w.heap.size w wq) := HBQ.out
                      clear HRES HT0 HE0
                      go_wp2_with fail
                      refine cF.mono ?_
                      rintro e9 w9 ⟨rfl, hb9⟩
                      have hB9 : Below w.heap.size w w9 := HBX.out.trans (hb9.mono HBX.out.size)
                      clear cF hb9
                      go_wp2_with fail
                      go_ret3
                      rw [HT.out.2]
                      exact ⟨rfl, hB9⟩
            · have hl' : ¬ (q : Int) < (s.size : Int) := by omega
              have HSQ : Hid (skl s s.size (wh s en + 1) 0 = (q, m)) := by
                show skl s s.size (wh s en + 1) 0 = (q, m)
                rw [HW0.out, HS.out, ← HSK.out]
                exact skl_stop (fun h => hl h.1)
              clear HSK HS
              have HROWQ : Hid (wq.ownsRow w1.heap.size 55 2 (.slice l0 l1 l2) l.length (cellsC l)) := row_same HROW.out (fun j _ hj => hbq.block j hj)
              have HBQ : Hid (Below w.heap.size w wq) := HB0.out.trans (hbq.mono HB0.out.size)
              have cM := spec_mark s (q : Int) wq hmx
              rw [cl_nat _ _ hqs] at cM
              obtain ⟨mk, hmk⟩ : ∃ mk, markN s q = mk := ⟨_, rfl⟩
              have HMK : Hid (markN s q = mk) := hmk
              rw [hmk] at cM
              clear hmk
              by_cases hm0 : 0 < mk
              · have hm0' : (0 : Int) < (mk : Int) := by omega
                have HM0 : Hid (0 < markN s q) := by show 0 < markN s q; rw [HMK.out]; exact hm0
                clear hm0
                go_wp2_with fail
                refine cM.mono ?_
                rintro e9 wq ⟨rfl, rfl⟩
                clear cM
                have HRES : Hid (R = (en, l)) := by
                  show R = (en, l)
                  rw [← HG.out]
                  exact pa_stop2 (HSQ.out) (.inl HM0.out)
                clear HG
                have HT : Hid (foldFlow l = T ∧ (en : Int) = (E : Int)) := by
                  have ER := HRES.out
                  exact ⟨by rw [← HT0.out, ER], by rw [← HE0.out, ER]⟩
                have cF := spec_foldFlow wq (.slice l0 l1 l2) l (slc_row HROWQ.out) (by have := HTOT.out; omega)
                rw [HT.out.1] at cF
                have HBX : Hid (Below w.heap.size w wq) := HBQ.out
                clear HRES HT0 HE0
                go_wp2_with fail
                refine cF.mono ?_
                rintro e9 w9 ⟨rfl, hb9⟩
                have hB9 : Below w.heap.size w w9 := HBX.out.trans (hb9.mono HBX.out.size)
                clear cF hb9
                go_wp2_with fail
                go_ret3
                rw [HT.out.2]
                exact ⟨rfl, hB9⟩
              · have hm0' : ¬ (0 : Int) < (mk : Int) := by omega
                have HM0 : Hid (¬ 0 < markN s q) := by show ¬ 0 < markN s q; rw [HMK.out]; exact hm0
                clear hm0
                go_wp2_with fail
                refine cM.mono ?_
                rintro e9 wq ⟨rfl, rfl⟩
                clear cM
                have HQ2 : Hid (¬ (0 < markN s q ∨ (true = false ∧ (ind s q : Int) ≤ n))) := fun h => h.elim HM0.out (fun h => by cases h.1)
                have cW2 := spec_white_nat s q (wh s q) wq hmx hqs rfl
                obtain ⟨q2, hq2⟩ : ∃ q2, wh s q = q2 := ⟨_, rfl⟩
                have HW2 : Hid (wh s q = q2) := hq2
                have hqq2 : q ≤ q2 := by rw [← hq2]; exact wh_ge s q
                have hq2s : q2 ≤ s.size := by rw [← hq2]; exact wh_le s q hqs
                rw [hq2] at cW2
                clear hq2
                go_wp2_with fail
                refine cW2.mono ?_
                rintro e9 wq ⟨rfl, rfl⟩
                clear cW2
                by_cases hl2 : q2 < s.size
                · exfalso; omega
                · have hl2' : (s.size : Int) ≤ (q2 : Int) := by omega
                  have HC : Hid (s.size ≤ wh s q) := by show s.size ≤ wh s q; rw [HW2.out]; omega
                  clear hl2
                  have HRES : Hid (R = (en, l)) := by
                    show R = (en, l)
                    rw [← HG.out]
                    exact pa_stop3 HSQ.out (.inl HC.out)
                  clear HG
                  have HT : Hid (foldFlow l = T ∧ (en : Int) = (E : Int)) := by
                    have ER := HRES.out
                    exact ⟨by rw [← HT0.out, ER], by rw [← HE0.out, ER]⟩
                  have cF := spec_foldFlow wq (.slice l0 l1 l2) l (slc_row HROWQ.out) (by have := HTOT.out; omega)
                  rw [HT.out.1] at cF
                  have HBX : Hid (Below w.heap.size w wq) := HBQ.out
                  clear HRES HT0 HE0
                  go_wp2_with fail
                  refine cF.mono ?_
                  rintro e9 w9 ⟨rfl, hb9⟩
                  have hB9 : Below w.heap.size w w9 := HBX.out.trans (hb9.mono HBX.out.size)
                  clear cF hb9
                  go_wp2_with fail
                  go_ret3
                  rw [HT.out.2]
                  exact ⟨rfl, hB9⟩
        · have c10' : (((s[q0]'hl0).toNat : Int) != 10) = true := by rw [bne_iff_ne]; omega
          have HC : Hid (bt s (wh s en) ≠ 10) := by show bt s (wh s en) ≠ 10; rw [HW0.out, ← bt_get s q0 hl0]; exact c10
          clear c10
          have HRES : Hid (R = (en, l)) := by
            show R = (en, l)
            rw [← HG.out]
            exact pa_stop1 (.inr HC.out)
          clear HG
          have HT : Hid (foldFlow l = T ∧ (en : Int) = (E : Int)) := by
            have ER := HRES.out
            exact ⟨by rw [← HT0.out, ER], by rw [← HE0.out, ER]⟩
          have cF := spec_foldFlow (wo.alloc (.cells #[] 55)) (.slice l0 l1 l2) l (slc_row HROWE.out) (by have := HTOT.out; omega)
          rw [HT.out.1] at cF
          have HBX : Hid (Below w.heap.size w (wo.alloc (.cells #[] 55))) := HBE.out
          clear HRES HT0 HE0
          go_wp2_with fail
          refine cF.mono ?_
          rintro e9 w9 ⟨rfl, hb9⟩
          have hB9 : Below w.heap.size w w9 := HBX.out.trans (hb9.mono HBX.out.size)
          clear cF hb9
          go_wp2_with fail
          go_ret3
          rw [HT.out.2]
          exact ⟨rfl, hB9⟩
      · have hl0' : (s.size : Int) ≤ (q0 : Int) := by omega
        have HC : Hid (s.size ≤ wh s en) := by show s.size ≤ wh s en; rw [HW0.out]; omega
        clear hl0
        have HRES : Hid (R = (en, l)) := by
          show R = (en, l)
          rw [← HG.out]
          exact pa_stop1 (.inl HC.out)
        clear HG
        have HT : Hid (foldFlow l = T ∧ (en : Int) = (E : Int)) := by
          have ER := HRES.out
          exact ⟨by rw [← HT0.out, ER], by rw [← HE0.out, ER]⟩
        have cF := spec_foldFlow (wo.alloc (.cells #[] 55)) (.slice l0 l1 l2) l (slc_row HROWE.out) (by have := HTOT.out; omega)
        rw [HT.out.1] at cF
        have HBX : Hid (Below w.heap.size w (wo.alloc (.cells #[] 55))) := HBE.out
        clear HRES HT0 HE0
        go_wp2_with fail
        refine cF.mono ?_
        rintro e9 w9 ⟨rfl, hb9⟩
        have hB9 : Below w.heap.size w w9 := HBX.out.trans (hb9.mono HBX.out.size)
        clear cF hb9
        go_wp2_with fail
        go_ret3
        rw [HT.out.2]
        exact ⟨rfl, hB9⟩
end Go.Proofs.Ythlainjkpeioeaj
