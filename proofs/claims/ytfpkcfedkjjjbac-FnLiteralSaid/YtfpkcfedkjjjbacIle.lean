/- The contract of impl.depthOf. -/
import Derived.Test.YtfpkcfedkjjjbacIld
import Derived.Laws.Rows
namespace Go.Proofs.Ytfpkcfedkjjjbac
open Go.ChangeShapes Go.WideShapes Go.ChangeAt Go.RowKit Go.Shelf
/-- Over lines that are white alone, as impl goes. -/
def dqGo (s : ByteArray) : Nat → Nat → Nat
  | 0, p => p
  | f + 1, p => if p < s.size ∧ lone s p = true then dqGo s f (nx s p) else p
theorem dq_step {s : ByteArray} {f p : Nat} (h : p < s.size ∧ lone s p = true) : dqGo s (f + 1) p = dqGo s f (nx s p) := by rw [dqGo, if_pos h]
theorem dq_stop {s : ByteArray} {f p : Nat} (h : ¬ (p < s.size ∧ lone s p = true)) : dqGo s f p = p := by
  cases f with
  | zero => rfl
  | succ f => rw [dqGo, if_neg h]
def dqR (s : ByteArray) (n : Int) (p : Nat) : Nat × Nat := if p < s.size ∧ markN s p = 0 ∧ n < (ind s p : Int) then (ind s p, p) else (60000, s.size)
/-- The depth: its column, and the place from which on lines are taken. -/
def dpI (s : ByteArray) (q : Nat) (n : Int) (g : Nat) : Nat × Nat := if 0 < g then (dgC n g, q) else dqR s n (dqGo s (s.size + 1) q)
theorem ret_dp {a b c d : Int} (h : a = c) (h' : b = d) : Ending.returned (.agg #[.int .i64 a, .int .i64 b]) = .returned (.agg #[.int .i64 c, .int .i64 d]) := by rw [h, h']
set_option maxHeartbeats 4000000 in
theorem depthOf_any (s : ByteArray) (q : Nat) (n : Int) (g : Nat) (w : World) (hs : s.size ≤ mx) (hq : q ≤ s.size) (hg : g ≤ 9) (C F : Nat) (hr : dpI s q n g = (C, F)) :
    Calls Try.prog 21 #[.string s, .int .i64 (q : Int), .int .i64 n, .int .i64 (g : Int)] w fun e w' => e = .returned (.agg #[.int .i64 (C : Int), .int .i64 (F : Int)]) ∧ Below w.heap.size w w' := by
  by_cases hgp : 0 < g
  · have hg' : (0 : Int) < (g : Int) := by omega
    have cD : Hid (∀ w, Calls Try.prog 43 #[.int .i64 n, .int .i64 (g : Int)] w fun e w' => e = .returned (.int .i64 (dgC n g : Int)) ∧ w' = w) := fun w => digitCol_any n g w hg
    have HO : Hid ((dgC n g, q) = (C, F)) := by
      show _ = _
      rw [← hr]; unfold dpI; rw [if_pos hgp]
    generalize dgC n g = X at *
    clear hr hgp hg hs
    go_enter Try.func21, Try.ntmps21
    go_wp2_with fail
    refine (cD.out _).mono ?_
    rintro e w1 ⟨rfl, rfl⟩
    clear cD
    go_wp2_with fail
    try simp only [Exit.inBlock, Exit.then]
    refine bodyPost_ret (results_cell_row rfl _ _ w.heap.size 53 _ (0, 0) _ rfl (heap_alloc_new w _) Try.underlying53 rfl (by kernel_rfl)) rfl ?_
    have e0 := HO.out
    injection e0 with e1 e2
    subst e1
    subst e2
    exact ⟨rfl, (Below.refl _ w).alloc (Nat.le_refl _) _⟩
  · have hg' : ¬ (0 : Int) < (g : Int) := by omega
    obtain ⟨P, hP⟩ : ∃ P, dqGo s (s.size + 1) q = P := ⟨_, rfl⟩
    have HP : Hid (dqGo s (s.size + 1) q = P) := hP
    have HO : Hid (dqR s n P = (C, F)) := by
      show _ = _
      rw [← hr]; unfold dpI; rw [if_neg hgp, hP]
    have HS : Hid (s.size ≤ mx) := hs
    have hs' := hs
    unfold mx at hs'
    clear hr hgp hg hP hs
    go_enter Try.func21, Try.ntmps21
    go_wp2_with fail
    go_loopw [1] (fun qv wr => ∃ (k f : Nat), qv = .int .i64 (k : Int) ∧ k ≤ s.size ∧ Hid (s.size < f + k) ∧ Hid (dqGo s f k = P) ∧ Hid (Below (dpV w (.int .i64 0) (.int .i64 0)).heap.size (dpV w (.int .i64 0) (.int .i64 0)) wr)) (fun qv _ => s.size + 1 - (intOf qv).toNat)
    case atStart => exact ⟨q, s.size + 1, rfl, hq, by show s.size < s.size + 1 + q; omega, HP, Below.refl _ _⟩
    case round =>
      obtain ⟨k, f, rfl, hk, HF, HG, HB⟩ := hrel
      by_cases hl : k < s.size
      · have hl' : (k : Int) < (s.size : Int) := by omega
        cases hlo : lone s k with
        | true =>
          have cL := lone_natI s k true wr HS.out hk hlo
          obtain ⟨f, rfl⟩ : ∃ f', f = f' + 1 := ⟨f - 1, by have := HF.out; omega⟩
          have HG2 : Hid (dqGo s f (nx s k) = P) := by
            show _ = P
            rw [← HG.out, dq_step ⟨hl, hlo⟩]
          have h1 := nx_gt s k hl
          have h2 := nx_le s k hk
          have cN : Hid (∀ w, Calls Try.prog 20 #[.string s, .int .i64 (k : Int)] w fun e w' => e = .returned (.int .i64 (nx s k : Nat)) ∧ Below w.heap.size w w') := fun w => next_any s k _ w HS.out hk rfl
          obtain ⟨z, hz⟩ : ∃ z, nx s k = z := ⟨_, rfl⟩
          rw [hz] at cN HG2 h1 h2
          have HF2 : Hid (s.size < f + z) := by have := HF.out; show s.size < f + z; omega
          clear hlo hz HG HF
          go_wp2_with fail
          refine cL.mono ?_
          rintro e w1 ⟨rfl, hb1⟩
          clear cL
          replace HB : Hid (Below (dpV w (.int .i64 0) (.int .i64 0)).heap.size (dpV w (.int .i64 0) (.int .i64 0)) w1) := HB.out.trans (hb1.mono HB.out.size)
          clear hb1
          go_wp2_with fail
          refine (cN.out w1).mono ?_
          rintro e w2 ⟨rfl, hb1⟩
          clear cN
          replace HB : Hid (Below (dpV w (.int .i64 0) (.int .i64 0)).heap.size (dpV w (.int .i64 0) (.int .i64 0)) w2) := HB.out.trans (hb1.mono HB.out.size)
          clear hb1
          go_wp2_with fail
          go_roundw
          case rel => exact ⟨z, f, by go_num, h2, HF2, HG2, HB⟩
          case measure => simp [intOf]; omega
        | false =>
          have cL := lone_natI s k false wr HS.out hk hlo
          have hPk : k = P := by rw [← HG.out, dq_stop (by rw [hlo]; simp)]
          have cM : Hid (∀ w, Calls Try.prog 45 #[.string s, .int .i64 (k : Int)] w fun e w' => e = .returned (.int .i64 (markN s k : Nat)) ∧ Below w.heap.size w w') := fun w => mark_natI s k _ w HS.out hk rfl
          have cI : Hid (∀ w, Calls Try.prog 46 #[.string s, .int .i64 (k : Int)] w fun e w' => e = .returned (.int .i64 (ind s k : Nat)) ∧ Below w.heap.size w w') := fun w => indent_natI s k _ w HS.out hk rfl
          have HO2 : Hid ((if k < s.size ∧ markN s k = 0 ∧ n < (ind s k : Int) then (ind s k, k) else (60000, s.size)) = (C, F)) := by
            show _ = _
            rw [← HO.out, ← hPk]; rfl
          generalize markN s k = mk at *
          generalize ind s k = nd at *
          clear hlo HG HF HO HP hPk
          by_cases hm : mk = 0
          · have hm' : ((mk : Int) == 0) = true := by rw [hm]; rfl
            by_cases hn : n < (nd : Int)
            · have HO3 : Hid ((nd, k) = (C, F)) := by
                have h := HO2.out
                rw [if_pos ⟨hl, hm, hn⟩] at h
                exact h
              clear HO2 hm
              go_wp2_with fail
              refine cL.mono ?_
              rintro e w1 ⟨rfl, hb1⟩
              clear cL
              replace HB : Hid (Below (dpV w (.int .i64 0) (.int .i64 0)).heap.size (dpV w (.int .i64 0) (.int .i64 0)) w1) := HB.out.trans (hb1.mono HB.out.size)
              clear hb1
              go_wp2_with fail
              refine (cM.out w1).mono ?_
              rintro e w2 ⟨rfl, hb1⟩
              clear cM
              replace HB : Hid (Below (dpV w (.int .i64 0) (.int .i64 0)).heap.size (dpV w (.int .i64 0) (.int .i64 0)) w2) := HB.out.trans (hb1.mono HB.out.size)
              clear hb1
              go_wp2_with fail
              refine (cI.out w2).mono ?_
              rintro e w3 ⟨rfl, hb1⟩
              replace HB : Hid (Below (dpV w (.int .i64 0) (.int .i64 0)).heap.size (dpV w (.int .i64 0) (.int .i64 0)) w3) := HB.out.trans (hb1.mono HB.out.size)
              clear hb1
              go_wp2_with fail
              refine (cI.out w3).mono ?_
              rintro e w4 ⟨rfl, hb1⟩
              clear cI
              replace HB : Hid (Below (dpV w (.int .i64 0) (.int .i64 0)).heap.size (dpV w (.int .i64 0) (.int .i64 0)) w4) := HB.out.trans (hb1.mono HB.out.size)
              clear hb1
              have r0 := dpV_new HB.out
              have z0 := k2_0 r0
              have z1 := k2_1 r0
              have y0 := k2_f r0 0
              have y1 := k2_f r0 1
              have HR0 : Hid (w4.heap[w.heap.size]? = some (.cells #[.int .i64 0, .int .i64 0] 53 (0, 0))) := r0
              have HB' : Hid (Below w.heap.size w w4) := dpV_below HB.out
              clear r0 HB
              go_wp2_with fail
              have hF := k2_setAll HR0.out (.int .i64 (nd : Int)) (.int .i64 (k : Int))
              try simp only [Exit.inBlock, Exit.then]
              refine bodyPost_ret (results_cell_row rfl _ _ w.heap.size 53 _ (0, 0) _ rfl hF Try.underlying53 rfl (by kernel_rfl)) rfl ?_
              have e0 := HO3.out
              injection e0 with e1 e2
              subst e1
              subst e2
              exact ⟨rfl, (HB'.out.setCell (Nat.le_refl _) _).setCell (Nat.le_refl _) _⟩
            · have HO3 : Hid ((60000, s.size) = (C, F)) := by
                have h := HO2.out
                rw [if_neg (fun h => hn h.2.2)] at h
                exact h
              clear HO2 hm
              go_wp2_with fail
              refine cL.mono ?_
              rintro e w1 ⟨rfl, hb1⟩
              clear cL
              replace HB : Hid (Below (dpV w (.int .i64 0) (.int .i64 0)).heap.size (dpV w (.int .i64 0) (.int .i64 0)) w1) := HB.out.trans (hb1.mono HB.out.size)
              clear hb1
              go_wp2_with fail
              refine (cM.out w1).mono ?_
              rintro e w2 ⟨rfl, hb1⟩
              clear cM
              replace HB : Hid (Below (dpV w (.int .i64 0) (.int .i64 0)).heap.size (dpV w (.int .i64 0) (.int .i64 0)) w2) := HB.out.trans (hb1.mono HB.out.size)
              clear hb1
              go_wp2_with fail
              refine (cI.out w2).mono ?_
              rintro e w4 ⟨rfl, hb1⟩
              clear cI
              replace HB : Hid (Below (dpV w (.int .i64 0) (.int .i64 0)).heap.size (dpV w (.int .i64 0) (.int .i64 0)) w4) := HB.out.trans (hb1.mono HB.out.size)
              clear hb1
              have r0 := dpV_new HB.out
              have z0 := k2_0 r0
              have z1 := k2_1 r0
              have y0 := k2_f r0 0
              have y1 := k2_f r0 1
              have HR0 : Hid (w4.heap[w.heap.size]? = some (.cells #[.int .i64 0, .int .i64 0] 53 (0, 0))) := r0
              have HB' : Hid (Below w.heap.size w w4) := dpV_below HB.out
              clear r0 HB
              go_wp2_with fail
              have hF := k2_setAll HR0.out (.int .i64 60000) (.int .i64 (s.size : Int))
              try simp only [Exit.inBlock, Exit.then]
              refine bodyPost_ret (results_cell_row rfl _ _ w.heap.size 53 _ (0, 0) _ rfl hF Try.underlying53 rfl (by kernel_rfl)) rfl ?_
              have e0 := HO3.out
              injection e0 with e1 e2
              subst e1
              subst e2
              exact ⟨rfl, (HB'.out.setCell (Nat.le_refl _) _).setCell (Nat.le_refl _) _⟩
          · have hm' : ((mk : Int) == 0) = false := by rw [beq_eq_false_iff_ne]; omega
            have HO3 : Hid ((60000, s.size) = (C, F)) := by
              have h := HO2.out
              rw [if_neg (fun h => hm h.2.1)] at h
              exact h
            clear HO2 hm cI
            go_wp2_with fail
            refine cL.mono ?_
            rintro e w1 ⟨rfl, hb1⟩
            clear cL
            replace HB : Hid (Below (dpV w (.int .i64 0) (.int .i64 0)).heap.size (dpV w (.int .i64 0) (.int .i64 0)) w1) := HB.out.trans (hb1.mono HB.out.size)
            clear hb1
            go_wp2_with fail
            refine (cM.out w1).mono ?_
            rintro e w4 ⟨rfl, hb1⟩
            clear cM
            replace HB : Hid (Below (dpV w (.int .i64 0) (.int .i64 0)).heap.size (dpV w (.int .i64 0) (.int .i64 0)) w4) := HB.out.trans (hb1.mono HB.out.size)
            clear hb1
            have r0 := dpV_new HB.out
            have z0 := k2_0 r0
            have z1 := k2_1 r0
            have y0 := k2_f r0 0
            have y1 := k2_f r0 1
            have HR0 : Hid (w4.heap[w.heap.size]? = some (.cells #[.int .i64 0, .int .i64 0] 53 (0, 0))) := r0
            have HB' : Hid (Below w.heap.size w w4) := dpV_below HB.out
            clear r0 HB
            go_wp2_with fail
            have hF := k2_setAll HR0.out (.int .i64 60000) (.int .i64 (s.size : Int))
            try simp only [Exit.inBlock, Exit.then]
            refine bodyPost_ret (results_cell_row rfl _ _ w.heap.size 53 _ (0, 0) _ rfl hF Try.underlying53 rfl (by kernel_rfl)) rfl ?_
            have e0 := HO3.out
            injection e0 with e1 e2
            subst e1
            subst e2
            exact ⟨rfl, (HB'.out.setCell (Nat.le_refl _) _).setCell (Nat.le_refl _) _⟩
      · have hl' : ¬ (k : Int) < (s.size : Int) := by omega
        have HO3 : Hid ((60000, s.size) = (C, F)) := by
          have hPk : k = P := by rw [← HG.out, dq_stop (fun h => hl h.1)]
          have h := HO.out
          rw [← hPk] at h
          unfold dqR at h
          rw [if_neg (fun h => hl h.1)] at h
          exact h
        clear HG HF HO HP
        have r0 := dpV_new HB.out
        have z0 := k2_0 r0
        have z1 := k2_1 r0
        have y0 := k2_f r0 0
        have y1 := k2_f r0 1
        have HR0 : Hid (wr.heap[w.heap.size]? = some (.cells #[.int .i64 0, .int .i64 0] 53 (0, 0))) := r0
        have HB' : Hid (Below w.heap.size w wr) := dpV_below HB.out
        clear r0 HB
        go_wp2_with fail
        have hF := k2_setAll HR0.out (.int .i64 60000) (.int .i64 (s.size : Int))
        try simp only [Exit.inBlock, Exit.then]
        refine bodyPost_ret (results_cell_row rfl _ _ w.heap.size 53 _ (0, 0) _ rfl hF Try.underlying53 rfl (by kernel_rfl)) rfl ?_
        have e0 := HO3.out
        injection e0 with e1 e2
        subst e1
        subst e2
        exact ⟨rfl, (HB'.out.setCell (Nat.le_refl _) _).setCell (Nat.le_refl _) _⟩
end Go.Proofs.Ytfpkcfedkjjjbac
