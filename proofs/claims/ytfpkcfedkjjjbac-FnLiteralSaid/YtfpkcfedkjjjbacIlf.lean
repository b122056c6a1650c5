/- The contracts of the depth's endsAt and taken. -/
import Derived.Test.YtfpkcfedkjjjbacIle
namespace Go.Proofs.Ytfpkcfedkjjjbac
open Go.ChangeShapes Go.WideShapes Go.ChangeAt Go.RowKit Go.Shelf
/-- Whether a line ends the scalar. -/
def enI (s : ByteArray) (d q : Nat) : Bool := decide (s.size ≤ q) || (decide (0 < markN s q) || (!lone s q && decide (ind s q < d)))
set_option maxHeartbeats 4000000 in
theorem ends_any (s : ByteArray) (q d fr : Nat) (w : World) (hs : s.size ≤ mx) (hq : q ≤ s.size) (b : Bool) (hb : enI s d q = b) :
    Calls Try.prog 22 #[.agg #[.int .i64 (d : Int), .int .i64 (fr : Int)], .string s, .int .i64 (q : Int)] w fun e w' => e = .returned (.bool b) ∧ Below w.heap.size w w' := by
  by_cases hl : s.size ≤ q
  · have hl' : ((q : Int) == (s.size : Int)) = true := by rw [beq_iff_eq]; omega
    obtain rfl : true = b := by rw [← hb]; unfold enI; rw [decide_eq_true hl]; rfl
    clear hb hl hs hq
    go_enter Try.func22, Try.ntmps22
    go_wp2_with fail
    go_ret
    exact ⟨rfl, (Below.refl _ w).alloc (Nat.le_refl _) _⟩
  · have hl' : ((q : Int) == (s.size : Int)) = false := by rw [beq_eq_false_iff_ne]; omega
    have cM : Hid (∀ w, Calls Try.prog 45 #[.string s, .int .i64 (q : Int)] w fun e w' => e = .returned (.int .i64 (markN s q : Nat)) ∧ Below w.heap.size w w') := fun w => mark_natI s q _ w hs hq rfl
    have cL : Hid (∀ w, Calls Try.prog 44 #[.string s, .int .i64 (q : Int)] w fun e w' => e = .returned (.bool (lone s q)) ∧ Below w.heap.size w w') := fun w => lone_natI s q _ w hs hq rfl
    have cI : Hid (∀ w, Calls Try.prog 46 #[.string s, .int .i64 (q : Int)] w fun e w' => e = .returned (.int .i64 (ind s q : Nat)) ∧ Below w.heap.size w w') := fun w => indent_natI s q _ w hs hq rfl
    have HE : Hid ((decide (0 < markN s q) || (!lone s q && decide (ind s q < d))) = b) := by
      show _ = b
      rw [← hb]; unfold enI; rw [decide_eq_false hl]; rfl
    generalize markN s q = mk at *
    generalize ind s q = nd at *
    generalize lone s q = lo at *
    clear hb hl hs hq
    by_cases hm : 0 < mk
    · have hm' : ((mk : Int) != 0) = true := by rw [bne_iff_ne]; omega
      obtain rfl : true = b := by rw [← HE.out, decide_eq_true hm]; rfl
      clear hm HE cL cI
      go_enter Try.func22, Try.ntmps22
      go_wp2_with fail
      refine (cM.out _).mono ?_
      rintro e w1 ⟨rfl, hb1⟩
      clear cM
      have hB := dpV_below hb1
      go_wp2_with fail
      go_ret
      exact ⟨rfl, hB⟩
    · have hm' : ((mk : Int) != 0) = false := by rw [bne_eq_false_iff_eq]; omega
      have HE2 : Hid ((!lo && decide (nd < d)) = b) := by
        show _ = b
        rw [← HE.out, decide_eq_false hm]; rfl
      clear hm HE
      go_enter Try.func22, Try.ntmps22
      go_wp2_with fail
      refine (cM.out _).mono ?_
      rintro e w1 ⟨rfl, hb1⟩
      clear cM
      have HB : Hid (Below w.heap.size w w1) := dpV_below hb1
      have d1 : ∀ m : Bw w1, m.val.cell? ⟨w.heap.size, 0, none⟩ = some (.int .i64 (d : Int)) := fun m => k2_0 (dpV_new (hb1.trans (m.ok.mono hb1.size)))
      have hC := Bw.calls (w := w1) (fun w' _ => cL.out w')
      have hI := Bw.calls (w := w1) (fun w' _ => cI.out w')
      have hne := Bw.some w1
      clear cL cI hb1
      cases lo with
      | true =>
        obtain rfl : false = b := by rw [← HE2.out]; rfl
        go_wp2_with fail
        refine wp_region_bw (w0 := w1) (by kernel_rfl) (by kernel_rfl) (Below.refl _ _) ?_
        repeat (go_big_quiet_step ((go_at_call 44; exact hC _)))
        refine wpQuiet_nil ?_
        rintro _ ⟨m, rfl⟩
        have hB1 : Below w.heap.size w m.val := HB.out.trans (m.ok.mono HB.out.size)
        generalize m.val = w2 at *
        clear d1 hC hI hne
        go_wp2_with fail
        go_ret
        exact ⟨rfl, hB1⟩
      | false =>
        have hdc : decide ((nd : Int) < (d : Int)) = b := by
          rw [← HE2.out]
          show _ = decide (nd < d)
          rw [Bool.eq_iff_iff]
          simp
        have HDC : Hid (decide ((nd : Int) < (d : Int)) = b) := hdc
        clear hdc
        go_wp2_with fail
        refine wp_region_bw (w0 := w1) (by kernel_rfl) (by kernel_rfl) (Below.refl _ _) ?_
        repeat (go_big_quiet_step (first | (go_at_call 44; exact hC _) | (go_at_call 46; exact hI _)))
        refine wpQuiet_nil ?_
        rintro _ ⟨m, rfl⟩
        have hB1 : Below w.heap.size w m.val := HB.out.trans (m.ok.mono HB.out.size)
        generalize m.val = w2 at *
        clear d1 hC hI hne
        go_wp2_with fail
        go_ret
        exact ⟨ret_bool (by first | exact HDC.out | simpa using HDC.out), hB1⟩
/-- What is taken of a line. -/
def tkI (s : ByteArray) (d fr q : Nat) : ByteArray := if q < fr ∨ (lone s q = true ∧ ind s q ≤ d) then ByteArray.empty else s.extract (q + d) (endL s q)
set_option maxHeartbeats 4000000 in
theorem taken_any (s : ByteArray) (q d fr : Nat) (w : World) (hs : s.size ≤ 1048576) (hq : q < s.size) (hbg : lnb s q = q) (hok : lone s q = false → d ≤ ind s q) (T : ByteArray) (hT : tkI s d fr q = T) :
    Calls Try.prog 23 #[.agg #[.int .i64 (d : Int), .int .i64 (fr : Int)], .string s, .int .i64 (q : Int)] w fun e w' => e = .returned (.string T) ∧ Below w.heap.size w w' := by
  have hmx : s.size ≤ mx := by unfold mx; omega
  have hie := ind_end hbg
  have hel : endL s q ≤ s.size := fwd_le pN s q (by omega)
  have cL : Hid (∀ w, Calls Try.prog 44 #[.string s, .int .i64 (q : Int)] w fun e w' => e = .returned (.bool (lone s q)) ∧ Below w.heap.size w w') := fun w => lone_natI s q _ w hmx (by omega) rfl
  have cI : Hid (∀ w, Calls Try.prog 46 #[.string s, .int .i64 (q : Int)] w fun e w' => e = .returned (.int .i64 (ind s q : Nat)) ∧ Below w.heap.size w w') := fun w => indent_natI s q _ w hmx (by omega) rfl
  have cE : Hid (∀ w, Calls Try.prog 42 #[.string s, .int .i64 (q : Int)] w fun e w' => e = .returned (.int .i64 (endL s q : Nat)) ∧ Below w.heap.size w w') := fun w => endAt_any_nat s q _ w hmx (by omega) rfl
  have HT : Hid ((if q < fr ∨ (lone s q = true ∧ ind s q ≤ d) then ByteArray.empty else s.extract (q + d) (endL s q)) = T) := hT
  generalize endL s q = y at *
  generalize ind s q = nd at *
  generalize lone s q = lo at *
  clear hT hmx hbg
  by_cases hf : q < fr
  · have hf' : (q : Int) < (fr : Int) := by omega
    have HE : Hid (T = ByteArray.empty) := by
      show T = _
      rw [← HT.out, if_pos (.inl hf)]
    clear HT cE hok hie hel hf
    go_enter Try.func23, Try.ntmps23
    go_wp2_with fail
    have d0 : ∀ m : Bw (dpV w (.int .i64 (d : Int)) (.int .i64 (fr : Int))), m.val.cell? ⟨w.heap.size, 0, none⟩ = some (.int .i64 (d : Int)) := fun m => k2_0 (dpV_new m.ok)
    have d1 : ∀ m : Bw (dpV w (.int .i64 (d : Int)) (.int .i64 (fr : Int))), m.val.cell? ⟨w.heap.size, 1, none⟩ = some (.int .i64 (fr : Int)) := fun m => k2_1 (dpV_new m.ok)
    have hC := Bw.calls (w := dpV w (.int .i64 (d : Int)) (.int .i64 (fr : Int))) (fun w' _ => cL.out w')
    have hI := Bw.calls (w := dpV w (.int .i64 (d : Int)) (.int .i64 (fr : Int))) (fun w' _ => cI.out w')
    have hne := Bw.some (dpV w (.int .i64 (d : Int)) (.int .i64 (fr : Int)))
    refine wp_region_bw (w0 := dpV w (.int .i64 (d : Int)) (.int .i64 (fr : Int))) (by kernel_rfl) (by kernel_rfl) (Below.refl _ _) ?_
    repeat (go_big_quiet_step (first | (go_at_call 44; exact hC _) | (go_at_call 46; exact hI _)))
    refine wpQuiet_nil ?_
    rintro _ ⟨m, rfl⟩
    have HM : Hid (Below (dpV w (.int .i64 (d : Int)) (.int .i64 (fr : Int))).heap.size (dpV w (.int .i64 (d : Int)) (.int .i64 (fr : Int))) m.val) := m.ok
    generalize m.val = w1 at *
    clear d0 d1 hC hI hne m
    go_wp2_with fail
    go_ret
    exact ⟨by rw [HE.out]; rfl, dpV_below HM.out⟩
  · have hf' : decide ((q : Int) < (fr : Int)) = false := decide_eq_false (by omega)
    have hf2 : decide (q < fr) = false := decide_eq_false (by omega)
    cases lo with
    | true =>
      by_cases hd : nd ≤ d
      · have hd' : (nd : Int) ≤ (d : Int) := by omega
        have HE : Hid (T = ByteArray.empty) := by
          show T = _
          rw [← HT.out, if_pos (.inr ⟨rfl, hd⟩)]
        clear HT cE hok hie hel hf hd
        go_enter Try.func23, Try.ntmps23
        go_wp2_with fail
        have d0 : ∀ m : Bw (dpV w (.int .i64 (d : Int)) (.int .i64 (fr : Int))), m.val.cell? ⟨w.heap.size, 0, none⟩ = some (.int .i64 (d : Int)) := fun m => k2_0 (dpV_new m.ok)
        have d1 : ∀ m : Bw (dpV w (.int .i64 (d : Int)) (.int .i64 (fr : Int))), m.val.cell? ⟨w.heap.size, 1, none⟩ = some (.int .i64 (fr : Int)) := fun m => k2_1 (dpV_new m.ok)
        have hC := Bw.calls (w := dpV w (.int .i64 (d : Int)) (.int .i64 (fr : Int))) (fun w' _ => cL.out w')
        have hI := Bw.calls (w := dpV w (.int .i64 (d : Int)) (.int .i64 (fr : Int))) (fun w' _ => cI.out w')
        have hne := Bw.some (dpV w (.int .i64 (d : Int)) (.int .i64 (fr : Int)))
        refine wp_region_bw (w0 := dpV w (.int .i64 (d : Int)) (.int .i64 (fr : Int))) (by kernel_rfl) (by kernel_rfl) (Below.refl _ _) ?_
        repeat (go_big_quiet_step (first | (go_at_call 44; exact hC _) | (go_at_call 46; exact hI _)))
        refine wpQuiet_nil ?_
        rintro _ ⟨m, rfl⟩
        have HM : Hid (Below (dpV w (.int .i64 (d : Int)) (.int .i64 (fr : Int))).heap.size (dpV w (.int .i64 (d : Int)) (.int .i64 (fr : Int))) m.val) := m.ok
        generalize m.val = w1 at *
        clear d0 d1 hC hI hne m
        go_wp2_with fail
        go_ret
        exact ⟨by rw [HE.out]; rfl, dpV_below HM.out⟩
      · have hd' : decide ((nd : Int) ≤ (d : Int)) = false := decide_eq_false (by omega)
        have hd2 : decide (nd ≤ d) = false := decide_eq_false (by omega)
        have HE : Hid (T = s.extract (q + d) y) := by
          show T = _
          rw [← HT.out, if_neg (by rintro (h | h); exact hf h; exact hd h.2)]
        have hle : q + d ≤ y := by omega
        have x2 : (q : Int) + (d : Int) ≤ (y : Int) := by omega
        have x3 : (y : Int) ≤ (s.size : Int) := by omega
        have hwr : IntKind.i64.wrap ((q : Int) + (d : Int)) = ((q + d : Nat) : Int) := by
          rw [show (q : Int) + (d : Int) = ((q + d : Nat) : Int) by omega]
          exact wrap_small _ (by omega) (by omega)
        clear HT hok hie hf hd
        go_enter Try.func23, Try.ntmps23
        go_wp2_with fail
        have d0 : ∀ m : Bw (dpV w (.int .i64 (d : Int)) (.int .i64 (fr : Int))), m.val.cell? ⟨w.heap.size, 0, none⟩ = some (.int .i64 (d : Int)) := fun m => k2_0 (dpV_new m.ok)
        have d1 : ∀ m : Bw (dpV w (.int .i64 (d : Int)) (.int .i64 (fr : Int))), m.val.cell? ⟨w.heap.size, 1, none⟩ = some (.int .i64 (fr : Int)) := fun m => k2_1 (dpV_new m.ok)
        have hC := Bw.calls (w := dpV w (.int .i64 (d : Int)) (.int .i64 (fr : Int))) (fun w' _ => cL.out w')
        have hI := Bw.calls (w := dpV w (.int .i64 (d : Int)) (.int .i64 (fr : Int))) (fun w' _ => cI.out w')
        have hne := Bw.some (dpV w (.int .i64 (d : Int)) (.int .i64 (fr : Int)))
        refine wp_region_bw (w0 := dpV w (.int .i64 (d : Int)) (.int .i64 (fr : Int))) (by kernel_rfl) (by kernel_rfl) (Below.refl _ _) ?_
        repeat (go_big_quiet_step (first | (go_at_call 44; exact hC _) | (go_at_call 46; exact hI _)))
        refine wpQuiet_nil ?_
        rintro _ ⟨m, rfl⟩
        have HM : Hid (Below (dpV w (.int .i64 (d : Int)) (.int .i64 (fr : Int))).heap.size (dpV w (.int .i64 (d : Int)) (.int .i64 (fr : Int))) m.val) := m.ok
        generalize m.val = w1 at *
        clear d0 d1 hC hI hne m
        have HB : Hid (Below w.heap.size w w1) := dpV_below HM.out
        have d0 : ∀ m : Bw w1, m.val.cell? ⟨w.heap.size, 0, none⟩ = some (.int .i64 (d : Int)) := fun m => k2_0 (dpV_new (HM.out.trans (m.ok.mono HM.out.size)))
        have hE := Bw.calls (w := w1) (fun w' _ => cE.out w')
        have hne := Bw.some w1
        clear cL cI cE
        go_wp2_with fail
        refine wp_region_bw (w0 := w1) (by kernel_rfl) (by kernel_rfl) (Below.refl _ _) ?_
        repeat (go_big_quiet_step ((go_at_call 42; exact hE _)))
        refine wpQuiet_nil ?_
        rintro _ ⟨m, rfl⟩
        have hB1 : Below w.heap.size w m.val := HB.out.trans (m.ok.mono HB.out.size)
        generalize m.val = w2 at *
        clear d0 hE hne
        go_wp2_with fail
        go_ret
        exact ⟨by rw [HE.out]; rfl, hB1⟩
    | false =>
      have hdo := hok rfl
      have HE : Hid (T = s.extract (q + d) y) := by
        show T = _
        rw [← HT.out, if_neg (by rintro (h | h); exact hf h; cases h.1)]
      have hle : q + d ≤ y := by omega
      have x2 : (q : Int) + (d : Int) ≤ (y : Int) := by omega
      have x3 : (y : Int) ≤ (s.size : Int) := by omega
      have hwr : IntKind.i64.wrap ((q : Int) + (d : Int)) = ((q + d : Nat) : Int) := by
        rw [show (q : Int) + (d : Int) = ((q + d : Nat) : Int) by omega]
        exact wrap_small _ (by omega) (by omega)
      clear HT hok hie hf hdo
      go_enter Try.func23, Try.ntmps23
      go_wp2_with fail
      have d0 : ∀ m : Bw (dpV w (.int .i64 (d : Int)) (.int .i64 (fr : Int))), m.val.cell? ⟨w.heap.size, 0, none⟩ = some (.int .i64 (d : Int)) := fun m => k2_0 (dpV_new m.ok)
      have d1 : ∀ m : Bw (dpV w (.int .i64 (d : Int)) (.int .i64 (fr : Int))), m.val.cell? ⟨w.heap.size, 1, none⟩ = some (.int .i64 (fr : Int)) := fun m => k2_1 (dpV_new m.ok)
      have hC := Bw.calls (w := dpV w (.int .i64 (d : Int)) (.int .i64 (fr : Int))) (fun w' _ => cL.out w')
      have hI := Bw.calls (w := dpV w (.int .i64 (d : Int)) (.int .i64 (fr : Int))) (fun w' _ => cI.out w')
      have hne := Bw.some (dpV w (.int .i64 (d : Int)) (.int .i64 (fr : Int)))
      refine wp_region_bw (w0 := dpV w (.int .i64 (d : Int)) (.int .i64 (fr : Int))) (by kernel_rfl) (by kernel_rfl) (Below.refl _ _) ?_
      repeat (go_big_quiet_step (first | (go_at_call 44; exact hC _) | (go_at_call 46; exact hI _)))
      refine wpQuiet_nil ?_
      rintro _ ⟨m, rfl⟩
      have HM : Hid (Below (dpV w (.int .i64 (d : Int)) (.int .i64 (fr : Int))).heap.size (dpV w (.int .i64 (d : Int)) (.int .i64 (fr : Int))) m.val) := m.ok
      generalize m.val = w1 at *
      clear d0 d1 hC hI hne m
      have HB : Hid (Below w.heap.size w w1) := dpV_below HM.out
      have d0 : ∀ m : Bw w1, m.val.cell? ⟨w.heap.size, 0, none⟩ = some (.int .i64 (d : Int)) := fun m => k2_0 (dpV_new (HM.out.trans (m.ok.mono HM.out.size)))
      have hE := Bw.calls (w := w1) (fun w' _ => cE.out w')
      have hne := Bw.some w1
      clear cL cI cE
      go_wp2_with fail
      refine wp_region_bw (w0 := w1) (by kernel_rfl) (by kernel_rfl) (Below.refl _ _) ?_
      repeat (go_big_quiet_step ((go_at_call 42; exact hE _)))
      refine wpQuiet_nil ?_
      rintro _ ⟨m, rfl⟩
      have hB1 : Below w.heap.size w m.val := HB.out.trans (m.ok.mono HB.out.size)
      generalize m.val = w2 at *
      clear d0 hE hne
      go_wp2_with fail
      go_ret
      exact ⟨by rw [HE.out]; rfl, hB1⟩
end Go.Proofs.Ytfpkcfedkjjjbac
