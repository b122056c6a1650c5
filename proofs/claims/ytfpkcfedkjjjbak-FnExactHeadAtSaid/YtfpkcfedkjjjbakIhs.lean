/- The contracts of impl.headSigns and impl.HeadAt. -/
import Derived.Test.YtfpkcfedkjjjbakLit
import Derived.Test.YtfpkcfedkjjjbakRst
import Derived.Test.YtfpkcfedkjjjbakIsg
import Derived.OwnWalk
namespace Go.Proofs.Ytfpkcfedkjjjbak
open Go.ChangeShapes Go.WideShapes Go.ChangeAt Go.RowKit Go.Shelf
def pDg (c : Nat) : Bool := c == 49 || c == 50 || c == 51 || c == 52 || c == 53 || c == 54 || c == 55 || c == 56 || c == 57
theorem pDg_signs : SignsQ pDg ⟨#[49, 50, 51, 52, 53, 54, 55, 56, 57]⟩ := by
  intro x hx
  show pDg x = [49, 50, 51, 52, 53, 54, 55, 56, 57].contains x.toUInt8
  simp only [List.contains_cons, List.contains_nil, u8_eq hx, Bool.or_false, pDg, Bool.or_assoc]
  rfl
theorem pDg_iff (c : Nat) : pDg c = true ↔ 49 ≤ c ∧ c ≤ 57 := by
  simp [pDg]
  omega
def pPl (c : Nat) : Bool := c == 43
theorem pPl_signs : SignsQ pPl ⟨#[43]⟩ := by
  intro x hx
  show pPl x = [43].contains x.toUInt8
  simp only [List.contains_cons, List.contains_nil, u8_eq hx, Bool.or_false, pPl]
  rfl
def pMi (c : Nat) : Bool := c == 45
theorem pMi_signs : SignsQ pMi ⟨#[45]⟩ := by
  intro x hx
  show pMi x = [45].contains x.toUInt8
  simp only [List.contains_cons, List.contains_nil, u8_eq hx, Bool.or_false, pMi]
  rfl
def pHd (c : Nat) : Bool := c == 124 || c == 62
theorem pHd_signs : SignsQ pHd ⟨#[124, 62]⟩ := by
  intro x hx
  show pHd x = [124, 62].contains x.toUInt8
  simp only [List.contains_cons, List.contains_nil, u8_eq hx, Bool.or_false, pHd]
  rfl
def pGt (c : Nat) : Bool := c == 62
theorem pGt_signs : SignsQ pGt ⟨#[62]⟩ := by
  intro x hx
  show pGt x = [62].contains x.toUInt8
  simp only [List.contains_cons, List.contains_nil, u8_eq hx, Bool.or_false, pGt]
  rfl
theorem sgq_true {P : Nat → Bool} {s : ByteArray} {k : Nat} (h : sgq P s k = true) : k < s.size ∧ P (bt s k) = true := by
  unfold sgq at h
  simpa using h
theorem sgq_false {P : Nat → Bool} {s : ByteArray} {k : Nat} (h : sgq P s k = false) (hk : k < s.size) : P (bt s k) = false := by
  rw [sgq_lt hk] at h
  exact h
/-- None of the three ways on is taken. -/
theorem hd_halt {s : ByteArray} {f q d c : Nat} (h1 : d = 0 → sgq pDg s q = false) (h2 : c = 0 → sgq pPl s q = false) (h3 : c = 0 → sgq pMi s q = false) : hdGo s f q d c = (d, c, q) := by
  cases f with
  | zero => rfl
  | succ f =>
    by_cases hq : q < s.size
    · refine hd_stop hq ?_ ?_ ?_
      · intro h
        have := sgq_false (h1 h.2.2) hq
        have h' := (pDg_iff (bt s q)).2 ⟨h.1, h.2.1⟩
        rw [this] at h'
        cases h'
      · intro h
        have := sgq_false (h2 h.2) hq
        rw [h.1] at this
        cases this
      · intro h
        have := sgq_false (h3 h.2) hq
        rw [h.1] at this
        cases this
    · exact hd_end (by omega)
theorem hd_goPlus {s : ByteArray} {f q d c : Nat} (h2 : sgq pPl s q = true) (hc : c = 0) : hdGo s (f + 1) q d c = hdGo s f (q + 1) d 2 := by
  obtain ⟨hq, h⟩ := sgq_true h2
  have hb : bt s q = 43 := by simpa [pPl] using h
  exact hd_plus hq (by rw [hb]; omega) ⟨hb, hc⟩
theorem hd_goMinus {s : ByteArray} {f q d c : Nat} (h2 : sgq pMi s q = true) (hc : c = 0) : hdGo s (f + 1) q d c = hdGo s f (q + 1) d 1 := by
  obtain ⟨hq, h⟩ := sgq_true h2
  have hb : bt s q = 45 := by simpa [pMi] using h
  exact hd_minus hq (by rw [hb]; omega) ⟨hb, hc⟩
theorem results_tmp4i {fn : Func} {t u v x : Tmp} (h : fn.results = #[.tmp t, .tmp u, .tmp v, .tmp x]) (tmps : Array Value) (P : Program) (w : World) :
    (results fn tmps).run P w = .ok (.tuple #[tmps.getD t undef, tmps.getD u undef, tmps.getD v undef, tmps.getD x undef]) w := by
  simp [results, h]
set_option maxRecDepth 100000 in
set_option maxHeartbeats 8000000 in
theorem headSigns_any (s : ByteArray) (k : Nat) (w : World) (hs : s.size ≤ 1048576) (hk : k ≤ s.size) (D C R : Nat) (hr : hdGo s (s.size + 1) k 0 0 = (D, C, R)) :
    Calls Try.prog 18 #[.string s, .int .i64 (k : Int)] w fun e w' => e = .returned (.tuple #[.int .i64 (D : Int), .int .i64 (C : Int), .int .i64 (R : Int)]) ∧ Below w.heap.size w w' := by
  have HX : Hid (hdGo s (s.size + 1) k 0 0 = (D, C, R)) := hr
  clear hr
  go_enter Try.func18, Try.ntmps18
  go_wp2_with fail
  go_loopw [4, 5, 1] (fun dv cv qv wr => ∃ (d c q f : Nat), dv = .int .i64 (d : Int) ∧ cv = .int .i64 (c : Int) ∧ qv = .int .i64 (q : Int) ∧ q ≤ s.size ∧ Hid (s.size < f + q) ∧ Hid (hdGo s f q d c = (D, C, R)) ∧ Hid (Below w.heap.size w wr)) (fun _ _ qv _ => s.size + 1 - (intOf qv).toNat)
  case atStart => exact ⟨0, 0, k, s.size + 1, rfl, rfl, rfl, hk, by show s.size < s.size + 1 + k; omega, HX, Below.refl _ _⟩
  case round =>
    obtain ⟨d, c, q, f, rfl, rfl, rfl, hq, HF, HG, HB⟩ := hrel
    have S1 : Hid (∀ w, Calls Try.prog 17 #[.string s, .int .i64 (q : Int), .string ⟨#[49, 50, 51, 52, 53, 54, 55, 56, 57]⟩] w fun e w' => e = .returned (.bool (sgq pDg s q)) ∧ Below w.heap.size w w') := fun w => signQ s _ q pDg w _ pDg_signs rfl
    have S2 : Hid (∀ w, Calls Try.prog 17 #[.string s, .int .i64 (q : Int), .string ⟨#[43]⟩] w fun e w' => e = .returned (.bool (sgq pPl s q)) ∧ Below w.heap.size w w') := fun w => signQ s _ q pPl w _ pPl_signs rfl
    have S3 : Hid (∀ w, Calls Try.prog 17 #[.string s, .int .i64 (q : Int), .string ⟨#[45]⟩] w fun e w' => e = .returned (.bool (sgq pMi s q)) ∧ Below w.heap.size w w') := fun w => signQ s _ q pMi w _ pMi_signs rfl
    by_cases hd0 : d = 0
    · have b3 : ((d : Int) == 0) = true := by rw [hd0]; rfl
      cases h1 : sgq pDg s q with
      | true =>
        obtain ⟨hl, hdg⟩ := sgq_true h1
        have hdg' := (pDg_iff _).1 hdg
        have hl' : (q : Int) < (s.size : Int) := by omega
        have hb := bt_get s q hl
        obtain ⟨y, hy⟩ : ∃ y, (s[q]'hl).toNat = y := ⟨_, rfl⟩
        have HY : Hid (bt s q = y) := by show bt s q = y; rw [← hb]; exact hy
        rw [HY.out] at hdg'
        obtain ⟨y1, y2⟩ := hdg'
        clear hb hdg
        obtain ⟨f, rfl⟩ : ∃ f', f = f' + 1 := ⟨f - 1, by have := HF.out; omega⟩
        have HG2 : Hid (hdGo s f (q + 1) (y - 48) (c) = (D, C, R)) := by
          show _ = (D, C, R)
          rw [← HG.out, hd_digit hl (by rw [HY.out]; omega), HY.out]
        have HF2 : Hid (s.size < f + (q + 1)) := by have := HF.out; show s.size < f + (q + 1); omega
        clear HG HF
        rw [h1] at S1
        clear h1 S2 S3 hd0
        go_wp2_with fail
        refine (S1.out wr).mono ?_
        rintro e9 w1 ⟨rfl, hb9⟩
        replace HB : Hid (Below w.heap.size w w1) := HB.out.trans (hb9.mono HB.out.size)
        clear hb9 S1
        go_wp2_with fail
        go_roundw
        case rel => exact ⟨y - 48, c, q + 1, f, by go_num, by go_num, by go_num, hl, HF2, HG2, HB⟩
        case measure => simp [intOf]; omega
      | false =>
        rw [h1] at S1
        have H1 : Hid (d = 0 → sgq pDg s q = false) := fun _ => h1
        clear h1 hd0
        by_cases hc0 : c = 0
        · have b6 : ((c : Int) == 0) = true := by rw [hc0]; rfl
          cases h2 : sgq pPl s q with
          | true =>
            have hl : q < s.size := (sgq_true h2).1
            obtain ⟨f, rfl⟩ : ∃ f', f = f' + 1 := ⟨f - 1, by have := HF.out; omega⟩
            have HG2 : Hid (hdGo s f (q + 1) (d) (2) = (D, C, R)) := by
              show _ = (D, C, R)
              rw [← HG.out, hd_goPlus h2 hc0]
            have HF2 : Hid (s.size < f + (q + 1)) := by have := HF.out; show s.size < f + (q + 1); omega
            clear HG HF
            rw [h2] at S2
            clear h2 S3 hc0
            go_wp2_with fail
            refine (S1.out wr).mono ?_
            rintro e9 w1 ⟨rfl, hb9⟩
            replace HB : Hid (Below w.heap.size w w1) := HB.out.trans (hb9.mono HB.out.size)
            clear hb9 S1
            go_wp2_with fail
            refine (S2.out w1).mono ?_
            rintro e9 w2 ⟨rfl, hb9⟩
            replace HB : Hid (Below w.heap.size w w2) := HB.out.trans (hb9.mono HB.out.size)
            clear hb9 S2
            go_wp2_with fail
            go_roundw
            case rel => exact ⟨d, 2, q + 1, f, by go_num, by go_num, by go_num, hl, HF2, HG2, HB⟩
            case measure => simp [intOf]; omega
          | false =>
            cases h3 : sgq pMi s q with
            | true =>
              have hl : q < s.size := (sgq_true h3).1
              obtain ⟨f, rfl⟩ : ∃ f', f = f' + 1 := ⟨f - 1, by have := HF.out; omega⟩
              have HG2 : Hid (hdGo s f (q + 1) (d) (1) = (D, C, R)) := by
                show _ = (D, C, R)
                rw [← HG.out, hd_goMinus h3 hc0]
              have HF2 : Hid (s.size < f + (q + 1)) := by have := HF.out; show s.size < f + (q + 1); omega
              clear HG HF
              rw [h2] at S2
              rw [h3] at S3
              clear h2 h3 hc0
              go_wp2_with fail
              refine (S1.out wr).mono ?_
              rintro e9 w1 ⟨rfl, hb9⟩
              replace HB : Hid (Below w.heap.size w w1) := HB.out.trans (hb9.mono HB.out.size)
              clear hb9 S1
              go_wp2_with fail
              refine (S2.out w1).mono ?_
              rintro e9 w2 ⟨rfl, hb9⟩
              replace HB : Hid (Below w.heap.size w w2) := HB.out.trans (hb9.mono HB.out.size)
              clear hb9 S2
              go_wp2_with fail
              refine (S3.out w2).mono ?_
              rintro e9 w3 ⟨rfl, hb9⟩
              replace HB : Hid (Below w.heap.size w w3) := HB.out.trans (hb9.mono HB.out.size)
              clear hb9 S3
              go_wp2_with fail
              go_roundw
              case rel => exact ⟨d, 1, q + 1, f, by go_num, by go_num, by go_num, hl, HF2, HG2, HB⟩
              case measure => simp [intOf]; omega
            | false =>
              have HRES : Hid ((d, c, q) = (D, C, R)) := by
                show _ = (D, C, R)
                rw [← HG.out, hd_halt H1.out (fun _ => h2) (fun _ => h3)]
              clear HG HF
              rw [h2] at S2
              rw [h3] at S3
              clear h2 h3 hc0
              go_wp2_with fail
              refine (S1.out wr).mono ?_
              rintro e9 w1 ⟨rfl, hb9⟩
              replace HB : Hid (Below w.heap.size w w1) := HB.out.trans (hb9.mono HB.out.size)
              clear hb9 S1
              go_wp2_with fail
              refine (S2.out w1).mono ?_
              rintro e9 w2 ⟨rfl, hb9⟩
              replace HB : Hid (Below w.heap.size w w2) := HB.out.trans (hb9.mono HB.out.size)
              clear hb9 S2
              go_wp2_with fail
              refine (S3.out w2).mono ?_
              rintro e9 w3 ⟨rfl, hb9⟩
              replace HB : Hid (Below w.heap.size w w3) := HB.out.trans (hb9.mono HB.out.size)
              clear hb9 S3
              go_wp2_with fail
              go_ret3
              have e0 := HRES.out
              injection e0 with e1 e2
              injection e2 with e2 e3
              subst e1
              subst e2
              subst e3
              exact ⟨by first | rfl | simp, HB.out⟩
        · have b6 : ((c : Int) == 0) = false := by rw [beq_eq_false_iff_ne]; omega
          have HRES : Hid ((d, c, q) = (D, C, R)) := by
            show _ = (D, C, R)
            rw [← HG.out, hd_halt H1.out (fun h => absurd h hc0) (fun h => absurd h hc0)]
          clear HG HF
          clear hc0 S2 S3
          go_wp2_with fail
          refine (S1.out wr).mono ?_
          rintro e9 w1 ⟨rfl, hb9⟩
          replace HB : Hid (Below w.heap.size w w1) := HB.out.trans (hb9.mono HB.out.size)
          clear hb9 S1
          go_wp2_with fail
          go_ret3
          have e0 := HRES.out
          injection e0 with e1 e2
          injection e2 with e2 e3
          subst e1
          subst e2
          subst e3
          exact ⟨by first | rfl | simp, HB.out⟩
    · have b3 : ((d : Int) == 0) = false := by rw [beq_eq_false_iff_ne]; omega
      have H1 : Hid (d = 0 → sgq pDg s q = false) := fun h => absurd h hd0
      clear hd0 S1
      by_cases hc0 : c = 0
      · have b6 : ((c : Int) == 0) = true := by rw [hc0]; rfl
        cases h2 : sgq pPl s q with
        | true =>
          have hl : q < s.size := (sgq_true h2).1
          obtain ⟨f, rfl⟩ : ∃ f', f = f' + 1 := ⟨f - 1, by have := HF.out; omega⟩
          have HG2 : Hid (hdGo s f (q + 1) (d) (2) = (D, C, R)) := by
            show _ = (D, C, R)
            rw [← HG.out, hd_goPlus h2 hc0]
          have HF2 : Hid (s.size < f + (q + 1)) := by have := HF.out; show s.size < f + (q + 1); omega
          clear HG HF
          rw [h2] at S2
          clear h2 S3 hc0
          go_wp2_with fail
          refine (S2.out wr).mono ?_
          rintro e9 w2 ⟨rfl, hb9⟩
          replace HB : Hid (Below w.heap.size w w2) := HB.out.trans (hb9.mono HB.out.size)
          clear hb9 S2
          go_wp2_with fail
          go_roundw
          case rel => exact ⟨d, 2, q + 1, f, by go_num, by go_num, by go_num, hl, HF2, HG2, HB⟩
          case measure => simp [intOf]; omega
        | false =>
          cases h3 : sgq pMi s q with
          | true =>
            have hl : q < s.size := (sgq_true h3).1
            obtain ⟨f, rfl⟩ : ∃ f', f = f' + 1 := ⟨f - 1, by have := HF.out; omega⟩
            have HG2 : Hid (hdGo s f (q + 1) (d) (1) = (D, C, R)) := by
              show _ = (D, C, R)
              rw [← HG.out, hd_goMinus h3 hc0]
            have HF2 : Hid (s.size < f + (q + 1)) := by have := HF.out; show s.size < f + (q + 1); omega
            clear HG HF
            rw [h2] at S2
            rw [h3] at S3
            clear h2 h3 hc0
            go_wp2_with fail
            refine (S2.out wr).mono ?_
            rintro e9 w2 ⟨rfl, hb9⟩
            replace HB : Hid (Below w.heap.size w w2) := HB.out.trans (hb9.mono HB.out.size)
            clear hb9 S2
            go_wp2_with fail
            refine (S3.out w2).mono ?_
            rintro e9 w3 ⟨rfl, hb9⟩
            replace HB : Hid (Below w.heap.size w w3) := HB.out.trans (hb9.mono HB.out.size)
            clear hb9 S3
            go_wp2_with fail
            go_roundw
            case rel => exact ⟨d, 1, q + 1, f, by go_num, by go_num, by go_num, hl, HF2, HG2, HB⟩
            case measure => simp [intOf]; omega
          | false =>
            have HRES : Hid ((d, c, q) = (D, C, R)) := by
              show _ = (D, C, R)
              rw [← HG.out, hd_halt H1.out (fun _ => h2) (fun _ => h3)]
            clear HG HF
            rw [h2] at S2
            rw [h3] at S3
            clear h2 h3 hc0
            go_wp2_with fail
            refine (S2.out wr).mono ?_
            rintro e9 w2 ⟨rfl, hb9⟩
            replace HB : Hid (Below w.heap.size w w2) := HB.out.trans (hb9.mono HB.out.size)
            clear hb9 S2
            go_wp2_with fail
            refine (S3.out w2).mono ?_
            rintro e9 w3 ⟨rfl, hb9⟩
            replace HB : Hid (Below w.heap.size w w3) := HB.out.trans (hb9.mono HB.out.size)
            clear hb9 S3
            go_wp2_with fail
            go_ret3
            have e0 := HRES.out
            injection e0 with e1 e2
            injection e2 with e2 e3
            subst e1
            subst e2
            subst e3
            exact ⟨by first | rfl | simp, HB.out⟩
      · have b6 : ((c : Int) == 0) = false := by rw [beq_eq_false_iff_ne]; omega
        have HRES : Hid ((d, c, q) = (D, C, R)) := by
          show _ = (D, C, R)
          rw [← HG.out, hd_halt H1.out (fun h => absurd h hc0) (fun h => absurd h hc0)]
        clear HG HF
        clear hc0 S2 S3
        go_wp2_with fail
        go_ret3
        have e0 := HRES.out
        injection e0 with e1 e2
        injection e2 with e2 e3
        subst e1
        subst e2
        subst e3
        exact ⟨by first | rfl | simp, HB.out⟩
theorem hdq_le (s : ByteArray) : ∀ (f q d c : Nat), q ≤ s.size → (hdGo s f q d c).2.2 ≤ s.size
  | 0, q, d, c, h => h
  | f + 1, q, d, c, h => by
    rw [hdGo]
    split
    · exact h
    · split
      · exact hdq_le s f _ _ _ (by omega)
      · split
        · exact hdq_le s f _ _ _ (by omega)
        · split
          · exact hdq_le s f _ _ _ (by omega)
          · exact h
set_option maxRecDepth 100000 in
set_option maxHeartbeats 8000000 in
theorem implHe (s : ByteArray) (p : Int) (w : World) (D C R K : Nat) (hs : s.size ≤ 1048576) (hr : hdAt s (cl s.size p) = (D, C, R, K)) :
    Calls Try.prog 7 #[.string s, .int .i64 p] w fun e w' => e = .returned (.tuple #[.int .i64 (D : Int), .int .i64 (C : Int), .int .i64 (R : Int), .int .i64 (K : Int)]) ∧ Below w.heap.size w w' := by
  have hcl := cl_le s.size p
  have hmx : s.size ≤ mx := by unfold mx; omega
  have HR0 : Hid (hdAt s (cl s.size p) = (D, C, R, K)) := hr
  clear hr
  go_enter Try.func7, Try.ntmps7
  go_wp2_with fail
  refine (bring_any _ _ _ hmx).mono ?_
  rintro e w ⟨rfl, rfl⟩
  generalize cl s.size p = k at *
  have HB : Hid (Below w.heap.size w w) := Below.refl _ _
  have S1 : Hid (∀ w, Calls Try.prog 17 #[.string s, .int .i64 (k : Int), .string ⟨#[124, 62]⟩] w fun e w' => e = .returned (.bool (sgq pHd s k)) ∧ Below w.heap.size w w') := fun w => signQ s _ k pHd w _ pHd_signs rfl
  cases h1 : sgq pHd s k with
  | false =>
    have HRES : Hid ((0, 0, k, 10) = (D, C, R, K)) := by
      show _ = (D, C, R, K)
      rw [← HR0.out]; unfold hdAt
      rw [if_pos ?_]
      by_cases hk : k < s.size
      · right
        have := sgq_false h1 hk
        simpa [pHd] using this
      · left; omega
    rw [h1] at S1
    clear h1 HR0
    go_wp2_with fail
    refine (S1.out w).mono ?_
    rintro e9 w1 ⟨rfl, hb9⟩
    replace HB : Hid (Below w.heap.size w w1) := HB.out.trans (hb9.mono HB.out.size)
    clear hb9 S1
    go_wp2_with fail
    (try simp only [Exit.inBlock, Exit.then])
    refine bodyPost_ret (results_tmp4i rfl _ _ _) rfl ?_
    have e0 := HRES.out
    injection e0 with e1 e2
    injection e2 with e2 e3
    injection e3 with e3 e4
    subst e1
    subst e2
    subst e3
    subst e4
    exact ⟨by first | rfl | simp, HB.out⟩
  | true =>
    obtain ⟨hk, h2⟩ := sgq_true h1
    have h3 : bt s k = 124 ∨ bt s k = 62 := by simpa [pHd] using h2
    obtain ⟨g, c, q, hX⟩ : ∃ g c q, hdGo s (s.size + 1) (k + 1) 0 0 = (g, c, q) := ⟨_, _, _, rfl⟩
    have HD : Hid (hdEnd s (g, c, q) = (D, C, R, K)) := by
      have h := HR0.out
      unfold hdAt at h
      rw [if_neg (by omega), hX] at h
      exact h
    have S2 : Hid (∀ w, Calls Try.prog 18 #[.string s, .int .i64 ((k : Int) + 1)] w fun e w' => e = .returned (.tuple #[.int .i64 (g : Int), .int .i64 (c : Int), .int .i64 (q : Int)]) ∧ Below w.heap.size w w') := fun w => headSigns_any s (k + 1) w hs hk g c q hX
    have hq : q ≤ s.size := by
      have := hdq_le s (s.size + 1) (k + 1) 0 0 hk
      rw [hX] at this
      exact this
    have S3 : Hid (∀ w, Calls Try.prog 19 #[.string s, .int .i64 (q : Int)] w fun e w' => e = .returned (.tuple #[.int .i64 ((rest s q).1 : Int), .bool (rest s q).2]) ∧ Below w.heap.size w w') := fun w => by
      have := rest_any s (q : Int) w hmx
      rw [cl_nat _ _ hq] at this
      exact this
    rw [h1] at S1
    have hk' : (k : Int) < (s.size : Int) := by omega
    cases hok : (rest s q).2 with
    | true =>
      have HRES : Hid ((g, c, (rest s q).1, 0) = (D, C, R, K)) := by
        have h := HD.out
        unfold hdEnd at h
        rw [if_pos hok] at h
        exact h
      rw [hok] at S3
      obtain ⟨r, hr⟩ : ∃ r, (rest s q).1 = r := ⟨_, rfl⟩
      rw [hr] at S3 HRES
      clear hr hok HD h1 h2 h3 HR0 hX
      go_wp2_with fail
      refine (S1.out w).mono ?_
      rintro e9 w1 ⟨rfl, hb9⟩
      replace HB : Hid (Below w.heap.size w w1) := HB.out.trans (hb9.mono HB.out.size)
      clear hb9 S1
      go_wp2_with fail
      refine (S2.out w1).mono ?_
      rintro e9 w2 ⟨rfl, hb9⟩
      replace HB : Hid (Below w.heap.size w w2) := HB.out.trans (hb9.mono HB.out.size)
      clear hb9 S2
      go_wp2_with fail
      refine (S3.out w2).mono ?_
      rintro e9 w3 ⟨rfl, hb9⟩
      replace HB : Hid (Below w.heap.size w w3) := HB.out.trans (hb9.mono HB.out.size)
      clear hb9 S3
      go_wp2_with fail
      (try simp only [Exit.inBlock, Exit.then])
      refine bodyPost_ret (results_tmp4i rfl _ _ _) rfl ?_
      have e0 := HRES.out
      injection e0 with e1 e2
      injection e2 with e2 e3
      injection e3 with e3 e4
      subst e1
      subst e2
      subst e3
      subst e4
      exact ⟨by first | rfl | simp, HB.out⟩
    | false =>
      have HRES : Hid ((0, 0, (rest s q).1, 6) = (D, C, R, K)) := by
        have h := HD.out
        unfold hdEnd at h
        rw [if_neg (by rw [hok]; simp)] at h
        exact h
      rw [hok] at S3
      obtain ⟨r, hr⟩ : ∃ r, (rest s q).1 = r := ⟨_, rfl⟩
      rw [hr] at S3 HRES
      clear hr hok HD h1 h2 h3 HR0 hX
      go_wp2_with fail
      refine (S1.out w).mono ?_
      rintro e9 w1 ⟨rfl, hb9⟩
      replace HB : Hid (Below w.heap.size w w1) := HB.out.trans (hb9.mono HB.out.size)
      clear hb9 S1
      go_wp2_with fail
      refine (S2.out w1).mono ?_
      rintro e9 w2 ⟨rfl, hb9⟩
      replace HB : Hid (Below w.heap.size w w2) := HB.out.trans (hb9.mono HB.out.size)
      clear hb9 S2
      go_wp2_with fail
      refine (S3.out w2).mono ?_
      rintro e9 w3 ⟨rfl, hb9⟩
      replace HB : Hid (Below w.heap.size w w3) := HB.out.trans (hb9.mono HB.out.size)
      clear hb9 S3
      go_wp2_with fail
      (try simp only [Exit.inBlock, Exit.then])
      refine bodyPost_ret (results_tmp4i rfl _ _ _) rfl ?_
      have e0 := HRES.out
      injection e0 with e1 e2
      injection e2 with e2 e3
      injection e3 with e3 e4
      subst e1
      subst e2
      subst e3
      subst e4
      exact ⟨by first | rfl | simp, HB.out⟩
end Go.Proofs.Ytfpkcfedkjjjbak
