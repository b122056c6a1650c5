/- The law FnMatch, walked. -/
import Derived.Test.YtmbbmibkjnlkkaaDoorDsl
import Derived.Test.YtmbbmibkjnlkkaaDoorJmt
import Derived.Test.YtmbbmibkjnlkkaaDoorPmt
import Derived.Test.YtmbbmibkjnlkkaaDoorRwi
namespace Go.Proofs.YtmbbmibkjnlkkaaDoor
open Go.ChangeShapes Go.WideShapes Go.ChangeAt Go.RowKit
theorem cellsP_app (xs ys : List Sg) : cellsP (xs ++ ys) = cellsP xs ++ cellsP ys := by
  induction xs with
  | nil => rfl
  | cons x t ih => show x.row.toList ++ cellsP (t ++ ys) = (x.row.toList ++ cellsP t) ++ cellsP ys; rw [ih, List.append_assoc]
theorem cellsP_one : ∀ {ys : List Sg} {u : Value}, u ∈ cellsP ys → u.oneCell' = true
  | [], _, h => by cases h
  | y :: t, u, h => by
    rcases List.mem_append.1 (show u ∈ y.row.toList ++ cellsP t from h) with h | h
    · obtain ⟨k, n, s⟩ := y
      simp [Sg.row] at h
      rcases h with rfl | rfl | rfl <;> rfl
    · exact cellsP_one h
/-- A list that lies in a row comes behind a row of the call's own. -/
theorem app_rows (w : World) (lo lo2 : Nat) (v : Value) (xs ys : List Sg) (g m c : Nat) (hown : w.ownsRow lo 29 3 v xs.length (cellsP xs)) (hsrc : w.ownsRow lo2 29 3 (.slice (some ⟨g, 0, none⟩) m c) ys.length (cellsP ys)) (hm : m = ys.length) (h1 : xs.length + ys.length ≤ 1000) (hlo : lo ≤ w.heap.size) (hv : isSo v) (ty : TypeId) :
    ∃ v' w', (Builtin.append_ #[23, 23] ty #[v, .slice (some ⟨g, 0, none⟩) m c]).run Tryd.prog w = .ok v' w' ∧ isSo v' ∧ w'.ownsRow lo 29 3 v' (xs ++ ys).length (cellsP (xs ++ ys)) ∧ Below lo w w' := by
  subst hm
  obtain ⟨ti, hti, hz0, hz1, hz2⟩ := infoPz_parts
  obtain ⟨v2, w2, hr2, ho2, hg2, hnil, hid⟩ := run_append_own_at (P := Tryd.prog) w lo 23 ty 29 ti _ 3 32 Tryd.underlying23 hti hz0 hz1 hz2 rfl (by decide) v xs.length (cellsP xs) hown ⟨g, 0, none⟩ ys.length c (cellsP ys) hsrc.1 (fun j u hu => hsrc.cells (g := g) rfl j u hu) (fun u hu => cellsP_one hu) (by unfold maxLen; omega) (by
    have : (xs.length + ys.length) * 32 ≤ 1000 * 32 := Nat.mul_le_mul h1 (by omega)
    omega) hlo
  refine ⟨v2, w2, hr2, ?_, ?_, ?_⟩
  · obtain ⟨g0, n0, c0, rfl⟩ := hv
    rcases ho2.2 with ⟨e, _⟩ | ⟨g, cap, cur, e, _⟩
    · have := hnil.1 e
      exact absurd this.1 (by simp)
    · exact ⟨_, _, _, e⟩
  · rw [List.length_append, cellsP_app]
    exact ho2
  · have hlo2 : ∀ b, v.ownBlock = some b → lo ≤ b := fun b hb => (hown.lt b hb).1
    exact ⟨hg2.os, hg2.tape, hg2.output, hg2.size, fun b hb => hg2.block b (by omega) (fun e => by have := hlo2 b e.symm; omega)⟩
def anyS : Sg := ⟨4, 0, ⟨#[]⟩⟩
def zeroS : Sg := ⟨0, 0, ⟨#[]⟩⟩
theorem rep_len (n : Nat) : (List.replicate n anyS).length = n := List.length_replicate
theorem ok_any : segOk anyS = true := by unfold segOk noT anyS; simp
theorem ok_deep : segOk deepS = true := by unfold segOk noT deepS; simp
theorem ok_zero : segOk zeroS = false := by unfold segOk zeroS; simp
theorem all_rep (n : Nat) : (List.replicate n anyS).all segOk = true := by
  rw [List.all_eq_true]
  intro x hx
  rw [(List.mem_replicate.1 hx).2]
  exact ok_any
/-- What the law asks of Match. -/
structure MtF (L : List Sg) : Prop where
  m1 : matchAll L L = true
  m2 : matchAll (List.replicate L.length anyS) L = true
  m3 : matchAll [deepS] L = true
  m4 : matchAll (deepS :: L) L = true
  m5 : matchAll (List.replicate L.length anyS ++ [anyS]) L = false
  m6 : matchAll L [zeroS] = false
theorem mtF {L : List Sg} (h : ∀ s ∈ L, DrS 2 s) : MtF L := by
  have hk : ∀ s ∈ L, s.kind ≠ 5 := fun s hs => by have := (h s hs).most; omega
  have ho : L.all segOk = true := List.all_eq_true.2 (fun s hs => (h s hs).ok)
  refine ⟨?_, ?_, ?_, ?_, ?_, ?_⟩
  · rw [matchAll_ok _ _ ho ho]; exact match_self L hk
  · rw [matchAll_ok _ _ (all_rep _) ho]; exact match_any4 anyS rfl L
  · rw [matchAll_ok _ _ (by simp [ok_deep]) ho]; exact match_deepAll deepS rfl L
  · rw [matchAll_ok _ _ (by simp only [List.all_cons, ok_deep, ho]; rfl) ho]; exact match_both deepS rfl L hk
  · rw [matchAll_ok _ _ (by rw [List.all_append, all_rep]; simp [ok_any]) ho]; exact match_more anyS rfl L
  · exact match_bad L [zeroS] (by simp [ok_zero])
/-- One step lies in a block of its own. -/
theorem row_one (w : World) (k n : Int) (t : ByteArray) : (w.alloc (.cells #[.int .i64 k, .int .i64 n, .string t] 29)).ownsRow w.heap.size 29 3 (.slice (some ⟨w.heap.size, 0, none⟩) 1 1) ([(⟨k, n, t⟩ : Sg)]).length (cellsP [⟨k, n, t⟩]) := by
  refine ⟨rfl, .inr ⟨w.heap.size, 1, _, rfl, Nat.le_refl _, heap_alloc_new w _, Nat.le_refl _, by unfold maxLen; omega, rfl, rfl⟩⟩
set_option maxRecDepth 100000 in
set_option maxHeartbeats 16000000 in
theorem law_match_drawn (a : Option Addr) (len cap : Nat) (w : World) (hb : len ≤ 1048576 → Bs w.heap.size a len w) (hT : TabV w) :
    Calls Tryd.prog 4 #[.slice a len cap] w fun e w' => e = .returned (.bool true) ∧ Below w.heap.size w w' := by
  by_cases h0 : 1048576 < len
  · have h1 : (1048576 : Int) < (len : Int) := by omega
    clear hb hT
    go_enter Tryd.func4, Tryd.ntmps4
    go_wp2_with fail
    go_ret
    exact ⟨rfl, Below.refl _ _⟩
  have h1 : ¬ (1048576 : Int) < (len : Int) := by omega
  have cM := makePath_any a len cap w (hb (by omega))
  have HT : Hid (TabV w) := hT
  clear hb hT h0
  go_enter Tryd.func4, Tryd.ntmps4
  go_wp2_with fail
  refine cM.mono ?_
  rintro e w1 ⟨v, L, rfl, ⟨lg, ln, lc, rfl⟩, hL6, hdr, hrow, hb1⟩
  obtain rfl : ln = L.length := by
    rcases hrow.2 with ⟨e, _⟩ | ⟨g, cp, cur, e, _⟩
    · cases e
    · injection e with _ e2 _
  have HM : Hid (MtF L) := mtF hdr
  have HB1 : Hid (Below w.heap.size w w1) := hb1
  have HR : Hid (w1.ownsRow w.heap.size 29 3 (.slice (some ⟨lg, 0, none⟩) L.length lc) L.length (cellsP L)) := hrow
  have HL : Hid (L.length ≤ 6) := by show L.length ≤ 6; omega
  have lI : (L.length : Int) ≤ 6 := hL6
  have hO0 : (w1.alloc (.cells #[] 29)).ownsRow w1.heap.size 29 3 (.slice (some ⟨w1.heap.size, 0, none⟩) 0 0) 0 (cellsP (List.replicate 0 anyS)) := World.ownsRow_made w1 #[] 0 (Nat.le_refl _) (by unfold maxLen; omega) rfl
  have HO0 : Hid ((w1.alloc (.cells #[] 29)).ownsRow w1.heap.size 29 3 (.slice (some ⟨w1.heap.size, 0, none⟩) 0 0) 0 (cellsP (List.replicate 0 anyS)) ∧ Below w1.heap.size w1 (w1.alloc (.cells #[] 29))) := ⟨hO0, (Below.refl _ w1).alloc (Nat.le_refl _) _⟩
  clear hdr hrow hb1 cM hO0 hL6
  go_wp2_with fail
  go_loopw [4, 16] (fun ov kv wr => ∃ (k g n c : Nat), ov = .slice (some ⟨g, 0, none⟩) n c ∧ kv = .int .i64 (k : Int) ∧ k ≤ L.length ∧ Hid (wr.ownsRow w1.heap.size 29 3 (.slice (some ⟨g, 0, none⟩) n c) k (cellsP (List.replicate k anyS)) ∧ Below w1.heap.size w1 wr)) (fun _ kv _ => L.length - (intOf kv).toNat)
  case atStart => exact ⟨0, _, _, _, rfl, rfl, Nat.zero_le _, HO0.out⟩
  case round =>
    obtain ⟨k, g, n, c, rfl, rfl, hk, HW⟩ := hrel
    clear HO0
    by_cases hlt : k < L.length
    · have hlt' : (k : Int) < (L.length : Int) := by omega
      obtain ⟨v5, w5, hrun5, hsl5, hown5, hbel5, _⟩ := push_own (P := Tryd.prog) Tryd.underlying23 infoPz rfl (by decide) wr w1.heap.size _ _ _ HW.out.1 #[.int .i64 4, .int .i64 0, .string ⟨#[]⟩] rfl (by intro u hu; simp at hu; rcases hu with rfl | rfl | rfl <;> rfl) (by have := HL.out; omega) (by omega) HW.out.2.size 23
      obtain ⟨g5, n5, c5, rfl⟩ := so_row hown5
      have HO5 : Hid (w5.ownsRow w1.heap.size 29 3 (.slice (some ⟨g5, 0, none⟩) n5 c5) (k + 1) (cellsP (List.replicate (k + 1) anyS)) ∧ Below w1.heap.size w1 w5) := by
        refine ⟨?_, HW.out.2.trans hbel5⟩
        rw [List.replicate_succ', cellsP_app]
        exact hown5
      clear hown5 hbel5 hsl5 HW
      go_wp2_with (at_builtin; refine append_run rfl _ _ 23 rfl _ _ rfl rfl _ w5 hrun5 ?_)
      go_roundw
      case rel => exact ⟨k + 1, _, _, _, rfl, by go_num, hlt, HO5⟩
      case measure => simp [intOf]; omega
    have hlt' : ¬ (k : Int) < (L.length : Int) := by omega
    obtain rfl : k = L.length := by omega
    have hn : n = L.length := by
      rcases HW.out.1.2 with ⟨e, _⟩ | ⟨g', cp, cur, e, _⟩
      · cases e
      · injection e with _ e2 _
    subst hn
    clear hlt hk
    -- the deep step
    obtain ⟨wD, hwD⟩ : ∃ wD, wr.alloc (.cells #[.int .i64 5, .int .i64 0, .string ⟨#[]⟩] 29) = wD := ⟨_, rfl⟩
    have sD : wD.heap.size = wr.heap.size + 1 := by rw [← hwD]; simp
    have bD : Below wr.heap.size wr wD := by rw [← hwD]; exact (Below.refl _ wr).alloc (Nat.le_refl _) _
    have rD : wD.ownsRow wr.heap.size 29 3 (.slice (some ⟨wr.heap.size, 0, none⟩) 1 1) ([deepS]).length (cellsP [deepS]) := by rw [← hwD]; exact row_one wr 5 0 _
    -- one more
    obtain ⟨wE, hwE⟩ : ∃ wE, wD.alloc (.cells #[] 29) = wE := ⟨_, rfl⟩
    have bE : Below wD.heap.size wD wE := by rw [← hwE]; exact (Below.refl _ wD).alloc (Nat.le_refl _) _
    have rE : wE.ownsRow wD.heap.size 29 3 (.slice (some ⟨wr.heap.size + 1, 0, none⟩) 0 0) ([] : List Sg).length (cellsP []) := by rw [← hwE, ← sD]; exact World.ownsRow_made wD #[] 0 (Nat.le_refl _) (by unfold maxLen; omega) rfl
    have rA : wE.ownsRow w1.heap.size 29 3 (.slice (some ⟨g, 0, none⟩) L.length c) (List.replicate L.length anyS).length (cellsP (List.replicate L.length anyS)) := by rw [rep_len]; exact row_stays (row_stays HW.out.1 bD) bE
    obtain ⟨v6, w6, hrun6, ⟨g6, n6, c6, rfl⟩, r6, b6⟩ := app_rows wE wD.heap.size w1.heap.size _ [] (List.replicate L.length anyS) g L.length c rE rA (by rw [rep_len]) (by rw [rep_len]; have := HL.out; simp; omega) bE.size ⟨_, _, _, rfl⟩ 23
    rw [List.nil_append] at r6
    obtain ⟨v7, w7, hrun7, hsl7, r7, b7, _⟩ := push_own (P := Tryd.prog) Tryd.underlying23 infoPz rfl (by decide) w6 wD.heap.size _ _ _ r6 #[.int .i64 4, .int .i64 0, .string ⟨#[]⟩] rfl (by intro u hu; simp at hu; rcases hu with rfl | rfl | rfl <;> rfl) (by rw [rep_len]; have := HL.out; omega) (by omega) (Nat.le_trans bE.size b6.size) 23
    have r7' : w7.ownsRow wD.heap.size 29 3 v7 (List.replicate L.length anyS ++ [anyS]).length (cellsP (List.replicate L.length anyS ++ [anyS])) := by
      rw [List.length_append, cellsP_app]
      exact r7
    obtain ⟨g7, n7, c7, rfl⟩ := so_row r7
    have BD7 : Below wD.heap.size wD w7 := bE.trans (b6.trans b7)
    have B7 : Below wr.heap.size wr w7 := bD.trans (BD7.mono bD.size)
    have B17 : Below w1.heap.size w1 w7 := HW.out.2.trans (B7.mono HW.out.2.size)
    -- both
    obtain ⟨wF, hwF⟩ : ∃ wF, w7.alloc (.cells #[] 29) = wF := ⟨_, rfl⟩
    have bF : Below w7.heap.size w7 wF := by rw [← hwF]; exact (Below.refl _ w7).alloc (Nat.le_refl _) _
    have rF : wF.ownsRow w7.heap.size 29 3 (.slice (some ⟨w7.heap.size, 0, none⟩) 0 0) ([] : List Sg).length (cellsP []) := by rw [← hwF]; exact World.ownsRow_made w7 #[] 0 (Nat.le_refl _) (by unfold maxLen; omega) rfl
    have rD8 := row_stays (row_stays rD BD7) bF
    obtain ⟨v9, w9, hrun9, ⟨g9, n9, c9, rfl⟩, r9, b9⟩ := app_rows wF w7.heap.size wr.heap.size _ [] [deepS] wr.heap.size 1 1 rF rD8 rfl (by simp) bF.size ⟨_, _, _, rfl⟩ 23
    rw [List.nil_append] at r9
    have B79 : Below w7.heap.size w7 w9 := bF.trans (b9)
    have rL9 := row_stays HR.out (B17.trans (B79.mono B17.size))
    obtain ⟨v10, w10, hrun10, ⟨g10, n10, c10, rfl⟩, r10, b10⟩ := app_rows w9 w7.heap.size w.heap.size _ [deepS] L lg L.length lc r9 rL9 rfl (by have := HL.out; simp; omega) B79.size ⟨_, _, _, rfl⟩ 23
    have B710 : Below w7.heap.size w7 w10 := B79.trans b10
    have B110 : Below w1.heap.size w1 w10 := B17.trans (B710.mono B17.size)
    have HB10 : Hid (Below w.heap.size w w10) := HB1.out.trans (B110.mono HB1.out.size)
    have HSL : Hid (SgL w10 (.slice (some ⟨lg, 0, none⟩) L.length lc) L) := slP_row (row_stays HR.out B110)
    have HSA : Hid (SgL w10 (.slice (some ⟨g, 0, none⟩) L.length c) (List.replicate L.length anyS)) := slP_row (by rw [rep_len]; exact row_stays HW.out.1 (B7.trans (B710.mono B7.size)))
    have HSD : Hid (SgL w10 (.slice (some ⟨wr.heap.size, 0, none⟩) 1 1) [deepS]) := slP_row (row_stays rD (BD7.trans (B710.mono BD7.size)))
    have HSM : Hid (SgL w10 (.slice (some ⟨g7, 0, none⟩) n7 c7) (List.replicate L.length anyS ++ [anyS])) := slP_row (row_stays r7' B710)
    have HSB : Hid (SgL w10 (.slice (some ⟨g10, 0, none⟩) n10 c10) (deepS :: L)) := slP_row r10
    have hE2 : wE = ((wr.alloc (.cells #[.int .i64 5, .int .i64 0, .string ⟨#[]⟩] 29)).alloc (.cells #[] 29)) := by rw [← hwE, ← hwD]
    rw [hE2] at hrun6
    rw [← hwF] at hrun9
    clear rD8 rL9 r9 r10 b10 b9 B79 B110 B710 bF rF r7 r7' b7 b6 r6 rA rE bE rD bD sD BD7 B7 B17 HW hsl7 hE2 hwE hwD hwF HR
    go_wp2_with (at_builtin; first | (refine append_run rfl (.tmp 25) (.tmp 26) 23 rfl _ _ rfl rfl _ w6 hrun6 ?_) | (refine append_run rfl (.tmp 27) (.tmp 29) 23 rfl _ _ rfl rfl _ w7 hrun7 ?_) | (refine append_run rfl (.tmp 31) (.tmp 32) 23 rfl _ _ rfl rfl _ w9 hrun9 ?_) | (refine append_run rfl (.tmp 33) (.tmp 34) 23 rfl _ _ rfl rfl _ w10 hrun10 ?_))
    have HLL : Hid (L.length ≤ 1000 ∧ (List.replicate L.length anyS).length ≤ 1000 ∧ ([deepS] : List Sg).length ≤ 1000 ∧ (deepS :: L).length ≤ 1000 ∧ (List.replicate L.length anyS ++ [anyS]).length ≤ 1000 ∧ ([zeroS] : List Sg).length ≤ 1000) := by
      have := HL.out
      refine ⟨by omega, by rw [rep_len]; omega, by simp, by simp only [List.length_cons]; omega, by rw [List.length_append, rep_len]; simp; omega, by simp⟩
    have MC : Hid (∀ (u : World) (p q : List Sg) (pv qv : Value) (b : Bool), Below w10.heap.size w10 u → SgL w10 pv p → SgL w10 qv q → p.length ≤ 1000 → q.length ≤ 1000 → matchAll p q = b → Calls Tryd.prog 14 #[pv, qv] u fun e w' => e = .returned (.bool b) ∧ Below u.heap.size u w') := by
      intro u p q pv qv b hu hp hq lp lq hb
      rw [← hb]
      exact implMt p q pv qv u (hp.stays hu) (hq.stays hu) (by omega) (by omega) (HT.out.lasts (HB10.out.trans (hu.mono HB10.out.size)))
    clear hrun6 hrun7 hrun9 hrun10
    refine (MC.out w10 _ _ _ _ _ (Below.refl _ _) HSL.out HSL.out HLL.out.1 HLL.out.1 HM.out.m1).mono ?_
    rintro e u1 ⟨rfl, hc0⟩
    have HC0 : Hid (Below w10.heap.size w10 u1) := hc0
    clear hc0
    go_wp2_with fail
    refine (MC.out u1 _ _ _ _ _ HC0.out HSA.out HSL.out HLL.out.2.1 HLL.out.1 HM.out.m2).mono ?_
    rintro e u2 ⟨rfl, hc1⟩
    have HC1 : Hid (Below w10.heap.size w10 u2) := HC0.out.trans (hc1.mono HC0.out.size)
    clear hc1
    go_wp2_with fail
    refine (MC.out u2 _ _ _ _ _ HC1.out HSD.out HSL.out HLL.out.2.2.1 HLL.out.1 HM.out.m3).mono ?_
    rintro e u3 ⟨rfl, hc2⟩
    have HC2 : Hid (Below w10.heap.size w10 u3) := HC1.out.trans (hc2.mono HC1.out.size)
    clear hc2
    go_wp2_with fail
    refine (MC.out u3 _ _ _ _ _ HC2.out HSB.out HSL.out HLL.out.2.2.2.1 HLL.out.1 HM.out.m4).mono ?_
    rintro e u4 ⟨rfl, hc3⟩
    have HC3 : Hid (Below w10.heap.size w10 u4) := HC2.out.trans (hc3.mono HC2.out.size)
    clear hc3
    go_wp2_with fail
    refine (MC.out u4 _ _ _ _ _ HC3.out HSM.out HSL.out HLL.out.2.2.2.2.1 HLL.out.1 HM.out.m5).mono ?_
    rintro e u5 ⟨rfl, hc4⟩
    have HC4 : Hid (Below w10.heap.size w10 u5) := HC3.out.trans (hc4.mono HC3.out.size)
    clear hc4
    go_wp2_with fail
    obtain ⟨W, hW⟩ : ∃ W, u5.alloc (.cells #[.int .i64 0, .int .i64 0, .string ⟨#[]⟩] 29) = W := ⟨_, rfl⟩
    have hbW : Below u5.heap.size u5 W := by rw [← hW]; exact (Below.refl _ u5).alloc (Nat.le_refl _) _
    have HCW : Hid (Below w10.heap.size w10 W) := HC4.out.trans (hbW.mono HC4.out.size)
    have hz : SgL W (.slice (some ⟨u5.heap.size, 0, none⟩) 1 1) [zeroS] := by rw [← hW]; exact slP_row (row_one u5 0 0 _)
    have cZ := implMt L [zeroS] _ _ W (HSL.out.stays HCW.out) hz (by have := HLL.out.1; omega) (by simp) (HT.out.lasts (HB10.out.trans (HCW.out.mono HB10.out.size)))
    rw [HM.out.m6] at cZ
    rw [hW]
    refine cZ.mono ?_
    rintro e u6 ⟨rfl, hc6⟩
    have HO : Hid (Below w.heap.size w u6) := (HB10.out.trans (HCW.out.mono HB10.out.size)).trans (hc6.mono (Nat.le_trans HB10.out.size HCW.out.size))
    clear hc6 cZ hz hbW hW
    go_wp2_with fail
    go_ret
    exact ⟨rfl, HO.out⟩
end Go.Proofs.YtmbbmibkjnlkkaaDoor
