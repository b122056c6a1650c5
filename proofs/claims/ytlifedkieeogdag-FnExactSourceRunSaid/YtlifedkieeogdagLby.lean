/- The law on SourceByte, walked. -/
import Derived.Test.YtlifedkieeogdagSbz
namespace Go.Proofs.Ytlifedkieeogdag
open Go.Maps Go.RowKit Go.Deep
def RdB (B : Nat) (w : World) (v : Value) (qs : List Pg) : Prop := ∃ ps, SlP B w v ps ∧ PQ B w ps qs
theorem RdB.stays {B : Nat} {w w' : World} {v : Value} {qs : List Pg} (h : RdB B w v qs) (hb : Below B w w') : RdB B w' v qs := by
  obtain ⟨ps, h1, h2⟩ := h
  exact ⟨ps, h1.stays hb, h2.stays hb⟩
theorem RdB.rdp {B : Nat} {w : World} {v : Value} {qs : List Pg} (h : RdB B w v qs) (hB : B ≤ w.heap.size) : Rdp w v qs := by
  obtain ⟨ps, h1, h2⟩ := h
  exact ⟨ps, h1.mono hB, h2.mono hB⟩
theorem Rdp.b {w : World} {v : Value} {qs : List Pg} (h : Rdp w v qs) : RdB w.heap.size w v qs := h
theorem tlen_tot : ∀ qs : List Pg, tlen qs = tot qs
  | [] => rfl
  | q :: qs => by simp only [tlen, tot, tlen_tot qs]
theorem tlen_six : ∀ (qs : List Pg), (∀ q ∈ qs, q.2.length ≤ 60000) → tlen qs ≤ qs.length * 60001
  | [], _ => by simp [tlen]
  | q :: qs, h => by
    have := tlen_six qs (fun x hx => h x (by simp [hx]))
    have := h q (by simp)
    simp only [tlen, List.length_cons]
    omega
theorem byteM_small (size f : Int) (qs : List Pg) (zs : List Int) (at_ : Int) : (byteM size f qs zs at_).1.2.1.length ≤ 6 ∧ ∀ q ∈ (byteM size f qs zs at_).1.2.1, q.2.length ≤ 60000 := by
  unfold byteM
  split
  · rename_i h
    have hO := readM_ok (zs := zs) (okS_iff.1 h.1) h.2.1
    refine ⟨hO.len, fun q hq => ?_⟩
    have := (hO.each q hq).2
    have := hO.s2
    simp at *
    omega
  · exact ⟨by simp, fun q hq => by cases hq⟩
set_option maxHeartbeats 16000000 in
theorem law_byte (w : World) (size f at_ : Int) (v : Value) (qs : List Pg) (vb : Value) (zs : List Int) (hV : Rdp w v qs) (hl : lens qs) (hq : qs.length ≤ 9223372036854775807) (hw : ∀ q ∈ qs, (Lit.int .i64 q.1).wf = true) (hod : okd qs)
    (hS : Sl w.heap.size w vb zs) (hoz : okz zs) (hzl : zs.length ≤ 9223372036854775807) :
    Calls Try.prog 5 #[.agg #[.int .i64 size, v, .int .i64 f], vb, .int .i64 at_] w fun e w' => e = .returned (.bool true) ∧ Below w.heap.size w w' := by
  obtain ⟨v0, v2, rfl⟩ := hV.sl
  obtain ⟨ab, cb, rfl⟩ := sl_len hS
  have hB0 : Below w.heap.size w (w.alloc (.cells #[.int .i64 size, .slice v0 qs.length v2, .int .i64 f] 24)) := (Below.refl _ w).alloc (Nat.le_refl _) _
  have a0 := Atl.new w 24 size (.slice v0 qs.length v2) f
  by_cases hbig : (1048576 : Int) < (zs.length : Int)
  · clear a0 hV hl hq hw hod hS hoz
    go_enter Try.func5, Try.ntmps5
    go_wp2_with fail
    go_ret
    exact ⟨rfl, hB0⟩
  have hbig' : (zs.length : Int) ≤ 1048576 := by omega
  have HZL : Hid (zs.length ≤ 1048576) := by show zs.length ≤ 1048576; omega
  have HV : Hid (Rdp w (.slice v0 qs.length v2) qs) := hV
  have HW : Hid (∀ q ∈ qs, (Lit.int .i64 q.1).wf = true) := hw
  have HOD : Hid (okd qs) := hod
  have HOZ : Hid (okz zs) := hoz
  have HS : Hid (Sl w.heap.size w (.slice ab zs.length cb) zs) := hS
  have hSz := szS_ _ size f (.slice v0 qs.length v2) qs (hV.later hB0) hl hq
  obtain ⟨hrl, hrz⟩ := byteM_small size f qs zs at_
  obtain ⟨⟨⟨sR, qR, fR⟩, xR⟩, hR⟩ : ∃ R, byteM size f qs zs at_ = R := ⟨_, rfl⟩
  rw [hR] at hrl hrz
  have HR : Hid (byteM size f qs zs at_ = ((sR, qR, fR), xR)) := hR
  have HRL : Hid (qR.length ≤ 6) := hrl
  have HRZ : Hid (∀ q ∈ qR, q.2.length ≤ 60000) := hrz
  have hxx : (xR != xR) = false := by simp
  clear hV hl hq hw hod hS hoz hzl hbig hR hrl hrz
  go_enter Try.func5, Try.ntmps5
  go_wp2_with fail
  generalize (w.alloc (.cells #[.int .i64 size, .slice v0 qs.length v2, .int .i64 f] 24)) = wa at *
  refine hSz.mono ?_
  rintro e w1 ⟨⟨r, rfl, hr⟩, hb1⟩
  have a1 := a0.later hb1
  have hB1 := hB0.stp hb1
  clear hSz a0 hB0 hb1
  rcases hr with rfl | ⟨hr0, hrt⟩
  · go_wp2_with fail
    go_ret
    exact ⟨rfl, hB1⟩
  have hr0' : ¬ r < 0 := by omega
  have HTOT : Hid (tot qs ≤ 1048576) := by show tot qs ≤ 1048576; omega
  clear hrt
  -- spec
  obtain ⟨p0, p1, p2⟩ := a1.cells
  go_wp2_with fail
  clear p0 p1 p2
  refine (toS_ w1 size f _ qs (HV.out.later hB1) HTOT.out).mono ?_
  rintro e w2 ⟨⟨va, rfl, hOa⟩, hb2⟩
  have a2 := a1.later hb2
  have hB2 := hB1.stp hb2
  have hRa := hOa.rdp
  obtain ⟨x0, x1, x2, rfl⟩ := hOa.sl
  clear a1 hB1 hb2 hOa
  go_wp2_with fail
  refine (toB_ _ zs w2 w.heap.size (HS.out.stays hB2) HZL.out).mono ?_
  rintro e w3 ⟨⟨c3, rfl, hro3⟩, hb3⟩
  have a3 := a2.later hb3
  have hB3 := hB2.stp hb3
  have hRa3 := hRa.later hb3
  have hSl3 := sl_of_own hro3
  have cS := sbyte_ w3 size f at_ _ qs _ zs hRa3 hSl3 HZL.out HOZ.out HOD.out
  rw [HR.out] at cS
  clear a2 hB2 hb3 hRa hRa3 hSl3 hro3
  go_wp2_with fail
  refine cS.mono ?_
  rintro e w4 ⟨⟨v4, rfl, ⟨y0, y1, y2, rfl⟩, hR4'⟩, hb4⟩
  have hR4 : Rdp w4 (.slice y0 y1 y2) qR := hR4'.rdp
  clear hR4'
  have hAl : Below w4.heap.size w4 (w4.alloc (.cells #[.int .i64 sR, .slice y0 y1 y2, .int .i64 fR] 29)) := (Below.refl _ _).alloc (Nat.le_refl _) _
  have hwb := lt_of_get (a3.later hb4)
  have a5 := (a3.later hb4).later hAl
  have hB5 := (hB3.stp hb4).stp hAl
  have c5 := Atl.new w4 29 sR (.slice y0 y1 y2) fR
  have hR5 : RdB w4.heap.size _ (.slice y0 y1 y2) qR := (Rdp.b hR4).stays hAl
  have hz5 : w4.heap.size < (w4.alloc (.cells #[.int .i64 sR, .slice y0 y1 y2, .int .i64 fR] 29)).heap.size := by simp
  clear cS a3 hB3 hR4 hb4 hAl
  obtain ⟨p0, p1, p2⟩ := a5.cells
  go_wp2_with fail
  clear p0 p1 p2
  generalize (w4.alloc (.cells #[.int .i64 sR, .slice y0 y1 y2, .int .i64 fR] 29)) = w5 at *
  generalize w4.heap.size = b0 at *
  refine (toS_ w5 size f _ qs (HV.out.later hB5) HTOT.out).mono ?_
  rintro e w6 ⟨⟨vx, rfl, hOx⟩, hb6⟩
  obtain ⟨z0, z1, z2, rfl⟩ := hOx.sl
  have hAl : Below w6.heap.size w6 (w6.alloc (.cells #[.int .i64 size, .slice z0 z1 z2, .int .i64 f] 29)) := (Below.refl _ _).alloc (Nat.le_refl _) _
  have hb67 := hb6.stp hAl
  have a7 := a5.later hb67
  have hB7 := hB5.stp hb67
  have c7 := c5.later hb67
  have hR7 := hR5.stays (hb67.mono (by omega))
  have d7 := Atl.new w6 29 size (.slice z0 z1 z2) f
  have hO7 : Own2 w5.heap.size w6.heap.size _ (.slice z0 z1 z2) qs := (Own.two hOx).later hAl
  have hz67 := hb6.size
  have hz7 : w6.heap.size < (w6.alloc (.cells #[.int .i64 size, .slice z0 z1 z2, .int .i64 f] 29)).heap.size := by simp
  clear a5 hB5 c5 hR5 hb6 hAl hb67 hOx
  go_wp2_with fail
  generalize (w6.alloc (.cells #[.int .i64 size, .slice z0 z1 z2, .int .i64 f] 29)) = w7 at *
  generalize w6.heap.size = hix at *
  generalize w5.heap.size = lox at *
  refine (toB_ _ zs w7 w.heap.size (HS.out.stays hB7) HZL.out).mono ?_
  rintro e w8 ⟨⟨c8, rfl, hro8⟩, hb8⟩
  have a8 := a7.later hb8
  have hB8 := hB7.stp hb8
  have c8' := c7.later hb8
  have hR8 := hR7.stays (hb8.mono (by omega))
  have d8 := d7.later hb8
  have hO8 := hO7.later hb8
  have hz8 := hb8.size
  have hzy := (hro8.lt _ rfl).2
  clear a7 hB7 c7 hR7 d7 hO7 hb8
  obtain ⟨p0, p1, p2⟩ := d8.cells
  have cI : Calls Try.prog 20 #[.agg #[.int .i64 size, .slice z0 z1 z2, .int .i64 f], .slice (some ⟨w7.heap.size, 0, none⟩) zs.length c8, .int .i64 at_] w8 fun e w' => BytePost (byteM size f qs zs at_) w8 e w' := by
    obtain ⟨ps, h1, h2, h3⟩ := hO8.own.rdp.args HW.out
    exact ibyte_ w8 size f at_ _ ps qs _ zs ⟨h1, h2, h3, HOD.out, sl_of_own hro8, HOZ.out, HZL.out⟩
  rw [HR.out] at cI
  go_wp2_with fail
  clear p0 p1 p2
  refine cI.mono ?_
  rintro e w9 ⟨vg, rfl, hOg, hb9⟩
  obtain ⟨g0, g1, g2, rfl⟩ := hOg.sl
  have hOg' : Own w8.heap.size w9 (.slice g0 g1 g2) qR := hOg
  have hAl : Below w9.heap.size w9 (w9.alloc (.cells #[.int .i64 sR, .slice g0 g1 g2, .int .i64 fR] 29)) := (Below.refl _ _).alloc (Nat.le_refl _) _
  have hb90 := hb9.stp hAl
  have hz9 := hb9.size
  have a10 := a8.later hb90
  have hB10 := hB8.stp hb90
  have c10 := c8'.later hb90
  have hR10 := hR8.stays (hb90.mono (by omega))
  have d10 := d8.later hb90
  have hO10 := hO8.later hb90
  have hro10 := row_block hro8 (fun k _ hk => hb90.block k hk)
  have e10 := Atl.new w9 29 sR (.slice g0 g1 g2) fR
  have hG10 : Own2 w8.heap.size w9.heap.size _ (.slice g0 g1 g2) qR := (Own.two hOg').later hAl
  have hz10 : w9.heap.size < (w9.alloc (.cells #[.int .i64 sR, .slice g0 g1 g2, .int .i64 fR] 29)).heap.size := by simp
  clear cI hOg hOg' hb9 hAl hb90 a8 hB8 c8' hR8 d8 hO8 hro8
  obtain ⟨p0, p1, p2⟩ := e10.cells
  obtain ⟨q0, q1, q2⟩ := c10.cells
  go_wp2_with fail
  clear p0 p1 p2 q0 q1 q2
  generalize (w9.alloc (.cells #[.int .i64 sR, .slice g0 g1 g2, .int .i64 fR] 29)) = w10 at *
  generalize w9.heap.size = hig at *
  generalize w8.heap.size = log_ at *
  generalize w7.heap.size = loy at *
  refine (eqS_ w10 sR fR _ _ qR (by have := HRL.out; omega) (fun q hq => by have := HRZ.out q hq; omega) hG10.own.rdp (hR10.rdp (by omega))).mono ?_
  rintro e w11 ⟨rfl, hb11⟩
  have a11 := a10.later hb11
  have hB11 := hB10.stp hb11
  have c11 := c10.later hb11
  have hR11 := hR10.stays (hb11.mono (by omega))
  have d11 := d10.later hb11
  have hO11 := hO10.later hb11
  have hro11 := row_block hro10 (fun k _ hk => hb11.block k hk)
  have e11 := e10.later hb11
  have hG11 := hG10.later hb11
  have hz11 := hb11.size
  clear hb11 a10 hB10 c10 hR10 d10 hO10 hro10 e10 hG10
  obtain ⟨p0, p1, p2⟩ := a11.cells
  obtain ⟨q0, q1, q2⟩ := d11.cells
  have hT := fun n => toS_ (w11.drewN n) size f _ qs (HV.out.later (below_drewN hB11 n)) HTOT.out
  have ST : Hid (Atl w11 w.heap.size 24 size (.slice v0 qs.length v2) f ∧ Below w.heap.size w w11 ∧ Atl w11 b0 29 sR (.slice y0 y1 y2) fR ∧ RdB b0 w11 (.slice y0 y1 y2) qR ∧ Atl w11 hix 29 size (.slice z0 z1 z2) f ∧ Own2 lox hix w11 (.slice z0 z1 z2) qs ∧ w11.ownsRow loy 5 1 (.slice (some ⟨loy, 0, none⟩) zs.length c8) zs.length (u8s zs) ∧ Atl w11 hig 29 sR (.slice g0 g1 g2) fR ∧ Own2 log_ hig w11 (.slice g0 g1 g2) qR) := ⟨a11, hB11, c11, hR11, d11, hO11, hro11, e11, hG11⟩
  clear a11 hB11 c11 hR11 d11 hO11 hro11 e11 hG11
  go_wp2_with fail
  go_region_with (first
    | (go_at_call 11; refine (hT 1).mono ?_; rintro e w12 ⟨⟨vc, rfl, hOc⟩, hb12⟩; obtain ⟨t0, t1, t2, rfl⟩ := hOc.sl
       have hRc := hOc.rdp
       have hbb : Below w11.heap.size w11 w12 := ⟨hb12.os, hb12.tape, hb12.output, hb12.size, hb12.block⟩
       have hR12 := (ST.out.2.2.2.2.2.1.later hbb).own.rdp
       obtain ⟨s0, s1, s2⟩ := (ST.out.2.2.2.2.1.later hbb).cells
       clear hOc hb12)
    | (go_at_call 13; refine (eqS_ w12 size f _ _ qs (Nat.le_trans (tot_len qs) HTOT.out) (fun q hq => by have := tot_mem hq; have := HTOT.out; omega) hR12 hRc).mono ?_; rintro e w13 ⟨rfl, hb13⟩; have hb113 := hbb.stp hb13; clear hb13))
  all_goals go_wp2_with fail
  all_goals
    obtain ⟨a11, hB11, c11, hR11, d11, hO11, hro11, e11, hG11⟩ := ST.out
    clear ST p0 p1 p2 q0 q1 q2 s0 s1 s2 hT hRc hbb hR12
    have a13 := a11.later hb113
    have hB13 := hB11.stp hb113
    have c13 := c11.later hb113
    have hR13 := hR11.stays (hb113.mono (by omega))
    have d13 := d11.later hb113
    have hO13 := hO11.later hb113
    have hro13 := row_block hro11 (fun k _ hk => hb113.block k hk)
    have e13 := e11.later hb113
    have hG13 := hG11.later hb113
    have hz13 := hb113.size
    clear a11 hB11 c11 hR11 d11 hO11 hro11 e11 hG11
    clear hb113
    refine (toB_ _ zs w13 w.heap.size (HS.out.stays hB13) HZL.out).mono ?_
    rintro e w14 ⟨⟨c14', rfl, hroN⟩, hb14⟩
    have a14 := a13.later hb14
    have hB14 := hB13.stp hb14
    have c14 := c13.later hb14
    have hR14 := hR13.stays (hb14.mono (by omega))
    have d14 := d13.later hb14
    have hO14 := hO13.later hb14
    have hro14 := row_block hro13 (fun k _ hk => hb14.block k hk)
    have e14 := e13.later hb14
    have hG14 := hG13.later hb14
    have hz14 := hb14.size
    clear a13 hB13 c13 hR13 d13 hO13 hro13 e13 hG13
    clear hb14
    go_wp2_with fail
    refine (eqB_ w14.heap.size _ _ zs w14 (sl_of_own hro14) (sl_of_own hroN) (by omega)).mono ?_
    rintro e w15 ⟨rfl, n15, rfl⟩
    clear hroN
    have hb15 : Below w14.heap.size w14 (w14.drewN n15) := below_drewN (Below.refl _ _) n15
    have a15 := a14.later hb15
    have hB15 := hB14.stp hb15
    have c15 := c14.later hb15
    have hR15 := hR14.stays (hb15.mono (by omega))
    have d15 := d14.later hb15
    have hO15 := hO14.later hb15
    have hro15 := row_block hro14 (fun k _ hk => hb15.block k hk)
    have e15 := e14.later hb15
    have hG15 := hG14.later hb15
    have hz15 := hb15.size
    clear a14 hB14 c14 hR14 d14 hO14 hro14 e14 hG14
    clear hb15
    generalize w14.drewN n15 = w15 at *
    obtain ⟨p0, p1, p2⟩ := d15.cells
    have htq : tlen qs ≤ 1048576 := by rw [tlen_tot]; exact HTOT.out
    have HTZ : Hid (∀ q ∈ qs, q.2.length ≤ 1048576) := fun q hq => by have := tot_mem hq; have := HTOT.out; omega
    have cM := mark2S_ w15 lox hix size f _ qs 1 hO15 (by omega) (by omega) (by omega) (by omega) HTZ.out
    have HTQ : Hid (tlen qs ≤ 1048576) := htq
    clear htq hO15
    obtain ⟨tq, hte⟩ : ∃ tq, tlen qs = tq := ⟨_, rfl⟩
    have HTE : Hid (tlen qs = tq) := hte
    rw [hte] at HTQ
    clear hte
    go_wp2_with fail
    clear p0 p1 p2
    refine cM.mono ?_
    rintro e w16 ⟨rfl, hOz, hb16, hfr16⟩
    clear cM hOz
    rw [HTE.out]
    have a16 : Atl w16 w.heap.size 24 size (.slice v0 qs.length v2) f := (hb16.block _ (by omega)).trans a15
    have hB16 := hB15.trans (hb16.mono (by omega))
    have c16 : Atl w16 b0 29 sR (.slice y0 y1 y2) fR := (hb16.block _ (by omega)).trans c15
    have hR16 := hR15.stays (hb16.mono (by omega))
    have hro16 := row_block hro15 (fun k hk1 hk2 => hfr16 k (by omega) hk2)
    have e16 : Atl w16 hig 29 sR (.slice g0 g1 g2) fR := (hfr16 hig (by omega) (lt_of_get e15)).trans e15
    have hG16 := hG15.block (fun k hk1 hk2 => hfr16 k (by omega) hk2)
    have hz16 := hb16.size
    clear a15 hB15 c15 hR15 hro15 e15 hG15 d15 hb16 hfr16
    have cM := markB_ w16 loy _ zs (1 + (tq : Int)) hro16 HZL.out (by omega) (by have := HTQ.out; omega)
    go_wp2_with fail
    refine cM.mono ?_
    rintro e w17 ⟨rfl, hoz, hg17⟩
    clear cM hoz
    have hfr17 : ∀ k, k ≠ loy → k < w16.heap.size → w17.heap[k]? = w16.heap[k]? := fun k hk1 hk2 => hg17.block k hk2 (by simp [Value.ownBlock]; omega)
    have hb17 : Below loy w16 w17 := ⟨hg17.os, hg17.tape, hg17.output, hg17.size, fun k hk => hfr17 k (by omega) (by omega)⟩
    have a17 : Atl w17 w.heap.size 24 size (.slice v0 qs.length v2) f := (hb17.block _ (by omega)).trans a16
    have hB17 := hB16.trans (hb17.mono (by omega))
    have c17 : Atl w17 b0 29 sR (.slice y0 y1 y2) fR := (hb17.block _ (by omega)).trans c16
    have hR17 := hR16.stays (hb17.mono (by omega))
    have e17 : Atl w17 hig 29 sR (.slice g0 g1 g2) fR := (hfr17 hig (by omega) (lt_of_get e16)).trans e16
    have hG17 := hG16.block (fun k hk1 hk2 => hfr17 k (by omega) hk2)
    have hz17 := hg17.size
    clear a16 hB16 c16 hR16 e16 hG16 hro16 hg17 hfr17 hb17
    have hk0 : 0 ≤ 1 + (tq : Int) + (zs.length : Int) := by omega
    obtain ⟨p0, p1, p2⟩ := e17.cells
    obtain ⟨q0, q1, q2⟩ := c17.cells
    go_wp2_with fail
    clear p0 p1 p2 q0 q1 q2
    refine (eqS_ w17 sR fR _ _ qR (by have := HRL.out; omega) (fun q hq => by have := HRZ.out q hq; omega) hG17.own.rdp (hR17.rdp (by omega))).mono ?_
    rintro e w18 ⟨rfl, hb18⟩
    have a18 := a17.later hb18
    have hB18 := hB17.stp hb18
    have c18 := c17.later hb18
    have hR18 := hR17.stays (hb18.mono (by omega))
    have e18 := e17.later hb18
    have hG18 := hG17.later hb18
    have hz18 := hb18.size
    clear a17 hB17 c17 hR17 e17 hG17
    clear hb18
    obtain ⟨p0, p1, p2⟩ := e18.cells
    have htR : tlen qR ≤ 400000 := by have h1 := tlen_six qR HRZ.out; have h2 := HRL.out; omega
    have HTR : Hid (tlen qR ≤ 400000) := htR
    obtain ⟨tr, htr⟩ : ∃ tr, tlen qR = tr := ⟨_, rfl⟩
    have HTE2 : Hid (tlen qR = tr) := htr
    clear htr
    have cM := mark2S_ w18 log_ hig sR fR _ qR 1 hG18 (by omega) (by omega) (by omega) (by omega) (fun q hq => by have := HRZ.out q hq; omega)
    clear htR
    go_wp2_with fail
    clear p0 p1 p2
    refine cM.mono ?_
    rintro e w19 ⟨rfl, hG19, hb19, hfr19⟩
    clear cM
    rw [HTE2.out]
    have a19 : Atl w19 w.heap.size 24 size (.slice v0 qs.length v2) f := (hb19.block _ (by omega)).trans a18
    have hB19 := hB18.trans (hb19.mono (by omega))
    have c19 : Atl w19 b0 29 sR (.slice y0 y1 y2) fR := (hb19.block _ (by omega)).trans c18
    have hR19 := hR18.stays (hb19.mono (by omega))
    have e19 : Atl w19 hig 29 sR (.slice g0 g1 g2) fR := (hfr19 hig (by omega) (lt_of_get e18)).trans e18
    have hz19 := hb19.size
    clear a18 hB18 c18 hR18 e18 hG18 hb19 hfr19
    obtain ⟨p0, p1, p2⟩ := e19.cells
    go_wp2_with fail
    clear p0 p1 p2
    refine (heldS_ w19 sR fR _ qR 1 hG19.own.rdp (by have := HTR.out; omega) (by omega) (by omega) (fun q hq => by have := HRZ.out q hq; omega)).mono ?_
    rintro e w20 ⟨rfl, hb20⟩
    rw [HTE2.out]
    have a20 := a19.later hb20
    have hB20 := hB19.stp hb20
    have c20 := c19.later hb20
    have hR20 := hR19.stays (hb20.mono (by omega))
    have e20 := e19.later hb20
    have hG20 := hG19.later hb20
    have hz20 := hb20.size
    clear a19 hB19 c19 hR19 e19 hG19
    clear hb20
    have hm0 : 0 ≤ 1 + (tr : Int) := by omega
    have hmm : ((1 + (tr : Int)) != (1 + (tr : Int))) = false := by simp
    obtain ⟨p0, p1, p2⟩ := a20.cells
    go_wp2_with fail
    clear p0 p1 p2
    refine (toS_ w20 size f _ qs (HV.out.later hB20) HTOT.out).mono ?_
    rintro e w21 ⟨⟨vh, rfl, hOh⟩, hb21⟩
    obtain ⟨k0, k1, k2, rfl⟩ := hOh.sl
    have a21 := a20.later hb21
    have hB21 := hB20.stp hb21
    have c21 := c20.later hb21
    have hR21 := hR20.stays (hb21.mono (by omega))
    have e21 := e20.later hb21
    have hG21 := hG20.later hb21
    have hz21 := hb21.size
    clear a20 hB20 c20 hR20 e20 hG20
    clear hb21
    have hRh := hOh.rdp
    clear hOh
    go_wp2_with fail
    refine (toB_ _ zs w21 w.heap.size (HS.out.stays hB21) HZL.out).mono ?_
    rintro e w22 ⟨⟨c22', rfl, hro22⟩, hb22⟩
    have a22 := a21.later hb22
    have hB22 := hB21.stp hb22
    have c22 := c21.later hb22
    have hR22 := hR21.stays (hb22.mono (by omega))
    have e22 := e21.later hb22
    have hG22 := hG21.later hb22
    have hz22 := hb22.size
    clear a21 hB21 c21 hR21 e21 hG21
    have cI : Calls Try.prog 20 #[.agg #[.int .i64 size, .slice k0 k1 k2, .int .i64 f], .slice (some ⟨w21.heap.size, 0, none⟩) zs.length c22', .int .i64 at_] w22 fun e w' => BytePost (byteM size f qs zs at_) w22 e w' := by
      obtain ⟨ps, h1, h2, h3⟩ := (hRh.later hb22).args HW.out
      exact ibyte_ w22 size f at_ _ ps qs _ zs ⟨h1, h2, h3, HOD.out, sl_of_own hro22, HOZ.out, HZL.out⟩
    rw [HR.out] at cI
    clear hb22 hRh hro22
    go_wp2_with fail
    refine cI.mono ?_
    rintro e w23 ⟨vn, rfl, hOn, hb23⟩
    obtain ⟨n0, n1, n2, rfl⟩ := hOn.sl
    have hRn : Rdp w23 (.slice n0 n1 n2) qR := Own.rdp hOn
    have hAl : Below w23.heap.size w23 (w23.alloc (.cells #[.int .i64 sR, .slice n0 n1 n2, .int .i64 fR] 29)) := (Below.refl _ _).alloc (Nat.le_refl _) _
    have hbA := hb23.stp hAl
    have a24 := a22.later hbA
    have hB24 := hB22.stp hbA
    have c24 := c22.later hbA
    have hR24 := hR22.stays (hbA.mono (by omega))
    have e24 := e22.later hbA
    have hG24 := hG22.later hbA
    have hz24 := hbA.size
    clear a22 hB22 c22 hR22 e22 hG22
    have hR24n := hRn.later hAl
    have f24 := Atl.new w23 29 sR (.slice n0 n1 n2) fR
    clear cI hOn hRn hb23 hAl hbA
    obtain ⟨p0, p1, p2⟩ := f24.cells
    obtain ⟨q0, q1, q2⟩ := c24.cells
    go_wp2_with fail
    clear p0 p1 p2 q0 q1 q2
    generalize (w23.alloc (.cells #[.int .i64 sR, .slice n0 n1 n2, .int .i64 fR] 29)) = w24 at *
    generalize w23.heap.size = bh at *
    refine (eqS_ w24 sR fR _ _ qR (by have := HRL.out; omega) (fun q hq => by have := HRZ.out q hq; omega) hR24n (hR24.rdp (by omega))).mono ?_
    rintro e w25 ⟨rfl, hb25⟩
    have a25 := a24.later hb25
    have hB25 := hB24.stp hb25
    have c25 := c24.later hb25
    have hR25 := hR24.stays (hb25.mono (by omega))
    have e25 := e24.later hb25
    have hG25 := hG24.later hb25
    have hz25 := hb25.size
    clear a24 hB24 c24 hR24 e24 hG24
    clear hb25
    obtain ⟨p0, p1, p2⟩ := e25.cells
    go_wp2_with fail
    clear p0 p1 p2
    refine (heldS_ w25 sR fR _ qR 1 hG25.own.rdp (by have := HTR.out; omega) (by omega) (by omega) (fun q hq => by have := HRZ.out q hq; omega)).mono ?_
    rintro e w26 ⟨rfl, hb26⟩
    rw [HTE2.out]
    have hB26 := hB25.stp hb26
    clear hb26
    go_wp2_with fail
    go_ret
    exact ⟨rfl, hB26⟩
end Go.Proofs.Ytlifedkieeogdag
