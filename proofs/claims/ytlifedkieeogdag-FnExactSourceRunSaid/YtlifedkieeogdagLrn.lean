/- The law on SourceRun, walked. -/
import Derived.Test.YtlifedkieeogdagLby
import Derived.Test.YtlifedkieeogdagSrz
import Derived.Test.YtlifedkieeogdagIrw
namespace Go.Proofs.Ytlifedkieeogdag
open Go.Maps Go.RowKit Go.Deep
theorem runM_len2 (size : Int) (zs : List Int) : ∀ (n : Nat) (at_ f : Int) (qs : List Pg), (runM size zs n at_ f qs).2.length ≤ n
  | 0, _, _, _ => by simp [runM]
  | n + 1, at_, f, qs => by
    unfold runM
    split
    · simp
    · have := runM_len2 size zs n (at_ + 1) (readM size f qs zs at_).1.1 (readM size f qs zs at_).1.2
      simp only [List.length_cons]
      omega
theorem runM_ok2 {size : Int} {zs : List Int} : ∀ (n : Nat) (at_ f : Int) (qs : List Pg), OkS size qs f → 0 ≤ at_ → OkS size (runM size zs n at_ f qs).1.2 (runM size zs n at_ f qs).1.1
  | 0, _, _, _, h, _ => h
  | n + 1, at_, f, qs, h, h0 => by
    unfold runM
    have h1 := readM_ok (zs := zs) h h0
    split
    · exact h1
    · exact runM_ok2 n (at_ + 1) _ _ h1 (by omega)
theorem runR_small (size f : Int) (qs : List Pg) (zs : List Int) (from_ to_ : Int) : (runR size f qs zs from_ to_).1.2.1.length ≤ 6 ∧ (∀ q ∈ (runR size f qs zs from_ to_).1.2.1, q.2.length ≤ 60000) ∧ (runR size f qs zs from_ to_).2.length ≤ 60000 := by
  unfold runR
  split
  · rename_i h
    have hO := runM_ok2 (zs := zs) (to_ - from_).toNat from_ f qs (okS_iff.1 h.1) h.2.1
    refine ⟨hO.len, fun q hq => ?_, ?_⟩
    · have := (hO.each q hq).2
      have := hO.s2
      simp at *
      omega
    · have := runM_len2 size zs (to_ - from_).toNat from_ f qs
      have := h.2.1
      have := h.2.2
      show (runM size zs (to_ - from_).toNat from_ f qs).2.length ≤ 60000
      omega
  · exact ⟨by simp, (fun q hq => by cases hq), by simp⟩
set_option maxHeartbeats 16000000 in
theorem law_run (w : World) (size f from_ to_ : Int) (v : Value) (qs : List Pg) (vb : Value) (zs : List Int) (hV : Rdp w v qs) (hl : lens qs) (hq : qs.length ≤ 9223372036854775807) (hw : ∀ q ∈ qs, (Lit.int .i64 q.1).wf = true) (hod : okd qs)
    (hS : Sl w.heap.size w vb zs) (hoz : okz zs) (hzl : zs.length ≤ 9223372036854775807) :
    Calls Try.prog 6 #[.agg #[.int .i64 size, v, .int .i64 f], vb, .int .i64 from_, .int .i64 to_] w fun e w' => e = .returned (.bool true) ∧ Below w.heap.size w w' := by
  obtain ⟨v0, v2, rfl⟩ := hV.sl
  obtain ⟨ab, cb, rfl⟩ := sl_len hS
  have hB0 : Below w.heap.size w (w.alloc (.cells #[.int .i64 size, .slice v0 qs.length v2, .int .i64 f] 24)) := (Below.refl _ w).alloc (Nat.le_refl _) _
  have a0 := Atl.new w 24 size (.slice v0 qs.length v2) f
  by_cases hbig : (1048576 : Int) < (zs.length : Int)
  · clear a0 hV hl hq hw hod hS hoz
    go_enter Try.func6, Try.ntmps6
    go_wp2_with fail
    go_ret
    exact ⟨rfl, hB0⟩
  have hbig' : (zs.length : Int) ≤ 1048576 := by omega
  have HZL : Hid (zs.length ≤ 1048576) := by show zs.length ≤ 1048576; omega
  have HV : Hid (Rdp w (.slice v0 qs.length v2) qs) := hV
  have HW : Hid (∀ q ∈ qs, (Lit.int .i64 q.1).wf = true) := hw
  have HOD : Hid (okd qs) := hod
  have HOZ : Hid (okz zs) := hoz
  have HS : Hid (Sl w.heap.size w (.slice ab zs.length cb) zs) := hS
  have hSz := szS_ _ size f (.slice v0 qs.length v2) qs (hV.later hB0) hl hq
  obtain ⟨hrl, hrz, hrx⟩ := runR_small size f qs zs from_ to_
  obtain ⟨⟨⟨sR, qR, fR⟩, xR⟩, hR⟩ : ∃ R, runR size f qs zs from_ to_ = R := ⟨_, rfl⟩
  rw [hR] at hrl hrz hrx
  have HR : Hid (runR size f qs zs from_ to_ = ((sR, qR, fR), xR)) := hR
  have HRX : Hid (xR.length ≤ 60000) := hrx
  have HRL : Hid (qR.length ≤ 6) := hrl
  have HRZ : Hid (∀ q ∈ qR, q.2.length ≤ 60000) := hrz
  clear hV hl hq hw hod hS hoz hzl hbig hR hrl hrz hrx
  go_enter Try.func6, Try.ntmps6
  go_wp2_with fail
  generalize (w.alloc (.cells #[.int .i64 size, .slice v0 qs.length v2, .int .i64 f] 24)) = wa at *
  refine hSz.mono ?_
  rintro e w1 ⟨⟨r, rfl, hr⟩, hb1⟩
  have a1 := a0.later hb1
  have hB1 := hB0.stp hb1
  clear hSz a0 hB0 hb1
  rcases hr with rfl | ⟨hr0, hrt⟩
  · go_wp2_with fail
    go_ret
    exact ⟨rfl, hB1⟩
  have hr0' : ¬ r < 0 := by omega
  have HTOT : Hid (tot qs ≤ 1048576) := by show tot qs ≤ 1048576; omega
  clear hrt
  -- spec
  obtain ⟨p0, p1, p2⟩ := a1.cells
  go_wp2_with fail
  clear p0 p1 p2
  refine (toS_ w1 size f _ qs (HV.out.later hB1) HTOT.out).mono ?_
  rintro e w2 ⟨⟨va, rfl, hOa⟩, hb2⟩
  have a2 := a1.later hb2
  have hB2 := hB1.stp hb2
  have hRa := hOa.rdp
  obtain ⟨x0, x1, x2, rfl⟩ := hOa.sl
  clear a1 hB1 hb2 hOa
  go_wp2_with fail
  refine (toB_ _ zs w2 w.heap.size (HS.out.stays hB2) HZL.out).mono ?_
  rintro e w3 ⟨⟨c3, rfl, hro3⟩, hb3⟩
  have a3 := a2.later hb3
  have hB3 := hB2.stp hb3
  have hRa3 := hRa.later hb3
  have hSl3 := sl_of_own hro3
  have cS := srun_ w3 size f from_ to_ _ qs _ zs hRa3 hSl3 HZL.out HOZ.out HOD.out
  rw [HR.out] at cS
  clear a2 hB2 hb3 hRa hRa3 hSl3 hro3
  go_wp2_with fail
  refine cS.mono ?_
  rintro e w4 ⟨⟨v4, vb4, rfl, ⟨y0, y1, y2, rfl⟩, ⟨j0, j1, j2, rfl⟩, hR4, hX4⟩, hb4⟩
  have hAl : Below w4.heap.size w4 (w4.alloc (.cells #[.int .i64 sR, .slice y0 y1 y2, .int .i64 fR] 29)) := (Below.refl _ _).alloc (Nat.le_refl _) _
  have hwb := lt_of_get (a3.later hb4)
  have a5 := (a3.later hb4).later hAl
  have hB5 := (hB3.stp hb4).stp hAl
  have c5 := Atl.new w4 29 sR (.slice y0 y1 y2) fR
  have hR5 : RdB w4.heap.size _ (.slice y0 y1 y2) qR := (Rdp.b hR4).stays hAl
  have hX5 : Sl w4.heap.size _ (.slice j0 j1 j2) xR := hX4.stays hAl
  have hz5 : w4.heap.size < (w4.alloc (.cells #[.int .i64 sR, .slice y0 y1 y2, .int .i64 fR] 29)).heap.size := by simp
  clear cS a3 hB3 hR4 hX4 hb4 hAl
  obtain ⟨p0, p1, p2⟩ := a5.cells
  go_wp2_with fail
  clear p0 p1 p2
  generalize (w4.alloc (.cells #[.int .i64 sR, .slice y0 y1 y2, .int .i64 fR] 29)) = w5 at *
  generalize w4.heap.size = b0 at *
  refine (toS_ w5 size f _ qs (HV.out.later hB5) HTOT.out).mono ?_
  rintro e w6 ⟨⟨vx, rfl, hOx⟩, hb6⟩
  obtain ⟨z0, z1, z2, rfl⟩ := hOx.sl
  have hAl : Below w6.heap.size w6 (w6.alloc (.cells #[.int .i64 size, .slice z0 z1 z2, .int .i64 f] 29)) := (Below.refl _ _).alloc (Nat.le_refl _) _
  have hb67 := hb6.stp hAl
  have a7 := a5.later hb67
  have hB7 := hB5.stp hb67
  have c7 := c5.later hb67
  have hR7 := hR5.stays (hb67.mono (by omega))
  have hX7 := hX5.stays (hb67.mono (by omega))
  have d7 := Atl.new w6 29 size (.slice z0 z1 z2) f
  have hO7 : Own2 w5.heap.size w6.heap.size _ (.slice z0 z1 z2) qs := (Own.two hOx).later hAl
  have hz67 := hb6.size
  have hz7 : w6.heap.size < (w6.alloc (.cells #[.int .i64 size, .slice z0 z1 z2, .int .i64 f] 29)).heap.size := by simp
  clear a5 hB5 c5 hR5 hX5 hb6 hAl hb67 hOx
  go_wp2_with fail
  generalize (w6.alloc (.cells #[.int .i64 size, .slice z0 z1 z2, .int .i64 f] 29)) = w7 at *
  generalize w6.heap.size = hix at *
  generalize w5.heap.size = lox at *
  refine (toB_ _ zs w7 w.heap.size (HS.out.stays hB7) HZL.out).mono ?_
  rintro e w8 ⟨⟨c8, rfl, hro8⟩, hb8⟩
  have a8 := a7.later hb8
  have hB8 := hB7.stp hb8
  have c8' := c7.later hb8
  have hR8 := hR7.stays (hb8.mono (by omega))
  have hX8 := hX7.stays (hb8.mono (by omega))
  have d8 := d7.later hb8
  have hO8 := hO7.later hb8
  have hz8 := hb8.size
  have hzy := (hro8.lt _ rfl).2
  clear a7 hB7 c7 hR7 hX7 d7 hO7 hb8
  obtain ⟨p0, p1, p2⟩ := d8.cells
  have cI : Calls Try.prog 24 #[.agg #[.int .i64 size, .slice z0 z1 z2, .int .i64 f], .slice (some ⟨w7.heap.size, 0, none⟩) zs.length c8, .int .i64 from_, .int .i64 to_] w8 fun e w' => RunPost2 (runR size f qs zs from_ to_) w8 e w' := by
    obtain ⟨ps, h1, h2, h3⟩ := hO8.own.rdp.args HW.out
    exact irun_ w8 size f from_ to_ _ ps qs _ zs ⟨h1, h2, h3, HOD.out, sl_of_own hro8, HOZ.out, HZL.out⟩
  rw [HR.out] at cI
  go_wp2_with fail
  clear p0 p1 p2
  refine cI.mono ?_
  rintro e w9 ⟨vg, vgb, log_, rfl, hOg, hlg1, hlg2, hrg, hrgl, hb9⟩
  obtain ⟨g0, g1, g2, rfl⟩ := hOg.sl
  have hOg' : Own log_ w9 (.slice g0 g1 g2) qR := hOg
  have hrg' : w9.ownsRow w8.heap.size 5 1 vgb xR.length (u8s xR) := hrg
  have hgsl : isSl vgb := by
    rcases hrg'.2 with ⟨e, _⟩ | ⟨g, cap, cur, e, _⟩
    · exact ⟨_, _, _, e⟩
    · exact ⟨_, _, _, e⟩
  obtain ⟨h0, h1, h2, rfl⟩ := hgsl
  have hgrange : Hid (∀ b, (Value.slice h0 h1 h2).ownBlock = some b → w8.heap.size ≤ b ∧ b < log_) := fun b e => ⟨(hrg'.lt b e).1, hrgl b e⟩
  have hAl : Below w9.heap.size w9 (w9.alloc (.cells #[.int .i64 sR, .slice g0 g1 g2, .int .i64 fR] 29)) := (Below.refl _ _).alloc (Nat.le_refl _) _
  have hb90 := hb9.stp hAl
  have hz9 := hb9.size
  have a10 := a8.later hb90
  have hB10 := hB8.stp hb90
  have c10 := c8'.later hb90
  have hR10 := hR8.stays (hb90.mono (by omega))
  have hX10 := hX8.stays (hb90.mono (by omega))
  have hY10 := row_block hrg' (fun k _ hk => hAl.block k hk)
  have d10 := d8.later hb90
  have hO10 := hO8.later hb90
  have hro10 := row_block hro8 (fun k _ hk => hb90.block k hk)
  have e10 := Atl.new w9 29 sR (.slice g0 g1 g2) fR
  have hG10 : Own2 log_ w9.heap.size _ (.slice g0 g1 g2) qR := (Own.two hOg').later hAl
  have hz10 : w9.heap.size < (w9.alloc (.cells #[.int .i64 sR, .slice g0 g1 g2, .int .i64 fR] 29)).heap.size := by simp
  clear cI hOg hOg' hb9 hAl hb90 a8 hB8 c8' hR8 hX8 d8 hO8 hro8 hrg hrg' hrgl
  obtain ⟨p0, p1, p2⟩ := e10.cells
  obtain ⟨q0, q1, q2⟩ := c10.cells
  go_wp2_with fail
  clear p0 p1 p2 q0 q1 q2
  generalize (w9.alloc (.cells #[.int .i64 sR, .slice g0 g1 g2, .int .i64 fR] 29)) = w10 at *
  generalize w9.heap.size = hig at *
  generalize w8.heap.size = lob at *
  generalize w7.heap.size = loy at *
  refine (eqS_ w10 sR fR _ _ qR (by have := HRL.out; omega) (fun q hq => by have := HRZ.out q hq; omega) hG10.own.rdp (hR10.rdp (by omega))).mono ?_
  rintro e w11 ⟨rfl, hb11⟩
  have a11 := a10.later hb11
  have hB11 := hB10.stp hb11
  have c11 := c10.later hb11
  have hR11 := hR10.stays (hb11.mono (by omega))
  have hX11 := hX10.stays (hb11.mono (by omega))
  have d11 := d10.later hb11
  have hO11 := hO10.later hb11
  have hro11 := row_block hro10 (fun k _ hk => hb11.block k hk)
  have e11 := e10.later hb11
  have hG11 := hG10.later hb11
  have hY11 := row_block hY10 (fun k _ hk => hb11.block k hk)
  have hz11 := hb11.size
  clear a10 hB10 c10 hR10 hX10 d10 hO10 hro10 e10 hG10 hY10
  clear hb11
  go_wp2_with fail
  refine (eqB_ w11.heap.size _ _ xR w11 (sl_of_own hY11) (hX11.mono (by omega)) (by have := HRX.out; omega)).mono ?_
  rintro e w12 ⟨rfl, n12, rfl⟩
  have hb12 : Below w11.heap.size w11 (w11.drewN n12) := below_drewN (Below.refl _ _) n12
  have a12 := a11.later hb12
  have hB12 := hB11.stp hb12
  have c12 := c11.later hb12
  have hR12 := hR11.stays (hb12.mono (by omega))
  have hX12 := hX11.stays (hb12.mono (by omega))
  have d12 := d11.later hb12
  have hO12 := hO11.later hb12
  have hro12 := row_block hro11 (fun k _ hk => hb12.block k hk)
  have e12 := e11.later hb12
  have hG12 := hG11.later hb12
  have hY12 := row_block hY11 (fun k _ hk => hb12.block k hk)
  have hz12 := hb12.size
  clear a11 hB11 c11 hR11 hX11 d11 hO11 hro11 e11 hG11 hY11
  clear hb12
  generalize w11.drewN n12 = w12 at *
  obtain ⟨p0, p1, p2⟩ := a12.cells
  obtain ⟨q0, q1, q2⟩ := d12.cells
  have hT := fun n => toS_ (w12.drewN n) size f _ qs (HV.out.later (below_drewN hB12 n)) HTOT.out
  have ST : Hid (Atl w12 w.heap.size 24 size (.slice v0 qs.length v2) f ∧ Below w.heap.size w w12 ∧ Atl w12 b0 29 sR (.slice y0 y1 y2) fR ∧ RdB b0 w12 (.slice y0 y1 y2) qR ∧ Atl w12 hix 29 size (.slice z0 z1 z2) f ∧ Own2 lox hix w12 (.slice z0 z1 z2) qs ∧ w12.ownsRow loy 5 1 (.slice (some ⟨loy, 0, none⟩) zs.length c8) zs.length (u8s zs) ∧ Atl w12 hig 29 sR (.slice g0 g1 g2) fR ∧ Own2 log_ hig w12 (.slice g0 g1 g2) qR ∧ Sl b0 w12 (.slice j0 j1 j2) xR ∧ w12.ownsRow lob 5 1 (.slice h0 h1 h2) xR.length (u8s xR)) := ⟨a12, hB12, c12, hR12, d12, hO12, hro12, e12, hG12, hX12, hY12⟩
  clear a12 hB12 c12 hR12 d12 hO12 hro12 e12 hG12 hX12 hY12
  go_wp2_with fail
  go_region_with (first
    | (go_at_call 11; refine (hT 1).mono ?_; rintro e w13 ⟨⟨vc, rfl, hOc⟩, hb13⟩; obtain ⟨t0, t1, t2, rfl⟩ := hOc.sl
       have hRc := hOc.rdp
       have hbb : Below w12.heap.size w12 w13 := ⟨hb13.os, hb13.tape, hb13.output, hb13.size, hb13.block⟩
       have hR13 := (ST.out.2.2.2.2.2.1.later hbb).own.rdp
       obtain ⟨s0, s1, s2⟩ := (ST.out.2.2.2.2.1.later hbb).cells
       clear hOc hb13)
    | (go_at_call 13; refine (eqS_ w13 size f _ _ qs (Nat.le_trans (tot_len qs) HTOT.out) (fun q hq => by have := tot_mem hq; have := HTOT.out; omega) hR13 hRc).mono ?_; rintro e w14 ⟨rfl, hb14⟩; have hb1214 := hbb.stp hb14; clear hb14))
  all_goals go_wp2_with fail
  all_goals
    obtain ⟨a12, hB12, c12, hR12, d12, hO12, hro12, e12, hG12, hX12, hY12⟩ := ST.out
    clear ST p0 p1 p2 q0 q1 q2 s0 s1 s2 hT hRc hbb hR13
    have a14 := a12.later hb1214
    have hB14 := hB12.stp hb1214
    have c14 := c12.later hb1214
    have hR14 := hR12.stays (hb1214.mono (by omega))
    have hX14 := hX12.stays (hb1214.mono (by omega))
    have d14 := d12.later hb1214
    have hO14 := hO12.later hb1214
    have hro14 := row_block hro12 (fun k _ hk => hb1214.block k hk)
    have e14 := e12.later hb1214
    have hG14 := hG12.later hb1214
    have hY14 := row_block hY12 (fun k _ hk => hb1214.block k hk)
    have hz14 := hb1214.size
    clear a12 hB12 c12 hR12 hX12 d12 hO12 hro12 e12 hG12 hY12
    clear hb1214
    refine (toB_ _ zs w14 w.heap.size (HS.out.stays hB14) HZL.out).mono ?_
    rintro e w15 ⟨⟨c15', rfl, hroN⟩, hb15⟩
    have a15 := a14.later hb15
    have hB15 := hB14.stp hb15
    have c15 := c14.later hb15
    have hR15 := hR14.stays (hb15.mono (by omega))
    have hX15 := hX14.stays (hb15.mono (by omega))
    have d15 := d14.later hb15
    have hO15 := hO14.later hb15
    have hro15 := row_block hro14 (fun k _ hk => hb15.block k hk)
    have e15 := e14.later hb15
    have hG15 := hG14.later hb15
    have hY15 := row_block hY14 (fun k _ hk => hb15.block k hk)
    have hz15 := hb15.size
    clear a14 hB14 c14 hR14 hX14 d14 hO14 hro14 e14 hG14 hY14
    clear hb15
    go_wp2_with fail
    refine (eqB_ w15.heap.size _ _ zs w15 (sl_of_own hro15) (sl_of_own hroN) (by omega)).mono ?_
    rintro e w16 ⟨rfl, n16, rfl⟩
    clear hroN
    have hb16 : Below w15.heap.size w15 (w15.drewN n16) := below_drewN (Below.refl _ _) n16
    have a16 := a15.later hb16
    have hB16 := hB15.stp hb16
    have c16 := c15.later hb16
    have hR16 := hR15.stays (hb16.mono (by omega))
    have hX16 := hX15.stays (hb16.mono (by omega))
    have d16 := d15.later hb16
    have hO16 := hO15.later hb16
    have hro16 := row_block hro15 (fun k _ hk => hb16.block k hk)
    have e16 := e15.later hb16
    have hG16 := hG15.later hb16
    have hY16 := row_block hY15 (fun k _ hk => hb16.block k hk)
    have hz16 := hb16.size
    clear a15 hB15 c15 hR15 hX15 d15 hO15 hro15 e15 hG15 hY15
    clear hb16
    generalize w15.drewN n16 = w16 at *
    obtain ⟨p0, p1, p2⟩ := d16.cells
    have htq : tlen qs ≤ 1048576 := by rw [tlen_tot]; exact HTOT.out
    have HTZ : Hid (∀ q ∈ qs, q.2.length ≤ 1048576) := fun q hq => by have := tot_mem hq; have := HTOT.out; omega
    have cM := mark2S_ w16 lox hix size f _ qs 1 hO16 (by omega) (by omega) (by omega) (by omega) HTZ.out
    have HTQ : Hid (tlen qs ≤ 1048576) := htq
    clear htq hO16
    obtain ⟨tq, hte⟩ : ∃ tq, tlen qs = tq := ⟨_, rfl⟩
    have HTE : Hid (tlen qs = tq) := hte
    rw [hte] at HTQ
    clear hte
    go_wp2_with fail
    clear p0 p1 p2
    refine cM.mono ?_
    rintro e w17 ⟨rfl, hOz, hb17, hfr17⟩
    clear cM hOz
    rw [HTE.out]
    have a17 : Atl w17 w.heap.size 24 size (.slice v0 qs.length v2) f := (hb17.block _ (by omega)).trans a16
    have hB17 := hB16.trans (hb17.mono (by omega))
    have c17 : Atl w17 b0 29 sR (.slice y0 y1 y2) fR := (hb17.block _ (by omega)).trans c16
    have hR17 := hR16.stays (hb17.mono (by omega))
    have hX17 := hX16.stays (hb17.mono (by omega))
    have hro17 := row_block hro16 (fun k hk1 hk2 => hfr17 k (by omega) hk2)
    have hY17 := row_block hY16 (fun k hk1 hk2 => hfr17 k (by omega) hk2)
    have e17 : Atl w17 hig 29 sR (.slice g0 g1 g2) fR := (hfr17 hig (by omega) (lt_of_get e16)).trans e16
    have hG17 := hG16.block (fun k hk1 hk2 => hfr17 k (by omega) hk2)
    have hz17 := hb17.size
    clear a16 hB16 c16 hR16 hX16 hro16 hY16 e16 hG16 d16 hb17 hfr17
    have cM := markB_ w17 loy _ zs (1 + (tq : Int)) hro17 HZL.out (by omega) (by have := HTQ.out; omega)
    go_wp2_with fail
    refine cM.mono ?_
    rintro e w18 ⟨rfl, hoz, hg18⟩
    clear cM hoz
    have hfr18 : ∀ k, k ≠ loy → k < w17.heap.size → w18.heap[k]? = w17.heap[k]? := fun k hk1 hk2 => hg18.block k hk2 (by simp [Value.ownBlock]; omega)
    have hb18 : Below loy w17 w18 := ⟨hg18.os, hg18.tape, hg18.output, hg18.size, fun k hk => hfr18 k (by omega) (by omega)⟩
    have a18 : Atl w18 w.heap.size 24 size (.slice v0 qs.length v2) f := (hb18.block _ (by omega)).trans a17
    have hB18 := hB17.trans (hb18.mono (by omega))
    have c18 : Atl w18 b0 29 sR (.slice y0 y1 y2) fR := (hb18.block _ (by omega)).trans c17
    have hR18 := hR17.stays (hb18.mono (by omega))
    have hX18 := hX17.stays (hb18.mono (by omega))
    have e18 : Atl w18 hig 29 sR (.slice g0 g1 g2) fR := (hfr18 hig (by omega) (lt_of_get e17)).trans e17
    have hG18 := hG17.block (fun k hk1 hk2 => hfr18 k (by omega) hk2)
    have hY18 := row_block hY17 (fun k hk1 hk2 => hfr18 k (by omega) hk2)
    have hz18 := hg18.size
    clear a17 hB17 c17 hR17 hX17 e17 hG17 hro17 hY17 hg18 hfr18 hb18
    have hk0 : 0 ≤ 1 + (tq : Int) + (zs.length : Int) := by omega
    obtain ⟨p0, p1, p2⟩ := e18.cells
    obtain ⟨q0, q1, q2⟩ := c18.cells
    go_wp2_with fail
    clear p0 p1 p2 q0 q1 q2
    refine (eqS_ w18 sR fR _ _ qR (by have := HRL.out; omega) (fun q hq => by have := HRZ.out q hq; omega) hG18.own.rdp (hR18.rdp (by omega))).mono ?_
    rintro e w19 ⟨rfl, hb19⟩
    have a19 := a18.later hb19
    have hB19 := hB18.stp hb19
    have c19 := c18.later hb19
    have hR19 := hR18.stays (hb19.mono (by omega))
    have hX19 := hX18.stays (hb19.mono (by omega))
    have e19 := e18.later hb19
    have hG19 := hG18.later hb19
    have hY19 := row_block hY18 (fun k _ hk => hb19.block k hk)
    have hz19 := hb19.size
    clear a18 hB18 c18 hR18 hX18 e18 hG18 hY18
    clear hb19
    go_wp2_with fail
    refine (eqB_ w19.heap.size _ _ xR w19 (sl_of_own hY19) (hX19.mono (by omega)) (by have := HRX.out; omega)).mono ?_
    rintro e w20 ⟨rfl, n20, rfl⟩
    have hb20 : Below w19.heap.size w19 (w19.drewN n20) := below_drewN (Below.refl _ _) n20
    have a20 := a19.later hb20
    have hB20 := hB19.stp hb20
    have c20 := c19.later hb20
    have hR20 := hR19.stays (hb20.mono (by omega))
    have hX20 := hX19.stays (hb20.mono (by omega))
    have e20 := e19.later hb20
    have hG20 := hG19.later hb20
    have hY20 := row_block hY19 (fun k _ hk => hb20.block k hk)
    have hz20 := hb20.size
    clear a19 hB19 c19 hR19 hX19 e19 hG19 hY19
    clear hb20
    generalize w19.drewN n20 = w20 at *
    obtain ⟨p0, p1, p2⟩ := e20.cells
    have htR : tlen qR ≤ 400000 := by have h1 := tlen_six qR HRZ.out; have h2 := HRL.out; omega
    have HTR : Hid (tlen qR ≤ 400000) := htR
    obtain ⟨tr, htr⟩ : ∃ tr, tlen qR = tr := ⟨_, rfl⟩
    have HTE2 : Hid (tlen qR = tr) := htr
    clear htr
    have cM := mark2S_ w20 log_ hig sR fR _ qR 1 hG20 (by omega) (by omega) (by omega) (by omega) (fun q hq => by have := HRZ.out q hq; omega)
    clear htR
    go_wp2_with fail
    clear p0 p1 p2
    refine cM.mono ?_
    rintro e w21 ⟨rfl, hG21, hb21, hfr21⟩
    clear cM
    rw [HTE2.out]
    have a21 : Atl w21 w.heap.size 24 size (.slice v0 qs.length v2) f := (hb21.block _ (by omega)).trans a20
    have hB21 := hB20.trans (hb21.mono (by omega))
    have c21 : Atl w21 b0 29 sR (.slice y0 y1 y2) fR := (hb21.block _ (by omega)).trans c20
    have hR21 := hR20.stays (hb21.mono (by omega))
    have hX21 := hX20.stays (hb21.mono (by omega))
    have e21 : Atl w21 hig 29 sR (.slice g0 g1 g2) fR := (hfr21 hig (by omega) (lt_of_get e20)).trans e20
    have hY21 : w21.ownsRow lob 5 1 (.slice h0 h1 h2) xR.length (u8s xR) := by
      refine ⟨hY20.1, ?_⟩
      rcases hY20.2 with h | ⟨g, cap, cur, e, hb, hg, r⟩
      · exact .inl h
      · exact .inr ⟨g, cap, cur, e, hb, (hb21.block g (hgrange.out g (by rw [e]; rfl)).2).trans hg, r⟩
    have hz21 := hb21.size
    clear a20 hB20 c20 hR20 hX20 e20 hG20 hY20 hb21 hfr21
    have cM := markB_ w21 lob _ xR (1 + (tr : Int)) hY21 (by have := HRX.out; omega) (by omega) (by have := HTR.out; have := HTE2.out; omega)
    go_wp2_with fail
    refine cM.mono ?_
    rintro e w22 ⟨rfl, hY22, hg22⟩
    clear cM
    have hfr22 : ∀ k, (k < lob ∨ log_ ≤ k) → k < w21.heap.size → w22.heap[k]? = w21.heap[k]? := fun k hk1 hk2 => hg22.block k hk2 (fun e => by have := hgrange.out k e.symm; omega)
    have hb22 : Below lob w21 w22 := ⟨hg22.os, hg22.tape, hg22.output, hg22.size, fun k hk => hfr22 k (.inl hk) (by omega)⟩
    have a22 : Atl w22 w.heap.size 24 size (.slice v0 qs.length v2) f := (hb22.block _ (by omega)).trans a21
    have hB22 := hB21.trans (hb22.mono (by omega))
    have c22 : Atl w22 b0 29 sR (.slice y0 y1 y2) fR := (hb22.block _ (by omega)).trans c21
    have hR22 := hR21.stays (hb22.mono (by omega))
    have hX22 := hX21.stays (hb22.mono (by omega))
    have e22 : Atl w22 hig 29 sR (.slice g0 g1 g2) fR := (hfr22 hig (.inr (by omega)) (lt_of_get e21)).trans e21
    have hG22 := hG21.block (fun k hk1 hk2 => hfr22 k (.inr hk1) hk2)
    have hz22 := hg22.size
    clear a21 hB21 c21 hR21 hX21 e21 hG21 hY21 hg22 hfr22 hb22
    obtain ⟨p0, p1, p2⟩ := e22.cells
    go_wp2_with fail
    clear p0 p1 p2
    refine (heldS_ w22 sR fR _ qR 1 hG22.own.rdp (by have := HTR.out; omega) (by omega) (by omega) (fun q hq => by have := HRZ.out q hq; omega)).mono ?_
    rintro e w23 ⟨rfl, hb23⟩
    rw [HTE2.out]
    have a23 := a22.later hb23
    have hB23 := hB22.stp hb23
    have c23 := c22.later hb23
    have hR23 := hR22.stays (hb23.mono (by omega))
    have hX23 := hX22.stays (hb23.mono (by omega))
    have e23 := e22.later hb23
    have hG23 := hG22.later hb23
    have hY23 := row_block hY22 (fun k _ hk => hb23.block k hk)
    have hz23 := hb23.size
    clear a22 hB22 c22 hR22 hX22 e22 hG22 hY22
    clear hb23
    have hm0 : 0 ≤ 1 + (tr : Int) := by omega
    go_wp2_with fail
    refine (heldB_ w23 w23.heap.size _ xR.length (1 + (tr : Int)) (sl_of_own hY23) (by have := HRX.out; omega) (by omega) (by have := HTR.out; have := HTE2.out; omega)).mono ?_
    rintro e w24 ⟨rfl, rfl⟩
    have hm1 : 0 ≤ 1 + (tr : Int) + (xR.length : Int) := by omega
    have hmm : ((1 + (tr : Int) + (xR.length : Int)) != (1 + (tr : Int) + (xR.length : Int))) = false := by simp
    obtain ⟨p0, p1, p2⟩ := a23.cells
    go_wp2_with fail
    clear p0 p1 p2
    refine (toS_ w24 size f _ qs (HV.out.later hB23) HTOT.out).mono ?_
    rintro e w25 ⟨⟨vh, rfl, hOh⟩, hb25⟩
    obtain ⟨k0, k1, k2, rfl⟩ := hOh.sl
    have a25 := a23.later hb25
    have hB25 := hB23.stp hb25
    have c25 := c23.later hb25
    have hR25 := hR23.stays (hb25.mono (by omega))
    have hX25 := hX23.stays (hb25.mono (by omega))
    have e25 := e23.later hb25
    have hG25 := hG23.later hb25
    have hY25 := row_block hY23 (fun k _ hk => hb25.block k hk)
    have hz25 := hb25.size
    clear a23 hB23 c23 hR23 hX23 e23 hG23 hY23
    clear hb25
    have hRh := hOh.rdp
    clear hOh
    go_wp2_with fail
    refine (toB_ _ zs w25 w.heap.size (HS.out.stays hB25) HZL.out).mono ?_
    rintro e w26 ⟨⟨c26', rfl, hro26⟩, hb26⟩
    have a26 := a25.later hb26
    have hB26 := hB25.stp hb26
    have c26 := c25.later hb26
    have hR26 := hR25.stays (hb26.mono (by omega))
    have hX26 := hX25.stays (hb26.mono (by omega))
    have e26 := e25.later hb26
    have hG26 := hG25.later hb26
    have hY26 := row_block hY25 (fun k _ hk => hb26.block k hk)
    have hz26 := hb26.size
    clear a25 hB25 c25 hR25 hX25 e25 hG25 hY25
    have cI : Calls Try.prog 24 #[.agg #[.int .i64 size, .slice k0 k1 k2, .int .i64 f], .slice (some ⟨w25.heap.size, 0, none⟩) zs.length c26', .int .i64 from_, .int .i64 to_] w26 fun e w' => RunPost2 (runR size f qs zs from_ to_) w26 e w' := by
      obtain ⟨ps, h1, h2, h3⟩ := (hRh.later hb26).args HW.out
      exact irun_ w26 size f from_ to_ _ ps qs _ zs ⟨h1, h2, h3, HOD.out, sl_of_own hro26, HOZ.out, HZL.out⟩
    rw [HR.out] at cI
    clear hb26 hRh hro26
    go_wp2_with fail
    refine cI.mono ?_
    rintro e w27 ⟨vn, vnb, lon, rfl, hOn, hln1, hln2, hrn, hrnl, hb27⟩
    obtain ⟨n0, n1, n2, rfl⟩ := hOn.sl
    have hRn : Rdp w27 (.slice n0 n1 n2) qR := Own.rdp hOn
    have hSn : Sl w27.heap.size w27 vnb xR := sl_of_own hrn
    have hnsl : isSl vnb := by
      rcases hrn.2 with ⟨e, _⟩ | ⟨g, cap, cur, e, _⟩
      · exact ⟨_, _, _, e⟩
      · exact ⟨_, _, _, e⟩
    obtain ⟨m0, m1, m2, rfl⟩ := hnsl
    have hAl : Below w27.heap.size w27 (w27.alloc (.cells #[.int .i64 sR, .slice n0 n1 n2, .int .i64 fR] 29)) := (Below.refl _ _).alloc (Nat.le_refl _) _
    have hbA := hb27.stp hAl
    have a28 := a26.later hbA
    have hB28 := hB26.stp hbA
    have c28 := c26.later hbA
    have hR28 := hR26.stays (hbA.mono (by omega))
    have hX28 := hX26.stays (hbA.mono (by omega))
    have e28 := e26.later hbA
    have hG28 := hG26.later hbA
    have hY28 := row_block hY26 (fun k _ hk => hbA.block k hk)
    have hz28 := hbA.size
    clear a26 hB26 c26 hR26 hX26 e26 hG26 hY26
    have hR28n := hRn.later hAl
    have hS28n := hSn.later hAl
    have f28 := Atl.new w27 29 sR (.slice n0 n1 n2) fR
    clear cI hOn hRn hSn hrn hrnl hln1 hln2 hb27 hAl hbA
    obtain ⟨p0, p1, p2⟩ := f28.cells
    obtain ⟨q0, q1, q2⟩ := c28.cells
    go_wp2_with fail
    clear p0 p1 p2 q0 q1 q2 f28
    generalize (w27.alloc (.cells #[.int .i64 sR, .slice n0 n1 n2, .int .i64 fR] 29)) = w28 at *
    generalize w27.heap.size = bh at *
    refine (eqS_ w28 sR fR _ _ qR (by have := HRL.out; omega) (fun q hq => by have := HRZ.out q hq; omega) hR28n (hR28.rdp (by omega))).mono ?_
    rintro e w29 ⟨rfl, hb29⟩
    have hS29n := hS28n.later hb29
    clear hR28n hS28n
    have a29 := a28.later hb29
    have hB29 := hB28.stp hb29
    have c29 := c28.later hb29
    have hR29 := hR28.stays (hb29.mono (by omega))
    have hX29 := hX28.stays (hb29.mono (by omega))
    have e29 := e28.later hb29
    have hG29 := hG28.later hb29
    have hY29 := row_block hY28 (fun k _ hk => hb29.block k hk)
    have hz29 := hb29.size
    clear a28 hB28 c28 hR28 hX28 e28 hG28 hY28
    clear hb29
    go_wp2_with fail
    refine (eqB_ w29.heap.size _ _ xR w29 hS29n (hX29.mono (by omega)) (by have := HRX.out; omega)).mono ?_
    rintro e w30 ⟨rfl, n30, rfl⟩
    have hb30 : Below w29.heap.size w29 (w29.drewN n30) := below_drewN (Below.refl _ _) n30
    clear hS29n
    have a30 := a29.later hb30
    have hB30 := hB29.stp hb30
    have c30 := c29.later hb30
    have hR30 := hR29.stays (hb30.mono (by omega))
    have hX30 := hX29.stays (hb30.mono (by omega))
    have e30 := e29.later hb30
    have hG30 := hG29.later hb30
    have hY30 := row_block hY29 (fun k _ hk => hb30.block k hk)
    have hz30 := hb30.size
    clear a29 hB29 c29 hR29 hX29 e29 hG29 hY29
    clear hb30
    generalize w29.drewN n30 = w30 at *
    obtain ⟨p0, p1, p2⟩ := e30.cells
    go_wp2_with fail
    clear p0 p1 p2
    refine (heldS_ w30 sR fR _ qR 1 hG30.own.rdp (by have := HTR.out; omega) (by omega) (by omega) (fun q hq => by have := HRZ.out q hq; omega)).mono ?_
    rintro e w31 ⟨rfl, hb31⟩
    rw [HTE2.out]
    have hB31 := hB30.stp hb31
    have hY31 := row_block hY30 (fun k _ hk => hb31.block k hk)
    clear hb31
    go_wp2_with fail
    refine (heldB_ w31 w31.heap.size _ xR.length (1 + (tr : Int)) (sl_of_own hY31) (by have := HRX.out; omega) (by omega) (by have := HTR.out; have := HTE2.out; omega)).mono ?_
    rintro e w32 ⟨rfl, rfl⟩
    go_wp2_with fail
    go_ret
    exact ⟨rfl, hB31⟩
end Go.Proofs.Ytlifedkieeogdag
