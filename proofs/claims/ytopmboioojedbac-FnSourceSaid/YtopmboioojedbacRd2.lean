/- Reading a place, told sharper: no block of bytes is changed. -/
import Derived.Test.YtopmboioojedbacKp
namespace Go.Proofs.Ytopmboioojedbac
open Go.Maps Go.RowKit
def ReadPost2 (B : Nat) (size : Int) (r : (Int × List Pg) × Int) (w : World) (e : Ending) (w' : World) : Prop :=
  e = .returned (.int .i64 r.2) ∧ (∃ ps', Sh B w' size r.1.1 ps' ∧ PQ B w' ps' r.1.2) ∧ Below B w w' ∧ KeepB w w'
set_option maxHeartbeats 4000000 in
theorem read2_hit (B : Nat) (w : World) (size f at_ : Int) (ps : List Pv) (qs : List Pg) (vb : Value) (zs : List Int) (hS : Sh B w size f ps) (hQ : PQ B w ps qs) (ok : OkS size qs f) (hd : okd qs)
    (a0 : 0 ≤ at_) (a1 : at_ ≤ 60000) (q : Pg) (hf : qs.find? (hit (at_ / size)) = some q) :
    Calls Try.prog 14 #[.pointer (some ⟨B + 2, 0, none⟩), vb, .int .i64 at_] w fun e w' => ReadPost2 B size (readM size f qs zs at_) w e w' := by
  have s1 := ok.s1
  have s2 := ok.s2
  have hlen := ok.len
  have hq : at_.tdiv size = at_ / size := Int.tdiv_eq_ediv_of_nonneg a0
  have hr : at_.tmod size = at_ % size := Int.tmod_eq_emod_of_nonneg a0
  have n0 : 0 ≤ at_ / size := Int.ediv_nonneg a0 (by omega)
  have n1 : at_ / size ≤ at_ := Int.ediv_le_self _ a0
  have m0 : 0 ≤ at_ % size := Int.emod_nonneg _ (by omega)
  have m1 : at_ % size < size := Int.emod_lt_of_pos _ (by omega)
  have hR : readM size f qs zs at_ = ((f, qs.filter (fun p => !hit (at_ / size) p) ++ [q]), byteAt q.2 (at_ % size).toNat) := by unfold readM; rw [hf]
  have HR : Hid (readM size f qs zs at_ = ((f, qs.filter (fun p => !hit (at_ / size) p) ++ [q]), byteAt q.2 (at_ % size).toNat)) := hR
  obtain ⟨hqm, hq1⟩ := hit_find hf
  obtain ⟨ql, qr, rfl, hql⟩ : ∃ ql qr, qs = ql ++ q :: qr ∧ ∀ a ∈ ql, hit (at_ / size) a = false := by
    have := List.find?_eq_some_iff_append.1 hf
    obtain ⟨_, xs, ys, e, h⟩ := this
    exact ⟨xs, ys, e, fun a ha => by simpa using h a ha⟩
  have hfil : (ql ++ q :: qr).filter (fun p => !hit (at_ / size) p) = ql ++ qr := by
    rw [List.filter_append, List.filter_cons]
    have e1 : (!hit (at_ / size) q) = false := by simp [hit, hq1]
    rw [if_neg (by rw [e1]; simp), List.filter_eq_self.2 (fun a ha => by simp [hql a ha]), List.filter_eq_self.2]
    intro a ha
    have hnd := ok.nd
    rw [List.map_append, List.map_cons, List.nodup_append, List.nodup_cons] at hnd
    have : a.1 ≠ q.1 := fun e => hnd.2.1.1 (List.mem_map.2 ⟨a, ha, e⟩)
    rw [hq1] at this
    simp [hit, this]
  obtain ⟨l, ⟨pn, pvv⟩, r, rfl, hl, hpn, hpsl, hrr⟩ := hQ.split
  obtain rfl : pn = at_ / size := by rw [← hq1]; exact hpn
  have hnl : at_ / size ∉ l.map (·.1) := by
    rw [hl.nums]
    intro hm
    obtain ⟨a, ha, e⟩ := List.mem_map.1 hm
    have := hql a ha
    simp [hit, e] at this
  have hlen2 : (l ++ (at_ / size, pvv) :: r).length ≤ 6 := by rw [hQ.len]; exact hlen
  have hwf : (Lit.int .i64 (at_ / size)).wf = true := wfi (by omega) (by omega)
  have hbd := byteAt_bound (hd q (by simp)) (at_ % size).toNat
  have hzz := hd q (by simp)
  have hUse := fun n => use2_ B (w.drewN n) size f (at_ / size) l r pvv hS hnl hlen2
  have HF : Hid _ := hfil
  have HPN : Hid (at_ / size = q.1) := hpn
  have HEACH : Hid (∀ x ∈ ql ++ q :: qr, 0 ≤ x.1 ∧ (x.2.length : Int) ≤ size) := ok.each
  have HSL : Hid (Sl B w pvv q.2) := hpsl
  have HL : Hid (PQ B w l ql) := hl
  have HRR : Hid (PQ B w r qr) := hrr
  have hS' := hS
  obtain ⟨u, D, h1, h2, h3, h4⟩ := hS'
  have hh : Maps.has D (.int .i64 (at_ / size)) = true := by
    have := h3.has (at_ / size)
    unfold key at this
    rw [this]
    simp
  have c0 := c4_0 h1
  have c1 := c4_1 h1
  have hs0 : (size == 0) = false := by simp; omega
  have hs0' : size ≠ 0 := by omega
  clear hf hqm hq1 hql hfil hpn hpsl hrr hl hnl hR ok hd hQ hlen hlen2 h4
  generalize at_ / size = num at *
  generalize at_ % size = pl at *
  have HQ : Hid (at_.tdiv size = num) := hq
  go_enter Try.func14, Try.ntmps14
  go_wp2_with fail
  go_quiet (fail)
  go_wp2_with (at_lookup; refine wpList_lookup_own_ok _ rfl _ _ 47 rfl 3 22 keyed3 Try.underlying47 R0 (zero22 _) (.held (.slice none 0 0)) [] rfl (B + 1) (Maps.size D) D rfl h2 _ _ rfl (keyOf_int_mk Try.underlying3 hwf) ?_; intro v0 ps0 hv0; rw [hh])
  go_wp2_with fail
  refine (hUse _).mono ?_
  rintro e w1 ⟨rfl, hS1, hb0, hk0⟩
  have hk1 : Hid (KeepB w w1) := fun b cs fr e => hk0 b cs fr e
  clear hk0
  have hb1 : Below B w w1 := (below_drewN (Below.refl B w) _).trans hb0
  have hlk := look_ hS1 (num := num) (v := pvv) (by simp) hwf
  have HFIN : Hid ((∃ ps', Sh B w1 size (readM size f (ql ++ q :: qr) zs at_).1.1 ps' ∧ PQ B w1 ps' (readM size f (ql ++ q :: qr) zs at_).1.2) ∧ Below B w w1 ∧ KeepB w w1) := by
    show (∃ ps', Sh B w1 size (readM size f (ql ++ q :: qr) zs at_).1.1 ps' ∧ PQ B w1 ps' (readM size f (ql ++ q :: qr) zs at_).1.2) ∧ Below B w w1 ∧ KeepB w w1
    rw [HR.out]
    refine ⟨⟨_, hS1, ?_⟩, hb1, hk1.out⟩
    show PQ B w1 (l ++ r ++ [(num, pvv)]) _
    rw [HF.out]
    exact ((HL.out.stays hb1).app (HRR.out.stays hb1)).snoc HPN.out (HSL.out.stays hb1)
  have HSL' : Hid (Sl B w1 pvv q.2) := HSL.out.stays hb1
  have hqle : (q.2.length : Int) ≤ size := (HEACH.out q (by simp)).2
  have hS1' := hS1
  obtain ⟨u1, D1, k1, _, _, _⟩ := hS1'
  have e1 := c4_1 k1
  clear hUse hS1 k1 h1 h2 h3 hv0 c0 c1 hS
  rcases HSL'.out with ⟨hde, av, cv, rfl⟩ | ⟨hdne, bb, off, cv, rfl, hbb, hlc, hcell⟩
  · have hge : (0 : Int) ≤ pl := m0
    have HD : Hid (byteAt q.2 pl.toNat = -1) := by
      show byteAt q.2 pl.toNat = -1
      rw [hde]
      rfl
    clear hde
    go_wp2_with fail
    go_ret
    refine ⟨?_, HFIN.out⟩
    rw [HR.out, HD.out]
    rfl
  · have hlen3 : (q.2).length ≤ 1048576 := by omega
    by_cases hlt : pl < (q.2.length : Int)
    · have hnge : ¬ ((q.2.length : Int) ≤ pl) := by omega
      obtain ⟨pn, rfl⟩ : ∃ pn : Nat, pl = pn := ⟨pl.toNat, by omega⟩
      have hce := hcell pn (by omega)
      have HD : Hid (byteAt q.2 (pn : Int).toNat = q.2.getD pn 0) := by
        show byteAt q.2 (pn : Int).toNat = _
        unfold byteAt
        rw [Int.toNat_natCast, if_pos (by omega)]
      have hzb := byteAt_bound hzz (pn : Int).toNat
      rw [HD.out] at hzb
      have hz0 : 0 ≤ q.2.getD pn 0 := by
        have hm : q.2.getD pn 0 ∈ q.2 := by rw [List.getD_eq_getElem?_getD, List.getElem?_eq_getElem (by omega)]; exact List.getElem_mem _
        exact (hzz _ hm).1
      generalize hzeq : q.2.getD pn 0 = z at *
      have HZ : Hid _ := hzeq
      clear hzeq hcell hdne hzz hbd
      go_wp2_with fail
      go_ret
      refine ⟨?_, HFIN.out⟩
      rw [HR.out, HD.out]
      rfl
    · have hge : (q.2.length : Int) ≤ pl := by omega
      have HD : Hid (byteAt q.2 pl.toNat = -1) := by
        show byteAt q.2 pl.toNat = -1
        unfold byteAt
        rw [if_neg (by omega)]
      clear hcell hdne hlt
      go_wp2_with fail
      go_ret
      refine ⟨?_, HFIN.out⟩
      rw [HR.out, HD.out]
      rfl
set_option maxHeartbeats 4000000 in
theorem read2_miss (B : Nat) (w : World) (size f at_ : Int) (ps : List Pv) (qs : List Pg) (vb : Value) (zs : List Int) (hS : Sh B w size f ps) (hQ : PQ B w ps qs) (ok : OkS size qs f)
    (hvb : Sl B w vb zs) (hzz0 : okz zs) (hzl : zs.length ≤ 1048576) (hnums : ∀ q ∈ qs, q.1 ≤ 9223372036854775807)
    (a0 : 0 ≤ at_) (a1 : at_ ≤ 60000) (hf : qs.find? (hit (at_ / size)) = none) :
    Calls Try.prog 14 #[.pointer (some ⟨B + 2, 0, none⟩), vb, .int .i64 at_] w fun e w' => ReadPost2 B size (readM size f qs zs at_) w e w' := by
  obtain ⟨ad, n, c, rfl, hnc, hnz⟩ : ∃ ad n c, vb = .slice ad n c ∧ n ≤ c ∧ n = zs.length := by
    rcases hvb with ⟨rfl, a, c, e⟩ | ⟨_, b, off, c, e, _, hlc, _⟩
    · exact ⟨_, _, _, e, Nat.zero_le _, rfl⟩
    · exact ⟨_, _, _, e, hlc, rfl⟩
  have s1 := ok.s1
  have s2 := ok.s2
  have hlen := ok.len
  have hq : at_.tdiv size = at_ / size := Int.tdiv_eq_ediv_of_nonneg a0
  have hr : at_.tmod size = at_ % size := Int.tmod_eq_emod_of_nonneg a0
  have n0 : 0 ≤ at_ / size := Int.ediv_nonneg a0 (by omega)
  have n1 : at_ / size ≤ at_ := Int.ediv_le_self _ a0
  have n2 : at_ / size * size ≤ at_ := Int.ediv_mul_le _ (by omega)
  have m0 : 0 ≤ at_ % size := Int.emod_nonneg _ (by omega)
  have m1 : at_ % size < size := Int.emod_lt_of_pos _ (by omega)
  have hR : readM size f qs zs at_ = ((min (f + 1) 4294967295, shift qs ++ [(at_ / size, part zs (at_ / size * size).toNat size.toNat)]), byteAt (part zs (at_ / size * size).toNat size.toNat) (at_ % size).toNat) := by unfold readM; rw [hf]
  have HR : Hid _ := hR
  have hnm : at_ / size ∉ ps.map (·.1) := by rw [hQ.nums]; exact hit_none hf
  have hlen2 : ps.length ≤ 6 := by rw [hQ.len]; exact hlen
  have hnd : (ps.map (·.1)).Nodup := by rw [hQ.nums]; exact ok.nd
  have hwp : ∀ p ∈ ps, (Lit.int .i64 p.1).wf = true := by
    intro p hp
    have : p.1 ∈ qs.map (·.1) := by rw [← hQ.nums]; exact List.mem_map.2 ⟨p, hp, rfl⟩
    obtain ⟨q, hqm, e⟩ := List.mem_map.1 this
    have h1 := (ok.each q hqm).1
    have h2 := hnums q hqm
    exact wfi (by omega) (by omega)
  have hwf : (Lit.int .i64 (at_ / size)).wf = true := wfi (by omega) (by omega)
  have hzz : okz (part zs (at_ / size * size).toNat size.toNat) := fun z hz => hzz0 z (part_mem hz)
  have hbd := byteAt_bound hzz (at_ % size).toNat
  have hpl := part_len zs (at_ / size * size).toNat size.toNat
  have hFet := fun k => fetch2_ B (w.drewN k) size f (at_ / size) ps ad n c hS hnm hnd hlen2 s1 s2 ok.f0 ok.f1 n0 (by omega) (by omega) hnc (by omega) hwp
  have HSL : Hid (Sl B w (cutV ad n c (at_ / size) size) (part zs (at_ / size * size).toNat size.toNat)) := sl_cut hvb _ _ n0 s1
  have HL : Hid (PQ B w ps qs) := hQ
  have hS' := hS
  obtain ⟨u, D, h1, h2, h3, h4⟩ := hS'
  have hh : Maps.has D (.int .i64 (at_ / size)) = false := by
    have := h3.has (at_ / size)
    unfold key at this
    rw [this]
    simpa using hnm
  have c0 := c4_0 h1
  have c1 := c4_1 h1
  have hs0 : (size == 0) = false := by simp; omega
  have hs0' : size ≠ 0 := by omega
  clear hf hnm hR ok hQ hlen hlen2 h4 hnd hwp hnums hvb hzz0 hnz n2
  generalize at_ / size = num at *
  generalize at_ % size = pl at *
  generalize hcv : cutV ad n c num size = cvv at *
  clear hcv
  generalize hpt : part zs (num * size).toNat size.toNat = dd at *
  clear hpt
  go_enter Try.func14, Try.ntmps14
  go_wp2_with fail
  go_quiet (fail)
  go_wp2_with (at_lookup; refine wpList_lookup_own_ok _ rfl _ _ 47 rfl 3 22 keyed3 Try.underlying47 R0 (zero22 _) (.held (.slice none 0 0)) [] rfl (B + 1) (Maps.size D) D rfl h2 _ _ rfl (keyOf_int_mk Try.underlying3 hwf) ?_; intro v0 ps0 hv0; rw [hh])
  go_wp2_with fail
  refine (hFet _).mono ?_
  rintro e w1 ⟨rfl, hS1, hb0, hk0⟩
  have hk1 : Hid (KeepB w w1) := fun b cs fr e => hk0 b cs fr e
  clear hk0
  have hb1 : Below B w w1 := (below_drewN (Below.refl B w) _).trans hb0
  have hlk := look_ hS1 (num := num) (v := cvv) (by simp) hwf
  have HFIN : Hid ((∃ ps', Sh B w1 size (readM size f qs zs at_).1.1 ps' ∧ PQ B w1 ps' (readM size f qs zs at_).1.2) ∧ Below B w w1 ∧ KeepB w w1) := by
    show (∃ ps', Sh B w1 size (readM size f qs zs at_).1.1 ps' ∧ PQ B w1 ps' (readM size f qs zs at_).1.2) ∧ Below B w w1 ∧ KeepB w w1
    rw [HR.out]
    exact ⟨⟨_, hS1, (HL.out.shf.stays hb1).snoc rfl (HSL.out.stays hb1)⟩, hb1, hk1.out⟩
  have HSL' : Hid (Sl B w1 cvv dd) := HSL.out.stays hb1
  have hqle : (dd.length : Int) ≤ size := by omega
  have hS1' := hS1
  obtain ⟨u1, D1, k1, _, _, _⟩ := hS1'
  have e1 := c4_1 k1
  clear hFet hS1 k1 h1 h2 h3 hv0 c0 c1 hS
  rcases HSL'.out with ⟨hde, av, cv, rfl⟩ | ⟨hdne, bb, off, cv, rfl, hbb, hlc, hcell⟩
  · have hge : (0 : Int) ≤ pl := m0
    have HD : Hid (byteAt dd pl.toNat = -1) := by
      show byteAt dd pl.toNat = -1
      rw [hde]
      rfl
    clear hde
    go_wp2_with fail
    go_ret
    refine ⟨?_, HFIN.out⟩
    rw [HR.out, HD.out]
    rfl
  · have hlen3 : (dd).length ≤ 1048576 := by omega
    by_cases hlt : pl < (dd.length : Int)
    · have hnge : ¬ ((dd.length : Int) ≤ pl) := by omega
      obtain ⟨pn, rfl⟩ : ∃ pn : Nat, pl = pn := ⟨pl.toNat, by omega⟩
      have hce := hcell pn (by omega)
      have HD : Hid (byteAt dd (pn : Int).toNat = dd.getD pn 0) := by
        show byteAt dd (pn : Int).toNat = _
        unfold byteAt
        rw [Int.toNat_natCast, if_pos (by omega)]
      have hzb := byteAt_bound hzz (pn : Int).toNat
      rw [HD.out] at hzb
      have hz0 : 0 ≤ dd.getD pn 0 := by
        have hm : dd.getD pn 0 ∈ dd := by rw [List.getD_eq_getElem?_getD, List.getElem?_eq_getElem (by omega)]; exact List.getElem_mem _
        exact (hzz _ hm).1
      generalize hzeq : dd.getD pn 0 = z at *
      have HZ : Hid _ := hzeq
      clear hzeq hcell hdne hzz hbd
      go_wp2_with fail
      go_ret
      refine ⟨?_, HFIN.out⟩
      rw [HR.out, HD.out]
      rfl
    · have hge : (dd.length : Int) ≤ pl := by omega
      have HD : Hid (byteAt dd pl.toNat = -1) := by
        show byteAt dd pl.toNat = -1
        unfold byteAt
        rw [if_neg (by omega)]
      clear hcell hdne hlt
      go_wp2_with fail
      go_ret
      refine ⟨?_, HFIN.out⟩
      rw [HR.out, HD.out]
      rfl
theorem read2_any (B : Nat) (w : World) (size f at_ : Int) (ps : List Pv) (qs : List Pg) (vb : Value) (zs : List Int) (hS : Sh B w size f ps) (hQ : PQ B w ps qs) (ok : OkS size qs f) (hd : okd qs)
    (hvb : Sl B w vb zs) (hzz0 : okz zs) (hzl : zs.length ≤ 1048576) (hnums : ∀ q ∈ qs, q.1 ≤ 9223372036854775807) (a0 : 0 ≤ at_) (a1 : at_ ≤ 60000) :
    Calls Try.prog 14 #[.pointer (some ⟨B + 2, 0, none⟩), vb, .int .i64 at_] w fun e w' => ReadPost2 B size (readM size f qs zs at_) w e w' := by
  cases h : qs.find? (hit (at_ / size)) with
  | some q => exact read2_hit B w size f at_ ps qs vb zs hS hQ ok hd a0 a1 q h
  | none => exact read2_miss B w size f at_ ps qs vb zs hS hQ ok hvb hzz0 hzl hnums a0 a1 h
end Go.Proofs.Ytopmboioojedbac
