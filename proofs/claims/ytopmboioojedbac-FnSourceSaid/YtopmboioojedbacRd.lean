/- The contract of impl's read: one place of the stream through the shelf. -/
import Derived.Test.YtopmboioojedbacShv
namespace Go.Proofs.Ytopmboioojedbac
open Go.Maps Go.RowKit
/-- The pages of the shelf hold what the list says. -/
def PQ (B : Nat) (w : World) : List Pv → List Pg → Prop
  | [], [] => True
  | p :: ps, q :: qs => p.1 = q.1 ∧ Sl B w p.2 q.2 ∧ PQ B w ps qs
  | _, _ => False
section
variable {B : Nat} {w w' : World}
theorem PQ.len : ∀ {ps : List Pv} {qs : List Pg}, PQ B w ps qs → ps.length = qs.length
  | [], [], _ => rfl
  | _ :: _, _ :: _, h => by simp [PQ.len h.2.2]
  | [], _ :: _, h => h.elim
  | _ :: _, [], h => h.elim
theorem PQ.nums : ∀ {ps : List Pv} {qs : List Pg}, PQ B w ps qs → ps.map (·.1) = qs.map (·.1)
  | [], [], _ => rfl
  | _ :: _, _ :: _, h => by simp only [List.map_cons]; rw [h.1, PQ.nums h.2.2]
  | [], _ :: _, h => h.elim
  | _ :: _, [], h => h.elim
theorem PQ.stays (hb : Below B w w') : ∀ {ps : List Pv} {qs : List Pg}, PQ B w ps qs → PQ B w' ps qs
  | [], [], _ => trivial
  | _ :: _, _ :: _, h => ⟨h.1, h.2.1.stays hb, PQ.stays hb h.2.2⟩
  | [], _ :: _, h => h.elim
  | _ :: _, [], h => h.elim
theorem PQ.mono {B' : Nat} (hb : B ≤ B') : ∀ {ps : List Pv} {qs : List Pg}, PQ B w ps qs → PQ B' w ps qs
  | [], [], _ => trivial
  | _ :: _, _ :: _, h => ⟨h.1, h.2.1.mono hb, PQ.mono hb h.2.2⟩
  | [], _ :: _, h => h.elim
  | _ :: _, [], h => h.elim
theorem PQ.snoc : ∀ {ps : List Pv} {qs : List Pg} {p : Pv} {q : Pg}, PQ B w ps qs → p.1 = q.1 → Sl B w p.2 q.2 → PQ B w (ps ++ [p]) (qs ++ [q])
  | [], [], _, _, _, e, h => ⟨e, h, trivial⟩
  | _ :: _, _ :: _, _, _, h, e, h2 => ⟨h.1, h.2.1, PQ.snoc h.2.2 e h2⟩
  | [], _ :: _, _, _, h, _, _ => h.elim
  | _ :: _, [], _, _, h, _, _ => h.elim
theorem PQ.app : ∀ {ps : List Pv} {qs : List Pg} {ps' : List Pv} {qs' : List Pg}, PQ B w ps qs → PQ B w ps' qs' → PQ B w (ps ++ ps') (qs ++ qs')
  | [], [], _, _, _, h => h
  | _ :: _, _ :: _, _, _, h, h2 => ⟨h.1, h.2.1, PQ.app h.2.2 h2⟩
  | [], _ :: _, _, _, h, _ => h.elim
  | _ :: _, [], _, _, h, _ => h.elim
theorem PQ.split : ∀ {ps : List Pv} {ql : List Pg} {q : Pg} {qr : List Pg}, PQ B w ps (ql ++ q :: qr) → ∃ l p r, ps = l ++ p :: r ∧ PQ B w l ql ∧ p.1 = q.1 ∧ Sl B w p.2 q.2 ∧ PQ B w r qr
  | [], [], _, _, h => h.elim
  | p :: ps, [], q, qr, h => ⟨[], p, ps, rfl, trivial, h.1, h.2.1, h.2.2⟩
  | [], _ :: _, _, _, h => h.elim
  | p :: ps, _ :: ql, q, qr, h => by
    obtain ⟨l, p', r, e, h1, h2⟩ := PQ.split (ps := ps) (ql := ql) h.2.2
    exact ⟨p :: l, p', r, by rw [e]; rfl, ⟨h.1, h.2.1, h1⟩, h2⟩
theorem PQ.isSl_all : ∀ {ps : List Pv} {qs : List Pg}, PQ B w ps qs → ∀ p ∈ ps, isSl p.2
  | [], [], _ => fun p hp => by cases hp
  | x :: ps, y :: qs, h => fun p hp => by
    rcases List.mem_cons.1 hp with rfl | hp
    · rcases h.2.1 with ⟨_, a, c, e⟩ | ⟨_, b, off, c, e, _⟩
      · exact ⟨_, _, _, e⟩
      · exact ⟨_, _, _, e⟩
    · exact PQ.isSl_all h.2.2 p hp
  | [], _ :: _, h => h.elim
  | _ :: _, [], h => h.elim
theorem PQ.shf : ∀ {ps : List Pv} {qs : List Pg}, PQ B w ps qs → PQ B w (shiftV ps) (shift qs) := by
  intro ps qs h
  unfold shiftV shift
  rw [h.len]
  split
  · match ps, qs, h with
    | [], [], h => exact h
    | _ :: _, _ :: _, h => exact h.2.2
  · exact h
end
theorem zero22 (w : World) : (zeroValue 22).run Try.prog w = .ok (.slice none 0 0) w := Try.zeroValue22 w
theorem look_ {B : Nat} {w : World} {size f : Int} {ps : List Pv} (hS : Sh B w size f ps) {num : Int} {v : Value} (hm : (num, v) ∈ ps) (hwf : (Lit.int .i64 num).wf = true) :
    (Instr.lookup 47 (.map (some (B + 1))) (.int .i64 num) false).run Try.prog w = .ok v w := by
  obtain ⟨u, D, h1, h2, h3, h4⟩ := hS
  obtain ⟨v', ps', hrun, hv⟩ := h2.lookup keyed3 Try.underlying47 (zero22 w) (zd := .held (.slice none 0 0)) (zp := []) rfl (keyOf_int_mk Try.underlying3 hwf)
  have := h3.at_ _ hm (.held (.slice none 0 0))
  unfold key at this
  rw [this] at hv
  unfold R0 at hv
  injection hv with hv
  injection hv with hv _
  injection hv with hv
  rw [hv] at hrun
  exact hrun
theorem sl_cut {B : Nat} {w : World} {ad : Option Addr} {n c : Nat} {zs : List Int} (h : Sl B w (.slice ad n c) zs) (num size : Int) (n0 : 0 ≤ num) (s1 : 1 ≤ size) :
    Sl B w (cutV ad n c num size) (part zs (num * size).toNat size.toNat) := by
  have hp0 : 0 ≤ num * size := Int.mul_nonneg n0 (by omega)
  unfold cutV
  rcases h with ⟨rfl, a, c', e⟩ | ⟨hne, b, off, c', e, hlt, hlc, hcell⟩
  · injection e with e1 e2 e3
    subst e2
    left
    refine ⟨by simp [part], ?_⟩
    have : (min (min (num * size) ((0 : Nat) : Int) + size) ((0 : Nat) : Int)).toNat - (min (num * size) ((0 : Nat) : Int)).toNat = 0 := by omega
    rw [this]
    exact ⟨_, _, rfl⟩
  · injection e with e1 e2 e3
    subst e1 e2 e3
    generalize num * size = pr at *
    have hl : (part zs pr.toNat size.toNat).length = (min (min pr (zs.length : Int) + size) (zs.length : Int)).toNat - (min pr (zs.length : Int)).toNat := by
      unfold part
      rw [List.length_take, List.length_drop]
      omega
    by_cases h0 : part zs pr.toNat size.toNat = []
    · left
      refine ⟨h0, ?_⟩
      rw [← hl, h0]
      exact ⟨_, _, rfl⟩
    · right
      have hpos : 0 < (part zs pr.toNat size.toNat).length := List.length_pos_iff.2 h0
      have hfr : (min pr (zs.length : Int)).toNat = pr.toNat := by
        unfold part at hpos
        rw [List.length_take, List.length_drop] at hpos
        omega
      have hlt2 : pr.toNat < zs.length := by
        unfold part at hpos
        rw [List.length_take, List.length_drop] at hpos
        omega
      refine ⟨h0, b, off + pr.toNat, c - pr.toNat, ?_, hlt, ?_, ?_⟩
      · rw [← hl, hfr, if_neg (by omega)]
        have : (⟨b, off, none⟩ : Addr).add pr.toNat = ⟨b, off + pr.toNat, none⟩ := by unfold Addr.add; split <;> simp_all
        simp [this]
      · unfold part
        rw [List.length_take, List.length_drop]
        omega
      · intro i hi
        have hi2 : i < size.toNat ∧ pr.toNat + i < zs.length := by
          unfold part at hi
          rw [List.length_take, List.length_drop] at hi
          omega
        have := hcell (pr.toNat + i) hi2.2
        have e2 : (part zs pr.toNat size.toNat).getD i 0 = zs.getD (pr.toNat + i) 0 := by
          unfold part
          simp [List.getD_eq_getElem?_getD, List.getElem?_drop, hi2.1]
        rw [e2, Nat.add_assoc]
        exact this
def ReadPost (B : Nat) (size : Int) (r : (Int × List Pg) × Int) (w : World) (e : Ending) (w' : World) : Prop :=
  e = .returned (.int .i64 r.2) ∧ (∃ ps', Sh B w' size r.1.1 ps' ∧ PQ B w' ps' r.1.2) ∧ Below B w w'
set_option maxHeartbeats 4000000 in
theorem read_hit (B : Nat) (w : World) (size f at_ : Int) (ps : List Pv) (qs : List Pg) (vb : Value) (zs : List Int) (hS : Sh B w size f ps) (hQ : PQ B w ps qs) (ok : OkS size qs f) (hd : okd qs)
    (a0 : 0 ≤ at_) (a1 : at_ ≤ 60000) (q : Pg) (hf : qs.find? (hit (at_ / size)) = some q) :
    Calls Try.prog 14 #[.pointer (some ⟨B + 2, 0, none⟩), vb, .int .i64 at_] w fun e w' => ReadPost B size (readM size f qs zs at_) w e w' := by
  have s1 := ok.s1
  have s2 := ok.s2
  have hlen := ok.len
  have hq : at_.tdiv size = at_ / size := Int.tdiv_eq_ediv_of_nonneg a0
  have hr : at_.tmod size = at_ % size := Int.tmod_eq_emod_of_nonneg a0
  have n0 : 0 ≤ at_ / size := Int.ediv_nonneg a0 (by omega)
  have n1 : at_ / size ≤ at_ := Int.ediv_le_self _ a0
  have m0 : 0 ≤ at_ % size := Int.emod_nonneg _ (by omega)
  have m1 : at_ % size < size := Int.emod_lt_of_pos _ (by omega)
  have hR : readM size f qs zs at_ = ((f, qs.filter (fun p => !hit (at_ / size) p) ++ [q]), byteAt q.2 (at_ % size).toNat) := by unfold readM; rw [hf]
  have HR : Hid (readM size f qs zs at_ = ((f, qs.filter (fun p => !hit (at_ / size) p) ++ [q]), byteAt q.2 (at_ % size).toNat)) := hR
  obtain ⟨hqm, hq1⟩ := hit_find hf
  obtain ⟨ql, qr, rfl, hql⟩ : ∃ ql qr, qs = ql ++ q :: qr ∧ ∀ a ∈ ql, hit (at_ / size) a = false := by
    have := List.find?_eq_some_iff_append.1 hf
    obtain ⟨_, xs, ys, e, h⟩ := this
    exact ⟨xs, ys, e, fun a ha => by simpa using h a ha⟩
  have hfil : (ql ++ q :: qr).filter (fun p => !hit (at_ / size) p) = ql ++ qr := by
    rw [List.filter_append, List.filter_cons]
    have e1 : (!hit (at_ / size) q) = false := by simp [hit, hq1]
    rw [if_neg (by rw [e1]; simp), List.filter_eq_self.2 (fun a ha => by simp [hql a ha]), List.filter_eq_self.2]
    intro a ha
    have hnd := ok.nd
    rw [List.map_append, List.map_cons, List.nodup_append, List.nodup_cons] at hnd
    have : a.1 ≠ q.1 := fun e => hnd.2.1.1 (List.mem_map.2 ⟨a, ha, e⟩)
    rw [hq1] at this
    simp [hit, this]
  obtain ⟨l, ⟨pn, pvv⟩, r, rfl, hl, hpn, hpsl, hrr⟩ := hQ.split
  obtain rfl : pn = at_ / size := by rw [← hq1]; exact hpn
  have hnl : at_ / size ∉ l.map (·.1) := by
    rw [hl.nums]
    intro hm
    obtain ⟨a, ha, e⟩ := List.mem_map.1 hm
    have := hql a ha
    simp [hit, e] at this
  have hlen2 : (l ++ (at_ / size, pvv) :: r).length ≤ 6 := by rw [hQ.len]; exact hlen
  have hwf : (Lit.int .i64 (at_ / size)).wf = true := wfi (by omega) (by omega)
  have hbd := byteAt_bound (hd q (by simp)) (at_ % size).toNat
  have hzz := hd q (by simp)
  have hUse := fun n => use_ B (w.drewN n) size f (at_ / size) l r pvv hS hnl hlen2
  have HF : Hid _ := hfil
  have HPN : Hid (at_ / size = q.1) := hpn
  have HEACH : Hid (∀ x ∈ ql ++ q :: qr, 0 ≤ x.1 ∧ (x.2.length : Int) ≤ size) := ok.each
  have HSL : Hid (Sl B w pvv q.2) := hpsl
  have HL : Hid (PQ B w l ql) := hl
  have HRR : Hid (PQ B w r qr) := hrr
  have hS' := hS
  obtain ⟨u, D, h1, h2, h3, h4⟩ := hS'
  have hh : Maps.has D (.int .i64 (at_ / size)) = true := by
    have := h3.has (at_ / size)
    unfold key at this
    rw [this]
    simp
  have c0 := c4_0 h1
  have c1 := c4_1 h1
  have hs0 : (size == 0) = false := by simp; omega
  have hs0' : size ≠ 0 := by omega
  clear hf hqm hq1 hql hfil hpn hpsl hrr hl hnl hR ok hd hQ hlen hlen2 h4
  generalize at_ / size = num at *
  generalize at_ % size = pl at *
  have HQ : Hid (at_.tdiv size = num) := hq
  go_enter Try.func14, Try.ntmps14
  go_wp2_with fail
  go_quiet (fail)
  go_wp2_with (at_lookup; refine wpList_lookup_own_ok _ rfl _ _ 47 rfl 3 22 keyed3 Try.underlying47 R0 (zero22 _) (.held (.slice none 0 0)) [] rfl (B + 1) (Maps.size D) D rfl h2 _ _ rfl (keyOf_int_mk Try.underlying3 hwf) ?_; intro v0 ps0 hv0; rw [hh])
  go_wp2_with fail
  refine (hUse _).mono ?_
  rintro e w1 ⟨rfl, hS1, hb0⟩
  have hb1 : Below B w w1 := (below_drewN (Below.refl B w) _).trans hb0
  have hlk := look_ hS1 (num := num) (v := pvv) (by simp) hwf
  have HFIN : Hid ((∃ ps', Sh B w1 size (readM size f (ql ++ q :: qr) zs at_).1.1 ps' ∧ PQ B w1 ps' (readM size f (ql ++ q :: qr) zs at_).1.2) ∧ Below B w w1) := by
    show (∃ ps', Sh B w1 size (readM size f (ql ++ q :: qr) zs at_).1.1 ps' ∧ PQ B w1 ps' (readM size f (ql ++ q :: qr) zs at_).1.2) ∧ Below B w w1
    rw [HR.out]
    refine ⟨⟨_, hS1, ?_⟩, hb1⟩
    show PQ B w1 (l ++ r ++ [(num, pvv)]) _
    rw [HF.out]
    exact ((HL.out.stays hb1).app (HRR.out.stays hb1)).snoc HPN.out (HSL.out.stays hb1)
  have HSL' : Hid (Sl B w1 pvv q.2) := HSL.out.stays hb1
  have hqle : (q.2.length : Int) ≤ size := (HEACH.out q (by simp)).2
  have hS1' := hS1
  obtain ⟨u1, D1, k1, _, _, _⟩ := hS1'
  have e1 := c4_1 k1
  clear hUse hS1 k1 h1 h2 h3 hv0 c0 c1 hS
  rcases HSL'.out with ⟨hde, av, cv, rfl⟩ | ⟨hdne, bb, off, cv, rfl, hbb, hlc, hcell⟩
  · have hge : (0 : Int) ≤ pl := m0
    have HD : Hid (byteAt q.2 pl.toNat = -1) := by
      show byteAt q.2 pl.toNat = -1
      rw [hde]
      rfl
    clear hde
    go_wp2_with fail
    go_ret
    refine ⟨?_, HFIN.out⟩
    rw [HR.out, HD.out]
    rfl
  · have hlen3 : (q.2).length ≤ 1048576 := by omega
    by_cases hlt : pl < (q.2.length : Int)
    · have hnge : ¬ ((q.2.length : Int) ≤ pl) := by omega
      obtain ⟨pn, rfl⟩ : ∃ pn : Nat, pl = pn := ⟨pl.toNat, by omega⟩
      have hce := hcell pn (by omega)
      have HD : Hid (byteAt q.2 (pn : Int).toNat = q.2.getD pn 0) := by
        show byteAt q.2 (pn : Int).toNat = _
        unfold byteAt
        rw [Int.toNat_natCast, if_pos (by omega)]
      have hzb := byteAt_bound hzz (pn : Int).toNat
      rw [HD.out] at hzb
      have hz0 : 0 ≤ q.2.getD pn 0 := by
        have hm : q.2.getD pn 0 ∈ q.2 := by rw [List.getD_eq_getElem?_getD, List.getElem?_eq_getElem (by omega)]; exact List.getElem_mem _
        exact (hzz _ hm).1
      generalize hzeq : q.2.getD pn 0 = z at *
      have HZ : Hid _ := hzeq
      clear hzeq hcell hdne hzz hbd
      go_wp2_with fail
      go_ret
      refine ⟨?_, HFIN.out⟩
      rw [HR.out, HD.out]
      rfl
    · have hge : (q.2.length : Int) ≤ pl := by omega
      have HD : Hid (byteAt q.2 pl.toNat = -1) := by
        show byteAt q.2 pl.toNat = -1
        unfold byteAt
        rw [if_neg (by omega)]
      clear hcell hdne hlt
      go_wp2_with fail
      go_ret
      refine ⟨?_, HFIN.out⟩
      rw [HR.out, HD.out]
      rfl
set_option maxHeartbeats 4000000 in
theorem read_miss (B : Nat) (w : World) (size f at_ : Int) (ps : List Pv) (qs : List Pg) (vb : Value) (zs : List Int) (hS : Sh B w size f ps) (hQ : PQ B w ps qs) (ok : OkS size qs f)
    (hvb : Sl B w vb zs) (hzz0 : okz zs) (hzl : zs.length ≤ 1048576) (hnums : ∀ q ∈ qs, q.1 ≤ 9223372036854775807)
    (a0 : 0 ≤ at_) (a1 : at_ ≤ 60000) (hf : qs.find? (hit (at_ / size)) = none) :
    Calls Try.prog 14 #[.pointer (some ⟨B + 2, 0, none⟩), vb, .int .i64 at_] w fun e w' => ReadPost B size (readM size f qs zs at_) w e w' := by
  obtain ⟨ad, n, c, rfl, hnc, hnz⟩ : ∃ ad n c, vb = .slice ad n c ∧ n ≤ c ∧ n = zs.length := by
    rcases hvb with ⟨rfl, a, c, e⟩ | ⟨_, b, off, c, e, _, hlc, _⟩
    · exact ⟨_, _, _, e, Nat.zero_le _, rfl⟩
    · exact ⟨_, _, _, e, hlc, rfl⟩
  have s1 := ok.s1
  have s2 := ok.s2
  have hlen := ok.len
  have hq : at_.tdiv size = at_ / size := Int.tdiv_eq_ediv_of_nonneg a0
  have hr : at_.tmod size = at_ % size := Int.tmod_eq_emod_of_nonneg a0
  have n0 : 0 ≤ at_ / size := Int.ediv_nonneg a0 (by omega)
  have n1 : at_ / size ≤ at_ := Int.ediv_le_self _ a0
  have n2 : at_ / size * size ≤ at_ := Int.ediv_mul_le _ (by omega)
  have m0 : 0 ≤ at_ % size := Int.emod_nonneg _ (by omega)
  have m1 : at_ % size < size := Int.emod_lt_of_pos _ (by omega)
  have hR : readM size f qs zs at_ = ((min (f + 1) 4294967295, shift qs ++ [(at_ / size, part zs (at_ / size * size).toNat size.toNat)]), byteAt (part zs (at_ / size * size).toNat size.toNat) (at_ % size).toNat) := by unfold readM; rw [hf]
  have HR : Hid _ := hR
  have hnm : at_ / size ∉ ps.map (·.1) := by rw [hQ.nums]; exact hit_none hf
  have hlen2 : ps.length ≤ 6 := by rw [hQ.len]; exact hlen
  have hnd : (ps.map (·.1)).Nodup := by rw [hQ.nums]; exact ok.nd
  have hwp : ∀ p ∈ ps, (Lit.int .i64 p.1).wf = true := by
    intro p hp
    have : p.1 ∈ qs.map (·.1) := by rw [← hQ.nums]; exact List.mem_map.2 ⟨p, hp, rfl⟩
    obtain ⟨q, hqm, e⟩ := List.mem_map.1 this
    have h1 := (ok.each q hqm).1
    have h2 := hnums q hqm
    exact wfi (by omega) (by omega)
  have hwf : (Lit.int .i64 (at_ / size)).wf = true := wfi (by omega) (by omega)
  have hzz : okz (part zs (at_ / size * size).toNat size.toNat) := fun z hz => hzz0 z (part_mem hz)
  have hbd := byteAt_bound hzz (at_ % size).toNat
  have hpl := part_len zs (at_ / size * size).toNat size.toNat
  have hFet := fun k => fetch_ B (w.drewN k) size f (at_ / size) ps ad n c hS hnm hnd hlen2 s1 s2 ok.f0 ok.f1 n0 (by omega) (by omega) hnc (by omega) hwp
  have HSL : Hid (Sl B w (cutV ad n c (at_ / size) size) (part zs (at_ / size * size).toNat size.toNat)) := sl_cut hvb _ _ n0 s1
  have HL : Hid (PQ B w ps qs) := hQ
  have hS' := hS
  obtain ⟨u, D, h1, h2, h3, h4⟩ := hS'
  have hh : Maps.has D (.int .i64 (at_ / size)) = false := by
    have := h3.has (at_ / size)
    unfold key at this
    rw [this]
    simpa using hnm
  have c0 := c4_0 h1
  have c1 := c4_1 h1
  have hs0 : (size == 0) = false := by simp; omega
  have hs0' : size ≠ 0 := by omega
  clear hf hnm hR ok hQ hlen hlen2 h4 hnd hwp hnums hvb hzz0 hnz n2
  generalize at_ / size = num at *
  generalize at_ % size = pl at *
  generalize hcv : cutV ad n c num size = cvv at *
  clear hcv
  generalize hpt : part zs (num * size).toNat size.toNat = dd at *
  clear hpt
  go_enter Try.func14, Try.ntmps14
  go_wp2_with fail
  go_quiet (fail)
  go_wp2_with (at_lookup; refine wpList_lookup_own_ok _ rfl _ _ 47 rfl 3 22 keyed3 Try.underlying47 R0 (zero22 _) (.held (.slice none 0 0)) [] rfl (B + 1) (Maps.size D) D rfl h2 _ _ rfl (keyOf_int_mk Try.underlying3 hwf) ?_; intro v0 ps0 hv0; rw [hh])
  go_wp2_with fail
  refine (hFet _).mono ?_
  rintro e w1 ⟨rfl, hS1, hb0⟩
  have hb1 : Below B w w1 := (below_drewN (Below.refl B w) _).trans hb0
  have hlk := look_ hS1 (num := num) (v := cvv) (by simp) hwf
  have HFIN : Hid ((∃ ps', Sh B w1 size (readM size f qs zs at_).1.1 ps' ∧ PQ B w1 ps' (readM size f qs zs at_).1.2) ∧ Below B w w1) := by
    show (∃ ps', Sh B w1 size (readM size f qs zs at_).1.1 ps' ∧ PQ B w1 ps' (readM size f qs zs at_).1.2) ∧ Below B w w1
    rw [HR.out]
    exact ⟨⟨_, hS1, (HL.out.shf.stays hb1).snoc rfl (HSL.out.stays hb1)⟩, hb1⟩
  have HSL' : Hid (Sl B w1 cvv dd) := HSL.out.stays hb1
  have hqle : (dd.length : Int) ≤ size := by omega
  have hS1' := hS1
  obtain ⟨u1, D1, k1, _, _, _⟩ := hS1'
  have e1 := c4_1 k1
  clear hFet hS1 k1 h1 h2 h3 hv0 c0 c1 hS
  rcases HSL'.out with ⟨hde, av, cv, rfl⟩ | ⟨hdne, bb, off, cv, rfl, hbb, hlc, hcell⟩
  · have hge : (0 : Int) ≤ pl := m0
    have HD : Hid (byteAt dd pl.toNat = -1) := by
      show byteAt dd pl.toNat = -1
      rw [hde]
      rfl
    clear hde
    go_wp2_with fail
    go_ret
    refine ⟨?_, HFIN.out⟩
    rw [HR.out, HD.out]
    rfl
  · have hlen3 : (dd).length ≤ 1048576 := by omega
    by_cases hlt : pl < (dd.length : Int)
    · have hnge : ¬ ((dd.length : Int) ≤ pl) := by omega
      obtain ⟨pn, rfl⟩ : ∃ pn : Nat, pl = pn := ⟨pl.toNat, by omega⟩
      have hce := hcell pn (by omega)
      have HD : Hid (byteAt dd (pn : Int).toNat = dd.getD pn 0) := by
        show byteAt dd (pn : Int).toNat = _
        unfold byteAt
        rw [Int.toNat_natCast, if_pos (by omega)]
      have hzb := byteAt_bound hzz (pn : Int).toNat
      rw [HD.out] at hzb
      have hz0 : 0 ≤ dd.getD pn 0 := by
        have hm : dd.getD pn 0 ∈ dd := by rw [List.getD_eq_getElem?_getD, List.getElem?_eq_getElem (by omega)]; exact List.getElem_mem _
        exact (hzz _ hm).1
      generalize hzeq : dd.getD pn 0 = z at *
      have HZ : Hid _ := hzeq
      clear hzeq hcell hdne hzz hbd
      go_wp2_with fail
      go_ret
      refine ⟨?_, HFIN.out⟩
      rw [HR.out, HD.out]
      rfl
    · have hge : (dd.length : Int) ≤ pl := by omega
      have HD : Hid (byteAt dd pl.toNat = -1) := by
        show byteAt dd pl.toNat = -1
        unfold byteAt
        rw [if_neg (by omega)]
      clear hcell hdne hlt
      go_wp2_with fail
      go_ret
      refine ⟨?_, HFIN.out⟩
      rw [HR.out, HD.out]
      rfl
theorem read_any (B : Nat) (w : World) (size f at_ : Int) (ps : List Pv) (qs : List Pg) (vb : Value) (zs : List Int) (hS : Sh B w size f ps) (hQ : PQ B w ps qs) (ok : OkS size qs f) (hd : okd qs)
    (hvb : Sl B w vb zs) (hzz0 : okz zs) (hzl : zs.length ≤ 1048576) (hnums : ∀ q ∈ qs, q.1 ≤ 9223372036854775807) (a0 : 0 ≤ at_) (a1 : at_ ≤ 60000) :
    Calls Try.prog 14 #[.pointer (some ⟨B + 2, 0, none⟩), vb, .int .i64 at_] w fun e w' => ReadPost B size (readM size f qs zs at_) w e w' := by
  cases h : qs.find? (hit (at_ / size)) with
  | some q => exact read_hit B w size f at_ ps qs vb zs hS hQ ok hd a0 a1 q h
  | none => exact read_miss B w size f at_ ps qs vb zs hS hQ ok hvb hzz0 hzl hnums a0 a1 h
end Go.Proofs.Ytopmboioojedbac
