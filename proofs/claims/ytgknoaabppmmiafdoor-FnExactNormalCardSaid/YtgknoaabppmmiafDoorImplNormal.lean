/- impl.Normal answers what NR says of the bytes, and changes nothing that was there; so does the law over both. -/
import Derived.Test.YtgknoaabppmmiafDoorSpecNormal
import Derived.Test.YtgknoaabppmmiafDoorRep
import Derived.Lib.CountLaws
namespace Go.Proofs.YtgknoaabppmmiafDoor
open Go.ChangeShapes Go.WideShapes Go.ChangeAt Go.RowKit
def byz (l : List Int) : List UInt8 := l.map fun n => UInt8.ofNat n.toNat
def okz (l : List Int) : Prop := ∀ z ∈ l, 0 ≤ z ∧ z < 256
theorem okz_tail {c : Int} {r : List Int} (h : okz (c :: r)) : okz r := fun z hz => h z (by simp [hz])
theorem byz_eq {z : Int} (h : 0 ≤ z ∧ z < 256) (n : Nat) (hn : n < 256) : UInt8.ofNat z.toNat = UInt8.ofNat n ↔ z = n := by
  constructor
  · intro e
    have := congrArg UInt8.toNat e
    simp at this; omega
  · rintro rfl; simp
theorem nrm_byz : ∀ l : List Int, okz l → nrm (byz l) = byz (nrmZ l)
  | [], _ => rfl
  | c :: r, h => by
    have hc := h c (by simp)
    have ih := nrm_byz r (okz_tail h)
    have e13 : (UInt8.ofNat c.toNat = (13 : UInt8)) ↔ c = 13 := byz_eq hc 13 (by omega)
    have eh : (byz r).head? = some 10 ↔ r.head? = some 10 := by
      cases r with
      | nil => simp [byz]
      | cons d t =>
        have hd := h d (by simp)
        have := byz_eq hd 10 (by omega)
        simp only [byz, List.map_cons, List.head?_cons, Option.some.injEq]
        exact this
    show nrm (UInt8.ofNat c.toNat :: byz r) = byz (nrmZ (c :: r))
    rw [nrm, nrmZ]
    by_cases h13 : c = 13
    · rw [if_pos h13, if_pos (e13.2 h13)]
      by_cases hh : r.head? = some 10
      · rw [if_pos hh, if_pos (eh.2 hh), ih]
      · rw [if_neg hh, if_neg (fun x => hh (eh.1 x)), ih]; rfl
    · rw [if_neg h13, if_neg (fun x => h13 (e13.1 x)), ih]; rfl
theorem bom_byz (zs : List Int) (h : okz zs) : ([239, 187, 191] : List UInt8).isPrefixOf (byz zs) = true ↔ zs.take 3 = [239, 187, 191] := by
  by_cases h3 : 3 ≤ zs.length
  · match zs, h3, h with
    | a :: b :: c :: r, _, h =>
      have ha := byz_eq (h a (by simp)) 239 (by omega)
      have hb := byz_eq (h b (by simp)) 187 (by omega)
      have hc := byz_eq (h c (by simp)) 191 (by omega)
      simp only [byz, List.map_cons, List.isPrefixOf, Bool.and_eq_true, beq_iff_eq, and_true, List.take_succ_cons, List.take_zero, List.cons.injEq]
      constructor
      · rintro ⟨x, y, z⟩; exact ⟨ha.1 x.symm, hb.1 y.symm, hc.1 z.symm⟩
      · rintro ⟨x, y, z⟩; exact ⟨(ha.2 x).symm, (hb.2 y).symm, (hc.2 z).symm⟩
  · constructor
    · intro hp
      have := (List.isPrefixOf_iff_prefix.1 hp).length_le
      simp [byz] at this; omega
    · intro hp; exact absurd hp (not_take3 zs h3)
theorem trim_byz (zs : List Int) (h : okz zs) : Lib.trimPrefix (byz zs) [239, 187, 191] = byz (stripZ zs) := by
  unfold Lib.trimPrefix Lib.hasPrefix stripZ
  by_cases hp : zs.take 3 = [239, 187, 191]
  · rw [if_pos ((bom_byz zs h).2 hp), if_pos hp]
    simp [byz, List.map_drop]
  · rw [if_neg (fun x => hp ((bom_byz zs h).1 x)), if_neg hp]
theorem okz_strip (zs : List Int) (h : okz zs) : okz (stripZ zs) := by
  unfold stripZ; split
  · exact fun z hz => h z (List.mem_of_mem_drop hz)
  · exact h
theorem byz_len (l : List Int) : (byz l).length = l.length := by simp [byz]
theorem conv_any (w : World) (v : Value) (zs : List Int) (h : Sl w v zs) : (convert 22 9 v).run Tryd.prog w = .ok (.string (strOfNums zs)) w := by
  rcases h with ⟨rfl, a, c, rfl⟩ | ⟨_, b, off, c, rfl, hc⟩
  · cases a with
    | none => exact run_convert_bytes_nil w 22 5 Tryd.underlying22 Tryd.underlying5 0 c 9 Tryd.underlying9
    | some a =>
      rw [run_convert_bytes_string w 22 9 5 _ 0 c Tryd.underlying22 Tryd.underlying5 Tryd.underlying9]
      exact run_bytesToString w a 0 c [] (by simp [loadCells, loadCellsFrom, Sem.run_pure])
  · exact run_convert_bytes_arg w 22 5 Tryd.underlying22 Tryd.underlying5 b off zs.length c zs rfl hc 9 Tryd.underlying9
theorem rb_bom : rb 65279 = strOfNums [239, 187, 191] := rb_3 65279 (by omega) (by omega) (by omega)
theorem trim_is (s p t : ByteArray) (w : World) (h : Lib.trimPrefix s.data.toList p.data.toList = t.data.toList) :
    Calls Tryd.prog 15 #[.string s, .string p] w fun e w' => e = .returned (.string t) ∧ w' = w := by
  have := Tryd.strings_TrimPrefix s p w
  rw [h] at this
  exact this
theorem rep_is (s old t : ByteArray) (m : Int) (w : World) (hs : s.size ≤ 60000) (hm : w.cell? ⟨2, 0, none⟩ = some (.int .i64 m)) (h1 : 1 ≤ old.size) (h : Lib.replaceAll s.data.toList old.data.toList [10] = t.data.toList) :
    Calls Tryd.prog 17 #[.string s, .string old, .string ⟨#[10]⟩] w fun e w' => e = .returned (.string t) ∧ Below w.heap.size w w' := by
  have hc : Lib.countB s old ≤ s.size + 1 := by
    have := Lib.count_le s.data.toList old.data.toList
    exact this
  have := Tryd.strings_ReplaceAll s old ⟨#[10]⟩ m w (by omega) hm h1 (by
    show s.size + Lib.countB s old * 1 ≤ 140737488355328
    omega)
  rw [show (⟨#[10]⟩ : ByteArray).data.toList = [10] from rfl, h] at this
  exact this
theorem impl_clean_is (s : ByteArray) (n : Nat) (w : World) (h : clean s = n) :
    Calls Tryd.prog 18 #[.string s] w fun e w' => e = .returned (.int .i64 (n : Int)) ∧ Below w.heap.size w w' := by
  subst h; exact impl_clean s w

theorem below_dr (w : World) (n : Nat) : Below w.heap.size w (w.drewN n) := below_drewN (Below.refl _ _) n
theorem cell_on {w w' : World} {a : Addr} {v : Value} (h : w.cell? a = some v) (hb : Below w.heap.size w w') : w'.cell? a = some v := by
  rw [hb.cell (World.block_lt_of_cell? w _ h)]; exact h
theorem len_of {w : World} {v : Value} {zs : List Int} (h : Sl w v zs) : ∃ a c, v = .slice a zs.length c := by
  rcases h with ⟨rfl, a, c, rfl⟩ | ⟨_, b, off, c, rfl, _⟩
  · exact ⟨a, c, rfl⟩
  · exact ⟨_, c, rfl⟩
set_option maxHeartbeats 2000000 in
theorem impl_normal (v : Value) (zs : List Int) (m : Int) (w : World) (hS : Sl w v zs) (hz : zs.length ≤ 1048576) (hok : okz zs) (hm : w.cell? ⟨2, 0, none⟩ = some (.int .i64 m)) :
    Calls Tryd.prog 8 #[v] w fun e w' => NRPost zs e ∧ Below w.heap.size w w' := by
  have hcv : ∀ n, (convert 22 9 v).run Tryd.prog (w.drewN n) = .ok (.string (strOfNums zs)) (w.drewN n) := fun n => conv_any _ v zs (hS.stays (below_dr w n))
  obtain ⟨a, c, rfl⟩ := len_of hS
  have HM : Hid (w.cell? ⟨2, 0, none⟩ = some (.int .i64 m)) := hm
  clear hm
  by_cases hbig : 60000 < zs.length
  · have H : Hid (NR zs ⟨#[]⟩ 1) := NR_big zs hbig
    have hb' : (60000 : Int) < (zs.length : Int) := by omega
    clear hS hok hcv
    go_enter Tryd.func8, Tryd.ntmps8
    go_wp2_with fail
    go_ret2
    exact ⟨⟨_, _, rfl, H.out⟩, Below.refl _ _⟩
  · have hb' : (zs.length : Int) ≤ 60000 := by omega
    have HH : Hid (zs.length ≤ 60000) := by show zs.length ≤ 60000; omega
    clear hbig
    obtain ⟨s1, hs1⟩ : ∃ s1 : ByteArray, s1 = strOfNums (stripZ zs) := ⟨_, rfl⟩
    obtain ⟨s2, hs2⟩ : ∃ s2 : ByteArray, s2 = ⟨(r1 (byz (stripZ zs))).toArray⟩ := ⟨_, rfl⟩
    obtain ⟨s3, hs3⟩ : ∃ s3 : ByteArray, s3 = tz zs := ⟨_, rfl⟩
    have HT : Hid (Lib.trimPrefix (strOfNums zs).data.toList (rb 65279).data.toList = s1.data.toList) := by
      show Lib.trimPrefix (strOfNums zs).data.toList (rb 65279).data.toList = s1.data.toList
      rw [hs1, rb_bom]; exact trim_byz zs hok
    have H2 : Hid (Lib.replaceAll s1.data.toList (⟨#[13, 10]⟩ : ByteArray).data.toList [10] = s2.data.toList) := by
      show Lib.replaceAll s1.data.toList (⟨#[13, 10]⟩ : ByteArray).data.toList [10] = s2.data.toList
      rw [hs1, hs2]; exact all1 _
    have H3 : Hid (Lib.replaceAll s2.data.toList (⟨#[13]⟩ : ByteArray).data.toList [10] = s3.data.toList) := by
      show Lib.replaceAll s2.data.toList (⟨#[13]⟩ : ByteArray).data.toList [10] = s3.data.toList
      rw [hs2, hs3]
      show Lib.replaceAll (r1 (byz (stripZ zs))) [13] [10] = (strOfNums (nrmZ (stripZ zs))).data.toList
      rw [all2, r2_r1, nrm_byz _ (okz_strip zs hok)]; rfl
    have hz1 : s1.size ≤ 60000 := by
      rw [hs1, strOfNums_size]; have := stripZ_len zs; omega
    have hz2 : s2.size ≤ 60000 := by
      rw [hs2]; show (r1 (byz (stripZ zs))).toArray.size ≤ 60000
      have a1 := r1_len (byz (stripZ zs))
      have a2 := stripZ_len zs
      rw [byz_len] at a1
      simp; omega
    have hz3 : s3.size ≤ 60000 := by
      rw [hs3]; have := tz_size zs; omega
    have HS3 : Hid (s3 = tz zs) := hs3
    clear hs1 hs2 hs3 hok hS
    obtain ⟨n, hn⟩ : ∃ n, clean s3 = n := ⟨_, rfl⟩
    have HN : Hid (clean s3 = n) := hn
    have HR : Hid ((n < s3.size → NR zs ⟨#[]⟩ 2) ∧ (¬ n < s3.size → NR zs s3 0)) := by
      refine ⟨fun h => NR_bad zs HH.out ?_, fun h => ?_⟩
      · rw [← HS3.out, hn]; exact h
      · have := NR_good zs HH.out (by rw [← HS3.out, hn]; exact h)
        rw [← HS3.out] at this; exact this
    clear hn
    generalize strOfNums zs = s0 at *
    go_enter Tryd.func8, Tryd.ntmps8
    go_wp2_with fail
    go_quiet ((first | (go_at_call 16; exact Calls.quiet_of_same (impl_rb _ _)) | (go_at_call 15; exact Calls.quiet_of_same (trim_is _ _ s1 _ HT.out))))
    have hm1 : (w.drewN nq).cell? ⟨2, 0, none⟩ = some (.int .i64 m) := HM.out
    have HM1 : Hid ((w.drewN nq).cell? ⟨2, 0, none⟩ = some (.int .i64 m)) := hm1
    clear hm1
    have hb1 := below_dr w nq
    go_wp2_with fail
    refine (rep_is s1 ⟨#[13, 10]⟩ s2 m _ hz1 HM1.out (by decide) H2.out).mono ?_
    rintro e w2 ⟨rfl, hb2⟩
    have HM2 : Hid (w2.cell? ⟨2, 0, none⟩ = some (.int .i64 m)) := cell_on HM1.out hb2
    go_wp2_with fail
    refine (rep_is s2 ⟨#[13]⟩ s3 m _ hz2 HM2.out (by decide) H3.out).mono ?_
    rintro e w3 ⟨rfl, hb3⟩
    go_wp2_with fail
    refine (impl_clean_is s3 n _ HN.out).mono ?_
    rintro e w4 ⟨rfl, hb4⟩
    have hb : Below w.heap.size w w4 := ((hb1.trans (hb2.mono hb1.size)).trans (hb3.mono (Nat.le_trans hb1.size hb2.size))).trans (hb4.mono (Nat.le_trans (Nat.le_trans hb1.size hb2.size) hb3.size))
    clear hb1 hb2 hb3 hb4
    by_cases hlc : n < s3.size
    · have HF : Hid (NR zs ⟨#[]⟩ 2) := HR.out.1 hlc
      have hlc' : (n : Int) < (s3.size : Int) := by omega
      clear hlc
      go_wp2_with fail
      go_ret2
      exact ⟨⟨_, _, rfl, HF.out⟩, hb⟩
    · have HF : Hid (NR zs s3 0) := HR.out.2 hlc
      have hlc' : (s3.size : Int) ≤ (n : Int) := by omega
      clear hlc
      go_wp2_with fail
      go_ret2
      exact ⟨⟨_, _, rfl, HF.out⟩, hb⟩
theorem NR_one {zs : List Int} {s s' : ByteArray} {c c' : Int} (h : NR zs s c) (h' : NR zs s' c') : s = s' ∧ c = c' := by
  unfold NR at h h'
  split at h
  · rename_i g
    rw [if_pos g] at h'
    exact ⟨h.1.trans h'.1.symm, h.2.trans h'.2.symm⟩
  · rename_i g
    rw [if_neg g] at h'
    split at h
    · rename_i g2
      rw [if_pos g2] at h'
      exact ⟨h.1.trans h'.1.symm, h.2.trans h'.2.symm⟩
    · rename_i g2
      rw [if_neg g2] at h'
      exact ⟨h.1.trans h'.1.symm, h.2.trans h'.2.symm⟩
set_option maxHeartbeats 2000000 in
theorem law_normal (v : Value) (zs : List Int) (m : Int) (w : World) (hS : Sl w v zs) (hok : okz zs) (hm : w.cell? ⟨2, 0, none⟩ = some (.int .i64 m)) :
    Calls Tryd.prog 3 #[v] w fun e w' => e = .returned (.bool true) ∧ Below w.heap.size w w' := by
  have HM : Hid (w.cell? ⟨2, 0, none⟩ = some (.int .i64 m)) := hm
  have HS : Hid (Sl w v zs) := hS
  have HO : Hid (okz zs) := hok
  clear hm hok
  obtain ⟨a, c, rfl⟩ := len_of hS
  clear hS
  by_cases hbig : 1048576 < zs.length
  · have hb' : (1048576 : Int) < (zs.length : Int) := by omega
    go_enter Tryd.func3, Tryd.ntmps3
    go_wp2_with fail
    go_ret
    exact ⟨rfl, Below.refl _ _⟩
  · have hb' : (zs.length : Int) ≤ 1048576 := by omega
    have HZ : Hid (zs.length ≤ 1048576) := by show zs.length ≤ 1048576; omega
    clear hbig
    go_enter Tryd.func3, Tryd.ntmps3
    go_wp2_with fail
    refine (toB_any _ zs _ HS.out HZ.out).mono ?_
    rintro e w1 ⟨⟨v1, rfl, hS1⟩, hb1⟩
    have HS1 : Hid (Sl w1 v1 zs) := hS1
    clear hS1
    go_wp2_with fail
    refine (spec_normal v1 zs _ HS1.out).mono ?_
    rintro e w2 ⟨⟨s, cc, rfl, hN⟩, hb2⟩
    have HN : Hid (NR zs s cc) := hN
    clear hN
    have hb12 : Below w.heap.size w w2 := hb1.trans (hb2.mono hb1.size)
    have HS2 : Hid (Sl w2 (.slice a zs.length c) zs) := HS.out.stays hb12
    go_wp2_with fail
    refine (toB_any _ zs _ HS2.out HZ.out).mono ?_
    rintro e w3 ⟨⟨v3, rfl, hS3⟩, hb3⟩
    have HS3 : Hid (Sl w3 v3 zs) := hS3
    clear hS3
    have hb13 : Below w.heap.size w w3 := hb12.trans (hb3.mono hb12.size)
    have HM3 : Hid (w3.cell? ⟨2, 0, none⟩ = some (.int .i64 m)) := cell_on HM.out hb13
    go_wp2_with fail
    refine (impl_normal v3 zs m _ HS3.out HZ.out HO.out HM3.out).mono ?_
    rintro e w4 ⟨⟨s', cc', rfl, hN'⟩, hb4⟩
    obtain ⟨e1, e2⟩ := NR_one HN.out hN'
    subst e1
    subst e2
    clear hN'
    have hb14 : Below w.heap.size w w4 := hb13.trans (hb4.mono hb13.size)
    have HS4 : Hid (Sl w4 (.slice a zs.length c) zs) := HS.out.stays hb14
    have HV4 : Hid (Sl w4 v3 zs) := HS3.out.stays hb4
    go_wp2_with fail
    refine (toB_any _ zs _ HS4.out HZ.out).mono ?_
    rintro e w5 ⟨⟨v5, rfl, hS5⟩, hb5⟩
    have HS5 : Hid (Sl w5 v5 zs) := hS5
    have HV5 : Hid (Sl w5 v3 zs) := HV4.out.stays hb5
    clear hS5
    have hb15 : Below w.heap.size w w5 := hb14.trans (hb5.mono hb14.size)
    go_wp2_with fail
    refine (eqB_same v3 v5 zs _ HV5.out HS5.out HZ.out).mono ?_
    rintro e w6 ⟨rfl, nd, rfl⟩
    go_wp2_with fail
    go_ret
    exact ⟨rfl, below_drewN hb15 nd⟩
end Go.Proofs.YtgknoaabppmmiafDoor
