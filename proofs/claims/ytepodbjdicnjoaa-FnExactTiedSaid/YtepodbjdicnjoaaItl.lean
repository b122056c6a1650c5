/- The contracts of impl.DefOf, impl.Tied and impl.Whole. -/
import Derived.Test.YtepodbjdicnjoaaMik
namespace Go.Proofs.Ytepodbjdicnjoaa
open Go.ChangeShapes Go.WideShapes Go.ChangeAt Go.RowKit Go.Maps
theorem ttake_any (b B1 B2 : Nat) (lv : Value) (w0 w : World) (t : Ti) (k : Nat) (es : List Ev) (n : Sp) (e : Ev) (hS : SlE w0 lv es) (hl : totE es + es.length ≤ 1048576) (he : es[n.at_]? = some e) (hI : TsI b B1 B2 lv w0 t k w) (hk : k ≤ 1048576) :
    Calls Try.prog 46 #[.pointer (some ⟨b, 0, none⟩), n.val] w fun r w' => r = .returned (.tuple #[]) ∧ TsI b B1 B2 lv w0 (t.take n e) (k + 1) w' ∧ KeepS w w' := by
  unfold Ti.take Ti.at
  by_cases hu : n.up = -1
  · rw [if_pos hu]
    by_cases h6 : e.kind = 6
    · rw [if_pos h6]
      exact take_yes_alias b B1 B2 lv w0 w t k es n e hS hl he hI hk hu h6
    · rw [if_neg h6]
      by_cases ha : e.anchor.toList = []
      · rw [if_pos (show noB e.anchor = true by unfold noB; rw [ha]; rfl)]
        exact take_yes_bare b B1 B2 lv w0 w t k es n e hS hl he hI hk hu h6 ha
      · rw [if_neg (show ¬ noB e.anchor = true by unfold noB; simpa using ha)]
        exact take_yes_name b B1 B2 lv w0 w t k es n e hS hl he hI hk hu h6 ha
  · rw [if_neg hu]
    by_cases h6 : e.kind = 6
    · rw [if_pos h6]
      exact take_no_alias b B1 B2 lv w0 w t k es n e hS hl he hI hk hu h6
    · rw [if_neg h6]
      by_cases ha : e.anchor.toList = []
      · rw [if_pos (show noB e.anchor = true by unfold noB; rw [ha]; rfl)]
        exact take_no_bare b B1 B2 lv w0 w t k es n e hS hl he hI hk hu h6 ha
      · rw [if_neg (show ¬ noB e.anchor = true by unfold noB; simpa using ha)]
        exact take_no_name b B1 B2 lv w0 w t k es n e hS hl he hI hk hu h6 ha
/-- With how many nodes were told. -/
def fTie2 (es : List Ev) (p : Ti × Nat) (n : Sp) : Ti × Nat := (fTie es p.1 n, p.2 + 1)
theorem fTie2_fold (es : List Ev) : ∀ (L : List Sp) (p : Ti × Nat), L.foldl (fTie2 es) p = (L.foldl (fTie es) p.1, p.2 + L.length)
  | [], p => rfl
  | n :: t, p => by
    rw [List.foldl_cons, fTie2_fold es t, List.foldl_cons, List.length_cons]
    unfold fTie2
    simp only []
    congr 1
    omega
def TsJ (b B1 B2 : Nat) (lv : Value) (w0 : World) (p : Ti × Nat) (w : World) : Prop := TsI b B1 B2 lv w0 p.1 p.2 w
theorem spans_at {es : List Ev} {k : Nat} {n : Sp} (h : (spansF es)[k]? = some n) : ∃ e, es[n.at_]? = some e := by
  have hm := List.mem_of_getElem? h
  unfold spansF at hm
  obtain ⟨j, hj, rfl⟩ := List.mem_map.1 hm
  have := (mem_nodes.1 hj).1
  exact ⟨_, List.getElem?_eq_getElem this⟩
theorem spansF_le (es : List Ev) : (spansF es).length ≤ es.length := by
  unfold spansF
  rw [List.length_map]
  exact nodesTo_le es es.length
theorem tellTie (b B1 B2 : Nat) (lv : Value) (w0 : World) (es : List Ev) (hS : SlE w0 lv es) (hl : totE es + es.length ≤ 1048576) : TellC 46 (.pointer (some ⟨b, 0, none⟩)) (spansF es) (fTie2 es) (TsJ b B1 B2 lv w0) (Ti.start, 0) :=
  ⟨enters_of Try.func46 (by kernel_rfl) rfl, fun _ _ _ h hb => TsI.stays h hb, fun k n w hx hI => by
    obtain ⟨e, he⟩ := spans_at hx
    have hkl := (List.getElem?_eq_some_iff.1 hx).1
    have hsl := spansF_le es
    rw [fTie2_fold] at hI ⊢
    have hlen : ((spansF es).take k).length = k := by rw [List.length_take]; omega
    rw [hlen] at hI ⊢
    have h2 := ttake_any b B1 B2 lv w0 w _ _ es n e hS hl he hI (by omega)
    refine h2.mono ?_
    rintro r w' ⟨rfl, h3, h4⟩
    refine ⟨rfl, ?_, h4⟩
    show TsI b B1 B2 lv w0 (fTie es _ n) _ w'
    unfold fTie
    rw [he]
    exact h3⟩
theorem gat2 (es : List Ev) (k : Nat) : (gat es (fTie2 es) (Ti.start, 0) k).1 = gat es (fTie es) Ti.start k := by
  unfold gat
  rw [fTie2_fold]
/-- What eachNode leaves of the ties. -/
def tiEnd (es : List Ev) : Ti := if nested es = true then gat es (fTie es) Ti.start es.length else Ti.start
theorem ti_end (es : List Ev) : (if nested es = true then gat es (fTie2 es) (Ti.start, 0) es.length else (Ti.start, 0)).1 = tiEnd es := by
  unfold tiEnd
  split
  · exact gat2 es _
  · rfl
set_option maxHeartbeats 4000000 in
theorem newTies_any (w : World) (a : Option Addr) (m c : Nat) :
    Calls Try.prog 45 #[.slice a m c] w fun e w' => ∃ b B1 B2, e = .returned (.pointer (some ⟨b, 0, none⟩)) ∧ TsI b B1 B2 (.slice a m c) w Ti.start 0 w' := by
  have hmm := @run_makeMap Try.prog
  obtain ⟨w1, hw1⟩ : ∃ w1, w.alloc (.map #[] 0) = w1 := ⟨_, rfl⟩
  obtain ⟨w2, hw2⟩ : ∃ w2, w1.alloc (.map #[] 0) = w2 := ⟨_, rfl⟩
  have s1 : w1.heap.size = w.heap.size + 1 := by rw [← hw1]; simp
  have s2 : w2.heap.size = w1.heap.size + 1 := by rw [← hw2]; simp
  obtain ⟨w3, hw3⟩ : ∃ w3, w2.alloc (.cells #[.slice a m c, .int .i64 0, .map (some w.heap.size), .map (some w1.heap.size), .int .i64 0] 54) = w3 := ⟨_, rfl⟩
  have b1 : Below w.heap.size w w1 := by rw [← hw1]; exact al_belowN w _
  have b2 : Below w1.heap.size w1 w2 := by rw [← hw2]; exact al_belowN w1 _
  have b3 : Below w2.heap.size w2 w3 := by rw [← hw3]; exact al_belowN w2 _
  have HO : Hid (TsI w2.heap.size w.heap.size w1.heap.size (.slice a m c) w Ti.start 0 w3) := by
    refine ⟨?_, ⟨0, Nat.le_refl _, ?_⟩, ⟨0, Nat.le_refl _, ?_⟩, Nat.le_refl _, (b1.trans (b2.mono (by omega))).trans (b3.mono (by omega)), ⟨by omega, by omega, by omega⟩, ⟨by omega, by omega, by omega⟩⟩
    · rw [← hw3]
      exact heap_alloc_new w2 _
    · refine (MapM.made w Try.prog 9 nkey Sp.val).same ?_
      rw [hw1, (b3.block _ (by omega)), (b2.block _ (by omega))]
    · refine (MapM.made w1 Try.prog 3 dkey natV).same ?_
      rw [hw2, (b3.block _ (by omega))]
  have HE : Hid (w2.alloc (.cells #[.slice a m c, .int .i64 0, .map (some w.heap.size), .map (some w1.heap.size), .int .i64 0] 54) = w3) := hw3
  clear b1 b2 b3 hw3 s1 s2
  subst hw2
  subst hw1
  go_enter Try.func45, Try.ntmps45
  go_wp2_with fail
  go_ret
  refine ⟨_, w.heap.size, w.heap.size + 1, rfl, ?_⟩
  have h1 := HO.out
  rw [← HE.out] at h1
  simpa using h1
set_option maxHeartbeats 4000000 in
theorem implDefOf : ImplDefOf := by
  intro w v es i hV hl hf wi
  obtain ⟨o, ho⟩ : ∃ o, defOf es i = o := ⟨_, rfl⟩
  rw [ho]
  obtain ⟨a, c, rfl⟩ := hV.sl
  have HE : Hid ((match (tiEnd es).defs i with | none => (-1 : Int) | some d => (d : Int)) = o) := by
    show _ = _
    unfold tiEnd
    by_cases h : nested es = true
    · rw [if_pos h]
      exact (def_gat h i).trans ho
    · rw [if_neg h, ← ho]
      unfold defOf
      rw [if_pos (.inl (by simpa using h))]
      rfl
  have HV : Hid (SlE w (.slice a es.length c) es) := hV
  have HL : Hid (totE es + es.length ≤ 1048576) := hl
  have HF : Hid (∀ e ∈ es, wfE e) := hf
  have HWI : Hid ((Lit.int .i64 i).wf = true) := wi
  have cN := newTies_any w a es.length c
  clear hV hl hf wi ho
  go_enter Try.func24, Try.ntmps24
  go_wp2_with fail
  refine cN.mono ?_
  rintro e w1 ⟨b, B1, B2, rfl, hI⟩
  have cE := eachNode_any _ _ _ _ (Ti.start, 0) w1 _ es (HV.out.stays hI.below) HL.out HF.out (tellTie b B1 B2 _ w es HV.out HL.out) hI
  clear cN hI
  go_wp2_with fail
  refine cE.mono ?_
  rintro e w2 ⟨rfl, hJ⟩
  unfold TsJ at hJ
  rw [ti_end] at hJ
  have c3 := hJ.at_.c3
  have HB : Hid (Below w.heap.size w w2) := hJ.below
  obtain ⟨n2, _, hM⟩ := hJ.df
  clear cE
  cases hd : (tiEnd es).defs i with
  | none =>
    have hlk := hM.look_no dkeyed Try.underlying52 (zeroNum w2) (dkey_mk HWI.out) hd
    have HO : Hid ((-1 : Int) = o) := by have := HE.out; rw [hd] at this; exact this
    clear hM hJ hd HE
    go_wp2_with fail
    go_ret
    exact ⟨ret_i HO.out, HB.out⟩
  | some d =>
    have hlk := hM.look_yes dkeyed Try.underlying52 (zeroNum w2) (dkey_mk HWI.out) hd
    unfold natV at hlk
    have HO : Hid ((d : Int) = o) := by have := HE.out; rw [hd] at this; exact this
    clear hM hJ hd HE
    go_wp2_with fail
    go_ret
    exact ⟨ret_i HO.out, HB.out⟩
set_option maxHeartbeats 4000000 in
theorem implTied : ImplTied := by
  intro w v es hV hl hf
  obtain ⟨o, ho⟩ : ∃ o, tied es = o := ⟨_, rfl⟩
  rw [ho]
  obtain ⟨a, c, rfl⟩ := hV.sl
  have HV : Hid (SlE w (.slice a es.length c) es) := hV
  have HL : Hid (totE es + es.length ≤ 1048576) := hl
  have HF : Hid (∀ e ∈ es, wfE e) := hf
  have HO : Hid (tied es = o) := ho
  have cN := newTies_any w a es.length c
  clear hV hl hf ho
  go_enter Try.func28, Try.ntmps28
  go_wp2_with fail
  refine cN.mono ?_
  rintro e w1 ⟨b, B1, B2, rfl, hI⟩
  have cE := eachNode_any _ _ _ _ (Ti.start, 0) w1 _ es (HV.out.stays hI.below) HL.out HF.out (tellTie b B1 B2 _ w es HV.out HL.out) hI
  clear cN hI
  cases hn : nested es with
  | false =>
    have HE : Hid (false = o) := by show _ = _; rw [← HO.out]; unfold tied; rw [hn]; rfl
    rw [hn] at cE
    clear hn
    go_wp2_with fail
    refine cE.mono ?_
    rintro e w2 ⟨rfl, hJ⟩
    have HB : Hid (Below w.heap.size w w2) := TsI.below hJ
    clear cE hJ
    go_wp2_with fail
    go_ret
    exact ⟨ret_bool HE.out, HB.out⟩
  | true =>
    have HE : Hid (decide ((tiEnd es).loose = 0) = o) := by
      show _ = _
      unfold tiEnd
      rw [if_pos hn, tied_gat hn, HO.out]
    have hT : (if nested es = true then gat es (fTie2 es) (Ti.start, 0) es.length else (Ti.start, 0)).1 = tiEnd es := ti_end es
    rw [hn] at cE hT
    clear hn
    go_wp2_with fail
    refine cE.mono ?_
    rintro e w2 ⟨rfl, hJ⟩
    unfold TsJ at hJ
    rw [hT] at hJ
    have HB : Hid (Below w.heap.size w w2) := hJ.below
    have c4 := hJ.at_.c4
    clear cE hJ hT
    obtain ⟨lo, hlo⟩ : ∃ lo, (tiEnd es).loose = lo := ⟨_, rfl⟩
    rw [hlo] at c4 HE
    clear hlo
    by_cases hz : lo = 0
    · subst hz
      have HE2 : Hid (true = o) := by show true = o; have := HE.out; simpa using this
      clear HE
      go_wp2_with fail
      go_ret
      exact ⟨ret_bool HE2.out, HB.out⟩
    · have t0 : ((lo : Int) == 0) = false := by rw [beq_eq_false_iff_ne]; omega
      have HE2 : Hid (false = o) := by show _ = _; rw [← HE.out, decide_eq_false hz]
      clear HE hz
      go_wp2_with fail
      go_ret
      exact ⟨ret_bool HE2.out, HB.out⟩
theorem tied_some {es : List Ev} (h : tied es = true) : es ≠ [] := by
  intro h0
  rw [h0] at h
  unfold tied nested at h
  simp [nst] at h
set_option maxHeartbeats 4000000 in
theorem implWhole : ImplWhole := by
  intro w v es hV hl hf
  obtain ⟨o, ho⟩ : ∃ o, whole es = o := ⟨_, rfl⟩
  rw [ho]
  have cT := implTied w v es hV hl hf
  obtain ⟨a, c, rfl⟩ := hV.sl
  have HV : Hid (SlE w (.slice a es.length c) es) := hV
  have HO : Hid (whole es = o) := ho
  have hlen : (es.length : Int) ≤ 1048576 := by omega
  cases ht : tied es with
  | false =>
    have HE : Hid (false = o) := by show _ = _; rw [← HO.out]; unfold whole; rw [ht]; rfl
    rw [ht] at cT
    clear hV hl hf ho ht
    go_enter Try.func30, Try.ntmps30
    go_wp2_with fail
    refine cT.mono ?_
    rintro e w1 ⟨rfl, hb1⟩
    have HB : Hid (Below w.heap.size w w1) := hb1
    clear cT hb1
    go_wp2_with fail
    go_ret
    exact ⟨ret_bool HE.out, HB.out⟩
  | true =>
    have hne := tied_some ht
    obtain ⟨m, hm⟩ : ∃ m, es.length = m + 1 := ⟨es.length - 1, by have := List.length_pos_iff.2 hne; omega⟩
    obtain ⟨e, he⟩ : ∃ e, es[m]? = some e := ⟨_, List.getElem?_eq_getElem (by omega)⟩
    have HE : Hid (decide (e.kind ≠ 10) = o) := by
      show _ = _
      rw [← HO.out]
      unfold whole
      rw [ht, show es.length - 1 = m by omega, kind_at he]
      rfl
    rw [ht] at cT
    have HX : Hid (es[m]? = some e) := he
    rw [hm] at cT hlen
    clear hV hl hf ho ht he hne
    rw [hm]
    go_enter Try.func30, Try.ntmps30
    go_wp2_with fail
    refine cT.mono ?_
    rintro r w1 ⟨rfl, hb1⟩
    have HB : Hid (Below w.heap.size w w1) := hb1
    obtain ⟨bb, off, rfl, _, ⟨c0, _, _, _, _, _, _, _⟩⟩ := HV.out.at hb1 HX.out
    obtain ⟨kd, hkd⟩ : ∃ kd, e.kind = kd := ⟨_, rfl⟩
    rw [hkd] at c0 HE
    clear cT hb1 hkd hm
    by_cases h10 : kd = 10
    · subst h10
      have HE2 : Hid (false = o) := by show false = o; have := HE.out; simpa using this
      clear HE
      go_wp2_with fail
      go_ret
      exact ⟨ret_bool HE2.out, HB.out⟩
    · have t10 : (kd != 10) = true := by rw [bne_iff_ne]; exact h10
      have HE2 : Hid (true = o) := by show _ = _; rw [← HE.out, decide_eq_true h10]
      clear HE h10
      go_wp2_with fail
      go_ret
      exact ⟨ret_bool HE2.out, HB.out⟩
end Go.Proofs.Ytepodbjdicnjoaa
