/- Several texts in one: Sup Sdf Sno Srt. -/
import Derived.Test.YtepodbjdicnjoaaSne
import Derived.BigQuiet
import Derived.Deep.DeepCutAuto
import Derived.Test.YtepodbjdicnjoaaBwr
import Derived.Test.YtepodbjdicnjoaaSnt
import Derived.Test.YtepodbjdicnjoaaSks
/- The specification's nodes within events: the collection around. -/
namespace Go.Proofs.Ytepodbjdicnjoaa
open Go.ChangeShapes Go.WideShapes Go.ChangeAt Go.RowKit
set_option maxRecDepth 100000 in
set_option maxHeartbeats 8000000 in
theorem up_any (w : World) (v : Value) (es : List Ev) (hV : SlE w v es) (hl : es.length ≤ 1048576) (i : Nat) (hi : i < es.length) (r : Int) (hr : upG es i 0 = r) :
    Calls Try.prog 42 #[v, .int .i64 (i : Int)] w fun e w' => e = .returned (.int .i64 r) ∧ Below w.heap.size w w' := by
  obtain ⟨a, c, rfl⟩ := hV.sl
  have HV : Hid (SlE w (.slice a es.length c) es) := hV
  obtain ⟨e0, he0⟩ : ∃ e0, es[i]? = some e0 := ⟨_, List.getElem?_eq_getElem hi⟩
  obtain ⟨b, off, rfl, hbl, _⟩ := hV.at (Below.refl _ w) he0
  have HO : Hid (upG es i 0 = r) := hr
  have hi' : (i : Int) < (es.length : Int) := by omega
  have hl' : (es.length : Int) ≤ 1048576 := by omega
  have HI : Hid (i < es.length) := hi
  clear hV hbl he0 hr hi
  go_enter Try.func42, Try.ntmps42
  go_wp2_with fail
  go_loopw [5, 6] (fun ov kv wr => ∃ (k : Nat) (o : Int), ov = .int .i64 o ∧ kv = .int .i64 ((k : Int) - 1) ∧ k ≤ i ∧ -((i - k : Nat) : Int) ≤ o ∧ o ≤ ((i - k : Nat) : Int) ∧ Hid (upG es k o = r) ∧ Hid (Below w.heap.size w wr)) (fun _ kv _ => (intOf kv + 1).toNat)
  case atStart => exact ⟨i, 0, rfl, rfl, Nat.le_refl _, by omega, by omega, HO, Below.refl _ _⟩
  case round =>
    obtain ⟨k1, o, rfl, rfl, hk, ho1, ho2, HG, HB⟩ := hrel
    clear HO
    cases k1 with
    | zero =>
      have HE : Hid ((-1 : Int) = r) := HG.out
      have hlt' : ¬ ((0 : Nat) : Int) - 1 ≥ 0 := by omega
      go_wp2_with fail
      go_ret
      exact ⟨ret_i HE.out, HB.out⟩
    | succ k =>
      have hkk : ((k + 1 : Nat) : Int) - 1 = (k : Int) := by omega
      rw [hkk]
      have hk0 : (k : Int) ≥ 0 := by omega
      have hlt : k < es.length := by have := HI.out; omega
      have hlt' : (k : Int) < (es.length : Int) := by omega
      have ho3 : -(1048576 : Int) ≤ o := by have := HI.out; omega
      have ho4 : o ≤ (1048576 : Int) := by have := HI.out; omega
      obtain ⟨e, he⟩ : ∃ e, es[k]? = some e := ⟨_, List.getElem?_eq_getElem hlt⟩
      obtain ⟨b2, off2, e2, _, hE⟩ := HV.out.at HB.out he
      injection e2 with e2
      injection e2 with e2 e3 _
      subst e2
      subst e3
      have hg := HG.out
      rw [upG, he] at hg
      have HG2 : Hid ((if e.kind = 7 then upG es k (o + 1) else if colE e = true then (if o = 0 then (k : Int) else upG es k (o - 1)) else upG es k o) = r) := hg
      have HK : Hid (k + 1 ≤ i ∧ -((i - (k + 1) : Nat) : Int) ≤ o ∧ o ≤ ((i - (k + 1) : Nat) : Int)) := ⟨hk, ho1, ho2⟩
      obtain ⟨cb, hcb⟩ : ∃ cb, colE e = cb := ⟨_, rfl⟩
      have cC := fun w' => coll_any e w' cb hcb
      have HCB : Hid (colE e = cb) := hcb
      obtain ⟨d0, d1, d2, d3, d4, d5, d6, d7⟩ := hE
      clear hg he hcb hkk hk ho1 ho2
      by_cases h7 : e.kind = 7
      · have hk7 : (e.kind == 7) = true := by rw [h7]; rfl
        have hcf : cb = false := by
          rw [← HCB.out]
          unfold colE
          rw [decide_eq_false (by omega), decide_eq_false (by omega)]
          rfl
        subst hcf
        have HE : Hid (upG es k (o + 1) = r) := by show _ = _; rw [← HG2.out, if_pos h7]
        clear h7
        go_wp2_with fail
        refine (cC _).mono ?_
        rintro e9 w2 ⟨rfl, hb2⟩
        have HB2 : Hid (Below w.heap.size w w2) := HB.out.trans (hb2.mono HB.out.size)
        clear hb2 cC d0 d1 d2 d3 d4 d5 d6 d7
        go_wp2_with fail
        go_roundw
        case rel => exact ⟨k, o + 1, rfl, rfl, by have := HK.out.1; omega, by have := HK.out; omega, by have := HK.out; omega, HE, HB2⟩
        case measure => simp [intOf]
      · have hk7 : (e.kind == 7) = false := by rw [beq_eq_false_iff_ne]; exact h7
        have HG3 : Hid ((if colE e = true then (if o = 0 then (k : Int) else upG es k (o - 1)) else upG es k o) = r) := by show _ = _; rw [← HG2.out, if_neg h7]
        clear h7
        go_wp2_with fail
        refine (cC _).mono ?_
        rintro e9 w2 ⟨rfl, hb2⟩
        have HB2 : Hid (Below w.heap.size w w2) := HB.out.trans (hb2.mono HB.out.size)
        clear hb2 cC d0 d1 d2 d3 d4 d5 d6 d7
        cases cb with
        | true =>
          by_cases hz : o = 0
          · have tz : (o == 0) = true := by rw [hz]; rfl
            have HE : Hid ((k : Int) = r) := by show _ = _; rw [← HG3.out, if_pos HCB.out, if_pos hz]
            clear hz
            go_wp2_with fail
            go_ret
            exact ⟨ret_i HE.out, HB2.out⟩
          · have tz : (o == 0) = false := by rw [beq_eq_false_iff_ne]; exact hz
            have HE : Hid (upG es k (o - 1) = r) := by show _ = _; rw [← HG3.out, if_pos HCB.out, if_neg hz]
            clear hz
            go_wp2_with fail
            go_roundw
            case rel => exact ⟨k, o - 1, rfl, rfl, by have := HK.out.1; omega, by have := HK.out; omega, by have := HK.out; omega, HE, HB2⟩
            case measure => simp [intOf]
        | false =>
          have HE : Hid (upG es k o = r) := by show _ = _; rw [← HG3.out, if_neg (by rw [HCB.out]; simp)]
          go_wp2_with fail
          go_roundw
          case rel => exact ⟨k, o, rfl, rfl, by have := HK.out.1; omega, by have := HK.out; omega, by have := HK.out; omega, HE, HB2⟩
          case measure => simp [intOf]
end Go.Proofs.Ytepodbjdicnjoaa
/- The specification's nodes within events: the node of an alias. -/
namespace Go.Proofs.Ytepodbjdicnjoaa
open Go.ChangeShapes Go.WideShapes Go.ChangeAt Go.RowKit
theorem ba_of_list {a b : ByteArray} (h : a.toList = b.toList) : a = b := by
  rw [ByteArray.toList_eq, ByteArray.toList_eq] at h
  have : a.data = b.data := by apply Array.ext'; exact h
  cases a; cases b; simp at this; rw [this]
set_option maxRecDepth 100000 in
set_option maxHeartbeats 8000000 in
theorem def_any (w : World) (v : Value) (es : List Ev) (hV : SlE w v es) (hl : es.length ≤ 1048576) (i : Nat) (hi : i < es.length) (r : Int) (hr : defN es i = r) :
    Calls Try.prog 44 #[v, .int .i64 (i : Int)] w fun e w' => e = .returned (.int .i64 r) ∧ Below w.heap.size w w' := by
  obtain ⟨a, c, rfl⟩ := hV.sl
  have HV : Hid (SlE w (.slice a es.length c) es) := hV
  obtain ⟨e0, he0⟩ : ∃ e0, es[i]? = some e0 := ⟨_, List.getElem?_eq_getElem hi⟩
  obtain ⟨b, off, rfl, hbl, hE0⟩ := hV.at (Below.refl _ w) he0
  have HBL : Hid (b < w.heap.size) := hbl
  have HT0 : Hid (w.cell? ⟨b, off + i * 8 + 3, none⟩ = some (.string e0.text)) := hE0.c3
  have HE0 : Hid (es[i]? = some e0) := he0
  obtain ⟨x, hx⟩ : ∃ x, e0.text = x := ⟨_, rfl⟩
  have HX : Hid (e0.text = x) := hx
  have HO : Hid (defG es i x i = r) := by show _ = _; rw [← hr]; unfold defN; rw [he0]; show _ = defG es i e0.text i; rw [hx]
  have hi' : (i : Int) < (es.length : Int) := by omega
  have hl' : (es.length : Int) ≤ 1048576 := by omega
  have HI : Hid (i < es.length ∧ es.length ≤ 1048576) := ⟨hi, hl⟩
  have HTX : Hid (w.cell? ⟨b, off + i * 8 + 3, none⟩ = some (.string x)) := by show _ = _; rw [← HX.out]; exact HT0.out
  clear hV hbl he0 hr hi hx hE0 HT0 HE0 HX
  go_enter Try.func44, Try.ntmps44
  go_wp2_with fail
  go_loopw [5] (fun kv wr => ∃ (k : Nat), kv = .int .i64 ((k : Int) - 1) ∧ k ≤ i ∧ Hid (defG es i x k = r) ∧ Hid (Below w.heap.size w wr)) (fun kv _ => (intOf kv + 1).toNat)
  case atStart => exact ⟨i, rfl, Nat.le_refl _, HO, Below.refl _ _⟩
  case round =>
    obtain ⟨k1, rfl, hk, HG, HB⟩ := hrel
    clear HO
    cases k1 with
    | zero =>
      have HE : Hid ((-1 : Int) = r) := HG.out
      have hlt' : ¬ ((0 : Nat) : Int) - 1 ≥ 0 := by omega
      go_wp2_with fail
      go_ret
      exact ⟨ret_i HE.out, HB.out⟩
    | succ k =>
      have hkk : ((k + 1 : Nat) : Int) - 1 = (k : Int) := by omega
      rw [hkk]
      have hk0 : (k : Int) ≥ 0 := by omega
      have hlt : k < es.length := by have := HI.out; omega
      have hlt' : (k : Int) < (es.length : Int) := by omega
      obtain ⟨e, he⟩ : ∃ e, es[k]? = some e := ⟨_, List.getElem?_eq_getElem hlt⟩
      have HEK : Hid (es[k]? = some e) := he
      obtain ⟨b2, off2, e2, _, hE⟩ := HV.out.at HB.out he
      injection e2 with e2
      injection e2 with e2 e3 _
      subst e2
      subst e3
      have hg := HG.out
      rw [defG, he] at hg
      have HG2 : Hid ((if e.kind = 2 then -1 else if namE e x = true then (if endN es k < 0 ∨ (i : Int) < endN es k then -1 else (k : Int)) else defG es i x k) = r) := hg
      have HK : Hid (k + 1 ≤ i) := hk
      obtain ⟨d0, d1, d2, d3, d4, d5, d6, d7⟩ := hE
      clear hg he hkk hk
      by_cases h2 : e.kind = 2
      · have tk : (e.kind != 2) = false := by rw [h2]; rfl
        have HE : Hid ((-1 : Int) = r) := by show _ = _; rw [← HG2.out, if_pos h2]
        clear h2
        go_wp2_with fail
        go_ret
        exact ⟨ret_i HE.out, HB.out⟩
      have tk : (e.kind != 2) = true := by rw [bne_iff_ne]; exact h2
      have HG3 : Hid ((if namE e x = true then (if endN es k < 0 ∨ (i : Int) < endN es k then -1 else (k : Int)) else defG es i x k) = r) := by show _ = _; rw [← HG2.out, if_neg h2]
      obtain ⟨nb, hnb⟩ : ∃ nb, nodE e = nb := ⟨_, rfl⟩
      have HNB : Hid (nodE e = nb) := hnb
      have cN : Hid (∀ w', Calls Try.prog 47 #[.agg #[.int .i64 e.kind, .int .i64 e.style, .bool e.flag, .string e.text, .string e.anchor, .string e.tag, .int .i64 e.at_, .int .i64 e.code]] w' fun e' w'' => e' = .returned (.bool nb) ∧ Below w'.heap.size w' w'') := fun w' => node_any e w' nb hnb
      clear h2 hnb HG2
      have HBR : Hid (b < wr.heap.size) := Nat.lt_of_lt_of_le HBL.out HB.out.size
      have x3 : wr.cell? ⟨b, off + i * 8 + 3, none⟩ = some (.string x) := (HB.out.cell (p := ⟨b, off + i * 8 + 3, none⟩) HBL.out).trans HTX.out
      have hcl : ∀ (m : Bw wr) j, m.val.cell? ⟨b, j, none⟩ = wr.cell? ⟨b, j, none⟩ := fun m j => m.ok.cell (p := ⟨b, j, none⟩) HBR.out
      have m0 := fun m => (hcl m _).trans d0
      have m1 := fun m => (hcl m _).trans d1
      have m2 := fun m => (hcl m _).trans d2
      have m3 := fun m => (hcl m _).trans d3
      have m4 := fun m => (hcl m _).trans d4
      have m5 := fun m => (hcl m _).trans d5
      have m6 := fun m => (hcl m _).trans d6
      have m7 := fun m => (hcl m _).trans d7
      have mx3 := fun m => (hcl m _).trans x3
      have hNc := Bw.calls (w := wr) (fun w' _ => cN.out w')
      have hne0 := Bw.some wr
      clear hcl d1 d2 d3 d4 d5 d6 d7 x3
      cases nb with
      | false =>
        have HE : Hid (defG es i x k = r) := by show _ = _; rw [← HG3.out, if_neg (by unfold namE; rw [HNB.out]; simp)]
        go_upto_region 4 with fail
        clear d0
        refine wp_region_bw (w0 := wr) (by kernel_rfl) (by kernel_rfl) (Below.refl _ _) ?_
        repeat (go_big_quiet_step ((go_at_call 47; exact hNc _)))
        refine wpQuiet_nil ?_
        rintro _ ⟨mw, rfl⟩
        all_goals (
          have HB2 : Hid (Below w.heap.size w mw.val) := HB.out.trans (mw.ok.mono HB.out.size)
          generalize mw.val = w2 at *
          clear m0 m1 m2 m3 m4 m5 m6 m7 mx3 hNc hne0
          go_wp2_with fail
          go_roundw
          case rel => exact ⟨k, rfl, by have := HK.out; omega, HE, HB2⟩
          case measure => simp [intOf])
      | true =>
        by_cases hno : e.anchor.toList = []
        · have HE : Hid (defG es i x k = r) := by show _ = _; rw [← HG3.out, if_neg (by unfold namE; rw [show noB e.anchor = true by unfold noB; rw [hno]; rfl]; simp)]
          go_upto_region 4 with fail
          clear d0
          refine wp_region_bw (w0 := wr) (by kernel_rfl) (by kernel_rfl) (Below.refl _ _) ?_
          repeat (go_big_quiet_step ((go_at_call 47; exact hNc _)))
          refine wpQuiet_nil ?_
          rintro _ ⟨mw, rfl⟩
          all_goals (
            have HB2 : Hid (Below w.heap.size w mw.val) := HB.out.trans (mw.ok.mono HB.out.size)
            generalize mw.val = w2 at *
            clear m0 m1 m2 m3 m4 m5 m6 m7 mx3 hNc hne0
            go_wp2_with fail
            go_roundw
            case rel => exact ⟨k, rfl, by have := HK.out; omega, HE, HB2⟩
            case measure => simp [intOf])
        · have hie : e.anchor.toList.isEmpty = false := by cases hh : e.anchor.toList with | nil => exact absurd hh hno | cons _ _ => rfl
          by_cases hxe : e.anchor = x
          · have HNM : Hid (namE e x = true) := by show _ = _; unfold namE; rw [HNB.out, decide_eq_true hxe, show noB e.anchor = false by unfold noB; rw [beq_eq_false_iff_ne]; exact hno]; rfl
            obtain ⟨y, hy⟩ : ∃ y, endN es k = y := ⟨_, rfl⟩
            have HE : Hid ((if y < 0 ∨ (i : Int) < y then -1 else (k : Int)) = r) := by show _ = _; rw [← HG3.out, if_pos HNM.out, hy]
            have cE : Hid (∀ w', Below w.heap.size w w' → Calls Try.prog 33 #[.slice (some ⟨b, off, none⟩) es.length c, .int .i64 (k : Int)] w' fun e w'' => e = .returned (.int .i64 y) ∧ Below w'.heap.size w' w'') := fun w' hb => end_any w' _ es (HV.out.stays hb) HI.out.2 k hlt y hy
            have hyl : y ≤ 1048576 := by rcases endN_le es k (Nat.le_of_lt hlt) with h | h <;> rw [hy] at h <;> have := HI.out.2 <;> omega
            have hyg : -1 ≤ y := by rcases endN_le es k (Nat.le_of_lt hlt) with h | h <;> rw [hy] at h <;> omega
            clear hy
            have HXE : Hid (e.anchor = x) := hxe
            have teq : (e.anchor.toList == x.toList) = true := by rw [hxe]; simp
            clear hxe
            go_upto_region 4 with fail
            clear d0
            refine wp_region_bw (w0 := wr) (by kernel_rfl) (by kernel_rfl) (Below.refl _ _) ?_
            repeat (go_big_quiet_step ((go_at_call 47; exact hNc _)))
            refine wpQuiet_nil ?_
            rintro _ ⟨mw, rfl⟩
            all_goals (
              have HB2 : Hid (Below w.heap.size w mw.val) := HB.out.trans (mw.ok.mono HB.out.size)
              generalize mw.val = w2 at *
              clear m0 m1 m2 m3 m4 m5 m6 m7 mx3 hNc hne0
              go_wp2_with fail
              refine (cE.out w2 HB2.out).mono ?_
              rintro e9 w3 ⟨rfl, hb3⟩
              have HB3 : Hid (Below w.heap.size w w3) := HB2.out.trans (hb3.mono HB2.out.size)
              clear hb3
              by_cases hy0 : y < 0
              · have HF : Hid ((-1 : Int) = r) := by show _ = _; rw [← HE.out, if_pos (.inl hy0)]
                go_wp2_with fail
                go_ret
                exact ⟨ret_i HF.out, HB3.out⟩
              · by_cases hyi : (i : Int) < y
                · have HF : Hid ((-1 : Int) = r) := by show _ = _; rw [← HE.out, if_pos (.inr hyi)]
                  have hyi' : y > (i : Int) := hyi
                  go_wp2_with fail
                  go_ret
                  exact ⟨ret_i HF.out, HB3.out⟩
                · have HF : Hid ((k : Int) = r) := by show _ = _; rw [← HE.out, if_neg (by omega)]
                  have hyi' : ¬ y > (i : Int) := hyi
                  go_wp2_with fail
                  go_ret
                  exact ⟨ret_i HF.out, HB3.out⟩)
          · have HE : Hid (defG es i x k = r) := by show _ = _; rw [← HG3.out, if_neg (by unfold namE; rw [decide_eq_false hxe]; simp)]
            have hne : (e.anchor.toList == x.toList) = false := by rw [beq_eq_false_iff_ne]; intro h; exact hxe (ba_of_list h)
            clear hxe
            go_upto_region 4 with fail
            clear d0
            refine wp_region_bw (w0 := wr) (by kernel_rfl) (by kernel_rfl) (Below.refl _ _) ?_
            repeat (go_big_quiet_step ((go_at_call 47; exact hNc _)))
            refine wpQuiet_nil ?_
            rintro _ ⟨mw, rfl⟩
            all_goals (
              have HB2 : Hid (Below w.heap.size w mw.val) := HB.out.trans (mw.ok.mono HB.out.size)
              generalize mw.val = w2 at *
              clear m0 m1 m2 m3 m4 m5 m6 m7 mx3 hNc hne0
              go_wp2_with fail
              go_roundw
              case rel => exact ⟨k, rfl, by have := HK.out; omega, HE, HB2⟩
              case measure => simp [intOf])
end Go.Proofs.Ytepodbjdicnjoaa
/- The specification's nodes within events: the functions that ask whether the events are nested. -/
namespace Go.Proofs.Ytepodbjdicnjoaa
open Go.ChangeShapes Go.WideShapes Go.ChangeAt Go.RowKit
set_option maxRecDepth 100000 in
set_option maxHeartbeats 8000000 in
theorem spec_endOf (w : World) (v : Value) (es : List Ev) (hV : SlE w v es) (hl : totE es + es.length ≤ 1048576) (i : Int) (r : Int) (hr : endOf es i = r) :
    Calls Try.prog 11 #[v, .int .i64 i] w fun e w' => e = .returned (.int .i64 r) ∧ Below w.heap.size w w' := by
  obtain ⟨a, c, rfl⟩ := hV.sl
  have HV : Hid (SlE w (.slice a es.length c) es) := hV
  have HL : Hid (es.length ≤ 1048576) := by show _ ≤ _; omega
  obtain ⟨nb, hnb⟩ : ∃ nb, nested es = nb := ⟨_, rfl⟩
  have cN := spec_nested w _ es hV hl nb hnb
  have HR : Hid (endOf es i = r) := hr
  have HNB : Hid (nested es = nb) := hnb
  clear hV hl hnb hr
  go_enter Try.func11, Try.ntmps11
  go_wp2_with fail
  refine cN.mono ?_
  rintro e9 w1 ⟨rfl, hb1⟩
  have HB1 : Hid (Below w.heap.size w w1) := hb1
  clear hb1 cN
  cases nb with
  | false =>
    have HE : Hid ((-1 : Int) = r) := by show _ = _; rw [← HR.out]; unfold endOf; rw [if_pos (.inl HNB.out)]
    go_wp2_with fail
    go_ret
    exact ⟨ret_i HE.out, HB1.out⟩
  | true =>
    by_cases h0 : i < 0
    · have HE : Hid ((-1 : Int) = r) := by show _ = _; rw [← HR.out]; unfold endOf; rw [if_pos (.inr (.inl h0))]
      go_wp2_with fail
      go_ret
      exact ⟨ret_i HE.out, HB1.out⟩
    by_cases h1 : (es.length : Int) ≤ i
    · have HE : Hid ((-1 : Int) = r) := by show _ = _; rw [← HR.out]; unfold endOf; rw [if_pos (.inr (.inr h1))]
      have h1' : i ≥ (es.length : Int) := h1
      go_wp2_with fail
      go_ret
      exact ⟨ret_i HE.out, HB1.out⟩
    obtain ⟨k, hk⟩ : ∃ k : Nat, i = (k : Int) := ⟨i.toNat, by omega⟩
    subst hk
    have hkl : k < es.length := by omega
    have h1' : ¬ (k : Int) ≥ (es.length : Int) := h1
    have hl' : (es.length : Int) ≤ 1048576 := by have := HL.out; omega
    have cE := end_any w1 _ es (HV.out.stays HB1.out) HL.out k hkl r (by rw [← HR.out]; unfold endOf; rw [if_neg (by rw [HNB.out]; simp; omega)]; rfl)
    clear h0 h1
    go_wp2_with fail
    refine cE.mono ?_
    rintro e9 w2 ⟨rfl, hb2⟩
    have HB2 : Hid (Below w.heap.size w w2) := HB1.out.trans (hb2.mono HB1.out.size)
    clear hb2 cE
    go_wp2_with fail
    go_ret
    exact ⟨rfl, HB2.out⟩
set_option maxRecDepth 100000 in
set_option maxHeartbeats 8000000 in
theorem spec_upOf (w : World) (v : Value) (es : List Ev) (hV : SlE w v es) (hl : totE es + es.length ≤ 1048576) (i : Int) (r : Int) (hr : upOf es i = r) :
    Calls Try.prog 21 #[v, .int .i64 i] w fun e w' => e = .returned (.int .i64 r) ∧ Below w.heap.size w w' := by
  obtain ⟨a, c, rfl⟩ := hV.sl
  have HV : Hid (SlE w (.slice a es.length c) es) := hV
  have HL : Hid (es.length ≤ 1048576) := by show _ ≤ _; omega
  obtain ⟨nb, hnb⟩ : ∃ nb, nested es = nb := ⟨_, rfl⟩
  have cN := spec_nested w _ es hV hl nb hnb
  have HR : Hid (upOf es i = r) := hr
  have HNB : Hid (nested es = nb) := hnb
  clear hV hl hnb hr
  go_enter Try.func21, Try.ntmps21
  go_wp2_with fail
  refine cN.mono ?_
  rintro e9 w1 ⟨rfl, hb1⟩
  have HB1 : Hid (Below w.heap.size w w1) := hb1
  clear hb1 cN
  cases nb with
  | false =>
    have HE : Hid ((-1 : Int) = r) := by show _ = _; rw [← HR.out]; unfold upOf; rw [if_pos (.inl HNB.out)]
    go_wp2_with fail
    go_ret
    exact ⟨ret_i HE.out, HB1.out⟩
  | true =>
    by_cases h0 : i < 0
    · have HE : Hid ((-1 : Int) = r) := by show _ = _; rw [← HR.out]; unfold upOf; rw [if_pos (.inr (.inl h0))]
      go_wp2_with fail
      go_ret
      exact ⟨ret_i HE.out, HB1.out⟩
    by_cases h1 : (es.length : Int) ≤ i
    · have HE : Hid ((-1 : Int) = r) := by show _ = _; rw [← HR.out]; unfold upOf; rw [if_pos (.inr (.inr h1))]
      have h1' : i ≥ (es.length : Int) := h1
      go_wp2_with fail
      go_ret
      exact ⟨ret_i HE.out, HB1.out⟩
    obtain ⟨k, hk⟩ : ∃ k : Nat, i = (k : Int) := ⟨i.toNat, by omega⟩
    subst hk
    have hkl : k < es.length := by omega
    have h1' : ¬ (k : Int) ≥ (es.length : Int) := h1
    have hl' : (es.length : Int) ≤ 1048576 := by have := HL.out; omega
    have cE := up_any w1 _ es (HV.out.stays HB1.out) HL.out k hkl r (by rw [← HR.out]; unfold upOf; rw [if_neg (by rw [HNB.out]; simp; omega)]; rfl)
    clear h0 h1
    go_wp2_with fail
    refine cE.mono ?_
    rintro e9 w2 ⟨rfl, hb2⟩
    have HB2 : Hid (Below w.heap.size w w2) := HB1.out.trans (hb2.mono HB1.out.size)
    clear hb2 cE
    go_wp2_with fail
    go_ret
    exact ⟨rfl, HB2.out⟩
set_option maxRecDepth 100000 in
set_option maxHeartbeats 8000000 in
theorem spec_defOf (w : World) (v : Value) (es : List Ev) (hV : SlE w v es) (hl : totE es + es.length ≤ 1048576) (i : Int) (r : Int) (hr : defOf es i = r) :
    Calls Try.prog 23 #[v, .int .i64 i] w fun e w' => e = .returned (.int .i64 r) ∧ Below w.heap.size w w' := by
  obtain ⟨a, c, rfl⟩ := hV.sl
  have HV : Hid (SlE w (.slice a es.length c) es) := hV
  have HL : Hid (es.length ≤ 1048576) := by show _ ≤ _; omega
  obtain ⟨nb, hnb⟩ : ∃ nb, nested es = nb := ⟨_, rfl⟩
  have cN := spec_nested w _ es hV hl nb hnb
  have HR : Hid (defOf es i = r) := hr
  have HNB : Hid (nested es = nb) := hnb
  clear hV hl hnb hr
  go_enter Try.func23, Try.ntmps23
  go_wp2_with fail
  refine cN.mono ?_
  rintro e9 w1 ⟨rfl, hb1⟩
  have HB1 : Hid (Below w.heap.size w w1) := hb1
  clear hb1 cN
  cases nb with
  | false =>
    have HE : Hid ((-1 : Int) = r) := by show _ = _; rw [← HR.out]; unfold defOf; rw [if_pos (.inl HNB.out)]
    go_wp2_with fail
    go_ret
    exact ⟨ret_i HE.out, HB1.out⟩
  | true =>
    by_cases h0 : i < 0
    · have HE : Hid ((-1 : Int) = r) := by show _ = _; rw [← HR.out]; unfold defOf; rw [if_pos (.inr (.inl h0))]
      go_wp2_with fail
      go_ret
      exact ⟨ret_i HE.out, HB1.out⟩
    by_cases h1 : (es.length : Int) ≤ i
    · have HE : Hid ((-1 : Int) = r) := by show _ = _; rw [← HR.out]; unfold defOf; rw [if_pos (.inr (.inr (.inl h1)))]
      have h1' : i ≥ (es.length : Int) := h1
      go_wp2_with fail
      go_ret
      exact ⟨ret_i HE.out, HB1.out⟩
    obtain ⟨k, hk⟩ : ∃ k : Nat, i = (k : Int) := ⟨i.toNat, by omega⟩
    subst hk
    have hkl : k < es.length := by omega
    have h1' : ¬ (k : Int) ≥ (es.length : Int) := h1
    have hl' : (es.length : Int) ≤ 1048576 := by have := HL.out; omega
    obtain ⟨e0, he0⟩ : ∃ e0, es[k]? = some e0 := ⟨_, List.getElem?_eq_getElem hkl⟩
    obtain ⟨b, off, rfl, hbl, hE⟩ := HV.out.at HB1.out he0
    have hka : kindAt es k = e0.kind := by unfold kindAt; rw [he0]
    have d0 := hE.c0
    clear hE
    by_cases h6 : e0.kind = 6
    · have t6 : (e0.kind != 6) = false := by rw [h6]; rfl
      have cE := def_any w1 _ es (HV.out.stays HB1.out) HL.out k hkl r (by rw [← HR.out]; unfold defOf; rw [if_neg (by rw [HNB.out]; simp [hka, h6]; omega)]; rfl)
      clear h0 h1 h6 hka he0
      go_wp2_with fail
      refine cE.mono ?_
      rintro e9 w2 ⟨rfl, hb2⟩
      have HB2 : Hid (Below w.heap.size w w2) := HB1.out.trans (hb2.mono HB1.out.size)
      clear hb2 cE
      go_wp2_with fail
      go_ret
      exact ⟨rfl, HB2.out⟩
    · have t6 : (e0.kind != 6) = true := by rw [bne_iff_ne]; exact h6
      have HE : Hid ((-1 : Int) = r) := by show _ = _; rw [← HR.out]; unfold defOf; rw [if_pos (.inr (.inr (.inr (by show kindAt es k ≠ 6; rw [hka]; exact h6))))]
      clear h0 h1 h6 hka he0
      go_wp2_with fail
      go_ret
      exact ⟨ret_i HE.out, HB1.out⟩
set_option maxRecDepth 100000 in
set_option maxHeartbeats 8000000 in
theorem spec_kidsOf (w : World) (v : Value) (es : List Ev) (hV : SlE w v es) (hl : totE es + es.length ≤ 1048576) (i : Int) (r : List Nat) (hr : kidsOf es i = r) :
    Calls Try.prog 15 #[v, .int .i64 i] w fun e w' => OwnI w r e w' := by
  obtain ⟨a, c, rfl⟩ := hV.sl
  have HV : Hid (SlE w (.slice a es.length c) es) := hV
  have HL : Hid (es.length ≤ 1048576) := by show _ ≤ _; omega
  obtain ⟨nb, hnb⟩ : ∃ nb, nested es = nb := ⟨_, rfl⟩
  have cN := spec_nested w _ es hV hl nb hnb
  have HR : Hid (kidsOf es i = r) := hr
  have HNB : Hid (nested es = nb) := hnb
  clear hV hl hnb hr
  go_enter Try.func15, Try.ntmps15
  go_wp2_with fail
  refine cN.mono ?_
  rintro e9 w1 ⟨rfl, hb1⟩
  have HB1 : Hid (Below w.heap.size w w1) := hb1
  clear hb1 cN
  cases nb with
  | false =>
    have HE : Hid (([] : List Nat) = r) := by show _ = _; rw [← HR.out]; unfold kidsOf; rw [if_pos (.inl HNB.out)]
    go_wp2_with fail
    go_ret
    exact ⟨_, _, _, rfl, by rw [← HE.out]; exact World.ownsRow_nil _ _ _ _, HB1.out⟩
  | true =>
    by_cases h0 : i < 0
    · have HE : Hid (([] : List Nat) = r) := by show _ = _; rw [← HR.out]; unfold kidsOf; rw [if_pos (.inr (.inl h0))]
      go_wp2_with fail
      go_ret
      exact ⟨_, _, _, rfl, by rw [← HE.out]; exact World.ownsRow_nil _ _ _ _, HB1.out⟩
    by_cases h1 : (es.length : Int) ≤ i
    · have HE : Hid (([] : List Nat) = r) := by show _ = _; rw [← HR.out]; unfold kidsOf; rw [if_pos (.inr (.inr h1))]
      have h1' : i ≥ (es.length : Int) := h1
      go_wp2_with fail
      go_ret
      exact ⟨_, _, _, rfl, by rw [← HE.out]; exact World.ownsRow_nil _ _ _ _, HB1.out⟩
    obtain ⟨k, hk⟩ : ∃ k : Nat, i = (k : Int) := ⟨i.toNat, by omega⟩
    subst hk
    have hkl : k < es.length := by omega
    have h1' : ¬ (k : Int) ≥ (es.length : Int) := h1
    have hl' : (es.length : Int) ≤ 1048576 := by have := HL.out; omega
    obtain ⟨e0, he0⟩ : ∃ e0, es[k]? = some e0 := ⟨_, List.getElem?_eq_getElem hkl⟩
    obtain ⟨b, off, rfl, hbl, hE⟩ := HV.out.at HB1.out he0
    obtain ⟨cb, hcb⟩ : ∃ cb, colE e0 = cb := ⟨_, rfl⟩
    have cC := fun w' => coll_any e0 w' cb hcb
    have HKN : Hid (kidN es k = r) := by show _ = _; rw [← HR.out]; unfold kidsOf; rw [if_neg (by rw [HNB.out]; simp; omega)]; rfl
    have HKF : Hid (cb = false → [] = r) := fun h => by
      rw [← HKN.out]
      unfold kidN
      rw [he0]
      show [] = (if colE e0 = false then [] else _)
      rw [if_pos (hcb.trans h)]
    obtain ⟨d0, d1, d2, d3, d4, d5, d6, d7⟩ := hE
    clear h0 h1 he0 hcb
    go_wp2_with fail
    refine (cC _).mono ?_
    rintro e9 w2 ⟨rfl, hb2⟩
    have HB2 : Hid (Below w.heap.size w w2) := HB1.out.trans (hb2.mono HB1.out.size)
    clear hb2 cC d0 d1 d2 d3 d4 d5 d6 d7
    cases cb with
    | false =>
      have HE : Hid (([] : List Nat) = r) := HKF.out rfl
      clear HKF
      go_wp2_with fail
      go_ret
      exact ⟨_, _, _, rfl, by rw [← HE.out]; exact World.ownsRow_nil _ _ _ _, HB2.out⟩
    | true =>
      have cE := kids_any w2 _ es (HV.out.stays HB2.out) HL.out k hkl r HKN.out
      clear HKF
      go_wp2_with fail
      refine cE.mono ?_
      rintro e9 w3 ⟨a3, n3, c3, rfl, ho3, hb3⟩
      have HO : Hid (OwnI w r (.returned (.slice a3 n3 c3)) w3) := ⟨a3, n3, c3, rfl, by
        refine ⟨ho3.1, ?_⟩
        rcases ho3.2 with hn | ⟨g, cap, cur, e1, e2, rest⟩
        · exact .inl hn
        · exact .inr ⟨g, cap, cur, e1, Nat.le_trans HB2.out.size e2, rest⟩, HB2.out.trans (hb3.mono HB2.out.size)⟩
      clear ho3 hb3 cE
      go_wp2_with fail
      go_ret
      exact HO.out
end Go.Proofs.Ytepodbjdicnjoaa
/- The specification's nodes within events: roots, ties, whole streams. -/
namespace Go.Proofs.Ytepodbjdicnjoaa
open Go.ChangeShapes Go.WideShapes Go.ChangeAt Go.RowKit
theorem rootsTo_succ (es : List Ev) (k : Nat) : rootsTo es (k + 1) = if rootAt es (nested es) k = true then rootsTo es k ++ [k] else rootsTo es k := by
  unfold rootsTo
  rw [List.range_succ, List.filter_append]
  split
  · rename_i h
    simp [h]
  · rename_i h
    simp [h]
theorem rootsTo_len (es : List Ev) (k : Nat) : (rootsTo es k).length ≤ k := by
  unfold rootsTo
  exact Nat.le_trans (List.length_filter_le _ _) (by simp)
theorem tiedTo_succ (es : List Ev) (k : Nat) : tiedTo es (k + 1) = (tiedTo es k && tiedAt es k) := by
  unfold tiedTo
  rw [List.range_succ, List.all_append]
  simp
set_option maxRecDepth 100000 in
set_option maxHeartbeats 8000000 in
theorem spec_rootsOf (w : World) (v : Value) (es : List Ev) (hV : SlE w v es) (hl : totE es + es.length ≤ 1048576) (r : List Nat) (hr : rootsOf es = r) :
    Calls Try.prog 25 #[v] w fun e w' => OwnI w r e w' := by
  obtain ⟨a, c, rfl⟩ := hV.sl
  have HV : Hid (SlE w (.slice a es.length c) es) := hV
  have HL : Hid (es.length ≤ 1048576) := by show _ ≤ _; omega
  obtain ⟨nb, hnb⟩ : ∃ nb, nested es = nb := ⟨_, rfl⟩
  have cN : Hid (∀ w', Below w.heap.size w w' → Calls Try.prog 32 #[.slice a es.length c] w' fun r w'' => r = .returned (.bool nb) ∧ Below w'.heap.size w' w'') := fun w' hb => spec_nested w' _ es (hV.stays hb) hl nb hnb
  have HR : Hid (rootsTo es es.length = r) := hr
  have HNB : Hid (nested es = nb) := hnb
  have hl' : (es.length : Int) ≤ 1048576 := by omega
  have HA0 : Hid (Below w.heap.size w (w.alloc (.cells #[] 3))) := (Below.refl _ w).alloc (Nat.le_refl _) _
  have HO0 : Hid ((w.alloc (.cells #[] 3)).ownsRow w.heap.size 3 1 (.slice (some ⟨w.heap.size, 0, none⟩) 0 0) (rootsTo es 0).length (intsV (rootsTo es 0))) := World.ownsRow_made w #[] 0 (Nat.le_refl _) (Nat.zero_le _) rfl
  clear hV hl hnb hr
  go_enter Try.func25, Try.ntmps25
  go_wp2_with fail
  go_loopw [3, 8] (fun ov kv wr => ∃ (k : Nat) (oa : Option Addr) (on oc : Nat), ov = .slice oa on oc ∧ kv = .int .i64 (k : Int) ∧ k ≤ es.length ∧ Hid (wr.ownsRow w.heap.size 3 1 (.slice oa on oc) (rootsTo es k).length (intsV (rootsTo es k))) ∧ Hid (Below w.heap.size w wr)) (fun _ kv _ => es.length - (intOf kv).toNat)
  case atStart => exact ⟨0, _, _, _, rfl, rfl, Nat.zero_le _, HO0, HA0⟩
  case round =>
    obtain ⟨k, oa, on, oc, rfl, rfl, hk, HO, HB⟩ := hrel
    clear HO0 HA0
    by_cases hlt : k < es.length
    case neg =>
      obtain rfl : k = es.length := by omega
      have hlt' : ¬ (es.length : Int) < (es.length : Int) := by omega
      go_wp2_with fail
      go_ret
      exact ⟨_, _, _, rfl, by rw [← HR.out]; exact HO.out, HB.out⟩
    have hlt' : (k : Int) < (es.length : Int) := by omega
    obtain ⟨e, he⟩ : ∃ e, es[k]? = some e := ⟨_, List.getElem?_eq_getElem hlt⟩
    have HSK : Hid (rootAt es (nested es) k = false → rootsTo es (k + 1) = rootsTo es k) := fun h => by rw [rootsTo_succ, if_neg (by rw [h]; simp)]
    have HLT : Hid (k < es.length) := hlt
    by_cases hk0 : k = 0
    · have hk0' : ¬ (k : Int) > 0 := by omega
      have HS : Hid (rootsTo es (k + 1) = rootsTo es k) := HSK.out (by unfold rootAt; rw [decide_eq_false (by omega)]; rfl)
      clear he hk0 HSK
      go_wp2_with fail
      go_roundw
      case rel => exact ⟨k + 1, _, _, _, rfl, by go_num, HLT.out, by show World.ownsRow _ _ _ _ _ _ _; rw [HS.out]; exact HO.out, HB⟩
      case measure => simp [intOf]; omega
    obtain ⟨j, hj⟩ : ∃ j, k = j + 1 := ⟨k - 1, by omega⟩
    have hk0' : (k : Int) > 0 := by omega
    have hkj : (k : Int) - 1 = (j : Int) := by omega
    have hjl : (j : Int) < (es.length : Int) := by omega
    obtain ⟨e1, he1⟩ : ∃ e1, es[j]? = some e1 := ⟨_, List.getElem?_eq_getElem (by omega)⟩
    obtain ⟨b, off, hab, hbl, hE1⟩ := HV.out.at HB.out he1
    subst hab
    have q0 := hE1.c0
    clear hE1
    have hka : kindAt es (k - 1) = e1.kind := by unfold kindAt; rw [show k - 1 = j by omega, he1]
    by_cases h2 : e1.kind = 2
    case neg =>
      have t2 : (e1.kind == 2) = false := by rw [beq_eq_false_iff_ne]; exact h2
      have HS : Hid (rootsTo es (k + 1) = rootsTo es k) := HSK.out (by unfold rootAt; rw [hka, decide_eq_false h2]; simp)
      clear he he1 hk0 HSK hj hka h2
      go_wp2_with fail
      go_roundw
      case rel => exact ⟨k + 1, _, _, _, rfl, by go_num, HLT.out, by show World.ownsRow _ _ _ _ _ _ _; rw [HS.out]; exact HO.out, HB⟩
      case measure => simp [intOf]; omega
    have t2 : (e1.kind == 2) = true := by rw [h2]; rfl
    obtain ⟨db, hdb⟩ : ∃ db, nodE e = db := ⟨_, rfl⟩
    have cD := fun w' => node_any e w' db hdb
    have HRA : Hid (rootAt es (nested es) k = (db && nb)) := by
      show _ = _
      unfold rootAt
      rw [hka, decide_eq_true h2, decide_eq_true (by omega : 0 < k), he, HNB.out]
      show (true && (true && (nodE e && nb))) = _
      rw [hdb]
      rfl
    obtain ⟨b3, off3, e2, _, hE⟩ := HV.out.at HB.out he
    injection e2 with e2
    injection e2 with e2 e3 _
    subst e2
    subst e3
    obtain ⟨d0, d1, d2, d3, d4, d5, d6, d7⟩ := hE
    clear he he1 hk0 hj hka h2 hdb
    go_wp2_with fail
    refine (cD _).mono ?_
    rintro e9 w2 ⟨rfl, hb2⟩
    have HB2 : Hid (Below w.heap.size w w2) := HB.out.trans (hb2.mono HB.out.size)
    have HO2 : Hid (w2.ownsRow w.heap.size 3 1 (.slice oa on oc) (rootsTo es k).length (intsV (rootsTo es k))) := row_same HO.out (fun k _ hk => hb2.block k hk)
    clear hb2 cD d0 d1 d2 d3 d4 d5 d6 d7 q0 HO HB
    cases db with
    | false =>
      have HS : Hid (rootsTo es (k + 1) = rootsTo es k) := HSK.out (by rw [HRA.out]; rfl)
      clear HSK
      go_wp2_with fail
      go_roundw
      case rel => exact ⟨k + 1, _, _, _, rfl, by go_num, HLT.out, by show World.ownsRow _ _ _ _ _ _ _; rw [HS.out]; exact HO2.out, HB2⟩
      case measure => simp [intOf]; omega
    | true =>
      go_wp2_with fail
      refine (cN.out w2 HB2.out).mono ?_
      rintro e9 w3 ⟨rfl, hb3⟩
      have HB3 : Hid (Below w.heap.size w w3) := HB2.out.trans (hb3.mono HB2.out.size)
      have HO3 : Hid (w3.ownsRow w.heap.size 3 1 (.slice oa on oc) (rootsTo es k).length (intsV (rootsTo es k))) := row_same HO2.out (fun k _ hk => hb3.block k hk)
      clear hb3 HB2 HO2
      cases nb with
      | false =>
        have HS : Hid (rootsTo es (k + 1) = rootsTo es k) := HSK.out (by rw [HRA.out]; rfl)
        clear HSK
        go_wp2_with fail
        go_roundw
        case rel => exact ⟨k + 1, _, _, _, rfl, by go_num, HLT.out, by show World.ownsRow _ _ _ _ _ _ _; rw [HS.out]; exact HO3.out, HB3⟩
        case measure => simp [intOf]; omega
      | true =>
        have HS : Hid (rootsTo es (k + 1) = rootsTo es k ++ [k]) := by show _ = _; rw [rootsTo_succ, if_pos (by rw [HRA.out]; rfl)]
        obtain ⟨v5, w5, hrun5, hsl5, hown5, hbel5, _⟩ := push_own (P := Try.prog) Try.underlying29 infoI8 rfl (by decide) w3 w.heap.size _ _ _ HO3.out #[.int .i64 (k : Int)] rfl (by intro u hu; simp at hu; subst hu; rfl) (by have h1 := HL.out; have h2 := rootsTo_len es k; omega) (by omega) HB3.out.size 29
        obtain ⟨a5, n5, c5, rfl⟩ := hsl5
        have HO5 : Hid (w5.ownsRow w.heap.size 3 1 (.slice a5 n5 c5) (rootsTo es (k + 1)).length (intsV (rootsTo es (k + 1)))) := by
          show World.ownsRow _ _ _ _ _ _ _
          rw [HS.out, List.length_append, intsV_snoc]
          exact hown5
        have HB5 : Hid (Below w.heap.size w w5) := HB3.out.trans hbel5
        clear hown5 hbel5 HO3 HB3 HSK
        go_wp2_with (at_builtin; refine append_run rfl _ _ 29 rfl _ _ rfl rfl _ w5 hrun5 ?_)
        go_roundw
        case rel => exact ⟨k + 1, _, _, _, rfl, by go_num, HLT.out, HO5, HB5⟩
        case measure => simp [intOf]; omega
set_option maxRecDepth 100000 in
set_option maxHeartbeats 8000000 in
theorem spec_tied (w : World) (v : Value) (es : List Ev) (hV : SlE w v es) (hl : totE es + es.length ≤ 1048576) (r : Bool) (hr : tied es = r) :
    Calls Try.prog 27 #[v] w fun e w' => e = .returned (.bool r) ∧ Below w.heap.size w w' := by
  obtain ⟨a, c, rfl⟩ := hV.sl
  have HV : Hid (SlE w (.slice a es.length c) es) := hV
  have HL : Hid (es.length ≤ 1048576) := by show _ ≤ _; omega
  obtain ⟨nb, hnb⟩ : ∃ nb, nested es = nb := ⟨_, rfl⟩
  have cN := spec_nested w _ es hV hl nb hnb
  have HR : Hid ((nb && tiedTo es es.length) = r) := by show _ = _; rw [← hr]; unfold tied; rw [hnb]
  have hl' : (es.length : Int) ≤ 1048576 := by omega
  clear hV hl hnb hr
  go_enter Try.func27, Try.ntmps27
  go_wp2_with fail
  refine cN.mono ?_
  rintro e9 w1 ⟨rfl, hb1⟩
  have HB1 : Hid (Below w.heap.size w w1) := hb1
  clear hb1 cN
  cases nb with
  | false =>
    have HE : Hid (false = r) := HR.out
    go_wp2_with fail
    go_ret
    exact ⟨ret_b HE.out, HB1.out⟩
  | true =>
    have HE : Hid (tiedTo es es.length = r) := HR.out
    clear HR
    go_wp2_with fail
    go_loopw [10] (fun kv wr => ∃ (k : Nat), kv = .int .i64 (k : Int) ∧ k ≤ es.length ∧ Hid (tiedTo es k = true) ∧ Hid (Below w.heap.size w wr)) (fun kv _ => es.length - (intOf kv).toNat)
    case atStart => exact ⟨0, rfl, Nat.zero_le _, rfl, HB1⟩
    case round =>
      obtain ⟨k, rfl, hk, HT, HB⟩ := hrel
      clear HB1
      by_cases hlt : k < es.length
      case neg =>
        obtain rfl : k = es.length := by omega
        have hlt' : ¬ (es.length : Int) < (es.length : Int) := by omega
        have HF : Hid (true = r) := by show _ = _; rw [← HE.out, HT.out]
        go_wp2_with fail
        go_ret
        exact ⟨ret_b HF.out, HB.out⟩
      have hlt' : (k : Int) < (es.length : Int) := by omega
      obtain ⟨e, he⟩ : ∃ e, es[k]? = some e := ⟨_, List.getElem?_eq_getElem hlt⟩
      have HLT : Hid (k < es.length) := hlt
      obtain ⟨b, off, hab, hbl, hE⟩ := HV.out.at HB.out he
      subst hab
      obtain ⟨d0, d1, d2, d3, d4, d5, d6, d7⟩ := hE
      have hka : kindAt es k = e.kind := by unfold kindAt; rw [he]
      have HBA : Hid (Below w.heap.size w (wr.alloc (.cells #[.int .i64 e.kind, .int .i64 e.style, .bool e.flag, .string e.text, .string e.anchor, .string e.tag, .int .i64 e.at_, .int .i64 e.code] 39))) := HB.out.alloc HB.out.size _
      by_cases h6 : e.kind = 6
      case neg =>
        have t6 : (e.kind == 6) = false := by rw [beq_eq_false_iff_ne]; exact h6
        have HT2 : Hid (tiedTo es (k + 1) = true) := by show _ = _; rw [tiedTo_succ, HT.out]; unfold tiedAt; rw [hka, decide_eq_false h6]; rfl
        clear he hka h6
        go_wp2_with fail
        go_roundw
        case rel => exact ⟨k + 1, by go_num, HLT.out, HT2, HBA⟩
        case measure => simp [intOf]; omega
      have t6 : (e.kind == 6) = true := by rw [h6]; rfl
      obtain ⟨y, hy⟩ : ∃ y, defN es k = y := ⟨_, rfl⟩
      have HTA : Hid (tiedTo es (k + 1) = decide (0 ≤ y)) := by show _ = _; rw [tiedTo_succ, HT.out]; unfold tiedAt; rw [hka, decide_eq_true h6, hy]; rfl
      have cE : Hid (∀ w', Below w.heap.size w w' → Calls Try.prog 44 #[.slice (some ⟨b, off, none⟩) es.length c, .int .i64 (k : Int)] w' fun e w'' => e = .returned (.int .i64 y) ∧ Below w'.heap.size w' w'') := fun w' hb => def_any w' _ es (HV.out.stays hb) HL.out k hlt y hy
      clear he hka h6 hy
      go_wp2_with fail
      refine (cE.out _ HBA.out).mono ?_
      rintro e9 w2 ⟨rfl, hb2⟩
      have HB2 : Hid (Below w.heap.size w w2) := HBA.out.trans (hb2.mono HBA.out.size)
      clear hb2 d0 d1 d2 d3 d4 d5 d6 d7
      by_cases hy0 : y < 0
      · have HF : Hid (false = r) := by
          show _ = _
          rw [← HE.out]
          have h1 := HTA.out
          rw [decide_eq_false (by omega)] at h1
          have h2 : ∀ n, k + 1 ≤ n → tiedTo es n = false := by
            intro n hn
            induction n with
            | zero => omega
            | succ n ih =>
              rcases Nat.lt_or_ge k n with h | h
              · rw [tiedTo_succ, ih (by omega)]; rfl
              · rw [show n = k by omega]; exact h1
          exact (h2 es.length HLT.out).symm
        go_wp2_with fail
        go_ret
        exact ⟨ret_b HF.out, HB2.out⟩
      · have HT2 : Hid (tiedTo es (k + 1) = true) := by show _ = _; rw [HTA.out, decide_eq_true (by omega)]
        go_wp2_with fail
        go_roundw
        case rel => exact ⟨k + 1, by go_num, HLT.out, HT2, HB2⟩
        case measure => simp [intOf]; omega
theorem nested_ne {es : List Ev} (h : nested es = true) : es ≠ [] := by
  intro e
  subst e
  cases h
set_option maxRecDepth 100000 in
set_option maxHeartbeats 8000000 in
theorem spec_whole (w : World) (v : Value) (es : List Ev) (hV : SlE w v es) (hl : totE es + es.length ≤ 1048576) (r : Bool) (hr : whole es = r) :
    Calls Try.prog 29 #[v] w fun e w' => e = .returned (.bool r) ∧ Below w.heap.size w w' := by
  obtain ⟨a, c, rfl⟩ := hV.sl
  have HV : Hid (SlE w (.slice a es.length c) es) := hV
  obtain ⟨nb, hnb⟩ : ∃ nb, tied es = nb := ⟨_, rfl⟩
  have cN := spec_tied w _ es hV hl nb hnb
  have HR : Hid ((nb && decide (kindAt es (es.length - 1) ≠ 10)) = r) := by show _ = _; rw [← hr]; unfold whole; rw [hnb]
  have HNB : Hid (tied es = nb) := hnb
  have hl' : (es.length : Int) ≤ 1048576 := by omega
  clear hV hl hnb hr
  go_enter Try.func29, Try.ntmps29
  go_wp2_with fail
  refine cN.mono ?_
  rintro e9 w1 ⟨rfl, hb1⟩
  have HB1 : Hid (Below w.heap.size w w1) := hb1
  clear hb1 cN
  cases nb with
  | false =>
    have HE : Hid (false = r) := HR.out
    go_wp2_with fail
    go_ret
    exact ⟨ret_b HE.out, HB1.out⟩
  | true =>
    have hne : es ≠ [] := nested_ne (by have h := HNB.out; unfold tied at h; rw [Bool.and_eq_true] at h; exact h.1)
    have hpos : 0 < es.length := List.length_pos_iff.2 hne
    obtain ⟨j, hj⟩ : ∃ j, es.length = j + 1 := ⟨es.length - 1, by omega⟩
    have hkj : (es.length : Int) - 1 = (j : Int) := by omega
    have hjl : (j : Int) < (es.length : Int) := by omega
    obtain ⟨e1, he1⟩ : ∃ e1, es[j]? = some e1 := ⟨_, List.getElem?_eq_getElem (by omega)⟩
    obtain ⟨b, off, hab, hbl, hE1⟩ := HV.out.at HB1.out he1
    subst hab
    have q0 := hE1.c0
    have hka : kindAt es (es.length - 1) = e1.kind := by unfold kindAt; rw [show es.length - 1 = j by omega, he1]
    have HE : Hid ((e1.kind != 10) = r) := by
      show _ = _
      rw [← HR.out, hka]
      by_cases h : e1.kind = 10
      · rw [h]; rfl
      · rw [decide_eq_true h, bne_iff_ne.2 h]; rfl
    clear hE1 hka he1 hj hne hpos
    by_cases h10 : e1.kind = 10
    · have t10 : (e1.kind != 10) = false := by rw [h10]; rfl
      have HF : Hid (false = r) := by show _ = _; rw [← HE.out, t10]
      clear h10
      go_wp2_with fail
      go_ret
      exact ⟨ret_b HF.out, HB1.out⟩
    · have t10 : (e1.kind != 10) = true := by rw [bne_iff_ne]; exact h10
      have HF : Hid (true = r) := by show _ = _; rw [← HE.out, t10]
      clear h10
      go_wp2_with fail
      go_ret
      exact ⟨ret_b HF.out, HB1.out⟩
end Go.Proofs.Ytepodbjdicnjoaa
