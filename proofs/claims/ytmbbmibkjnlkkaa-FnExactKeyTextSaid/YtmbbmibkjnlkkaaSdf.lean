/- The specification's nodes within events: the node of an alias. -/
import Derived.Test.YtmbbmibkjnlkkaaSne
import Derived.BigQuiet
import Derived.Deep.DeepCutAuto
import Derived.Test.YtmbbmibkjnlkkaaBwr
namespace Go.Proofs.Ytmbbmibkjnlkkaa
open Go.ChangeShapes Go.WideShapes Go.ChangeAt Go.RowKit
theorem ba_of_list {a b : ByteArray} (h : a.toList = b.toList) : a = b := by
  rw [ByteArray.toList_eq, ByteArray.toList_eq] at h
  have : a.data = b.data := by apply Array.ext'; exact h
  cases a; cases b; simp at this; rw [this]
set_option maxRecDepth 100000 in
set_option maxHeartbeats 8000000 in
theorem def_any (w : World) (v : Value) (es : List Ev) (hV : SlE w v es) (hl : es.length ≤ 1048576) (i : Nat) (hi : i < es.length) (r : Int) (hr : defN es i = r) :
    Calls Try.prog 30 #[v, .int .i64 (i : Int)] w fun e w' => e = .returned (.int .i64 r) ∧ Below w.heap.size w w' := by
  obtain ⟨a, c, rfl⟩ := hV.sl
  have HV : Hid (SlE w (.slice a es.length c) es) := hV
  obtain ⟨e0, he0⟩ : ∃ e0, es[i]? = some e0 := ⟨_, List.getElem?_eq_getElem hi⟩
  obtain ⟨b, off, rfl, hbl, hE0⟩ := hV.at (Below.refl _ w) he0
  have HBL : Hid (b < w.heap.size) := hbl
  have HT0 : Hid (w.cell? ⟨b, off + i * 8 + 3, none⟩ = some (.string e0.text)) := hE0.c3
  have HE0 : Hid (es[i]? = some e0) := he0
  obtain ⟨x, hx⟩ : ∃ x, e0.text = x := ⟨_, rfl⟩
  have HX : Hid (e0.text = x) := hx
  have HO : Hid (defG es i x i = r) := by show _ = _; rw [← hr]; unfold defN; rw [he0]; show _ = defG es i e0.text i; rw [hx]
  have hi' : (i : Int) < (es.length : Int) := by omega
  have hl' : (es.length : Int) ≤ 1048576 := by omega
  have HI : Hid (i < es.length ∧ es.length ≤ 1048576) := ⟨hi, hl⟩
  have HTX : Hid (w.cell? ⟨b, off + i * 8 + 3, none⟩ = some (.string x)) := by show _ = _; rw [← HX.out]; exact HT0.out
  clear hV hbl he0 hr hi hx hE0 HT0 HE0 HX
  go_enter Try.func30, Try.ntmps30
  go_wp2_with fail
  go_loopw [5] (fun kv wr => ∃ (k : Nat), kv = .int .i64 ((k : Int) - 1) ∧ k ≤ i ∧ Hid (defG es i x k = r) ∧ Hid (Below w.heap.size w wr)) (fun kv _ => (intOf kv + 1).toNat)
  case atStart => exact ⟨i, rfl, Nat.le_refl _, HO, Below.refl _ _⟩
  case round =>
    obtain ⟨k1, rfl, hk, HG, HB⟩ := hrel
    clear HO
    cases k1 with
    | zero =>
      have HE : Hid ((-1 : Int) = r) := HG.out
      have hlt' : ¬ ((0 : Nat) : Int) - 1 ≥ 0 := by omega
      go_wp2_with fail
      go_ret
      exact ⟨ret_i HE.out, HB.out⟩
    | succ k =>
      have hkk : ((k + 1 : Nat) : Int) - 1 = (k : Int) := by omega
      rw [hkk]
      have hk0 : (k : Int) ≥ 0 := by omega
      have hlt : k < es.length := by have := HI.out; omega
      have hlt' : (k : Int) < (es.length : Int) := by omega
      obtain ⟨e, he⟩ : ∃ e, es[k]? = some e := ⟨_, List.getElem?_eq_getElem hlt⟩
      have HEK : Hid (es[k]? = some e) := he
      obtain ⟨b2, off2, e2, _, hE⟩ := HV.out.at HB.out he
      injection e2 with e2
      injection e2 with e2 e3 _
      subst e2
      subst e3
      have hg := HG.out
      rw [defG, he] at hg
      have HG2 : Hid ((if e.kind = 2 then -1 else if namE e x = true then (if endN es k < 0 ∨ (i : Int) < endN es k then -1 else (k : Int)) else defG es i x k) = r) := hg
      have HK : Hid (k + 1 ≤ i) := hk
      obtain ⟨d0, d1, d2, d3, d4, d5, d6, d7⟩ := hE
      clear hg he hkk hk
      by_cases h2 : e.kind = 2
      · have tk : (e.kind != 2) = false := by rw [h2]; rfl
        have HE : Hid ((-1 : Int) = r) := by show _ = _; rw [← HG2.out, if_pos h2]
        clear h2
        go_wp2_with fail
        go_ret
        exact ⟨ret_i HE.out, HB.out⟩
      have tk : (e.kind != 2) = true := by rw [bne_iff_ne]; exact h2
      have HG3 : Hid ((if namE e x = true then (if endN es k < 0 ∨ (i : Int) < endN es k then -1 else (k : Int)) else defG es i x k) = r) := by show _ = _; rw [← HG2.out, if_neg h2]
      obtain ⟨nb, hnb⟩ : ∃ nb, nodE e = nb := ⟨_, rfl⟩
      have HNB : Hid (nodE e = nb) := hnb
      have cN : Hid (∀ w', Calls Try.prog 43 #[.agg #[.int .i64 e.kind, .int .i64 e.style, .bool e.flag, .string e.text, .string e.anchor, .string e.tag, .int .i64 e.at_, .int .i64 e.code]] w' fun e' w'' => e' = .returned (.bool nb) ∧ Below w'.heap.size w' w'') := fun w' => node_any e w' nb hnb
      clear h2 hnb HG2
      have HBR : Hid (b < wr.heap.size) := Nat.lt_of_lt_of_le HBL.out HB.out.size
      have x3 : wr.cell? ⟨b, off + i * 8 + 3, none⟩ = some (.string x) := (HB.out.cell (p := ⟨b, off + i * 8 + 3, none⟩) HBL.out).trans HTX.out
      have hcl : ∀ (m : Bw wr) j, m.val.cell? ⟨b, j, none⟩ = wr.cell? ⟨b, j, none⟩ := fun m j => m.ok.cell (p := ⟨b, j, none⟩) HBR.out
      have m0 := fun m => (hcl m _).trans d0
      have m1 := fun m => (hcl m _).trans d1
      have m2 := fun m => (hcl m _).trans d2
      have m3 := fun m => (hcl m _).trans d3
      have m4 := fun m => (hcl m _).trans d4
      have m5 := fun m => (hcl m _).trans d5
      have m6 := fun m => (hcl m _).trans d6
      have m7 := fun m => (hcl m _).trans d7
      have mx3 := fun m => (hcl m _).trans x3
      have hNc := Bw.calls (w := wr) (fun w' _ => cN.out w')
      have hne0 := Bw.some wr
      clear hcl d1 d2 d3 d4 d5 d6 d7 x3
      cases nb with
      | false =>
        have HE : Hid (defG es i x k = r) := by show _ = _; rw [← HG3.out, if_neg (by unfold namE; rw [HNB.out]; simp)]
        go_upto_region 4 with fail
        clear d0
        refine wp_region_bw (w0 := wr) (by kernel_rfl) (by kernel_rfl) (Below.refl _ _) ?_
        repeat (go_big_quiet_step ((go_at_call 43; exact hNc _)))
        refine wpQuiet_nil ?_
        rintro _ ⟨mw, rfl⟩
        all_goals (
          have HB2 : Hid (Below w.heap.size w mw.val) := HB.out.trans (mw.ok.mono HB.out.size)
          generalize mw.val = w2 at *
          clear m0 m1 m2 m3 m4 m5 m6 m7 mx3 hNc hne0
          go_wp2_with fail
          go_roundw
          case rel => exact ⟨k, rfl, by have := HK.out; omega, HE, HB2⟩
          case measure => simp [intOf])
      | true =>
        by_cases hno : e.anchor.toList = []
        · have HE : Hid (defG es i x k = r) := by show _ = _; rw [← HG3.out, if_neg (by unfold namE; rw [show noB e.anchor = true by unfold noB; rw [hno]; rfl]; simp)]
          go_upto_region 4 with fail
          clear d0
          refine wp_region_bw (w0 := wr) (by kernel_rfl) (by kernel_rfl) (Below.refl _ _) ?_
          repeat (go_big_quiet_step ((go_at_call 43; exact hNc _)))
          refine wpQuiet_nil ?_
          rintro _ ⟨mw, rfl⟩
          all_goals (
            have HB2 : Hid (Below w.heap.size w mw.val) := HB.out.trans (mw.ok.mono HB.out.size)
            generalize mw.val = w2 at *
            clear m0 m1 m2 m3 m4 m5 m6 m7 mx3 hNc hne0
            go_wp2_with fail
            go_roundw
            case rel => exact ⟨k, rfl, by have := HK.out; omega, HE, HB2⟩
            case measure => simp [intOf])
        · have hie : e.anchor.toList.isEmpty = false := by cases hh : e.anchor.toList with | nil => exact absurd hh hno | cons _ _ => rfl
          by_cases hxe : e.anchor = x
          · have HNM : Hid (namE e x = true) := by show _ = _; unfold namE; rw [HNB.out, decide_eq_true hxe, show noB e.anchor = false by unfold noB; rw [beq_eq_false_iff_ne]; exact hno]; rfl
            obtain ⟨y, hy⟩ : ∃ y, endN es k = y := ⟨_, rfl⟩
            have HE : Hid ((if y < 0 ∨ (i : Int) < y then -1 else (k : Int)) = r) := by show _ = _; rw [← HG3.out, if_pos HNM.out, hy]
            have cE : Hid (∀ w', Below w.heap.size w w' → Calls Try.prog 36 #[.slice (some ⟨b, off, none⟩) es.length c, .int .i64 (k : Int)] w' fun e w'' => e = .returned (.int .i64 y) ∧ Below w'.heap.size w' w'') := fun w' hb => end_any w' _ es (HV.out.stays hb) HI.out.2 k hlt y hy
            have hyl : y ≤ 1048576 := by rcases endN_le es k (Nat.le_of_lt hlt) with h | h <;> rw [hy] at h <;> have := HI.out.2 <;> omega
            have hyg : -1 ≤ y := by rcases endN_le es k (Nat.le_of_lt hlt) with h | h <;> rw [hy] at h <;> omega
            clear hy
            have HXE : Hid (e.anchor = x) := hxe
            have teq : (e.anchor.toList == x.toList) = true := by rw [hxe]; simp
            clear hxe
            go_upto_region 4 with fail
            clear d0
            refine wp_region_bw (w0 := wr) (by kernel_rfl) (by kernel_rfl) (Below.refl _ _) ?_
            repeat (go_big_quiet_step ((go_at_call 43; exact hNc _)))
            refine wpQuiet_nil ?_
            rintro _ ⟨mw, rfl⟩
            all_goals (
              have HB2 : Hid (Below w.heap.size w mw.val) := HB.out.trans (mw.ok.mono HB.out.size)
              generalize mw.val = w2 at *
              clear m0 m1 m2 m3 m4 m5 m6 m7 mx3 hNc hne0
              go_wp2_with fail
              refine (cE.out w2 HB2.out).mono ?_
              rintro e9 w3 ⟨rfl, hb3⟩
              have HB3 : Hid (Below w.heap.size w w3) := HB2.out.trans (hb3.mono HB2.out.size)
              clear hb3
              by_cases hy0 : y < 0
              · have HF : Hid ((-1 : Int) = r) := by show _ = _; rw [← HE.out, if_pos (.inl hy0)]
                go_wp2_with fail
                go_ret
                exact ⟨ret_i HF.out, HB3.out⟩
              · by_cases hyi : (i : Int) < y
                · have HF : Hid ((-1 : Int) = r) := by show _ = _; rw [← HE.out, if_pos (.inr hyi)]
                  have hyi' : y > (i : Int) := hyi
                  go_wp2_with fail
                  go_ret
                  exact ⟨ret_i HF.out, HB3.out⟩
                · have HF : Hid ((k : Int) = r) := by show _ = _; rw [← HE.out, if_neg (by omega)]
                  have hyi' : ¬ y > (i : Int) := hyi
                  go_wp2_with fail
                  go_ret
                  exact ⟨ret_i HF.out, HB3.out⟩)
          · have HE : Hid (defG es i x k = r) := by show _ = _; rw [← HG3.out, if_neg (by unfold namE; rw [decide_eq_false hxe]; simp)]
            have hne : (e.anchor.toList == x.toList) = false := by rw [beq_eq_false_iff_ne]; intro h; exact hxe (ba_of_list h)
            clear hxe
            go_upto_region 4 with fail
            clear d0
            refine wp_region_bw (w0 := wr) (by kernel_rfl) (by kernel_rfl) (Below.refl _ _) ?_
            repeat (go_big_quiet_step ((go_at_call 43; exact hNc _)))
            refine wpQuiet_nil ?_
            rintro _ ⟨mw, rfl⟩
            all_goals (
              have HB2 : Hid (Below w.heap.size w mw.val) := HB.out.trans (mw.ok.mono HB.out.size)
              generalize mw.val = w2 at *
              clear m0 m1 m2 m3 m4 m5 m6 m7 mx3 hNc hne0
              go_wp2_with fail
              go_roundw
              case rel => exact ⟨k, rfl, by have := HK.out; omega, HE, HB2⟩
              case measure => simp [intOf])
end Go.Proofs.Ytmbbmibkjnlkkaa
