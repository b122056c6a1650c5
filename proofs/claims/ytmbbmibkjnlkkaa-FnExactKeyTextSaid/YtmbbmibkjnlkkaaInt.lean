/- The contract of impl.Nested. -/
import Derived.Test.YtmbbmibkjnlkkaaIev
import Derived.Test.YtmbbmibkjnlkkaaIwt
import Derived.Test.YtmbbmibkjnlkkaaLnt
namespace Go.Proofs.Ytmbbmibkjnlkkaa
open Go.ChangeShapes Go.WideShapes Go.ChangeAt Go.RowKit
/-- Between two rounds: where the walk is, and what is still to be answered. -/
def InN (b : Nat) (w : World) (o : Bool) (k : Nat) (rest : List Ev) (wr : World) : Prop :=
  ∃ c ar, Wk b c ar wr ∧ Below w.heap.size w wr ∧ ar.length ≤ k ∧ ((c = 7 ∧ rest.isEmpty = o) ∨ ∃ f d s, Rel f d s c ar ∧ nst f d s rest = o)
theorem tk_len {c : Int} {ar : List Int} {k : Int} {p : Int × List Int} (h : tk c ar k = some p) : p.2.length ≤ ar.length + 1 := by
  unfold tk at h
  repeat' split at h
  all_goals first | (cases h; done) | (injection h with h; subst h; simp; done) | (injection h with h; subst h; simp; omega) | (obtain ⟨d, _, rfl⟩ := Option.map_eq_some_iff.1 h; simp)
theorem inN_step {c : Int} {ar : List Int} {o : Bool} {e : Ev} {t : List Ev} (h : (c = 7 ∧ (e :: t).isEmpty = o) ∨ ∃ f d s, Rel f d s c ar ∧ nst f d s (e :: t) = o) :
    (evOk e = false → o = false) ∧ (evOk e = true → match tk c ar e.kind with
      | none => o = false
      | some p => (p.1 = 7 ∧ t.isEmpty = o) ∨ ∃ f d s, Rel f d s p.1 p.2 ∧ nst f d s t = o) ∧ (c = 4 ∨ c = 5 → ∃ x t, ar = x :: t) := by
  rcases h with ⟨rfl, h⟩ | ⟨f, d, s, hR, h⟩
  · refine ⟨fun _ => h.symm, fun hok => ?_, fun h => by omega⟩
    obtain ⟨k1, k2⟩ := evOk_kind hok
    rw [tk_end ar e.kind k1 k2]
    exact h.symm
  · refine ⟨fun hb => (nst_bad h hb).symm, fun hok => ?_, hR.some⟩
    have hs := step_walk hR e t hok
    cases ht : tk c ar e.kind with
    | none =>
      rw [ht] at hs
      exact h.symm.trans hs
    | some p =>
      rw [ht] at hs
      rcases hs with ⟨h7, h2⟩ | ⟨f', d', s', hR', h2⟩
      · exact .inl ⟨h7, h2.symm.trans h⟩
      · exact .inr ⟨f', d', s', hR', h2.symm.trans h⟩
set_option maxHeartbeats 8000000 in
theorem implNe : ImplNe := by
  intro w v es hV hl hf
  obtain ⟨o, ho⟩ : ∃ o, nested es = o := ⟨_, rfl⟩
  rw [ho]
  obtain ⟨a, c, rfl⟩ := hV.sl
  have HV : Hid (SlE w (.slice a es.length c) es) := hV
  have HT : Hid (totE es + es.length ≤ 1048576) := hl
  have hlen : es.length ≤ 1048576 := by omega
  have HI0 : Hid (InN w.heap.size w o 0 (es.drop 0) (w.alloc (.cells #[.int .i64 0, .slice none 0 0] 95))) := by
    refine ⟨0, [], ⟨none, 0, 0, heap_alloc_new w _, ⟨rfl, .inl ⟨rfl, rfl⟩⟩⟩, (Below.refl _ w).alloc (Nat.le_refl _) _, Nat.le_refl _, .inr ⟨_, _, _, Rel.at0, ?_⟩⟩
    exact ho
  clear hV hl hf ho
  go_enter Try.func44, Try.ntmps44
  go_wp2_with fail
  go_loopw [8] (fun kv wr => ∃ k : Nat, kv = .int .i64 (k : Int) ∧ k ≤ es.length ∧ Hid (InN w.heap.size w o k (es.drop k) wr)) (fun kv _ => es.length - (intOf kv).toNat)
  case atStart => exact ⟨0, rfl, Nat.zero_le _, HI0⟩
  case round =>
    clear HI0
    obtain ⟨k, rfl, hk, HIN⟩ := hrel
    obtain ⟨pc, ar, hW, hB, hal, hst⟩ := HIN.out
    clear HIN
    by_cases hlt : k < es.length
    · obtain ⟨e, hx⟩ : ∃ e, es[k]? = some e := ⟨_, List.getElem?_eq_getElem hlt⟩
      have hdr : es.drop k = e :: es.drop (k + 1) := by
        obtain ⟨h1, h2⟩ := List.getElem?_eq_some_iff.1 hx
        rw [List.drop_eq_getElem_cons h1, h2]
      rw [hdr] at hst
      obtain ⟨bb, off, rfl, _, ⟨c0, c1, c2, c3, c4, c5, c6, c7⟩⟩ := HV.out.at hB hx
      have htm := totE_mem (List.mem_of_getElem? hx)
      obtain ⟨HS1, HS2, HS3⟩ := inN_step hst
      have cO : Hid (∀ w, Calls Try.prog 51 #[.agg e.row] w fun r w' => r = .returned (.bool (evOk e)) ∧ Below w.heap.size w w') := fun w => by
        have h3 := HT.out
        unfold Ev.tot at htm
        exact eventOk_any e w ⟨by unfold mx; omega, by unfold mx; omega, by unfold mx; omega⟩
      have HK : Hid (evOk e = true → 1 ≤ e.kind ∧ e.kind ≤ 10) := fun h => evOk_kind h
      have HTK : Hid (∀ w, Wk w.heap.size pc ar w → True) := fun _ _ => trivial
      have hlt' : (k : Int) < (es.length : Int) := by omega
      have HH : Hid (Wk w.heap.size pc ar wr) := hW
      have HB : Hid (Below w.heap.size w wr) := hB
      have HAL : Hid (ar.length ≤ k) := hal
      clear hx htm hst hW hB hal HTK
      cases hok : evOk e with
      | false =>
        have HO : Hid (o = false) := HS1 hok
        rw [hok] at cO
        clear HS1 HS2 HS3 HK hdr hok
        obtain ⟨kind, style, flag, text, anchor, tag, at_, code⟩ := e
        unfold Ev.row at cO
        simp only at c0 c1 c2 c3 c4 c5 c6 c7
        have HA1 : Hid (Below wr.heap.size wr (wr.alloc (.cells #[.int .i64 kind, .int .i64 style, .bool flag, .string text, .string anchor, .string tag, .int .i64 at_, .int .i64 code] 38))) := (Below.refl _ wr).alloc (Nat.le_refl _) _
        go_wp2_with fail
        refine (cO.out _).mono ?_
        rintro r w1 ⟨rfl, hb1⟩
        clear cO c0 c1 c2 c3 c4 c5 c6 c7
        have HB1 : Hid (Below w.heap.size w w1) := HB.out.trans ((HA1.out.trans (hb1.mono HA1.out.size)).mono HB.out.size)
        clear hb1
        go_wp2_with fail
        go_ret
        exact ⟨ret_bool HO.out.symm, HB1.out⟩
      | true =>
        have HS : Hid (match tk pc ar e.kind with
          | none => o = false
          | some p => (p.1 = 7 ∧ (es.drop (k + 1)).isEmpty = o) ∨ ∃ f d s, Rel f d s p.1 p.2 ∧ nst f d s (es.drop (k + 1)) = o) := HS2 hok
        have cT : Hid (∀ w', Wk w.heap.size pc ar w' → Calls Try.prog 52 #[.pointer (some ⟨w.heap.size, 0, none⟩), .agg e.row] w' (TakeQ w.heap.size w' (tk pc ar e.kind))) := fun w' h => take_any _ pc ar e w' h (HK.out hok).1 (HK.out hok).2 HS3 (by have := HAL.out; omega)
        have HLN : Hid (∀ p, tk pc ar e.kind = some p → p.2.length ≤ k + 1) := fun p h => Nat.le_trans (tk_len h) (Nat.succ_le_succ HAL.out)
        rw [hok] at cO
        clear HS1 HS2 HS3 HK hdr hok
        generalize tk pc ar e.kind = tko at HS cT HLN
        obtain ⟨kind, style, flag, text, anchor, tag, at_, code⟩ := e
        unfold Ev.row at cO cT
        simp only at c0 c1 c2 c3 c4 c5 c6 c7
        have HA1 : Hid (Below wr.heap.size wr (wr.alloc (.cells #[.int .i64 kind, .int .i64 style, .bool flag, .string text, .string anchor, .string tag, .int .i64 at_, .int .i64 code] 38))) := (Below.refl _ wr).alloc (Nat.le_refl _) _
        have HNEW : Hid ((wr.alloc (.cells #[.int .i64 kind, .int .i64 style, .bool flag, .string text, .string anchor, .string tag, .int .i64 at_, .int .i64 code] 38)).heap[wr.heap.size]? = some (.cells #[.int .i64 kind, .int .i64 style, .bool flag, .string text, .string anchor, .string tag, .int .i64 at_, .int .i64 code] 38 (0, 0))) := heap_alloc_new wr _
        go_wp2_with fail
        refine (cO.out _).mono ?_
        rintro r w1 ⟨rfl, hb1⟩
        clear cO c0 c1 c2 c3 c4 c5 c6 c7
        have hB1 : Below wr.heap.size wr w1 := HA1.out.trans (hb1.mono HA1.out.size)
        have HB1 : Hid (Below w.heap.size w w1) := HB.out.trans (hB1.mono HB.out.size)
        have HC := cT.out w1 (HH.out.stays hB1)
        obtain ⟨q0, q1, q2, q3, q4, q5, q6, q7⟩ := ev_at ((hb1.block wr.heap.size (show wr.heap.size < (wr.heap.push _).size by simp)).trans HNEW.out)
        clear hb1 hB1 cT HNEW HA1 HH
        cases tko with
        | none =>
          have HO : Hid (o = false) := HS.out
          clear HS HLN
          go_wp2_with fail
          refine HC.mono ?_
          rintro r w2 ⟨hb2, rfl⟩
          clear HC q0 q1 q2 q3 q4 q5 q6 q7
          go_wp2_with fail
          go_ret
          exact ⟨ret_bool HO.out.symm, HB1.out.trans hb2⟩
        | some p =>
          go_wp2_with fail
          refine HC.mono ?_
          rintro r w2 ⟨hb2, rfl, hw2⟩
          clear HC q0 q1 q2 q3 q4 q5 q6 q7
          have HN : Hid (InN w.heap.size w o (k + 1) (es.drop (k + 1)) w2) := ⟨p.1, p.2, hw2, HB1.out.trans hb2, HLN.out p rfl, HS.out⟩
          clear hb2 hw2 HLN HS
          go_wp2_with fail
          go_roundw
          case rel => exact ⟨k + 1, by go_num, hlt, HN⟩
          case measure => simp [intOf]; omega
    · have hlt' : ¬ (k : Int) < (es.length : Int) := by omega
      rw [List.drop_of_length_le (by omega)] at hst
      have HO : Hid ((pc == 7) = o) := by
        show (pc == 7) = o
        rcases hst with ⟨rfl, h⟩ | ⟨f, d, s, hR, h⟩
        · exact h
        · rw [← h, beq_eq_false_iff_ne.2 hR.no7]
          rfl
      have HB : Hid (Below w.heap.size w wr) := hB
      obtain ⟨_, _, _, h1, _⟩ := hW
      have c0 := h1.c0
      clear h1 hB hst hal
      go_wp2_with fail
      go_ret
      exact ⟨ret_bool HO.out, HB.out⟩
end Go.Proofs.Ytmbbmibkjnlkkaa
