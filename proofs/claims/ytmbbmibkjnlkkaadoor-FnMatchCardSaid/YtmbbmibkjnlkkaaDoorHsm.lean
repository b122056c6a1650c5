/- The specification's l17Match. -/
import Derived.Test.YtmbbmibkjnlkkaaDoorHsk
import Derived.Test.YtmbbmibkjnlkkaaDoorBwr
namespace Go.Proofs.YtmbbmibkjnlkkaaDoor
open Go.ChangeShapes Go.WideShapes Go.ChangeAt Go.RowKit
/-- The list behind its first element. -/
theorem SgL.tail {w : World} {b off c : Nat} {s : Sg} {t : List Sg} (h : SgL w (.slice (some ⟨b, off, none⟩) (s :: t).length c) (s :: t)) (x : Option Addr) (hx : t ≠ [] → x = some ⟨b, off + 3, none⟩) : SgL w (.slice x t.length (c - 1)) t := by
  by_cases h0 : t = []
  · subst h0
    exact .inl ⟨rfl, _, _, rfl⟩
  · right
    rcases h with ⟨e, _⟩ | ⟨_, b2, off2, c2, e, hlt, hc, hh⟩
    · cases e
    · injection e with e1 e2 e3
      injection e1 with e1
      injection e1 with e1 e4
      subst e1 e3 e4
      have hl : (s :: t).length = t.length + 1 := rfl
      refine ⟨h0, b, off + 3, c - 1, by rw [hx h0], hlt, by omega, fun i e hi j u hu => ?_⟩
      have := hh (i + 1) e (by simpa using hi) j u hu
      rw [show off + (i + 1) * 3 + j = off + 3 + i * 3 + j by omega] at this
      exact this
theorem SgL.tail1 {w : World} {b off c : Nat} {s : Sg} {t : List Sg} (h : SgL w (.slice (some ⟨b, off, none⟩) (s :: t).length c) (s :: t)) : SgL w (.slice (some ⟨b, off + 3, none⟩) t.length (c - 1)) t := h.tail _ (fun _ => rfl)
theorem SgL.tail0 {w : World} {b off c : Nat} {s : Sg} {t : List Sg} (h : SgL w (.slice (some ⟨b, off, none⟩) (s :: t).length c) (s :: t)) (hc : c - 1 = 0) : SgL w (.slice (some ⟨b, off, none⟩) t.length 0) t := by
  have hz : t = [] := by
    rcases h with ⟨e, _⟩ | ⟨_, b2, off2, c2, e, hlt, hc2, hh⟩
    · cases e
    · injection e with e1 e2 e3
      subst e3
      rw [List.length_cons] at hc2
      exact List.eq_nil_of_length_eq_zero (by omega)
  subst hz
  exact .inl ⟨rfl, _, _, rfl⟩
theorem SgL.first {w : World} {a : Option Addr} {c : Nat} {s : Sg} {t : List Sg} (h : SgL w (.slice a (s :: t).length c) (s :: t)) : ∃ b off, a = some ⟨b, off, none⟩ ∧ t.length + 1 ≤ c ∧ SgAt w b off s := by
  rcases h with ⟨e, _⟩ | ⟨_, b, off, c2, e, hlt, hc, hh⟩
  · cases e
  · injection e with e1 e2 e3
    subst e3
    have hz : ∀ j u, s.row[j]? = some u → w.cell? ⟨b, off + j, none⟩ = some u := fun j u hu => by
      have := hh 0 s rfl j u hu
      rw [show off + 0 * 3 + j = off + j by omega] at this
      exact this
    exact ⟨b, off, e1, hc, ⟨hz 0 _ rfl, hz 1 _ rfl, hz 2 _ rfl⟩⟩
def MtC (f : Nat) : Prop := ∀ (p l : List Sg) (pv lv : Value) (w : World), p.length + l.length < f → SgL w pv p → SgL w lv l →
  Calls Tryd.prog 40 #[pv, lv] w fun e w' => e = .returned (.bool (matchP p l)) ∧ Below w.heap.size w w'
/-- An empty pattern. -/
theorem match_empty_any (l : List Sg) (pv lv : Value) (w : World) (hP : SgL w pv []) (hL : SgL w lv l) :
    Calls Tryd.prog 40 #[pv, lv] w fun e w' => e = .returned (.bool (matchP [] l)) ∧ Below w.heap.size w w' := by
  obtain ⟨pa, pc, rfl⟩ := hP.sl
  obtain ⟨la, lc, rfl⟩ := hL.sl
  clear hP hL
  have hz : (((l.length : Int)) == 0) = (matchP [] l) := by
    cases l with
    | nil => rfl
    | cons x t =>
      show _ = false
      rw [beq_eq_false_iff_ne, List.length_cons]
      omega
  have HE : Hid (((l.length : Int) == 0) = matchP [] l) := hz
  clear hz
  simp only [List.length_nil]
  go_enter Tryd.func40, Tryd.ntmps40
  go_wp2_with fail
  go_ret
  exact ⟨ret_bP HE.out, Below.refl _ _⟩
set_option maxHeartbeats 8000000 in
set_option maxRecDepth 100000 in
theorem match_deep_any (f : Nat) (IH : MtC f) (s : Sg) (p l : List Sg) (pv lv : Value) (w : World) (hf : (s :: p).length + l.length < f + 1) (hP : SgL w pv (s :: p)) (hL : SgL w lv l) (h5 : s.kind = 5) :
    Calls Tryd.prog 40 #[pv, lv] w fun e w' => e = .returned (.bool (matchP (s :: p) l)) ∧ Below w.heap.size w w' := by
  obtain ⟨pa, pc, rfl⟩ := hP.sl
  obtain ⟨la, lc, rfl⟩ := hL.sl
  obtain ⟨b, off, rfl, hc, ⟨c0, c1, c2⟩⟩ := hP.first
  have t5 : (s.kind == 5) = true := by rw [h5]; rfl
  rw [h5] at c0
  have hpl : (s :: p).length = p.length + 1 := rfl
  rw [hpl] at hf ⊢
  have HP : Hid (SgL w (.slice (some ⟨b, off, none⟩) (s :: p).length pc) (s :: p)) := hP
  have hp0 : ¬ ((p.length : Int) + 1 = 0) := by omega
  have D1 := hP.tail1
  have D0 := fun h => hP.tail0 h
  have C0 : ∀ v, SgL w v p → Calls Tryd.prog 40 #[v, .slice la l.length lc] w fun e w' => e = .returned (.bool (matchP p l)) ∧ Below w.heap.size w w' := fun v hv => IH p l v _ w (by omega) hv hL
  have HC : Hid (∀ v, SgL w v p → Calls Tryd.prog 40 #[v, .slice la l.length lc] w fun e w' => e = .returned (.bool (matchP p l)) ∧ Below w.heap.size w w') := C0
  clear hpl c1 c2 t5 C0
  cases hm : matchP p l with
  | true =>
    rw [hm] at HC
    have C1 := HC.out _ D1
    have C0 := fun h => HC.out _ (D0 h)
    clear HC D1 D0
    have HE : Hid (matchP (s :: p) l = true) := by
      cases l with
      | nil => rw [Hid, match_deep0 h5, hm]
      | cons x t => rw [Hid, match_deep1 h5, hm]; rfl
    clear hL IH hm hf hP h5
    go_enter Tryd.func40, Tryd.ntmps40
    go_wp2_with (go_at_call 40; first | (with_reducible refine C1.mono ?_; rintro e w1 ⟨rfl, hb1⟩) | (with_reducible refine (C0 (by omega)).mono ?_; rintro e w1 ⟨rfl, hb1⟩))
    all_goals (
      go_ret
      exact ⟨ret_bP HE.out.symm, hb1⟩)
  | false =>
    rw [hm] at HC
    cases l with
    | nil =>
      have HE : Hid (matchP (s :: p) [] = false) := by rw [Hid, match_deep0 h5, hm]
      have C1 := HC.out _ D1
      have C0 := fun h => HC.out _ (D0 h)
      clear HC D1 D0
      clear hL IH hm hf hP h5
      simp only [List.length_nil] at C0 C1 ⊢
      go_enter Tryd.func40, Tryd.ntmps40
      go_wp2_with (go_at_call 40; first | (with_reducible refine C1.mono ?_; rintro e w1 ⟨rfl, hb1⟩) | (with_reducible refine (C0 (by omega)).mono ?_; rintro e w1 ⟨rfl, hb1⟩))
      all_goals (
        go_ret
        exact ⟨ret_bP HE.out.symm, hb1⟩)
    | cons x t =>
      obtain ⟨lb, lo, rfl, hlc, _⟩ := hL.first
      have HL : Hid (SgL w (.slice (some ⟨lb, lo, none⟩) (x :: t).length lc) (x :: t)) := hL
      have HE : Hid (matchP (s :: p) (x :: t) = matchP (s :: p) t) := by rw [Hid, match_deep1 h5, hm]; rfl
      have hl0 : (0 : Int) < (t.length : Int) + 1 := by omega
      have hll : (x :: t).length = t.length + 1 := rfl
      rw [hll] at HC hf ⊢
      have C1 := HC.out _ D1
      have C0 := fun h => HC.out _ (D0 h)
      have E1 := HL.out.tail1
      have E0 := fun h => HL.out.tail0 h
      have CC : ∀ v w1, Below w.heap.size w w1 → SgL w v t → Calls Tryd.prog 40 #[.slice (some ⟨b, off, none⟩) (p.length + 1) pc, v] w1 fun e w' => e = .returned (.bool (matchP (s :: p) t)) ∧ Below w1.heap.size w1 w' := fun v w1 hb hv => IH (s :: p) t _ v w1 (by rw [List.length_cons]; omega) (HP.out.stays hb) (hv.stays hb)
      have C2 := fun w1 (hb : Below w.heap.size w w1) => CC _ w1 hb E1
      have C3 := fun w1 (hb : Below w.heap.size w w1) h => CC _ w1 hb (E0 h)
      clear CC E1 E0 HC D1 D0
      clear hL IH hm hf hP h5 hll
      rcases Decidable.em (pc = 1) with rfl | hpc
      · obtain rfl : p = [] := List.eq_nil_of_length_eq_zero (by omega)
        have C0 := C0 rfl
        simp only [List.length_nil, Nat.zero_add] at C0 C1 C2 C3 hp0 hc ⊢
        clear hp0
        go_enter Tryd.func40, Tryd.ntmps40
        go_wp2_with (go_at_call 40; first
          | (with_reducible refine C0.mono ?_; rintro e w1 ⟨rfl, hb1⟩)
          | (with_reducible refine (C2 _ hb1).mono ?_; rintro e w2 ⟨rfl, hb2⟩)
          | (with_reducible refine (C3 _ hb1 (by omega)).mono ?_; rintro e w2 ⟨rfl, hb2⟩))
        all_goals (
          go_ret
          exact ⟨ret_bP HE.out.symm, hb1.trans (hb2.mono hb1.size)⟩)
      all_goals go_enter Tryd.func40, Tryd.ntmps40
      all_goals go_wp2_with (go_at_call 40; first
        | (with_reducible refine C1.mono ?_; rintro e w1 ⟨rfl, hb1⟩)
        | (with_reducible refine (C0 (by omega)).mono ?_; rintro e w1 ⟨rfl, hb1⟩)
        | (with_reducible refine (C2 _ hb1).mono ?_; rintro e w2 ⟨rfl, hb2⟩)
        | (with_reducible refine (C3 _ hb1 (by omega)).mono ?_; rintro e w2 ⟨rfl, hb2⟩))
      all_goals (
        go_ret
        exact ⟨ret_bP HE.out.symm, hb1.trans (hb2.mono hb1.size)⟩)
end Go.Proofs.YtmbbmibkjnlkkaaDoor
