/- spec.HandleOk answers whether a handle is right; a handle that came in, how large it is, and a copy of it. -/
import Derived.Test.YtopmboioojedbaiHd
import Derived.Test.YtopmboioojedbaiSst
import Derived.Laws.Rows
namespace Go.Proofs.Ytopmboioojedbai
open Go.ChangeShapes Go.WideShapes Go.ChangeAt Go.RowKit Go.Shelf
theorem word_yes (t : ByteArray) {k : Nat} (hk : t.size ≤ k) (h : fwd pH t k = fwd pH t 0) (hk2 : k ≤ t.size) : wordB t = true := by
  unfold wordB
  rw [← h, fwd_end hk, decide_eq_true_eq]; omega
theorem word_no (t : ByteArray) {k : Nat} (hk : k < t.size) (h : fwd pH t k = fwd pH t 0) (hp : pH (bt t k) = false) : wordB t = false := by
  unfold wordB
  rw [← h, fwd_stop hp, decide_eq_false_iff_not]; omega
set_option maxHeartbeats 4000000 in
theorem spec_word (t : ByteArray) (w : World) (b : Bool) (hs : t.size ≤ mx) (hb : wordB t = b) :
    Calls Try.prog 52 #[.string t] w fun e w' => e = .returned (.bool b) ∧ w' = w := by
  have hs' := hs
  unfold mx at hs'
  have HB : Hid (wordB t = b) := hb
  clear hb
  go_enter Try.func52, Try.ntmps52
  go_wp2_with fail
  go_loop [3] (fun x => ∃ k : Nat, k ≤ t.size ∧ x = .int .i64 k ∧ Hid (fwd pH t k = fwd pH t 0)) (fun x => t.size - (intOf x).toNat)
  case atStart => exact ⟨0, Nat.zero_le _, rfl, rfl⟩
  case round =>
    obtain ⟨k, hk, rfl, HL⟩ := hrel
    by_cases hlt : k < t.size
    · have hg := bt_get t k hlt
      have hyes : pH (bt t k) = true → Hid (fwd pH t (k + 1) = fwd pH t 0) := fun h => by
        show fwd pH t (k + 1) = fwd pH t 0
        rw [← HL.out, fwd_step hlt h]
      have hno : pH (bt t k) = false → Hid (b = false) := fun h => by
        show b = false
        rw [← HB.out]; exact word_no t hlt HL.out h
      rw [← hg] at hyes hno
      clear hg
      generalize hx : (t[k]'hlt).toNat = x at *
      rcases pH_tree x with ⟨h1, h2⟩ | h1 | ⟨h1, h2⟩ | ⟨h1, h2⟩ | ⟨h1, h2⟩ | ⟨h1, h2⟩ | h1 | ⟨h1, h2⟩
      · have HE := hyes (by unfold pH; simp; omega)
        have f1 : (97 : Int) ≤ ((t[k]'hlt).toNat : Int) := by omega
        have f2 : ((t[k]'hlt).toNat : Int) ≤ 122 := by omega
        clear hyes hno h1 h2 hx
        go_wp2_with fail
        go_round
        case rel => exact ⟨k + 1, by omega, by go_num, HE⟩
        case measure => simp [intOf]; omega
      · have HE := hno (by rw [← Bool.not_eq_true]; unfold pH; simp; omega)
        have f1 : (122 : Int) < ((t[k]'hlt).toNat : Int) := by omega
        have f2 : (((t[k]'hlt).toNat : Int) != 45) = true := by rw [bne_iff_ne]; omega
        clear hyes hno h1 hx
        go_wp2_with fail
        go_ret
        exact ⟨ret_bool HE.out.symm, rfl⟩
      · have HE := hyes (by unfold pH; simp; omega)
        have f1 : (65 : Int) ≤ ((t[k]'hlt).toNat : Int) := by omega
        have f2 : ((t[k]'hlt).toNat : Int) ≤ 90 := by omega
        clear hyes hno h1 h2 hx
        go_wp2_with fail
        go_round
        case rel => exact ⟨k + 1, by omega, by go_num, HE⟩
        case measure => simp [intOf]; omega
      · have HE := hno (by rw [← Bool.not_eq_true]; unfold pH; simp; omega)
        have f1 : (90 : Int) < ((t[k]'hlt).toNat : Int) := by omega
        have f3 : ((t[k]'hlt).toNat : Int) < 97 := by omega
        have f2 : (((t[k]'hlt).toNat : Int) != 45) = true := by rw [bne_iff_ne]; omega
        clear hyes hno h1 h2 hx
        go_wp2_with fail
        go_ret
        exact ⟨ret_bool HE.out.symm, rfl⟩
      · have HE := hyes (by unfold pH; simp; omega)
        have f1 : (48 : Int) ≤ ((t[k]'hlt).toNat : Int) := by omega
        have f2 : ((t[k]'hlt).toNat : Int) ≤ 57 := by omega
        clear hyes hno h1 h2 hx
        go_wp2_with fail
        go_round
        case rel => exact ⟨k + 1, by omega, by go_num, HE⟩
        case measure => simp [intOf]; omega
      · have HE := hno (by rw [← Bool.not_eq_true]; unfold pH; simp; omega)
        have f1 : (57 : Int) < ((t[k]'hlt).toNat : Int) := by omega
        have f3 : ((t[k]'hlt).toNat : Int) < 65 := by omega
        have f2 : (((t[k]'hlt).toNat : Int) != 45) = true := by rw [bne_iff_ne]; omega
        clear hyes hno h1 h2 hx
        go_wp2_with fail
        go_ret
        exact ⟨ret_bool HE.out.symm, rfl⟩
      · have HE := hyes (by subst h1; rfl)
        have f1 : ((t[k]'hlt).toNat : Int) < 48 := by omega
        have f2 : (((t[k]'hlt).toNat : Int) != 45) = false := by rw [hx, h1]; rfl
        clear hyes hno h1 hx
        go_wp2_with fail
        go_round
        case rel => exact ⟨k + 1, by omega, by go_num, HE⟩
        case measure => simp [intOf]; omega
      · have HE := hno (by rw [← Bool.not_eq_true]; unfold pH; simp; omega)
        have f1 : ((t[k]'hlt).toNat : Int) < 48 := by omega
        have f2 : (((t[k]'hlt).toNat : Int) != 45) = true := by rw [bne_iff_ne]; omega
        clear hyes hno h1 h2 hx
        go_wp2_with fail
        go_ret
        exact ⟨ret_bool HE.out.symm, rfl⟩
    · have HE : Hid (b = true) := by show b = true; rw [← HB.out]; exact word_yes t (by omega) HL.out hk
      go_wp2_with fail
      go_ret
      exact ⟨ret_bool HE.out.symm, rfl⟩
set_option maxHeartbeats 2000000 in
theorem spec_hname (t : ByteArray) (w : World) (b : Bool) (hs : t.size ≤ mx) (hb : nmB t = b) :
    Calls Try.prog 34 #[.string t] w fun e w' => e = .returned (.bool b) ∧ w' = w := by
  have hs' := hs
  unfold mx at hs'
  by_cases e1 : t = ⟨#[33]⟩
  · subst e1
    subst hb
    go_enter Try.func34, Try.ntmps34
    go_wp2_with fail
    go_ret
    exact ⟨ret_bool (by rfl), rfl⟩
  by_cases e2 : t = ⟨#[33, 33]⟩
  · subst e2
    subst hb
    go_enter Try.func34, Try.ntmps34
    go_wp2_with fail
    go_ret
    exact ⟨ret_bool (by rfl), rfl⟩
  have n1 : (t.toList == [33]) = false := by have := toList_ne e1; rw [show (ByteArray.mk #[33]).toList = [33] from by rw [ByteArray.toList_eq]] at this; exact this
  have n2 : (t.toList == [33, 33]) = false := by have := toList_ne e2; rw [show (ByteArray.mk #[33, 33]).toList = [33, 33] from by rw [ByteArray.toList_eq]] at this; exact this
  by_cases h1 : t.size ≤ 2
  · have HB : Hid (b = false) := by show b = false; rw [← hb]; exact nm_no1 e1 e2 (by omega)
    have h1' : (t.size : Int) ≤ 2 := by omega
    clear hb e1 e2 h1
    go_enter Try.func34, Try.ntmps34
    go_wp2_with fail
    go_ret
    exact ⟨ret_bool HB.out.symm, rfl⟩
  by_cases h2 : 60 < t.size
  · have HB : Hid (b = false) := by show b = false; rw [← hb]; exact nm_no1 e1 e2 (by omega)
    have h2' : (60 : Int) < (t.size : Int) := by omega
    have h1' : (2 : Int) < (t.size : Int) := by omega
    clear hb e1 e2 h1 h2
    go_enter Try.func34, Try.ntmps34
    go_wp2_with fail
    go_ret
    exact ⟨ret_bool HB.out.symm, rfl⟩
  obtain ⟨n, hn⟩ : ∃ n, t.size = n + 1 := ⟨t.size - 1, by omega⟩
  have h0l : 0 < t.size := by omega
  have hnl : n < t.size := by omega
  have hg0 := bt_get t 0 h0l
  have hgn := bt_get t n hnl
  have h2' : (t.size : Int) ≤ 60 := by omega
  have h1' : (2 : Int) < (t.size : Int) := by omega
  have hL : (t.size : Int) - 1 = (n : Int) := by omega
  have hn2 : 2 ≤ n := by omega
  by_cases h3 : bt t 0 = 33
  · have c0 : (t[0]'h0l).toNat = 33 := by rw [hg0]; exact h3
    by_cases h4 : bt t n = 33
    · have cn : (t[n]'hnl).toNat = 33 := by rw [hgn]; exact h4
      have HB : Hid (wordB (t.extract 1 n) = b) := by
        show wordB (t.extract 1 n) = b
        have := word_mid t (by omega) (by rw [hn]; exact h4)
        rw [show t.size - 1 = n by omega] at this
        rw [← hb, this, nm_4 e1 e2 (by omega) (by omega) h3 (by rw [hn]; exact h4), show t.size - 1 = n by omega]
      have hse : (t.extract 1 n).size ≤ mx := by rw [ByteArray.size_extract]; unfold mx; omega
      clear hb e1 e2 h1 h2 h3 h4 hg0 hgn hn
      go_enter Try.func34, Try.ntmps34
      go_wp2_with fail
      refine (spec_word (t.extract 1 n) _ b hse HB.out).mono ?_
      rintro e w1 ⟨rfl, rfl⟩
      go_wp2_with fail
      go_ret
      exact ⟨ret_bool rfl, rfl⟩
    · have cn : (((t[n]'hnl).toNat : Int) == 33) = false := by rw [hgn, beq_eq_false_iff_ne]; omega
      have HB : Hid (b = false) := by show b = false; rw [← hb]; exact nm_no3 e1 e2 (by rw [hn]; exact h4)
      clear hb e1 e2 h1 h2 h3 h4 hg0 hgn hn
      go_enter Try.func34, Try.ntmps34
      go_wp2_with fail
      go_ret
      exact ⟨ret_bool HB.out.symm, rfl⟩
  · have c0 : (((t[0]'h0l).toNat : Int) == 33) = false := by rw [hg0, beq_eq_false_iff_ne]; omega
    have HB : Hid (b = false) := by show b = false; rw [← hb]; exact nm_no2 e1 e2 h3
    clear hb e1 e2 h1 h2 h3 hg0 hgn hn hnl hL hn2
    go_enter Try.func34, Try.ntmps34
    go_wp2_with fail
    go_ret
    exact ⟨ret_bool HB.out.symm, rfl⟩
theorem hd_noV {n p : ByteArray} {k : Nat} (hk : k < p.size) (h : fwd pV p k = fwd pV p 0) (hp : pV (bt p k) = false) : hdB n p = false := by
  unfold hdB allV
  rw [← h, fwd_stop hp, decide_eq_false (p := k = p.size) (by omega)]; simp
theorem hd_V {n p : ByteArray} {k : Nat} (hk : p.size ≤ k) (h : fwd pV p k = fwd pV p 0) (hk2 : k ≤ p.size) : hdB n p = (nmB n && (decide (1 ≤ p.size) && decide (p.size ≤ 60))) := by
  unfold hdB allV
  rw [← h, fwd_end hk, decide_eq_true (by omega : k = p.size)]; simp
set_option maxHeartbeats 4000000 in
theorem spec_handle (n p : ByteArray) (w : World) (b : Bool) (hn : n.size ≤ mx) (hp : p.size ≤ mx) (hb : hdB n p = b) :
    Calls Try.prog 15 #[.agg #[.string n, .string p]] w fun e w' => e = .returned (.bool b) ∧ Below w.heap.size w w' := by
  have hp' := hp
  unfold mx at hp'
  have hal : Below w.heap.size w (w.alloc (.cells #[.string n, .string p] 29)) := (Below.refl _ w).alloc (Nat.le_refl _) _
  have hh : (w.alloc (.cells #[.string n, .string p] 29)).heap[w.heap.size]? = some (.cells #[.string n, .string p] 29 (0, 0)) := by show (w.heap.push _)[w.heap.size]? = _; simp
  have c0 : (w.alloc (.cells #[.string n, .string p] 29)).cell? ⟨w.heap.size, 0, none⟩ = some (.string n) := by simp only [World.cell?, hh]; rfl
  have c1 : (w.alloc (.cells #[.string n, .string p] 29)).cell? ⟨w.heap.size, 1, none⟩ = some (.string p) := by simp only [World.cell?, hh]; rfl
  have HB : Hid (hdB n p = b) := hb
  clear hb hh
  go_enter Try.func15, Try.ntmps15
  go_wp2_with fail
  generalize w.alloc (.cells #[.string n, .string p] 29) = W at *
  go_loop [3] (fun x => ∃ k : Nat, k ≤ p.size ∧ x = .int .i64 k ∧ Hid (fwd pV p k = fwd pV p 0)) (fun x => p.size - (intOf x).toNat)
  case atStart => exact ⟨0, Nat.zero_le _, rfl, rfl⟩
  case round =>
    obtain ⟨k, hk, rfl, HL⟩ := hrel
    by_cases hlt : k < p.size
    · have hg := bt_get p k hlt
      by_cases h1 : bt p k < 33
      · have HE : Hid (b = false) := by show b = false; rw [← HB.out]; exact hd_noV hlt HL.out (by unfold pV; rw [decide_eq_false (by omega)]; rfl)
        have f1 : ((p[k]'hlt).toNat : Int) < 33 := by omega
        clear hg h1
        go_wp2_with fail
        go_ret
        exact ⟨ret_bool HE.out.symm, hal⟩
      by_cases h2 : 126 < bt p k
      · have HE : Hid (b = false) := by show b = false; rw [← HB.out]; exact hd_noV hlt HL.out (by unfold pV; rw [decide_eq_false (p := bt p k ≤ 126) (by omega)]; simp)
        have f1 : (33 : Int) ≤ ((p[k]'hlt).toNat : Int) := by omega
        have f2 : (126 : Int) < ((p[k]'hlt).toNat : Int) := by omega
        clear hg h1 h2
        go_wp2_with fail
        go_ret
        exact ⟨ret_bool HE.out.symm, hal⟩
      · have HE : Hid (fwd pV p (k + 1) = fwd pV p 0) := by
          show fwd pV p (k + 1) = fwd pV p 0
          rw [← HL.out, fwd_step hlt (by unfold pV; simp; omega)]
        have f1 : (33 : Int) ≤ ((p[k]'hlt).toNat : Int) := by omega
        have f2 : ((p[k]'hlt).toNat : Int) ≤ 126 := by omega
        clear hg h1 h2
        go_wp2_with fail
        go_round
        case rel => exact ⟨k + 1, by omega, by go_num, HE⟩
        case measure => simp [intOf]; omega
    · have HE : Hid (b = (nmB n && (decide (1 ≤ p.size) && decide (p.size ≤ 60)))) := by show b = _; rw [← HB.out]; exact hd_V (by omega) HL.out hk
      cases h0 : nmB n with
      | false =>
        have HN : Hid (nmB n = false) := h0
        have HF : Hid (b = false) := by show b = false; rw [HE.out, h0]; rfl
        clear h0
        go_wp2_with fail
        refine (spec_hname n _ false hn HN.out).mono ?_
        rintro e w1 ⟨rfl, rfl⟩
        go_wp2_with fail
        go_ret
        exact ⟨ret_bool HF.out.symm, hal⟩
      | true =>
        have HN : Hid (nmB n = true) := h0
        have HF : Hid (b = (decide (1 ≤ p.size) && decide (p.size ≤ 60))) := by show b = _; rw [HE.out, h0]; rfl
        clear h0
        by_cases h1 : 1 ≤ p.size
        · have h1' : (1 : Int) ≤ (p.size : Int) := by omega
          go_wp2_with fail
          refine (spec_hname n _ true hn HN.out).mono ?_
          rintro e w1 ⟨rfl, rfl⟩
          go_wp2_with fail
          go_ret
          exact ⟨ret_bool (by rw [HF.out, Bool.eq_iff_iff]; simp; omega), hal⟩
        · have h1' : (p.size : Int) < 1 := by omega
          go_wp2_with fail
          refine (spec_hname n _ true hn HN.out).mono ?_
          rintro e w1 ⟨rfl, rfl⟩
          go_wp2_with fail
          go_ret
          exact ⟨ret_bool (by rw [HF.out, Bool.eq_iff_iff]; simp; omega), hal⟩
/-- How large a handle is. -/
def szR (n p : ByteArray) (l : Int) : Int := if l - n.size < 0 then -1 else if l - n.size - p.size < 0 then -1 else l - n.size - p.size
theorem szH_ (n p : ByteArray) (l : Int) (w : World) (l0 : 0 ≤ l) (l1 : l ≤ 1048576) (hn : n.size ≤ 9223372036854775807) (hp : p.size ≤ 9223372036854775807) :
    Calls Try.prog 14 #[.agg #[.string n, .string p], .int .i64 l] w fun e w' => e = .returned (.int .i64 (szR n p l)) ∧ Below w.heap.size w w' := by
  have hal : Below w.heap.size w (w.alloc (.cells #[.string n, .string p] 26)) := (Below.refl _ w).alloc (Nat.le_refl _) _
  unfold szR
  by_cases h1 : l - (n.size : Int) < 0
  · rw [if_pos h1]
    go_enter Try.func14, Try.ntmps14
    go_wp2_with fail
    go_ret
    exact ⟨rfl, hal⟩
  · rw [if_neg h1]
    have h1' : 0 ≤ l - (n.size : Int) := by omega
    by_cases h2 : l - (n.size : Int) - (p.size : Int) < 0
    · rw [if_pos h2]
      clear h1
      go_enter Try.func14, Try.ntmps14
      go_wp2_with fail
      go_ret
      exact ⟨rfl, hal⟩
    · rw [if_neg h2]
      have h2' : 0 ≤ l - (n.size : Int) - (p.size : Int) := by omega
      clear h1 h2
      go_enter Try.func14, Try.ntmps14
      go_wp2_with fail
      go_ret
      exact ⟨rfl, hal⟩
theorem c2_0 {w : World} {b : Nat} {x0 x1 : Value} {t : TypeId} (h : w.heap[b]? = some (.cells #[x0, x1] t (0, 0))) : w.cell? ⟨b, 0, none⟩ = some x0 := by simp [World.cell?, h]
theorem c2_1 {w : World} {b : Nat} {x0 x1 : Value} {t : TypeId} (h : w.heap[b]? = some (.cells #[x0, x1] t (0, 0))) : w.cell? ⟨b, 1, none⟩ = some x1 := by simp [World.cell?, h]
theorem toH_ (n p : ByteArray) (w : World) :
    Calls Try.prog 16 #[.agg #[.string n, .string p]] w fun e w' => e = .returned (.agg #[.string n, .string p]) ∧ Below w.heap.size w w' := by
  go_enter Try.func16, Try.ntmps16
  go_wp2_with fail
  have hF : (((w.alloc (.cells #[.string n, .string p] 26)).alloc (.cells #[.string n, .string p] 29)).alloc (.cells #[.string n, .string p] 29)).heap[w.heap.size + 1]? = some (.cells #[.string n, .string p] 29 (0, 0)) := by
    rw [Below.heap_alloc _ _ _ (by simp)]
    show ((w.heap.push _).push _)[w.heap.size + 1]? = _
    rw [Array.getElem?_push, if_pos (by simp)]
  have hB : Below w.heap.size w (((w.alloc (.cells #[.string n, .string p] 26)).alloc (.cells #[.string n, .string p] 29)).alloc (.cells #[.string n, .string p] 29)) := (((Below.refl _ w).alloc (Nat.le_refl _) _).alloc (by simp) _).alloc (by simp <;> omega) _
  refine bodyPost_ret (results_cell_row rfl _ _ (w.heap.size + 1) 29 _ (0, 0) _ rfl hF Try.underlying29 rfl (by kernel_rfl)) rfl ?_
  exact ⟨rfl, hB⟩
set_option maxHeartbeats 1000000 in
theorem law_handle (n p : ByteArray) (w : World) (hn : n.size ≤ 9223372036854775807) (hp : p.size ≤ 9223372036854775807) :
    Calls Try.prog 6 #[.agg #[.string n, .string p]] w fun e w' => e = .returned (.bool true) ∧ Below w.heap.size w w' := by
  have hal : Below w.heap.size w (w.alloc (.cells #[.string n, .string p] 26)) := (Below.refl _ w).alloc (Nat.le_refl _) _
  have hh : (w.alloc (.cells #[.string n, .string p] 26)).heap[w.heap.size]? = some (.cells #[.string n, .string p] 26 (0, 0)) := by show (w.heap.push _)[w.heap.size]? = _; simp
  have hz : (w.alloc (.cells #[.string n, .string p] 26)).heap.size = w.heap.size + 1 := by simp
  have hcs : ∀ w1, Below w.heap.size w w1 → w.heap.size + 1 ≤ w1.heap.size → w1.heap[w.heap.size]? = some (.cells #[.string n, .string p] 26 (0, 0)) → ∀ w2, Below w1.heap.size w1 w2 → Below w.heap.size w w2 ∧ w.heap.size + 1 ≤ w2.heap.size ∧ w2.heap[w.heap.size]? = some (.cells #[.string n, .string p] 26 (0, 0)) := by
    intro w1 hb hsz h w2 hb2
    exact ⟨hb.trans (hb2.mono hb.size), by have := hb2.size; omega, (hb2.block _ (by omega)).trans h⟩
  have HCS : Hid (∀ w1, Below w.heap.size w w1 → w.heap.size + 1 ≤ w1.heap.size → w1.heap[w.heap.size]? = some (.cells #[.string n, .string p] 26 (0, 0)) → ∀ w2, Below w1.heap.size w1 w2 → Below w.heap.size w w2 ∧ w.heap.size + 1 ≤ w2.heap.size ∧ w2.heap[w.heap.size]? = some (.cells #[.string n, .string p] 26 (0, 0))) := hcs
  clear hcs
  have hsz0 : w.heap.size + 1 ≤ (w.alloc (.cells #[.string n, .string p] 26)).heap.size := by omega
  have cZ := szH_ n p 1048576 (w.alloc (.cells #[.string n, .string p] 26)) (by omega) (by omega) hn hp
  go_enter Try.func6, Try.ntmps6
  go_wp2_with fail
  generalize w.alloc (.cells #[.string n, .string p] 26) = w0 at *
  refine cZ.mono ?_
  rintro e w1 ⟨rfl, hb1⟩
  obtain ⟨k1, k2, k3⟩ := HCS.out w0 hal hsz0 hh w1 hb1
  clear cZ hb1 hz hsz0 hh
  by_cases hneg : szR n p 1048576 < 0
  · go_wp2_with fail
    go_ret
    exact ⟨rfl, k1⟩
  · have hsn : n.size ≤ mx ∧ p.size ≤ mx := by
      unfold szR at hneg
      unfold mx
      split at hneg
      · omega
      · split at hneg
        · omega
        · omega
    obtain ⟨hn', hp'⟩ := hsn
    generalize szR n p 1048576 = z at *
    obtain ⟨b, hb⟩ : ∃ b, hdB n p = b := ⟨_, rfl⟩
    have HB : Hid (hdB n p = b) := hb
    clear hb
    have d0 := c2_0 k3
    have d1 := c2_1 k3
    go_wp2_with fail
    refine (toH_ n p w1).mono ?_
    rintro e w2 ⟨rfl, hb2⟩
    obtain ⟨k1, k2, k3⟩ := HCS.out w1 k1 k2 k3 w2 hb2
    clear hb2 d0 d1
    go_wp2_with fail
    refine (spec_handle n p w2 b hn' hp' HB.out).mono ?_
    rintro e w3 ⟨rfl, hb3⟩
    obtain ⟨k1, k2, k3⟩ := HCS.out w2 k1 k2 k3 w3 hb3
    have d0 := c2_0 k3
    have d1 := c2_1 k3
    clear hb3
    go_wp2_with fail
    refine (toH_ n p w3).mono ?_
    rintro e w4 ⟨rfl, hb4⟩
    obtain ⟨k1, k2, k3⟩ := HCS.out w3 k1 k2 k3 w4 hb4
    clear hb4 d0 d1
    go_wp2_with fail
    refine (handleOk_any n p w4 b hn' hp' HB.out).mono ?_
    rintro e w5 ⟨rfl, hb5⟩
    obtain ⟨k1, k2, k3⟩ := HCS.out w4 k1 k2 k3 w5 hb5
    clear hb5
    cases b
    all_goals
      go_wp2_with fail
      go_ret
      exact ⟨rfl, k1⟩
end Go.Proofs.Ytopmboioojedbai
