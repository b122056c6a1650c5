/- impl.HandleOk answers whether a handle is right. -/
import Derived.Test.YtopmboioojedbaiUnt
namespace Go.Proofs.Ytopmboioojedbai
open Go.ChangeShapes Go.WideShapes Go.ChangeAt Go.RowKit Go.Shelf
theorem toList_ne {a b : ByteArray} (h : a ≠ b) : (a.toList == b.toList) = false := by
  rw [beq_eq_false_iff_ne]
  intro e
  apply h
  apply ba_ext
  rw [← ByteArray.toList_eq, ← ByteArray.toList_eq, e]
theorem pH_tree (x : Nat) : (97 ≤ x ∧ x ≤ 122) ∨ 122 < x ∨ (65 ≤ x ∧ x ≤ 90) ∨ (90 < x ∧ x < 97) ∨ (48 ≤ x ∧ x ≤ 57) ∨ (57 < x ∧ x < 65) ∨ x = 45 ∨ (x < 48 ∧ x ≠ 45) := by omega
theorem inHandle_any (w : World) : PredB 53 #[] pH w := by
  intro W x hx hb
  show Calls Try.prog 53 #[.int .u8 (x : Int)] W _
  clear hb hx
  rcases pH_tree x with ⟨h1, h2⟩ | h1 | ⟨h1, h2⟩ | ⟨h1, h2⟩ | ⟨h1, h2⟩ | ⟨h1, h2⟩ | h1 | ⟨h1, h2⟩
  · go_enter Try.func53, Try.ntmps53
    go_wp2_with fail
    go_ret
    exact ⟨ret_bool (by unfold pH; simp; omega), Below.refl _ _⟩
  · go_enter Try.func53, Try.ntmps53
    go_wp2_with fail
    go_ret
    exact ⟨ret_bool (by rw [Bool.eq_iff_iff]; unfold pH; simp; omega), Below.refl _ _⟩
  · go_enter Try.func53, Try.ntmps53
    go_wp2_with fail
    go_ret
    exact ⟨ret_bool (by unfold pH; simp; omega), Below.refl _ _⟩
  · go_enter Try.func53, Try.ntmps53
    go_wp2_with fail
    go_ret
    exact ⟨ret_bool (by rw [Bool.eq_iff_iff]; unfold pH; simp; omega), Below.refl _ _⟩
  · go_enter Try.func53, Try.ntmps53
    go_wp2_with fail
    go_ret
    exact ⟨ret_bool (by unfold pH; simp; omega), Below.refl _ _⟩
  · go_enter Try.func53, Try.ntmps53
    go_wp2_with fail
    go_ret
    exact ⟨ret_bool (by rw [Bool.eq_iff_iff]; unfold pH; simp; omega), Below.refl _ _⟩
  · subst h1
    go_enter Try.func53, Try.ntmps53
    go_wp2_with fail
    go_ret
    exact ⟨ret_bool (by rfl), Below.refl _ _⟩
  · have h3 : ((x : Int) == 45) = false := by rw [beq_eq_false_iff_ne]; omega
    have HE : Hid (pH x = false) := by show pH x = false; rw [← Bool.not_eq_true]; unfold pH; simp; omega
    clear h2
    go_enter Try.func53, Try.ntmps53
    go_wp2_with fail
    go_ret
    exact ⟨ret_bool HE.out.symm, Below.refl _ _⟩
theorem visible_any (w : World) : PredB 35 #[] pV w := by
  intro W x hx hb
  show Calls Try.prog 35 #[.int .u8 (x : Int)] W _
  clear hb hx
  by_cases h1 : 33 ≤ x
  · go_enter Try.func35, Try.ntmps35
    go_wp2_with fail
    go_ret
    exact ⟨ret_bool (by unfold pV; rw [Bool.eq_iff_iff]; simp; omega), Below.refl _ _⟩
  · go_enter Try.func35, Try.ntmps35
    go_wp2_with fail
    go_ret
    exact ⟨ret_bool (by unfold pV; rw [Bool.eq_iff_iff]; simp; omega), Below.refl _ _⟩
theorem over_nat (s : ByteArray) (k v : Nat) (g : Nat) (lb : Array Value) (P : Nat → Bool) (eg : ∀ args w, (callFunc g args).run Try.prog w = .ok (.enter g args) w) (w : World) (hs : s.size ≤ mx) (hk : k ≤ s.size) (hp : PredB g lb P w) (hv : fwd P s k = v) :
    Calls Try.prog 37 #[.string s, .int .i64 (k : Int), .func (.func g) #[] lb] w fun e w' => e = .returned (.int .i64 (v : Int)) ∧ Below w.heap.size w w' := by
  have := over_any s (k : Int) g lb P eg w hs hp
  rw [cl_nat _ _ hk, hv] at this
  exact this
theorem nm_short {t : ByteArray} (h1 : t ≠ ⟨#[33]⟩) (h2 : t ≠ ⟨#[33, 33]⟩) : nmB t = longN t := by
  unfold nmB; rw [decide_eq_false h1, decide_eq_false h2]; rfl
theorem nm_no1 {t : ByteArray} (h1 : t ≠ ⟨#[33]⟩) (h2 : t ≠ ⟨#[33, 33]⟩) (h : ¬ (2 < t.size ∧ t.size ≤ 60)) : nmB t = false := by
  rw [nm_short h1 h2]; unfold longN
  by_cases ha : 2 < t.size
  · rw [decide_eq_false (fun hb => h ⟨ha, hb⟩)]; simp
  · rw [decide_eq_false ha]; rfl
theorem nm_no2 {t : ByteArray} (h1 : t ≠ ⟨#[33]⟩) (h2 : t ≠ ⟨#[33, 33]⟩) (h : bt t 0 ≠ 33) : nmB t = false := by
  rw [nm_short h1 h2]; unfold longN
  rw [beq_eq_false_iff_ne.2 h]; simp
theorem nm_no3 {t : ByteArray} (h1 : t ≠ ⟨#[33]⟩) (h2 : t ≠ ⟨#[33, 33]⟩) (h : bt t (t.size - 1) ≠ 33) : nmB t = false := by
  rw [nm_short h1 h2]; unfold longN
  rw [beq_eq_false_iff_ne.2 h]; simp
theorem nm_4 {t : ByteArray} (h1 : t ≠ ⟨#[33]⟩) (h2 : t ≠ ⟨#[33, 33]⟩) (ha : 2 < t.size) (hb : t.size ≤ 60) (h0 : bt t 0 = 33) (hl : bt t (t.size - 1) = 33) : nmB t = decide (fwd pH t 1 = t.size - 1) := by
  rw [nm_short h1 h2]; unfold longN
  rw [decide_eq_true ha, decide_eq_true hb, h0, hl]; rfl
set_option maxHeartbeats 2000000 in
theorem handleName_any (t : ByteArray) (w : World) (b : Bool) (hs : t.size ≤ mx) (hb : nmB t = b) :
    Calls Try.prog 36 #[.string t] w fun e w' => e = .returned (.bool b) ∧ Below w.heap.size w w' := by
  have hs' := hs
  unfold mx at hs'
  by_cases e1 : t = ⟨#[33]⟩
  · subst e1
    subst hb
    go_enter Try.func36, Try.ntmps36
    go_wp2_with fail
    go_ret
    exact ⟨ret_bool (by rfl), Below.refl _ _⟩
  by_cases e2 : t = ⟨#[33, 33]⟩
  · subst e2
    subst hb
    go_enter Try.func36, Try.ntmps36
    go_wp2_with fail
    go_ret
    exact ⟨ret_bool (by rfl), Below.refl _ _⟩
  have n1 : (t.toList == [33]) = false := by have := toList_ne e1; rw [show (ByteArray.mk #[33]).toList = [33] from by rw [ByteArray.toList_eq]] at this; exact this
  have n2 : (t.toList == [33, 33]) = false := by have := toList_ne e2; rw [show (ByteArray.mk #[33, 33]).toList = [33, 33] from by rw [ByteArray.toList_eq]] at this; exact this
  by_cases h1 : t.size ≤ 2
  · have HB : Hid (b = false) := by show b = false; rw [← hb]; exact nm_no1 e1 e2 (by omega)
    have h1' : (t.size : Int) - 1 < 2 := by omega
    clear hb e1 e2 h1
    go_enter Try.func36, Try.ntmps36
    go_wp2_with fail
    go_ret
    exact ⟨ret_bool HB.out.symm, Below.refl _ _⟩
  by_cases h2 : 60 < t.size
  · have HB : Hid (b = false) := by show b = false; rw [← hb]; exact nm_no1 e1 e2 (by omega)
    have h2' : (60 : Int) ≤ (t.size : Int) - 1 := by omega
    have h1' : (2 : Int) ≤ (t.size : Int) - 1 := by omega
    clear hb e1 e2 h1 h2
    go_enter Try.func36, Try.ntmps36
    go_wp2_with fail
    go_ret
    exact ⟨ret_bool HB.out.symm, Below.refl _ _⟩
  obtain ⟨n, hn⟩ : ∃ n, t.size = n + 1 := ⟨t.size - 1, by omega⟩
  have h0l : 0 < t.size := by omega
  have hnl : n < t.size := by omega
  have hg0 := bt_get t 0 h0l
  have hgn := bt_get t n hnl
  have h2' : (t.size : Int) - 1 < 60 := by omega
  have h1' : (2 : Int) ≤ (t.size : Int) - 1 := by omega
  have hL : (t.size : Int) - 1 = (n : Int) := by omega
  by_cases h3 : bt t 0 = 33
  · have c0 : (((t[0]'h0l).toNat : Int) != 33) = false := by rw [hg0, h3]; rfl
    by_cases h4 : bt t n = 33
    · have cn : (((t[n]'hnl).toNat : Int) != 33) = false := by rw [hgn, h4]; rfl
      have HB : Hid (b = decide (fwd pH t 1 = n)) := by
        show b = decide (fwd pH t 1 = n)
        rw [← hb, nm_4 e1 e2 (by omega) (by omega) h3 (by rw [hn]; exact h4), hn]; rfl
      have cO := over_nat t 1 (fwd pH t 1) 53 #[] pH (enters_of Try.func53 (by kernel_rfl) rfl) w hs (by omega) (inHandle_any w) rfl
      clear hb e1 e2 h1 h2 h3 h4 hg0 hgn hn
      generalize fwd pH t 1 = q at *
      go_enter Try.func36, Try.ntmps36
      go_wp2_with fail
      refine cO.mono ?_
      rintro e w1 ⟨rfl, hb1⟩
      go_wp2_with fail
      go_ret
      exact ⟨ret_bool (by rw [HB.out, Bool.eq_iff_iff]; simp; omega), hb1⟩
    · have cn : (((t[n]'hnl).toNat : Int) != 33) = true := by rw [hgn, bne_iff_ne]; omega
      have HB : Hid (b = false) := by show b = false; rw [← hb]; exact nm_no3 e1 e2 (by rw [hn]; exact h4)
      clear hb e1 e2 h1 h2 h3 h4 hg0 hgn hn
      go_enter Try.func36, Try.ntmps36
      go_wp2_with fail
      go_ret
      exact ⟨ret_bool HB.out.symm, Below.refl _ _⟩
  · have c0 : (((t[0]'h0l).toNat : Int) != 33) = true := by rw [hg0, bne_iff_ne]; omega
    have HB : Hid (b = false) := by show b = false; rw [← hb]; exact nm_no2 e1 e2 h3
    clear hb e1 e2 h1 h2 h3 hg0 hgn hn hnl hL
    go_enter Try.func36, Try.ntmps36
    go_wp2_with fail
    go_ret
    exact ⟨ret_bool HB.out.symm, Below.refl _ _⟩
theorem hd_no1 {n p : ByteArray} (h : nmB n = false) : hdB n p = false := by unfold hdB; rw [h]; rfl
theorem hd_no2 {n p : ByteArray} (h : p.size < 1) : hdB n p = false := by unfold hdB; rw [decide_eq_false (by omega)]; simp
theorem hd_no3 {n p : ByteArray} (h : 60 < p.size) : hdB n p = false := by unfold hdB; rw [decide_eq_false (p := p.size ≤ 60) (by omega)]; simp
theorem hd_4 {n p : ByteArray} (h : nmB n = true) (h1 : 1 ≤ p.size) (h2 : p.size ≤ 60) : hdB n p = decide (fwd pV p 0 = p.size) := by
  unfold hdB; rw [h, decide_eq_true h1, decide_eq_true h2]; rfl
set_option maxHeartbeats 2000000 in
theorem handleOk_any (n p : ByteArray) (w : World) (b : Bool) (hn : n.size ≤ mx) (hp : p.size ≤ mx) (hb : hdB n p = b) :
    Calls Try.prog 17 #[.agg #[.string n, .string p]] w fun e w' => e = .returned (.bool b) ∧ Below w.heap.size w w' := by
  have hp' := hp
  unfold mx at hp'
  have hal : Below w.heap.size w (w.alloc (.cells #[.string n, .string p] 29)) := (Below.refl _ w).alloc (Nat.le_refl _) _
  have hcell : ∀ w1, Below (w.heap.size + 1) (w.alloc (.cells #[.string n, .string p] 29)) w1 → w1.cell? ⟨w.heap.size, 1, none⟩ = some (.string p) := by
    intro w1 h
    have := h.block w.heap.size (by omega)
    rw [show (w.alloc (.cells #[.string n, .string p] 29)).heap[w.heap.size]? = some (.cells #[.string n, .string p] 29 (0, 0)) from by show (w.heap.push _)[w.heap.size]? = _; simp] at this
    simp [World.cell?, this]
  cases h0 : nmB n with
  | false =>
    have HB : Hid (b = false) := by show b = false; rw [← hb]; exact hd_no1 h0
    have cN := handleName_any n (w.alloc (.cells #[.string n, .string p] 29)) false hn h0
    clear hb h0
    go_enter Try.func17, Try.ntmps17
    go_wp2_with fail
    refine cN.mono ?_
    rintro e w1 ⟨rfl, hb1⟩
    go_wp2_with fail
    go_ret
    exact ⟨ret_bool HB.out.symm, hal.trans (hb1.mono (by simp))⟩
  | true =>
    have cN := handleName_any n (w.alloc (.cells #[.string n, .string p] 29)) true hn h0
    by_cases h1 : p.size < 1
    · have HB : Hid (b = false) := by show b = false; rw [← hb]; exact hd_no2 h1
      have h1' : (p.size : Int) < 1 := by omega
      clear hb h0 h1
      go_enter Try.func17, Try.ntmps17
      go_wp2_with fail
      refine cN.mono ?_
      rintro e w1 ⟨rfl, hb1⟩
      go_wp2_with fail
      go_ret
      exact ⟨ret_bool HB.out.symm, hal.trans (hb1.mono (by simp))⟩
    by_cases h2 : 60 < p.size
    · have HB : Hid (b = false) := by show b = false; rw [← hb]; exact hd_no3 h2
      have h1' : (1 : Int) ≤ (p.size : Int) := by omega
      have h2' : (60 : Int) < (p.size : Int) := by omega
      clear hb h0 h1 h2
      go_enter Try.func17, Try.ntmps17
      go_wp2_with fail
      refine cN.mono ?_
      rintro e w1 ⟨rfl, hb1⟩
      go_wp2_with fail
      go_ret
      exact ⟨ret_bool HB.out.symm, hal.trans (hb1.mono (by simp))⟩
    · have HB : Hid (b = decide (fwd pV p 0 = p.size)) := by show b = _; rw [← hb]; exact hd_4 h0 (by omega) (by omega)
      have h1' : (1 : Int) ≤ (p.size : Int) := by omega
      have h2' : (p.size : Int) ≤ 60 := by omega
      have cO := fun w1 => over_nat p 0 (fwd pV p 0) 35 #[] pV (enters_of Try.func35 (by kernel_rfl) rfl) w1 hp (by omega) (visible_any w1) rfl
      clear hb h0 h1 h2
      generalize fwd pV p 0 = q at *
      go_enter Try.func17, Try.ntmps17
      go_wp2_with fail
      refine cN.mono ?_
      rintro e w1 ⟨rfl, hb1⟩
      have hc1 := hcell w1 (hb1.mono (by simp))
      have hb2 : Below w.heap.size w w1 := hal.trans (hb1.mono (by simp))
      clear hcell hb1 hal cN
      go_wp2_with fail
      refine (cO w1).mono ?_
      rintro e w2 ⟨rfl, hb3⟩
      go_wp2_with fail
      go_ret
      exact ⟨ret_bool (by rw [HB.out, Bool.eq_iff_iff]; simp; omega), hb2.trans (hb3.mono hb2.size)⟩
end Go.Proofs.Ytopmboioojedbai
