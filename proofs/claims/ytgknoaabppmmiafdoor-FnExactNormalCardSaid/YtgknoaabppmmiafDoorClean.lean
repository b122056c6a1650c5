/- spec.Clean and impl.Clean both answer the place 'clean s', and change nothing that was there. -/
import Derived.Test.YtgknoaabppmmiafDoorSpecAt
import Derived.Deep.Light
namespace Go.Proofs.YtgknoaabppmmiafDoor
open Go.ChangeShapes Go.WideShapes Go.ChangeAt Go.RowKit
/-- A rune that may stand. -/
def al (r : Int) : Bool := decide (r = 9 ∨ r = 10 ∨ (32 ≤ r ∧ r ≤ 126) ∨ (159 < r ∧ r ≠ 65279 ∧ r ≠ 65534 ∧ r ≠ 65535))
/-- From place p on, at most f runes. -/
def cgo (s : ByteArray) : Nat → Nat → Nat
  | 0, p => p
  | f + 1, p => if p < s.size ∧ (ra s p).2 ≠ 0 ∧ al (ra s p).1 = true then cgo s f (p + (ra s p).2.toNat) else p
def clean (s : ByteArray) : Nat := cgo s s.size 0
theorem cgo_stop (s : ByteArray) (f p : Nat) (h : ¬ (p < s.size ∧ (ra s p).2 ≠ 0 ∧ al (ra s p).1 = true)) : cgo s f p = p := by
  cases f with
  | zero => rfl
  | succ f => unfold cgo; rw [if_neg h]
theorem cgo_step (s : ByteArray) (f p : Nat) (hf : s.size ≤ p + f) (h : p < s.size ∧ (ra s p).2 ≠ 0 ∧ al (ra s p).1 = true) : cgo s f p = cgo s (f - 1) (p + (ra s p).2.toNat) := by
  cases f with
  | zero => omega
  | succ f => rw [cgo, if_pos h]; rfl
theorem ra_pos (s : ByteArray) (p : Nat) (h : (ra s p).2 ≠ 0) : 1 ≤ (ra s p).2 ∧ (ra s p).2 ≤ 4 ∧ p + (ra s p).2.toNat ≤ s.size := by
  rcases ra_cases s p with h0 | ⟨k, k1, k4, hf, hk⟩
  · rw [h0] at h; simp at h
  · rw [hk]; have := hf.1; simp; omega

theorem l01Rune_any (r : Int) (w : World) :
    Calls Tryd.prog 22 #[.int .i64 r] w fun e w' => e = .returned (.bool (al r)) ∧ w' = w := by
  go_enter Tryd.func22, Tryd.ntmps22
  go_wp2
  all_goals
    go_ret
    refine ⟨ret_bool ?_, rfl⟩
    go_light
    try simp only [beq_iff_eq, beq_eq_false_iff_ne, ne_eq] at *
    rw [Bool.eq_iff_iff]
    simp [al]
    try omega
theorem allowed_any (r : Int) (w : World) :
    Calls Tryd.prog 25 #[.int .i32 r] w fun e w' => e = .returned (.bool (al r)) ∧ w' = w := by
  go_enter Tryd.func25, Tryd.ntmps25
  go_wp2
  all_goals
    go_ret
    refine ⟨ret_bool ?_, rfl⟩
    go_light
    try simp only [beq_iff_eq, beq_eq_false_iff_ne, ne_eq] at *
    rw [Bool.eq_iff_iff]
    simp [al]
    try omega

theorem spec_raN (s : ByteArray) (k : Nat) (c n : Int) (w : World) (hs : s.size ≤ maxLen) (hk : k ≤ s.size) (h : ra s k = (c, n)) :
    Calls Tryd.prog 21 #[.string s, .int .i64 (k : Int)] w fun e w' => e = .returned (.tuple #[.int .i64 c, .int .i64 n]) ∧ Below w.heap.size w w' := by
  have e : cl s.size (k : Int) = k := by unfold cl; omega
  have := spec_ra s (k : Int) w hs
  rw [e, h] at this
  exact this
theorem l01Rune_is (r : Int) (w : World) (b : Bool) (h : al r = b) :
    Calls Tryd.prog 22 #[.int .i64 r] w fun e w' => e = .returned (.bool b) ∧ w' = w := by
  subst h; exact l01Rune_any r w
theorem allowed_is (r : Int) (w : World) (b : Bool) (h : al r = b) :
    Calls Tryd.prog 25 #[.int .i32 r] w fun e w' => e = .returned (.bool b) ∧ w' = w := by
  subst h; exact allowed_any r w
theorem stands_is (s : ByteArray) (p : Nat) (r : Int) (w : World) (hp : p ≤ s.size) (b : Bool) (h : stB s p r = b) :
    Calls Tryd.prog 26 #[.string s, .int .i64 (p : Int), .int .i32 r] w fun e w' => e = .returned (.bool b) ∧ ∃ n, w' = w.drewN n := by
  subst h; exact stands_any s p r w hp

set_option maxHeartbeats 1000000 in
theorem spec_clean (s : ByteArray) (w : World) (hs : s.size ≤ maxLen) :
    Calls Tryd.prog 14 #[.string s] w fun e w' => e = .returned (.int .i64 (clean s)) ∧ Below w.heap.size w w' := by
  unfold maxLen at hs
  go_enter Tryd.func14, Tryd.ntmps14
  go_wp2_with fail
  go_loopw [3] (fun t w' => ∃ k f : Nat, k ≤ s.size ∧ t = .int .i64 k ∧ s.size ≤ k + f ∧ cgo s f k = clean s ∧ Below w.heap.size w w') (fun t _ => s.size - (intOf t).toNat)
  case atStart => exact ⟨0, s.size, Nat.zero_le _, rfl, by omega, rfl, Below.refl _ _⟩
  case round =>
    obtain ⟨k, f, hk, rfl, hf, hc, hb⟩ := hrel
    have HC : Hid (cgo s f k = clean s) := hc
    clear hc
    by_cases hlt : k < s.size
    · obtain ⟨c, n, hra⟩ : ∃ c n, ra s k = (c, n) := ⟨_, _, rfl⟩
      have HR : Hid (ra s k = (c, n)) := hra
      by_cases hn : n = 0
      · subst hn
        have HS : Hid (cgo s f k = k) := cgo_stop s f k (by rw [hra]; simp)
        clear hra
        go_wp2_with fail
        refine (spec_raN s k c 0 _ hs hk HR.out).mono ?_
        rintro e w2 ⟨rfl, hb2⟩
        go_wp2_with fail
        go_ret
        exact ⟨ret_int (by rw [← HC.out, HS.out]), hb.trans (hb2.mono hb.size)⟩
      · have hn' : (n == 0) = false := by simpa using hn
        have hp := ra_pos s k (by rw [hra]; exact hn)
        rw [hra] at hp
        obtain ⟨hp1, hp2, hp3⟩ := hp
        simp only at hp1 hp2 hp3
        cases hal : al c with
        | false =>
          have HA : Hid (al c = false) := hal
          have HS : Hid (cgo s f k = k) := cgo_stop s f k (by rw [hra]; simp [hal])
          clear hra hal
          go_wp2_with fail
          refine (spec_raN s k c n _ hs hk HR.out).mono ?_
          rintro e w2 ⟨rfl, hb2⟩
          go_wp2_with fail
          refine (l01Rune_is c _ false HA.out).mono ?_
          rintro e w3 ⟨rfl, rfl⟩
          go_wp2_with fail
          go_ret
          exact ⟨ret_int (by rw [← HC.out, HS.out]), hb.trans (hb2.mono hb.size)⟩
        | true =>
          have HA : Hid (al c = true) := hal
          have HS : Hid (cgo s f k = cgo s (f - 1) (k + n.toNat)) := by
            have := cgo_step s f k hf ⟨hlt, by rw [hra]; exact hn, by rw [hra]; exact hal⟩
            rw [hra] at this
            exact this
          clear hra hal
          go_wp2_with fail
          refine (spec_raN s k c n _ hs hk HR.out).mono ?_
          rintro e w2 ⟨rfl, hb2⟩
          go_wp2_with fail
          refine (l01Rune_is c _ true HA.out).mono ?_
          rintro e w3 ⟨rfl, rfl⟩
          go_wp2_with fail
          go_roundw
          case rel => exact ⟨k + n.toNat, f - 1, hp3, by go_num, by omega, by rw [← HS.out, HC.out], hb.trans (hb2.mono hb.size)⟩
          case measure => simp [intOf]; omega
    · have HS : Hid (cgo s f k = k) := cgo_stop s f k (by intro h; exact hlt h.1)
      go_wp2_with fail
      go_ret
      exact ⟨ret_int (by rw [← HC.out, HS.out]), hb⟩
end Go.Proofs.YtgknoaabppmmiafDoor
