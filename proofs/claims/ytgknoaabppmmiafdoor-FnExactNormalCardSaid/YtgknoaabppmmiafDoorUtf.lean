/- Plain facts: the first size from 1 to 4 at which the bytes of s at p are the bytes of the rune that they spell is the size that the model's decoder tells. -/
import Derived.Test.YtgknoaabppmmiafDoorRune
namespace Go.Proofs.YtgknoaabppmmiafDoor

def bt (s : ByteArray) (i : Nat) : Int := ((s.get! i).toNat : Int)
theorem bt_lo (s : ByteArray) (i : Nat) : 0 ≤ bt s i := by unfold bt; omega
theorem bt_hi (s : ByteArray) (i : Nat) : bt s i < 256 := by unfold bt; have := (s.get! i).toNat_lt; omega

theorem bytes_inj {x y : Int} (hx : 0 ≤ x ∧ x < 256) (hy : 0 ≤ y ∧ y < 256) (h : UInt8.ofNat x.toNat = UInt8.ofNat y.toNat) : x = y := by
  have := congrArg UInt8.toNat h
  simp at this
  omega
theorem strOf_eq (xs ys : List Int) (h : strOfNums xs = strOfNums ys) : (xs.map fun n => UInt8.ofNat n.toNat) = ys.map fun n => UInt8.ofNat n.toNat := by
  have := congrArg (fun b : ByteArray => b.data.toList) h
  simpa [strOfNums_data] using this

def c2 (a b : Int) : Int := (a - 192) * 64 + b - 128
def c3 (a b c : Int) : Int := ((a - 224) * 64 + b - 128) * 64 + c - 128
def c4 (a b c d : Int) : Int := (((a - 240) * 64 + b - 128) * 64 + c - 128) * 64 + d - 128

theorem rb_size (r : Int) : (rb r).size = if r < 0 ∨ 1114111 < r ∨ (55296 ≤ r ∧ r ≤ 57343) then 0 else if r < 128 then 1 else if r < 2048 then 2 else if r < 65536 then 3 else 4 := by
  by_cases h : r < 0 ∨ 1114111 < r ∨ (55296 ≤ r ∧ r ≤ 57343)
  · rw [if_pos h, rb_bad r h]; rfl
  · rw [if_neg h]
    by_cases h1 : r < 128
    · rw [if_pos h1, rb_1 r (by omega) h1]; rfl
    · rw [if_neg h1]
      by_cases h2 : r < 2048
      · rw [if_pos h2, rb_2 r (by omega) h2]; rfl
      · rw [if_neg h2]
        by_cases h3 : r < 65536
        · rw [if_pos h3, rb_3 r (by omega) h3 (by omega)]; rfl
        · rw [if_neg h3, rb_4 r (by omega) (by omega)]; rfl

theorem is1 (a : Int) (ha : 0 ≤ a ∧ a < 256) : rb a = strOfNums [a] ↔ a < 128 := by
  constructor
  · intro h
    have := congrArg ByteArray.size h
    rw [rb_size, strOfNums_size] at this
    by_cases h1 : a < 128
    · exact h1
    · rw [if_neg (by omega), if_neg h1, if_pos (by omega)] at this
      simp at this
  · intro h; exact rb_1 a ha.1 h
theorem is2 (a b : Int) (ha : 0 ≤ a ∧ a < 256) (hb : 0 ≤ b ∧ b < 256) : rb (c2 a b) = strOfNums [a, b] ↔ a / 32 = 6 ∧ b / 64 = 2 ∧ 128 ≤ c2 a b := by
  constructor
  · intro h
    have hs := congrArg ByteArray.size h
    rw [rb_size, strOfNums_size] at hs
    have hr : 128 ≤ c2 a b ∧ c2 a b < 2048 := by
      simp only [List.length_cons, List.length_nil] at hs
      split at hs
      · omega
      · split at hs
        · omega
        · split at hs
          · omega
          · split at hs <;> omega
    rw [rb_2 _ hr.1 hr.2] at h
    have h' := strOf_eq _ _ h
    simp only [List.map_cons, List.map_nil, List.cons.injEq, and_true] at h'
    have e1 := bytes_inj (by omega) ha h'.1
    have e2 := bytes_inj (by omega) hb h'.2
    omega
  · rintro ⟨h1, h2, h3⟩
    have hr : c2 a b < 2048 := by unfold c2; omega
    rw [rb_2 _ h3 hr]
    have e1 : 192 + c2 a b / 64 = a := by unfold c2; omega
    have e2 : 128 + c2 a b % 64 = b := by unfold c2; omega
    rw [e1, e2]
theorem is3 (a b c : Int) (ha : 0 ≤ a ∧ a < 256) (hb : 0 ≤ b ∧ b < 256) (hc : 0 ≤ c ∧ c < 256) :
    rb (c3 a b c) = strOfNums [a, b, c] ↔ a / 16 = 14 ∧ b / 64 = 2 ∧ c / 64 = 2 ∧ 2048 ≤ c3 a b c ∧ (c3 a b c < 55296 ∨ 57343 < c3 a b c) := by
  constructor
  · intro h
    have hs := congrArg ByteArray.size h
    rw [rb_size, strOfNums_size] at hs
    have hr : 2048 ≤ c3 a b c ∧ c3 a b c < 65536 ∧ (c3 a b c < 55296 ∨ 57343 < c3 a b c) := by
      simp only [List.length_cons, List.length_nil] at hs
      split at hs
      · omega
      · split at hs
        · omega
        · split at hs
          · omega
          · split at hs <;> omega
    rw [rb_3 _ hr.1 hr.2.1 hr.2.2] at h
    have h' := strOf_eq _ _ h
    simp only [List.map_cons, List.map_nil, List.cons.injEq, and_true] at h'
    have e1 := bytes_inj (by omega) ha h'.1
    have e2 := bytes_inj (by omega) hb h'.2.1
    have e3 := bytes_inj (by omega) hc h'.2.2
    omega
  · rintro ⟨h1, h2, h3, h4, h5⟩
    have hr : c3 a b c < 65536 := by unfold c3; omega
    rw [rb_3 _ h4 hr h5]
    have e1 : 224 + c3 a b c / 4096 = a := by unfold c3; omega
    have e2 : 128 + c3 a b c / 64 % 64 = b := by unfold c3; omega
    have e3 : 128 + c3 a b c % 64 = c := by unfold c3; omega
    rw [e1, e2, e3]
theorem is4 (a b c d : Int) (ha : 0 ≤ a ∧ a < 256) (hb : 0 ≤ b ∧ b < 256) (hc : 0 ≤ c ∧ c < 256) (hd : 0 ≤ d ∧ d < 256) :
    rb (c4 a b c d) = strOfNums [a, b, c, d] ↔ a / 8 = 30 ∧ b / 64 = 2 ∧ c / 64 = 2 ∧ d / 64 = 2 ∧ 65536 ≤ c4 a b c d ∧ c4 a b c d ≤ 1114111 := by
  constructor
  · intro h
    have hs := congrArg ByteArray.size h
    rw [rb_size, strOfNums_size] at hs
    have hr : 65536 ≤ c4 a b c d ∧ c4 a b c d ≤ 1114111 := by
      simp only [List.length_cons, List.length_nil] at hs
      split at hs
      · omega
      · split at hs
        · omega
        · split at hs
          · omega
          · split at hs <;> omega
    rw [rb_4 _ hr.1 hr.2] at h
    have h' := strOf_eq _ _ h
    simp only [List.map_cons, List.map_nil, List.cons.injEq, and_true] at h'
    have e1 := bytes_inj (by omega) ha h'.1
    have e2 := bytes_inj (by omega) hb h'.2.1
    have e3 := bytes_inj (by omega) hc h'.2.2.1
    have e4 := bytes_inj (by omega) hd h'.2.2.2
    omega
  · rintro ⟨h1, h2, h3, h4, h5, h6⟩
    rw [rb_4 _ h5 h6]
    have e1 : 240 + c4 a b c d / 262144 = a := by unfold c4; omega
    have e2 : 128 + c4 a b c d / 4096 % 64 = b := by unfold c4; omega
    have e3 : 128 + c4 a b c d / 64 % 64 = c := by unfold c4; omega
    have e4 : 128 + c4 a b c d % 64 = d := by unfold c4; omega
    rw [e1, e2, e3, e4]

/-- What RuneAt tells at place p of s: the rune and its size, or 0 and 0. -/
def ra (s : ByteArray) (p : Nat) : Int × Int :=
  if p < s.size then
    if bt s p < 128 then (bt s p, 1)
    else if p + 1 < s.size ∧ bt s p / 32 = 6 ∧ bt s (p + 1) / 64 = 2 ∧ 128 ≤ c2 (bt s p) (bt s (p + 1)) then (c2 (bt s p) (bt s (p + 1)), 2)
    else if p + 2 < s.size ∧ bt s p / 16 = 14 ∧ bt s (p + 1) / 64 = 2 ∧ bt s (p + 2) / 64 = 2 ∧ 2048 ≤ c3 (bt s p) (bt s (p + 1)) (bt s (p + 2)) ∧ (c3 (bt s p) (bt s (p + 1)) (bt s (p + 2)) < 55296 ∨ 57343 < c3 (bt s p) (bt s (p + 1)) (bt s (p + 2))) then (c3 (bt s p) (bt s (p + 1)) (bt s (p + 2)), 3)
    else if p + 3 < s.size ∧ bt s p / 8 = 30 ∧ bt s (p + 1) / 64 = 2 ∧ bt s (p + 2) / 64 = 2 ∧ bt s (p + 3) / 64 = 2 ∧ 65536 ≤ c4 (bt s p) (bt s (p + 1)) (bt s (p + 2)) (bt s (p + 3)) ∧ c4 (bt s p) (bt s (p + 1)) (bt s (p + 2)) (bt s (p + 3)) ≤ 1114111 then (c4 (bt s p) (bt s (p + 1)) (bt s (p + 2)) (bt s (p + 3)), 4)
    else (0, 0)
  else (0, 0)

theorem dec_1 (s : ByteArray) (p : Nat) (h : bt s p < 128) : Utf8.decode s p = ((bt s p).toNat, 1) := by
  have n0 : (s.get! (p + 0)).toNat = (bt s p).toNat := by simp [bt]
  unfold Utf8.decode
  simp only [n0]
  rw [if_pos (by omega)]
theorem dec_2 (s : ByteArray) (p : Nat) (hp : p + 1 < s.size) (h1 : bt s p / 32 = 6) (h2 : bt s (p + 1) / 64 = 2) (h3 : 128 ≤ c2 (bt s p) (bt s (p + 1))) :
    Utf8.decode s p = ((c2 (bt s p) (bt s (p + 1))).toNat, 2) := by
  have b0 := bt_lo s p; have B0 := bt_hi s p
  have b1 := bt_lo s (p + 1); have B1 := bt_hi s (p + 1)
  have n0 : (s.get! (p + 0)).toNat = (bt s p).toNat := by simp [bt]
  have n1 : (s.get! (p + 1)).toNat = (bt s (p + 1)).toNat := by simp [bt]
  unfold Utf8.decode
  simp only [n0, n1]
  generalize bt s p = a at *
  generalize bt s (p + 1) = b at *
  have e : a.toNat % 32 * 64 + b.toNat % 64 = (c2 a b).toNat := by unfold c2; omega
  rw [if_neg (by omega), if_pos (by simp; omega), e, if_pos (by omega)]
theorem dec_3 (s : ByteArray) (p : Nat) (hp : p + 2 < s.size) (h1 : bt s p / 16 = 14) (h2 : bt s (p + 1) / 64 = 2) (h3 : bt s (p + 2) / 64 = 2) (h4 : 2048 ≤ c3 (bt s p) (bt s (p + 1)) (bt s (p + 2))) (h5 : c3 (bt s p) (bt s (p + 1)) (bt s (p + 2)) < 55296 ∨ 57343 < c3 (bt s p) (bt s (p + 1)) (bt s (p + 2))) :
    Utf8.decode s p = ((c3 (bt s p) (bt s (p + 1)) (bt s (p + 2))).toNat, 3) := by
  have b0 := bt_lo s p; have B0 := bt_hi s p
  have b1 := bt_lo s (p + 1); have B1 := bt_hi s (p + 1)
  have b2 := bt_lo s (p + 2); have B2 := bt_hi s (p + 2)
  have n0 : (s.get! (p + 0)).toNat = (bt s p).toNat := by simp [bt]
  have n1 : (s.get! (p + 1)).toNat = (bt s (p + 1)).toNat := by simp [bt]
  have n2 : (s.get! (p + 2)).toNat = (bt s (p + 2)).toNat := by simp [bt]
  unfold Utf8.decode
  simp only [n0, n1, n2]
  generalize bt s p = a at *
  generalize bt s (p + 1) = b at *
  generalize bt s (p + 2) = c at *
  have e : a.toNat % 16 * 4096 + b.toNat % 64 * 64 + c.toNat % 64 = (c3 a b c).toNat := by unfold c3; omega
  have hi : c3 a b c < 65536 := by unfold c3; omega
  have hv : Utf8.valid ((c3 a b c).toNat : Int) = true := valid_of _ (by omega) (by omega) (by omega)
  rw [if_neg (by omega), if_neg (by simp; omega), if_pos (by simp; omega), e, hv, if_pos (by simp; omega)]
theorem dec_4 (s : ByteArray) (p : Nat) (hp : p + 3 < s.size) (h1 : bt s p / 8 = 30) (h2 : bt s (p + 1) / 64 = 2) (h3 : bt s (p + 2) / 64 = 2) (h4 : bt s (p + 3) / 64 = 2) (h5 : 65536 ≤ c4 (bt s p) (bt s (p + 1)) (bt s (p + 2)) (bt s (p + 3))) (h6 : c4 (bt s p) (bt s (p + 1)) (bt s (p + 2)) (bt s (p + 3)) ≤ 1114111) :
    Utf8.decode s p = ((c4 (bt s p) (bt s (p + 1)) (bt s (p + 2)) (bt s (p + 3))).toNat, 4) := by
  have b0 := bt_lo s p; have B0 := bt_hi s p
  have b1 := bt_lo s (p + 1); have B1 := bt_hi s (p + 1)
  have b2 := bt_lo s (p + 2); have B2 := bt_hi s (p + 2)
  have b3 := bt_lo s (p + 3); have B3 := bt_hi s (p + 3)
  have n0 : (s.get! (p + 0)).toNat = (bt s p).toNat := by simp [bt]
  have n1 : (s.get! (p + 1)).toNat = (bt s (p + 1)).toNat := by simp [bt]
  have n2 : (s.get! (p + 2)).toNat = (bt s (p + 2)).toNat := by simp [bt]
  have n3 : (s.get! (p + 3)).toNat = (bt s (p + 3)).toNat := by simp [bt]
  unfold Utf8.decode
  simp only [n0, n1, n2, n3]
  generalize bt s p = a at *
  generalize bt s (p + 1) = b at *
  generalize bt s (p + 2) = c at *
  generalize bt s (p + 3) = d at *
  have e : a.toNat % 8 * 262144 + b.toNat % 64 * 4096 + c.toNat % 64 * 64 + d.toNat % 64 = (c4 a b c d).toNat := by unfold c4; omega
  have hv : Utf8.valid ((c4 a b c d).toNat : Int) = true := valid_of _ (by omega) (by omega) (by omega)
  rw [if_neg (by omega), if_neg (by simp; omega), if_neg (by simp; omega), if_pos (by simp; omega), e, hv, if_pos (by simp; omega)]
set_option maxHeartbeats 2000000 in
theorem dec_bad (s : ByteArray) (p : Nat) (h1 : ¬ bt s p < 128)
    (h2 : ¬ (p + 1 < s.size ∧ bt s p / 32 = 6 ∧ bt s (p + 1) / 64 = 2 ∧ 128 ≤ c2 (bt s p) (bt s (p + 1))))
    (h3 : ¬ (p + 2 < s.size ∧ bt s p / 16 = 14 ∧ bt s (p + 1) / 64 = 2 ∧ bt s (p + 2) / 64 = 2 ∧ 2048 ≤ c3 (bt s p) (bt s (p + 1)) (bt s (p + 2)) ∧ (c3 (bt s p) (bt s (p + 1)) (bt s (p + 2)) < 55296 ∨ 57343 < c3 (bt s p) (bt s (p + 1)) (bt s (p + 2)))))
    (h4 : ¬ (p + 3 < s.size ∧ bt s p / 8 = 30 ∧ bt s (p + 1) / 64 = 2 ∧ bt s (p + 2) / 64 = 2 ∧ bt s (p + 3) / 64 = 2 ∧ 65536 ≤ c4 (bt s p) (bt s (p + 1)) (bt s (p + 2)) (bt s (p + 3)) ∧ c4 (bt s p) (bt s (p + 1)) (bt s (p + 2)) (bt s (p + 3)) ≤ 1114111)) :
    Utf8.decode s p = (65533, 1) := by
  have b0 := bt_lo s p; have B0 := bt_hi s p
  have b1 := bt_lo s (p + 1); have B1 := bt_hi s (p + 1)
  have b2 := bt_lo s (p + 2); have B2 := bt_hi s (p + 2)
  have b3 := bt_lo s (p + 3); have B3 := bt_hi s (p + 3)
  have n0 : (s.get! (p + 0)).toNat = (bt s p).toNat := by simp [bt]
  have n1 : (s.get! (p + 1)).toNat = (bt s (p + 1)).toNat := by simp [bt]
  have n2 : (s.get! (p + 2)).toNat = (bt s (p + 2)).toNat := by simp [bt]
  have n3 : (s.get! (p + 3)).toNat = (bt s (p + 3)).toNat := by simp [bt]
  unfold Utf8.decode
  simp only [n0, n1, n2, n3]
  generalize bt s p = a at *
  generalize bt s (p + 1) = b at *
  generalize bt s (p + 2) = c at *
  generalize bt s (p + 3) = d at *
  rw [if_neg (by omega)]
  split
  · rename_i g
    simp at g
    clear h3 h4
    rw [if_neg]
    · rfl
    · have e : a.toNat % 32 * 64 + b.toNat % 64 = (c2 a b).toNat := by unfold c2; omega
      rw [e]; omega
  · split
    · rename_i g
      simp at g
      clear h2 h4
      rw [if_neg]
      · rfl
      · have e : a.toNat % 16 * 4096 + b.toNat % 64 * 64 + c.toNat % 64 = (c3 a b c).toNat := by unfold c3; omega
        rw [e]
        simp [Utf8.valid]
        omega
    · split
      · rename_i g
        simp at g
        clear h2 h3
        rw [if_neg]
        · rfl
        · have e : a.toNat % 8 * 262144 + b.toNat % 64 * 4096 + c.toNat % 64 * 64 + d.toNat % 64 = (c4 a b c d).toNat := by unfold c4; omega
          rw [e]
          simp [Utf8.valid]
          omega
      · rfl

/-- What RuneAt tells is what the model's decoder tells; where there is no rune the decoder tells the broken one and 1. -/
theorem decode_ra (s : ByteArray) (p : Nat) (hp : p < s.size) :
    (ra s p = (0, 0) ∧ Utf8.decode s p = (65533, 1)) ∨ (1 ≤ (ra s p).2 ∧ (ra s p).2 ≤ 4 ∧ 0 ≤ (ra s p).1 ∧ (ra s p).1 ≤ 1114111 ∧ Utf8.decode s p = ((ra s p).1.toNat, (ra s p).2.toNat) ∧ (ra s p).2 = (rb (ra s p).1).size ∧ p + (ra s p).2.toNat ≤ s.size) := by
  have b0 := bt_lo s p; have B0 := bt_hi s p
  have b1 := bt_lo s (p + 1); have B1 := bt_hi s (p + 1)
  have b2 := bt_lo s (p + 2); have B2 := bt_hi s (p + 2)
  have b3 := bt_lo s (p + 3); have B3 := bt_hi s (p + 3)
  unfold ra
  rw [if_pos hp]
  split
  · rename_i h
    exact .inr ⟨by simp, by simp, b0, by simp; omega, dec_1 s p h, by rw [rb_size, if_neg (by simp; omega), if_pos (by simpa using h)]; simp, by simp; omega⟩
  · split
    · rename_i h1 h
      have hi : c2 (bt s p) (bt s (p + 1)) < 2048 := by unfold c2; omega
      exact .inr ⟨by simp, by simp, by simp; omega, by simp; omega, dec_2 s p h.1 h.2.1 h.2.2.1 h.2.2.2, by rw [rb_size, if_neg (by simp; omega), if_neg (by simp; omega), if_pos (by simpa using hi)]; simp, by simp; omega⟩
    · split
      · rename_i h1 h2 h
        have hi : c3 (bt s p) (bt s (p + 1)) (bt s (p + 2)) < 65536 := by unfold c3; omega
        exact .inr ⟨by simp, by simp, by simp; omega, by simp; omega, dec_3 s p h.1 h.2.1 h.2.2.1 h.2.2.2.1 h.2.2.2.2.1 h.2.2.2.2.2, by rw [rb_size, if_neg (by simp; omega), if_neg (by simp; omega), if_neg (by simp; omega), if_pos (by simpa using hi)]; simp, by simp; omega⟩
      · split
        · rename_i h1 h2 h3 h
          exact .inr ⟨by simp, by simp, by simp; omega, by simp; omega, dec_4 s p h.1 h.2.1 h.2.2.1 h.2.2.2.1 h.2.2.2.2.1 h.2.2.2.2.2.1 h.2.2.2.2.2.2, by rw [rb_size, if_neg (by simp; omega), if_neg (by simp; omega), if_neg (by simp; omega), if_neg (by simp; omega)]; simp, by simp; omega⟩
        · rename_i h1 h2 h3 h4
          exact .inl ⟨rfl, dec_bad s p h1 h2 h3 h4⟩
end Go.Proofs.YtgknoaabppmmiafDoor
