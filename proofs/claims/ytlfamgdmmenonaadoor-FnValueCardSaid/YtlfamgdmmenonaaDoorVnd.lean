/- The digits of a number, read again: plain facts. -/
import Derived.Test.YtlfamgdmmenonaaDoorInu
import Derived.Test.YtlfamgdmmenonaaDoorIpw
import Derived.Test.YtlfamgdmmenonaaDoorVpl
namespace Go.Proofs.YtlfamgdmmenonaaDoor
open Go.RowKit
/-- Digits of a base, from a list. -/
def lg (b : Nat) : List UInt8 → Nat → Int
  | [], n => (n : Int)
  | c :: t, n => if b ≤ dig c.toNat then -1 else if 9007199254740991 < n * b + dig c.toNat then -1 else lg b t (n * b + dig c.toNat)
theorem bt_lst (l : List UInt8) (i : Nat) (h : i < l.length) : bt ⟨l.toArray⟩ i = (l[i]).toNat := by
  unfold bt
  rw [getElem!_pos (ByteArray.mk l.toArray).data i (by show i < l.toArray.size; simpa using h)]
  simp
theorem size_lst (l : List UInt8) : (ByteArray.mk l.toArray).size = l.length := by simp [ByteArray.size]
theorem digG_lg (l : List UInt8) (b : Nat) (hl : l ≠ []) : ∀ (f k n : Nat), f = l.length - k → digG ⟨l.toArray⟩ b f k n = lg b (l.drop k) n
  | 0, k, n, h => by
    rw [digG, size_lst, if_neg (by intro e; exact hl (List.eq_nil_of_length_eq_zero e)), List.drop_eq_nil_of_le (by omega)]
    rfl
  | f + 1, k, n, h => by
    have hk : k < l.length := by omega
    rw [digG, List.drop_eq_getElem_cons hk, lg, bt_lst l k hk]
    split
    · rfl
    · split
      · rfl
      · exact digG_lg l b hl f (k + 1) _ (by omega)
theorem digV_lg (l : List UInt8) (b : Nat) (hl : l ≠ []) : digV ⟨l.toArray⟩ b = lg b l 0 := by
  unfold digV
  rw [size_lst, digG_lg l b hl l.length 0 0 (by omega)]
  rfl
theorem lg_app (b : Nat) : ∀ (a c : List UInt8) (n m : Nat), lg b a n = (m : Int) → lg b (a ++ c) n = lg b c m
  | [], c, n, m, h => by
    have : n = m := by have h : (n : Int) = (m : Int) := h; omega
    rw [this]; rfl
  | x :: t, c, n, m, h => by
    rw [List.cons_append, lg]
    rw [lg] at h
    split at h
    · omega
    · rename_i h1
      rw [if_neg h1]
      split at h
      · omega
      · rename_i h2
        rw [if_neg h2]
        exact lg_app b t c _ m h
theorem dig_of {d : Nat} (h : d < 10) : dig (UInt8.ofNat (48 + d)).toNat = d := by
  have : ∀ z : Fin 10, dig (UInt8.ofNat (48 + z.val)).toNat = z.val := by decide
  exact this ⟨d, h⟩
theorem lg_dec : ∀ (k u : Nat), u ≤ k → u ≤ 4294967295 → lg 10 (Lib.decDigits u) 0 = (u : Int)
  | 0, u, h, _ => by
    obtain rfl : u = 0 := by omega
    rw [Lib.decDigits_one (by omega), lg, dig_of (by omega)]
    rfl
  | k + 1, u, h, hm => by
    by_cases h10 : u < 10
    · rw [Lib.decDigits_one h10, lg, dig_of h10, if_neg (by omega), if_neg (by omega), lg]
      omega
    · rw [Lib.decDigits, dif_neg h10, lg_app 10 _ _ 0 (u / 10) (lg_dec k (u / 10) (by omega) (by omega)), lg, dig_of (by omega), if_neg (by omega), if_neg (by omega), lg]
      omega
theorem dec_rng : ∀ (k u : Nat), u ≤ k → ∀ c ∈ Lib.decDigits u, 48 ≤ c.toNat ∧ c.toNat ≤ 57
  | 0, u, h, c, hc => by
    obtain rfl : u = 0 := by omega
    rw [Lib.decDigits_one (by omega)] at hc
    obtain rfl : c = _ := by simpa using hc
    decide
  | k + 1, u, h, c, hc => by
    have one : ∀ d, d < 10 → 48 ≤ (UInt8.ofNat (48 + d)).toNat ∧ (UInt8.ofNat (48 + d)).toNat ≤ 57 := fun d hd => by
      have : ∀ z : Fin 10, 48 ≤ (UInt8.ofNat (48 + z.val)).toNat ∧ (UInt8.ofNat (48 + z.val)).toNat ≤ 57 := by decide
      exact this ⟨d, hd⟩
    by_cases h10 : u < 10
    · rw [Lib.decDigits_one h10] at hc
      obtain rfl := List.mem_singleton.1 hc
      exact one u h10
    · rw [Lib.decDigits, dif_neg h10] at hc
      rcases List.mem_append.1 hc with hc | hc
      · exact dec_rng k (u / 10) (by omega) c hc
      · obtain rfl := List.mem_singleton.1 hc
        exact one (u % 10) (by omega)
theorem dec_ne (u : Nat) : Lib.decDigits u ≠ [] := by
  rw [Lib.decDigits]
  split
  · simp
  · simp
/-- A text of digits. -/
structure Dgs (l : List UInt8) : Prop where
  ne : l ≠ []
  rng : ∀ c ∈ l, 48 ≤ c.toNat ∧ c.toNat ≤ 57
theorem Dgs.dec (u : Nat) : Dgs (Lib.decDigits u) := ⟨dec_ne u, dec_rng u u (Nat.le_refl _)⟩
theorem pre_off {l : List UInt8} {a b : UInt8} (h : ∀ h1 : 1 < l.length, (l[1]).toNat ≠ b.toNat) : preI ⟨l.toArray⟩ ⟨#[a, b]⟩ = false := by
  rw [Bool.eq_false_iff]
  intro hp
  obtain ⟨h1, h2⟩ := preI_two.1 hp
  rw [size_lst] at h1
  have := (two_bt (by rw [size_lst]; exact h1) h2).2
  rw [bt_lst l 1 (by omega)] at this
  exact h (by omega) this
theorem pre_one {l : List UInt8} {a : UInt8} (h : ∀ h1 : 0 < l.length, (l[0]).toNat ≠ a.toNat) : preI ⟨l.toArray⟩ ⟨#[a]⟩ = false := by
  rw [Bool.eq_false_iff]
  intro hp
  obtain ⟨h1, h2⟩ := preI_one.1 hp
  rw [size_lst] at h1
  rw [bt_lst l 0 (by omega)] at h2
  exact h (by omega) h2
theorem pre_yes {l : List UInt8} {a : UInt8} (h : 0 < l.length) (h1 : (l[0]).toNat = a.toNat) : preI ⟨l.toArray⟩ ⟨#[a]⟩ = true := by
  refine preI_one.2 ⟨by rw [size_lst]; omega, ?_⟩
  rw [bt_lst l 0 h]
  exact h1
theorem tail_lst (x : UInt8) (l : List UInt8) : (ByteArray.mk (x :: l).toArray).extract 1 (ByteArray.mk (x :: l).toArray).size = ⟨l.toArray⟩ := by
  apply ba_ext
  rw [size_lst]
  simp [ByteArray.data_extract]
theorem num_plain {l : List UInt8} (hd : Dgs l) : numOf ⟨l.toArray⟩ = fin2 1 (lg 10 l 0) := by
  have r : ∀ i (h : i < l.length), 48 ≤ (l[i]).toNat ∧ (l[i]).toNat ≤ 57 := fun i h => hd.rng _ (List.getElem_mem h)
  have hc : cutV ⟨l.toArray⟩ = (1, 10, ⟨l.toArray⟩) := by
    unfold cutV trimI
    rw [pre_off (fun h => by have := (r 1 h).2; intro e; rw [e] at this; exact absurd this (by decide)), pre_off (fun h => by have := (r 1 h).2; intro e; rw [e] at this; exact absurd this (by decide)), pre_one (fun h => by have := (r 0 h).1; intro e; rw [e] at this; exact absurd this (by decide)), pre_one (fun h => by have := (r 0 h).1; intro e; rw [e] at this; exact absurd this (by decide))]
    rfl
  rw [num_cut hc, digV_lg l 10 hd.ne]
theorem num_minus {l : List UInt8} (hd : Dgs l) : numOf ⟨(45 :: l).toArray⟩ = fin2 (-1) (lg 10 l 0) := by
  have r : ∀ i (h : i < l.length), 48 ≤ (l[i]).toNat ∧ (l[i]).toNat ≤ 57 := fun i h => hd.rng _ (List.getElem_mem h)
  have r1 : ∀ h : 1 < (45 :: l).length, ((45 :: l)[1]).toNat ≤ 57 := fun h => (r 0 (by simpa using h)).2
  have hc : cutV ⟨(45 :: l).toArray⟩ = (-1, 10, ⟨l.toArray⟩) := by
    unfold cutV
    rw [pre_off (fun h => by have := r1 h; intro e; rw [e] at this; exact absurd this (by decide)), pre_off (fun h => by have := r1 h; intro e; rw [e] at this; exact absurd this (by decide)), pre_yes (by simp) (by rfl), tail_lst]
    rfl
  rw [num_cut hc, digV_lg l 10 hd.ne]
theorem num_plus {l : List UInt8} : numOf ⟨(43 :: 48 :: 48 :: l).toArray⟩ = fin2 1 (lg 10 l 0) := by
  have hc : cutV ⟨(43 :: 48 :: 48 :: l).toArray⟩ = (1, 10, ⟨(48 :: 48 :: l).toArray⟩) := by
    unfold cutV trimI
    rw [pre_off (fun h => by show (48 : UInt8).toNat ≠ UInt8.toNat 111; decide), pre_off (fun h => by show (48 : UInt8).toNat ≠ UInt8.toNat 120; decide), pre_one (fun h => by show (43 : UInt8).toNat ≠ UInt8.toNat 45; decide), pre_yes (by simp) (by rfl)]
    show (1, 10, (ByteArray.mk (43 :: 48 :: 48 :: l).toArray).extract 1 _) = _
    rw [tail_lst]
  rw [num_cut hc, digV_lg _ 10 (by simp)]
  rfl
theorem fin2_nat (sg : Int) (u : Nat) : fin2 sg (u : Int) = (sg * u, true) := by unfold fin2; rw [if_neg (by omega)]
theorem cat_lst (a l : List UInt8) : (ByteArray.mk a.toArray) ++ (ByteArray.mk l.toArray) = ⟨(a ++ l).toArray⟩ := by
  rw [ByteArray.mk_append_mk]
/-- A number's digits are worth it, with a sign or noughts ahead too. -/
theorem nt_num (n : Int) (h0 : 0 ≤ n) (h1 : n ≤ 4294967295) : numOf (nt n) = (n, true) ∧ numOf (⟨#[45]⟩ ++ nt n) = (-n, true) ∧ numOf (⟨#[43, 48, 48]⟩ ++ nt n) = (n, true) := by
  rw [nt_good n h0 h1]
  have hl := lg_dec n.toNat n.toNat (Nat.le_refl _) (by omega)
  have hd := Dgs.dec n.toNat
  refine ⟨?_, ?_, ?_⟩
  · rw [num_plain hd, hl, fin2_nat]
    congr 1
    omega
  · rw [show (ByteArray.mk #[45]) = ByteArray.mk [45].toArray from rfl, cat_lst]
    show numOf ⟨(45 :: Lib.decDigits n.toNat).toArray⟩ = _
    rw [num_minus hd, hl, fin2_nat]
    congr 1
    omega
  · rw [show (ByteArray.mk #[43, 48, 48]) = ByteArray.mk [43, 48, 48].toArray from rfl, cat_lst]
    show numOf ⟨(43 :: 48 :: 48 :: Lib.decDigits n.toNat).toArray⟩ = _
    rw [num_plus, hl, fin2_nat]
    congr 1
    omega
theorem nt_plV (n : Int) (h0 : 0 ≤ n) (h1 : n ≤ 4294967295) : plV (nt n) = ⟨3, n, false, ⟨#[]⟩⟩ := by
  have hn := (nt_num n h0 h1).1
  have hd := Dgs.dec n.toNat
  have ht : (nt n).toList = Lib.decDigits n.toNat := by rw [nt_good n h0 h1, ByteArray.toList_eq]
  have hdg : ∀ L : List (List UInt8), (∀ l ∈ L, (match l with | [] => true | c :: _ => decide (57 < c.toNat)) = true) → (nt n).toList ∉ L := fun L hL hm => by
    rw [ht] at hm
    have h := hL _ hm
    have h2 := hd.rng
    cases hc : Lib.decDigits n.toNat with
    | nil => exact hd.ne hc
    | cons c t =>
      rw [hc] at h h2
      have h3 := of_decide_eq_true h
      have := (h2 c (by simp)).2
      omega
  exact plV_num (hdg nulls (by decide)) (hdg trues (by decide)) (hdg falses (by decide)) hn
theorem nt_size (n : Int) : (nt n).size ≤ 10 := by
  unfold nt
  split
  · exact Nat.zero_le _
  · rename_i h
    rw [size_lst]
    exact dec_len n.toNat (by omega)
end Go.Proofs.YtlfamgdmmenonaaDoor
