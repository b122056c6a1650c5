/- Plain facts of a source that is read through once: the run gives the stream, fetches each page once, and keeps the last one. -/
import Derived.Test.YtopmboioojedbacSrc
namespace Go.Proofs.Ytopmboioojedbac
open Go.Maps Go.RowKit
/-- Behind the first k bytes. -/
structure Iv (S : Nat) (zs : List Int) (k : Nat) (f : Int) (qs : List Pg) : Prop where
  hf : f = (((k + S - 1) / S : Nat) : Int)
  each : ∀ q ∈ qs, ∃ j : Nat, q.1 = (j : Int) ∧ j * S < k ∧ q.2 = part zs (j * S) S
  last : 0 < k → ∃ q ∈ qs, q.1 = (((k - 1) / S : Nat) : Int)
theorem byteAt_part {zs : List Int} {S k : Nat} (hS : 0 < S) (hk : k < zs.length) : byteAt (part zs (k / S * S) S) (k % S) = zs.getD k 0 := by
  have hm := Nat.mod_lt k hS
  have hd : k / S * S + k % S = k := Nat.div_add_mod' k S
  have hl : k % S < (part zs (k / S * S) S).length := by
    unfold part
    rw [List.length_take, List.length_drop]
    omega
  unfold byteAt
  rw [if_pos hl]
  unfold part
  rw [List.getD_eq_getElem?_getD, List.getD_eq_getElem?_getD, List.getElem?_take, if_pos hm, List.getElem?_drop, hd]
theorem div_int (S k : Nat) : ((k : Int) / (S : Int)) = ((k / S : Nat) : Int) := by omega
theorem pos_int (S k : Nat) : ((k : Int) / (S : Int) * (S : Int)).toNat = k / S * S := by
  rw [show ((k : Int) / (S : Int) * (S : Int)) = ((k / S * S : Nat) : Int) from by rw [Int.natCast_mul, Int.natCast_ediv]]
  exact Int.toNat_natCast _
theorem mod_int (S k : Nat) : ((k : Int) % (S : Int)).toNat = k % S := by
  rw [show ((k : Int) % (S : Int)) = ((k % S : Nat) : Int) from (Int.natCast_emod k S).symm]
  exact Int.toNat_natCast _
theorem ceil_same {S k : Nat} (hS : 0 < S) (h : k % S ≠ 0) : (k + 1 + S - 1) / S = (k + S - 1) / S := by
  have hm := Nat.mod_lt k hS
  have hd := Nat.div_add_mod k S
  generalize k / S = q at hd
  generalize k % S = r at *
  have e1 : k + 1 + S - 1 = r + S * (q + 1) := by rw [Nat.mul_add, Nat.mul_one]; generalize S * q = a at *; omega
  have e2 : k + S - 1 = (r - 1) + S * (q + 1) := by rw [Nat.mul_add, Nat.mul_one]; generalize S * q = a at *; omega
  have f1 : r / S = 0 := Nat.div_eq_of_lt hm
  have f2 : (r - 1) / S = 0 := Nat.div_eq_of_lt (by omega)
  rw [e1, e2, Nat.add_mul_div_left _ _ hS, Nat.add_mul_div_left _ _ hS, f1, f2]
theorem ceil_next {S k : Nat} (hS : 0 < S) (h : k % S = 0) : (k + 1 + S - 1) / S = (k + S - 1) / S + 1 := by
  have hd := Nat.div_add_mod k S
  rw [h] at hd
  generalize k / S = q at hd
  have e1 : k + 1 + S - 1 = S * (q + 1) := by rw [Nat.mul_add, Nat.mul_one]; generalize S * q = a at *; omega
  have e2 : k + S - 1 = (S - 1) + S * q := by generalize S * q = a at *; omega
  have f1 : (S - 1) / S = 0 := Nat.div_eq_of_lt (by omega)
  rw [e1, e2, Nat.mul_div_cancel_left _ hS, Nat.add_mul_div_left _ _ hS, f1, Nat.zero_add]
theorem pred_div {S k : Nat} (hS : 0 < S) (h : k % S ≠ 0) : (k - 1) / S = k / S := by
  have hm := Nat.mod_lt k hS
  have hd := Nat.div_add_mod k S
  generalize k / S = q at *
  generalize k % S = r at *
  have e2 : k - 1 = (r - 1) + S * q := by generalize S * q = a at *; omega
  have f2 : (r - 1) / S = 0 := Nat.div_eq_of_lt (by omega)
  rw [e2, Nat.add_mul_div_left _ _ hS, f2, Nat.zero_add]
theorem ceil_le {S k : Nat} (hS : 0 < S) : (k + S - 1) / S ≤ k := by
  rcases Nat.eq_zero_or_pos k with h | h
  · subst h
    rw [Nat.div_eq_of_lt (by omega)]
    omega
  · have : (k + S - 1) / S < k + 1 := by
      rw [Nat.div_lt_iff_lt_mul hS]
      have := Nat.mul_le_mul_left k hS
      rw [Nat.add_mul]
      omega
    omega
theorem iv_read {S : Nat} {zs : List Int} {k : Nat} {f : Int} {qs : List Pg} (hS : 0 < S) (h : Iv S zs k f qs) (hk : k < zs.length) (hz : zs.length ≤ 60000) :
    Iv S zs (k + 1) (readM S f qs zs k).1.1 (readM S f qs zs k).1.2 ∧ (readM S f qs zs k).2 = zs.getD k 0 := by
  have hd := Nat.div_add_mod k S
  have hd' : k / S * S ≤ k := Nat.div_mul_le_self k S
  unfold readM
  rw [pos_int, mod_int, div_int]
  cases e : qs.find? (hit ((k / S : Nat) : Int)) with
  | some q =>
    obtain ⟨hq, hq1⟩ := hit_find e
    obtain ⟨j, hj, hjk, hjp⟩ := h.each q hq
    have ej : j = k / S := by omega
    subst ej
    have hne : k % S ≠ 0 := by
      intro h0
      rw [Nat.mul_comm] at hjk
      omega
    refine ⟨⟨?_, ?_, ?_⟩, ?_⟩
    · rw [ceil_same hS hne]; exact h.hf
    · intro p hp
      have hpm : p ∈ qs := by
        rcases List.mem_append.1 hp with hp | hp
        · exact (List.mem_filter.1 hp).1
        · obtain rfl : p = q := by simpa using hp
          exact hq
      obtain ⟨i, h1, h2, h3⟩ := h.each p hpm
      exact ⟨i, h1, by omega, h3⟩
    · intro _
      exact ⟨q, by simp, by rw [hq1]; rfl⟩
    · show byteAt q.2 (k % S) = _
      rw [hjp]
      exact byteAt_part hS hk
  | none =>
    have hn := hit_none e
    have h0 : k % S = 0 := by
      by_cases h0 : k % S = 0
      · exact h0
      · exfalso
        have hk0 : 0 < k := by
          rcases Nat.eq_zero_or_pos k with h | h
          · subst h; simp at h0
          · exact h
        obtain ⟨q, hq, hq1⟩ := h.last hk0
        rw [pred_div hS h0] at hq1
        exact hn (List.mem_map.2 ⟨q, hq, hq1⟩)
    have hc := ceil_le (k := k) hS
    refine ⟨⟨?_, ?_, ?_⟩, ?_⟩
    · rw [ceil_next hS h0]
      have := h.hf
      show min (f + 1) 4294967295 = _
      omega
    · intro p hp
      rcases List.mem_append.1 hp with hp | hp
      · obtain ⟨i, h1, h2, h3⟩ := h.each p ((shift_sub qs).mem hp)
        exact ⟨i, h1, by omega, h3⟩
      · have ep : p = (((k / S : Nat) : Int), part zs (k / S * S) (S : Int).toNat) := List.mem_singleton.1 hp
        rw [ep]
        exact ⟨k / S, rfl, by omega, by rw [Int.toNat_natCast]⟩
    · intro _
      exact ⟨((k / S : Nat), part zs (k / S * S) (S : Int).toNat), by simp, rfl⟩
    · rw [Int.toNat_natCast]
      exact byteAt_part hS hk
theorem iv_run {S : Nat} {zs : List Int} (hS : 0 < S) (hz : zs.length ≤ 60000) (ho : okz zs) : ∀ (n k : Nat) {f : Int} {qs : List Pg}, k + n = zs.length → Iv S zs k f qs →
    Iv S zs zs.length (runM S zs n k f qs).1.1 (runM S zs n k f qs).1.2 ∧ (runM S zs n k f qs).2 = zs.drop k
  | 0, k, f, qs, e, h => by
    have e' : k = zs.length := by omega
    subst e'
    exact ⟨h, by simp [runM]⟩
  | n + 1, k, f, qs, e, h => by
    obtain ⟨h1, h2⟩ := iv_read hS h (by omega : k < zs.length) hz
    have hlt : k < zs.length := by omega
    have hb : 0 ≤ zs.getD k 0 := by
      rw [List.getD_eq_getElem?_getD, List.getElem?_eq_getElem hlt]
      exact (ho _ (List.getElem_mem hlt)).1
    have ih := iv_run hS hz ho n (k + 1) (by omega) h1
    rw [show ((k + 1 : Nat) : Int) = (k : Int) + 1 from rfl] at ih
    unfold runM
    rw [if_neg (by rw [h2]; omega)]
    refine ⟨ih.1, ?_⟩
    show (readM S f qs zs k).2 :: _ = _
    rw [ih.2, h2, List.drop_eq_getElem_cons hlt, List.getD_eq_getElem?_getD, List.getElem?_eq_getElem hlt]
    rfl
theorem iv_start (S : Nat) (zs : List Int) (hS : 0 < S) : Iv S zs 0 0 [] :=
  ⟨by rw [Nat.zero_add, Nat.div_eq_of_lt (by omega)]; rfl, fun q hq => (by cases hq), fun h => (by omega)⟩
/-- Read again at the last place: nothing is fetched. -/
theorem iv_again {S : Nat} {zs : List Int} {f : Int} {qs : List Pg} (hS : 0 < S) (h : Iv S zs zs.length f qs) (h0 : 0 < zs.length) :
    (readM S f qs zs ((zs.length : Int) - 1)).1.1 = f ∧ (readM S f qs zs ((zs.length : Int) - 1)).2 = zs.getD (zs.length - 1) 0 := by
  have e : (zs.length : Int) - 1 = ((zs.length - 1 : Nat) : Int) := by omega
  obtain ⟨q, hq, hq1⟩ := h.last h0
  rw [e]
  unfold readM
  rw [pos_int, mod_int, div_int]
  cases e2 : qs.find? (hit (((zs.length - 1) / S : Nat) : Int)) with
  | some p =>
    obtain ⟨hp, hp1⟩ := hit_find e2
    obtain ⟨j, hj, _, hjp⟩ := h.each p hp
    have ej : j = (zs.length - 1) / S := by omega
    subst ej
    refine ⟨rfl, ?_⟩
    show byteAt p.2 _ = _
    rw [hjp]
    exact byteAt_part hS (by omega)
  | none => exact absurd (List.mem_map.2 ⟨q, hq, hq1⟩) (hit_none e2)
theorem iv_none {S : Nat} {zs : List Int} {f : Int} {qs : List Pg} (h : Iv S zs 0 f qs) : qs = [] := by
  cases qs with
  | nil => rfl
  | cons q t =>
    obtain ⟨j, _, h2, _⟩ := h.each q (by simp)
    omega
end Go.Proofs.Ytopmboioojedbac
