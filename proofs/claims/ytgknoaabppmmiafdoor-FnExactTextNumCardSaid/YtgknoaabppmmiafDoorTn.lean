/- Plain facts: what a text of digits is worth, and which texts NumText writes. -/
import Derived.Test.YtgknoaabppmmiafDoorNum
import Derived.Lib.AtoiAll
namespace Go.Proofs.YtgknoaabppmmiafDoor

def dvN (acc : Nat) (l : List UInt8) : Nat := l.foldl (fun a c => a * 10 + (c.toNat - 48)) acc
def digs (l : List UInt8) : Prop := ∀ c ∈ l, 48 ≤ c.toNat ∧ c.toNat ≤ 57
theorem dvN_nil (acc : Nat) : dvN acc [] = acc := by unfold dvN; rw [List.foldl_nil]
theorem dvN_cons (acc : Nat) (c : UInt8) (l : List UInt8) : dvN acc (c :: l) = dvN (acc * 10 + (c.toNat - 48)) l := by unfold dvN; rw [List.foldl_cons]
theorem dvN_snoc (acc : Nat) (l : List UInt8) (c : UInt8) : dvN acc (l ++ [c]) = dvN acc l * 10 + (c.toNat - 48) := by
  unfold dvN; rw [List.foldl_append, List.foldl_cons, List.foldl_nil]
theorem dvN_ge : ∀ (l : List UInt8) (acc : Nat), acc ≤ dvN acc l
  | [], acc => by rw [dvN_nil]; exact Nat.le_refl _
  | c :: l, acc => by rw [dvN_cons]; exact Nat.le_trans (by omega) (dvN_ge l _)
theorem dig_of (u : Nat) (h : u < 10) : (UInt8.ofNat (48 + u)).toNat = 48 + u := by simp; omega
theorem dec_val : ∀ (m u : Nat), u ≤ m → dvN 0 (Lib.decDigits u) = u ∧ digs (Lib.decDigits u) ∧ 1 ≤ (Lib.decDigits u).length
  | 0, u, h => by
    rw [Lib.decDigits_one (by omega)]
    refine ⟨by rw [dvN_cons, dvN_nil, dig_of u (by omega)]; omega, ?_, by simp⟩
    intro c hc; rw [List.mem_singleton.1 hc]; rw [dig_of u (by omega)]; omega
  | m + 1, u, h => by
    by_cases h' : u < 10
    · rw [Lib.decDigits_one h']
      refine ⟨by rw [dvN_cons, dvN_nil, dig_of u h']; omega, ?_, by simp⟩
      intro c hc; rw [List.mem_singleton.1 hc]; rw [dig_of u h']; omega
    · rw [Lib.decDigits.eq_1 u, dif_neg h']
      obtain ⟨a, b, _⟩ := dec_val m (u / 10) (by omega)
      refine ⟨by rw [dvN_snoc, a, dig_of (u % 10) (by omega)]; omega, ?_, by simp⟩
      intro c hc
      rw [List.mem_append] at hc
      rcases hc with hc | hc
      · exact b c hc
      · rw [List.mem_singleton.1 hc]; rw [dig_of (u % 10) (by omega)]; omega
theorem parse_digs : ∀ (l : List UInt8) (acc : Nat), digs l → dvN acc l < 1844674407370955162 → Lib.parseUint10 acc l = .ok (dvN acc l)
  | [], acc, _, _ => by rw [dvN_nil, Lib.parseUint10]
  | c :: l, acc, hd, hb => by
    have h1 := hd c (by simp)
    have h2 := dvN_ge l (acc * 10 + (c.toNat - 48))
    rw [dvN_cons] at hb
    rw [Lib.parseUint10, if_pos h1, if_neg (by omega), if_neg (by omega), dvN_cons]
    exact parse_digs l _ (fun x hx => hd x (by simp [hx])) hb
theorem atoi_digs (l : List UInt8) (hd : digs l) (h1 : 1 ≤ l.length) (hb : dvN 0 l ≤ 4294967295) : Lib.atoiAll l = .ok (dvN 0 l : Int) := by
  cases l with
  | nil => simp at h1
  | cons c r =>
    have hc := hd c (by simp)
    have hp : Lib.parseMag (c :: r) = .ok (dvN 0 (c :: r)) := by
      unfold Lib.parseMag
      rw [if_neg (by simp), parse_digs _ 0 hd (by omega)]
    have hs : ¬ (c.toNat = 43 ∨ c.toNat = 45) := by omega
    simp only [Lib.atoiAll]
    rw [if_neg hs, hp]
    have hn : ¬ c.toNat = 45 := by omega
    simp only [hn, not_false_eq_true, true_and, false_and, if_false]
    rw [if_neg (by omega)]
theorem atoi_nt (u : Int) (h0 : 0 ≤ u) (h1 : u ≤ 4294967295) : Lib.atoiAll (nt u).data.toList = .ok u := by
  rw [nt_good u h0 h1]
  obtain ⟨a, b, c⟩ := dec_val u.toNat u.toNat (Nat.le_refl _)
  have := atoi_digs (Lib.decDigits u.toNat) b c (by rw [a]; omega)
  rw [a] at this
  rw [show (ByteArray.mk (Lib.decDigits u.toNat).toArray).data.toList = Lib.decDigits u.toNat from rfl, this, Int.toNat_of_nonneg h0]
theorem nt_facts (u : Int) (h0 : 0 ≤ u) (h1 : u ≤ 4294967295) : 1 ≤ (nt u).size ∧ (nt u).size ≤ 10 ∧ digs (nt u).data.toList ∧ (dvN 0 (nt u).data.toList : Int) = u := by
  rw [nt_good u h0 h1]
  obtain ⟨a, b, c⟩ := dec_val u.toNat u.toNat (Nat.le_refl _)
  have hl := dec_len u.toNat (by omega)
  refine ⟨?_, ?_, by simpa using b, by rw [show (ByteArray.mk (Lib.decDigits u.toNat).toArray).data.toList = Lib.decDigits u.toNat from rfl, a]; omega⟩
  · show 1 ≤ (Lib.decDigits u.toNat).toArray.size
    simpa using c
  · show (Lib.decDigits u.toNat).toArray.size ≤ 10
    simpa using hl

/-- What TextNum answers at s. -/
def Tn (s : ByteArray) (v : Int) (b : Bool) : Prop :=
  (b = true ∧ 0 ≤ v ∧ v ≤ 4294967295 ∧ s = nt v) ∨ (b = false ∧ v = 0 ∧ ∀ u : Int, 0 ≤ u → u ≤ 4294967295 → s ≠ nt u)
theorem Tn_one {s : ByteArray} {v v' : Int} {b b' : Bool} (h : Tn s v b) (h' : Tn s v' b') : v = v' ∧ b = b' := by
  rcases h with ⟨rfl, h0, h1, e⟩ | ⟨rfl, rfl, e⟩
  · rcases h' with ⟨rfl, h0', h1', e'⟩ | ⟨rfl, rfl, e'⟩
    · refine ⟨?_, rfl⟩
      have a := (nt_facts v h0 h1).2.2.2
      have b := (nt_facts v' h0' h1').2.2.2
      rw [← e] at a; rw [← e'] at b
      omega
    · exact absurd e (e' v h0 h1)
  · rcases h' with ⟨rfl, h0', h1', e'⟩ | ⟨rfl, rfl, e'⟩
    · exact absurd e' (e v' h0' h1')
    · exact ⟨rfl, rfl⟩
theorem Tn_empty {s : ByteArray} (h : s.size < 1 ∨ 10 < s.size) : Tn s 0 false :=
  .inr ⟨rfl, rfl, fun u h0 h1 e => by have := nt_facts u h0 h1; rw [← e] at this; omega⟩
theorem Tn_nodig {s : ByteArray} (h : ¬ digs s.data.toList) : Tn s 0 false :=
  .inr ⟨rfl, rfl, fun u h0 h1 e => h (by rw [e]; exact (nt_facts u h0 h1).2.2.1)⟩
theorem Tn_val {s : ByteArray} (n : Int) (h1 : 1 ≤ s.size) (hn : n = (dvN 0 s.data.toList : Int)) (b : Bool) (hb : b = decide (nt n = s)) : Tn s (if b = true then n else 0) b := by
  by_cases h : nt n = s
  · have : b = true := by rw [hb]; simpa using h
    subst this
    left
    rw [if_pos rfl]
    refine ⟨rfl, ?_, ?_, h.symm⟩
    · omega
    · rcases Int.lt_or_le 4294967295 n with h' | h'
      · exfalso
        rw [nt_bad n (.inr h')] at h
        rw [← h] at h1
        exact absurd h1 (by decide)
      · exact h'
  · have : b = false := by rw [hb]; simpa using h
    subst this
    right
    refine ⟨rfl, by simp, fun u h0 h1 e => h ?_⟩
    have := (nt_facts u h0 h1).2.2.2
    rw [← e] at this
    rw [hn, this, e]
theorem Tn_ok {s : ByteArray} (v : Int) (h : Lib.atoiAll s.data.toList = .ok v) (b : Bool) (hb : b = decide (nt v = s)) : Tn s (if b = true then v else 0) b := by
  by_cases h' : nt v = s
  · have : b = true := by rw [hb]; simpa using h'
    subst this
    left
    rw [if_pos rfl]
    by_cases hg : v < 0 ∨ 4294967295 < v
    · exfalso
      rw [nt_bad v hg] at h'
      rw [← h'] at h
      simp [Lib.atoiAll] at h
    · exact ⟨rfl, by omega, by omega, h'.symm⟩
  · have : b = false := by rw [hb]; simpa using h'
    subst this
    right
    refine ⟨rfl, by simp, fun u h0 h1 e => h' ?_⟩
    have := atoi_nt u h0 h1
    rw [← e, h] at this
    injection this with this
    rw [this, e]
theorem Tn_err {s : ByteArray} (h : ∀ v, Lib.atoiAll s.data.toList ≠ .ok v) : Tn s 0 false :=
  .inr ⟨rfl, rfl, fun u h0 h1 e => h u (by rw [e]; exact atoi_nt u h0 h1)⟩
theorem dvN_lt : ∀ (l : List UInt8) (acc k : Nat), digs l → acc < 10 ^ k → dvN acc l < 10 ^ (k + l.length)
  | [], acc, k, _, h => by rw [dvN_nil]; simpa using h
  | c :: l, acc, k, hd, h => by
    have hc := hd c (by simp)
    rw [dvN_cons, List.length_cons, show k + (l.length + 1) = (k + 1) + l.length by omega]
    exact dvN_lt l _ (k + 1) (fun x hx => hd x (by simp [hx])) (by rw [Nat.pow_succ]; omega)
end Go.Proofs.YtgknoaabppmmiafDoor
