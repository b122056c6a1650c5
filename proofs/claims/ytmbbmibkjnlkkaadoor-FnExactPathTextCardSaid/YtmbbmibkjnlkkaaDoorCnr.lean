/- Plain facts: pairs of 13 and 10 made into 10, then every 13 left made into 10, is what going byte by byte gives. -/
import Derived.Lib.Replace
import Derived.Lib.IndexMore
namespace Go.Proofs.YtmbbmibkjnlkkaaDoor.Cln
/-- Byte by byte, as the specification goes. -/
def nrm : List UInt8 → List UInt8
  | [] => []
  | c :: r => if c = 13 then (if r.head? = some 10 then nrm r else 10 :: nrm r) else c :: nrm r
def r1 : List UInt8 → List UInt8
  | [] => []
  | c :: r => if c = 13 ∧ r.head? = some 10 then r1 r else c :: r1 r
def r2 (l : List UInt8) : List UInt8 := l.map fun c => if c = 13 then 10 else c
theorem r2_r1 : ∀ l : List UInt8, r2 (r1 l) = nrm l
  | [] => rfl
  | c :: r => by
    unfold r1 nrm
    by_cases hc : c = 13
    · by_cases hr : r.head? = some 10
      · rw [if_pos ⟨hc, hr⟩, if_pos hc, if_pos hr]; exact r2_r1 r
      · rw [if_neg (fun h => hr h.2), if_pos hc, if_neg hr]
        show (if c = 13 then 10 else c) :: r2 (r1 r) = _
        rw [if_pos hc, r2_r1 r]
    · rw [if_neg (fun h => hc h.1), if_neg hc]
      show (if c = 13 then 10 else c) :: r2 (r1 r) = _
      rw [if_neg hc, r2_r1 r]
theorem nrm_len : ∀ l : List UInt8, (nrm l).length ≤ l.length
  | [] => Nat.le_refl _
  | c :: r => by
    unfold nrm
    have := nrm_len r
    split
    · split
      · simp; omega
      · simp; omega
    · simp; omega
theorem r1_len : ∀ l : List UInt8, (r1 l).length ≤ l.length
  | [] => Nat.le_refl _
  | c :: r => by
    unfold r1
    have := r1_len r
    split <;> simp <;> omega

/-- Replacing k times where there are k instances: one step at the head. -/
theorem rep_nil (old new : List UInt8) (h : old ≠ []) : Lib.replaceK old new (Lib.count [] old) [] = [] := by
  have hi : Lib.index [] old = -1 := by
    unfold Lib.index
    rw [if_neg]
    simpa using h
  rw [Lib.count_miss hi]
  rfl
theorem rep_hit (old new s : List UInt8) (hn : old ≠ []) (h : old.isPrefixOf s = true) :
    Lib.replaceK old new (Lib.count s old) s = new ++ Lib.replaceK old new (Lib.count (s.drop old.length) old) (s.drop old.length) := by
  have hi : Lib.index s old = (0 : Nat) := Lib.index_first (Nat.zero_le _) (by simpa [Lib.occAt] using h) (fun j hj => absurd hj (Nat.not_lt_zero _))
  rw [Lib.count_hit hn hi, Nat.add_comm 1, Lib.replaceK_hit _ _ _ _ 0 hi]
  simp
theorem rep_miss (old new : List UInt8) (c : UInt8) (s : List UInt8) (hn : old ≠ []) (h : old.isPrefixOf (c :: s) = false) :
    Lib.replaceK old new (Lib.count (c :: s) old) (c :: s) = c :: Lib.replaceK old new (Lib.count s old) s := by
  by_cases hi : Lib.index s old = -1
  · have hi' : Lib.index (c :: s) old = -1 := by
      unfold Lib.index
      rw [if_neg (by simp [h]), if_pos (by simp [hi])]
    rw [Lib.count_miss hi, Lib.count_miss hi']
    rfl
  · obtain ⟨i, hi2⟩ : ∃ i : Nat, Lib.index s old = i := ⟨(Lib.index s old).toNat, by have := Lib.index_ge s old; omega⟩
    have hi' : Lib.index (c :: s) old = ((i + 1 : Nat) : Int) := by
      unfold Lib.index
      rw [if_neg (by simp [h]), if_neg (by simp [hi]), hi2]; omega
    rw [Lib.count_hit hn hi2, Lib.count_hit hn hi', Nat.add_comm 1, Nat.add_comm 1, Lib.replaceK_hit _ _ _ _ i hi2, Lib.replaceK_hit _ _ _ _ (i + 1) hi']
    have e : (c :: s).drop (i + 1 + old.length) = s.drop (i + old.length) := by
      rw [show i + 1 + old.length = (i + old.length) + 1 by omega, List.drop_succ_cons]
    rw [e]
    simp
theorem rep1 : ∀ (n : Nat) (l : List UInt8), l.length ≤ n → Lib.replaceK [13, 10] [10] (Lib.count l [13, 10]) l = r1 l
  | _, [], _ => by rw [rep_nil _ _ (by simp)]; rfl
  | 0, c :: r, h => by simp at h
  | n + 1, c :: r, h => by
    have hl : r.length ≤ n := by simpa using h
    unfold r1
    by_cases hc : c = 13 ∧ r.head? = some 10
    · obtain ⟨rfl, hr⟩ := hc
      cases r with
      | nil => simp at hr
      | cons d t =>
        simp at hr
        subst hr
        rw [rep_hit _ _ _ (by simp) (by simp), if_pos (by simp)]
        simp only [List.length_cons] at hl
        show 10 :: Lib.replaceK [13, 10] [10] (Lib.count t [13, 10]) t = r1 (10 :: t)
        rw [rep1 n t (by omega)]
        conv => rhs; unfold r1
        rw [if_neg (fun h => absurd h.1 (by decide))]
    · rw [if_neg hc]
      have hp : ([13, 10] : List UInt8).isPrefixOf (c :: r) = false := by
        rw [Bool.eq_false_iff]
        intro hp
        apply hc
        rw [List.isPrefixOf_iff_prefix] at hp
        obtain ⟨t, ht⟩ := hp
        simp at ht
        exact ⟨ht.1.symm, by rw [← ht.2]; rfl⟩
      rw [rep_miss _ _ _ _ (by simp) hp, rep1 n r hl]
theorem rep2 : ∀ l : List UInt8, Lib.replaceK [13] [10] (Lib.count l [13]) l = r2 l
  | [] => by rw [rep_nil _ _ (by simp)]; rfl
  | c :: r => by
    by_cases hc : c = 13
    · subst hc
      rw [rep_hit _ _ _ (by simp) (by simp)]
      show 10 :: Lib.replaceK [13] [10] (Lib.count r [13]) r = _
      rw [rep2 r]; rfl
    · have hp : ([13] : List UInt8).isPrefixOf (c :: r) = false := by
        simp [List.isPrefixOf]
        exact fun h => hc h.symm
      rw [rep_miss _ _ _ _ (by simp) hp, rep2 r]
      show _ = (if c = 13 then 10 else c) :: r2 r
      rw [if_neg hc]
theorem all1 (l : List UInt8) : Lib.replaceAll l [13, 10] [10] = r1 l := by
  unfold Lib.replaceAll Lib.replace Lib.replaceNum
  rw [if_neg (by decide), if_pos (by omega), rep1 l.length l (Nat.le_refl _)]
theorem all2 (l : List UInt8) : Lib.replaceAll l [13] [10] = r2 l := by
  unfold Lib.replaceAll Lib.replace Lib.replaceNum
  rw [if_neg (by decide), if_pos (by omega), rep2 l]
theorem all12 (l : List UInt8) : Lib.replaceAll (Lib.replaceAll l [13, 10] [10]) [13] [10] = nrm l := by rw [all1, all2, r2_r1]
end Go.Proofs.YtmbbmibkjnlkkaaDoor.Cln
