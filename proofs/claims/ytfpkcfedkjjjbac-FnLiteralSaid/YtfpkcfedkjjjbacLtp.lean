/- What LiteralAt answers, as plain functions, and plain facts on it. -/
import Derived.Test.YtfpkcfedkjjjbacSha
import Derived.Test.YtfpkcfedkjjjbacSbt
import Derived.Test.YtfpkcfedkjjjbacPsh
namespace Go.Proofs.Ytfpkcfedkjjjbac
open Go.RowKit
/-- The lines from q on. -/
def ltGo (s : ByteArray) (d : Nat) : Nat → Nat → Bool → List ByteArray → List ByteArray × Nat
  | 0, q, _, l => (l, q)
  | f + 1, q, b, l =>
    if s.size ≤ q ∨ 0 < markN s q then (l, q)
    else if lone s q = false ∧ ind s q < d then (l, q)
    else ltGo s d f (nx s q) (b || !lone s q) (l ++ [if lone s q = false ∨ (b = true ∧ d < ind s q) then s.extract (q + d) (endL s q) else ByteArray.empty])
/-- The column of the lines. -/
def ltD (s : ByteArray) (q : Nat) (n : Int) (g : Nat) : Nat := if g = 0 then dp s q n else if 60000 < n then 60000 else (if 0 < n then n.toNat else 0) + g
def ltR (s : ByteArray) (n : Int) (x : Nat × Nat × Nat × Nat) : List ByteArray × Nat := ltGo s (ltD s (nx s x.2.2.1) n x.1) (s.size + 1) (nx s x.2.2.1) (decide (0 < x.1)) []
def litAt (s : ByteArray) (k : Nat) (n : Int) : ByteArray × Nat × Nat :=
  if (hdAt s k).2.2.2 ≠ 0 then (ByteArray.empty, (hdAt s k).2.2.1, (hdAt s k).2.2.2)
  else (blockText (ltR s n (hdAt s k)).1 (decide (bt s k = 62)) ((hdAt s k).2.1 : Nat), (ltR s n (hdAt s k)).2, 0)
theorem lt_end {s : ByteArray} {d f q : Nat} {b : Bool} {l : List ByteArray} (h : s.size ≤ q ∨ 0 < markN s q) : ltGo s d f q b l = (l, q) := by
  cases f with
  | zero => rfl
  | succ f => rw [ltGo, if_pos h]
theorem lt_low {s : ByteArray} {d f q : Nat} {b : Bool} {l : List ByteArray} (h : lone s q = false ∧ ind s q < d) : ltGo s d f q b l = (l, q) := by
  cases f with
  | zero => rfl
  | succ f =>
    rw [ltGo]
    split
    · rfl
    · rfl
theorem lt_take {s : ByteArray} {d f q : Nat} {b : Bool} {l : List ByteArray} (h1 : ¬ (s.size ≤ q ∨ 0 < markN s q)) (h2 : ¬ (lone s q = false ∧ ind s q < d)) (h3 : lone s q = false ∨ (b = true ∧ d < ind s q)) :
    ltGo s d (f + 1) q b l = ltGo s d f (nx s q) (b || !lone s q) (l ++ [s.extract (q + d) (endL s q)]) := by rw [ltGo, if_neg h1, if_neg h2, if_pos h3]
theorem lt_none {s : ByteArray} {d f q : Nat} {b : Bool} {l : List ByteArray} (h1 : ¬ (s.size ≤ q ∨ 0 < markN s q)) (h2 : ¬ (lone s q = false ∧ ind s q < d)) (h3 : ¬ (lone s q = false ∨ (b = true ∧ d < ind s q))) :
    ltGo s d (f + 1) q b l = ltGo s d f (nx s q) (b || !lone s q) (l ++ [ByteArray.empty]) := by rw [ltGo, if_neg h1, if_neg h2, if_neg h3]
theorem fwd_wide {P P' : Nat → Bool} {s : ByteArray} (h : ∀ x, P x = true → P' x = true) : ∀ k, fwd P s k ≤ fwd P' s k := by
  refine fwd_ind (P := P) (s := s) ?_ ?_ ?_
  · intro k hk; rw [fwd_end hk, fwd_end hk]; exact Nat.le_refl _
  · intro k _ hp; rw [fwd_stop hp]; exact fwd_ge _ _ _
  · intro k hk hp ih; rw [fwd_step hk hp, fwd_step hk (h _ hp)]; exact ih
theorem ind_end {s : ByteArray} {q : Nat} (h : lnb s q = q) : q + ind s q ≤ endL s q := by
  unfold ind endL
  rw [h]
  have h1 := fwd_wide (P := pB) (P' := pN) (s := s) (by intro x hx; simp [pB] at hx; simp [pN, hx]) q
  have h2 := fwd_ge pB s q
  omega
/-- The line behind begins a line, if it is within. -/
theorem nx_beg {s : ByteArray} {q : Nat} (h : nx s q < s.size) : lnb s (nx s q) = nx s q := by
  unfold nx at h ⊢
  split at h
  · rename_i h1
    rw [if_pos h1]
    rw [lnb, if_pos]
    have := fwd_at pN s q h1
    simp [pN] at this
    exact this
  · omega
theorem rest_le (s : ByteArray) (q : Nat) (h : q ≤ s.size) : (rest s q).1 ≤ s.size := by
  have h1 := fwd_le pW s q h
  unfold rest
  split
  · exact fwd_le pN s _ h1
  · exact h1
theorem hdGo_facts (s : ByteArray) : ∀ (f q d c : Nat), d ≤ 9 → c ≤ 2 → q ≤ s.size → (hdGo s f q d c).1 ≤ 9 ∧ (hdGo s f q d c).2.1 ≤ 2 ∧ (hdGo s f q d c).2.2 ≤ s.size
  | 0, q, d, c, h1, h2, h3 => ⟨h1, h2, h3⟩
  | f + 1, q, d, c, h1, h2, h3 => by
    rw [hdGo]
    split
    · exact ⟨h1, h2, h3⟩
    · split
      · exact hdGo_facts s f _ _ _ (by omega) h2 (by omega)
      · split
        · exact hdGo_facts s f _ _ _ h1 (by omega) (by omega)
        · split
          · exact hdGo_facts s f _ _ _ h1 (by omega) (by omega)
          · exact ⟨h1, h2, h3⟩
theorem hd_facts {s : ByteArray} {k g c r : Nat} (h : hdAt s k = (g, c, r, 0)) : k < s.size ∧ g ≤ 9 ∧ c ≤ 2 ∧ r ≤ s.size := by
  unfold hdAt at h
  split at h
  · injection h with _ h; injection h with _ h; injection h with _ h; cases h
  · rename_i hk
    have hkl : k < s.size := by omega
    have hf := hdGo_facts s (s.size + 1) (k + 1) 0 0 (by omega) (by omega) hkl
    generalize hdGo s (s.size + 1) (k + 1) 0 0 = x at h hf
    have hr := rest_le s x.2.2 hf.2.2
    unfold hdEnd at h
    split at h
    · injection h with h1 h; injection h with h2 h; injection h with h3 h
      rw [← h1, ← h2, ← h3]
      exact ⟨hkl, hf.1, hf.2.1, hr⟩
    · injection h with _ h; injection h with _ h; injection h with _ h; cases h
theorem infoT : (Try.prog.info? 9).map (fun i => (i.zero, i.size, i.bytes)) = some (some (.string ByteArray.empty), 1, 16) := by kernel_rfl
/-- Texts in a row. -/
def cellsT (l : List ByteArray) : List Value := l.map fun t => Value.string t
theorem cellsT_snoc (l : List ByteArray) (t : ByteArray) : cellsT (l ++ [t]) = cellsT l ++ [.string t] := by simp [cellsT]
theorem sls_row {lo e : Nat} {w : World} {v : Value} {l : List ByteArray} (h : w.ownsRow lo e 1 v l.length (cellsT l)) : SlS w v l := by
  by_cases hz : l = []
  · subst hz
    left
    rcases h.2 with ⟨e, _⟩ | ⟨g, cap, cur, e, _⟩
    · exact ⟨rfl, _, _, e⟩
    · exact ⟨rfl, _, _, e⟩
  · right
    have hpos : 0 < l.length := List.length_pos_iff.2 hz
    rcases h.2 with ⟨_, e⟩ | ⟨g, cap, cur, rfl, hb, hg, hn, hm, hs, ht⟩
    · omega
    · refine ⟨hz, g, 0, cap, rfl, (Array.getElem?_eq_some_iff.1 hg).1, hn, fun i p hi => ?_⟩
      have hx : (cellsT l)[i]? = some (.string p) := by unfold cellsT; rw [List.getElem?_map, hi]; rfl
      have h1 := h.cells (g := g) rfl i _ hx
      have e1 : (⟨g, 0, none⟩ : Addr).add i = ⟨g, 0 + i, none⟩ := by unfold Addr.add; split <;> simp_all
      rw [e1] at h1
      exact h1
theorem totS_snoc (l : List ByteArray) (x : ByteArray) : totS (l ++ [x]) = totS l + x.size := by rw [totS_app]; rfl
end Go.Proofs.Ytfpkcfedkjjjbac
