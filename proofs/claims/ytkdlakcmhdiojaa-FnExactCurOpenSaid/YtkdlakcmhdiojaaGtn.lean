/- A copy of a list of nodes and of a graph, which is the call's own. -/
import Derived.Test.YtkdlakcmhdiojaaGto
namespace Go.Proofs.Ytkdlakcmhdiojaa
open Go.ChangeShapes Go.WideShapes Go.ChangeAt Go.RowKit Go.Deep
def cellsN : List Nd → List Value → List Value
  | n :: t, v :: u => .int .i64 n.kind :: .string n.tag :: .string n.text :: v :: cellsN t u
  | _, _ => []
theorem cellsN_len : ∀ (ns : List Nd) (vs : List Value), vs.length = ns.length → (cellsN ns vs).length = ns.length * 4
  | [], [], _ => rfl
  | n :: t, v :: u, h => by
    have := cellsN_len t u (by simpa using h)
    simp only [cellsN, List.length_cons, this]
    omega
  | [], _ :: _, h => by simp at h
  | _ :: _, [], h => by simp at h
theorem cellsN_snoc : ∀ (ns : List Nd) (vs : List Value) (n : Nd) (v : Value), vs.length = ns.length → cellsN (ns ++ [n]) (vs ++ [v]) = cellsN ns vs ++ [.int .i64 n.kind, .string n.tag, .string n.text, v]
  | [], [], _, _, _ => rfl
  | m :: t, x :: u, n, v, h => by
    have := cellsN_snoc t u n v (by simpa using h)
    simp only [List.cons_append, cellsN, this]
  | [], _ :: _, _, _, h => by simp at h
  | _ :: _, [], _, _, h => by simp at h
def zNd (j : Nat) : Value := zrowN[j % 4]!
theorem cellsN_step {ns : List Nd} {vs : List Value} {k : Nat} (hk : ns.length = k) (hv : vs.length = ns.length) (n : Nd) (v : Value) (j : Nat) :
    (if j = k * 4 + 3 then v else if j = k * 4 + 2 then Value.string n.text else if j = k * 4 + 1 then Value.string n.tag else if j = k * 4 then Value.int .i64 n.kind else (cellsN ns vs)[j]?.getD (zNd j)) = (cellsN (ns ++ [n]) (vs ++ [v]))[j]?.getD (zNd j) := by
  have hl := cellsN_len ns vs hv
  rw [cellsN_snoc ns vs n v hv, List.getElem?_append]
  by_cases h1 : j < (cellsN ns vs).length
  · rw [if_pos h1]
    repeat rw [if_neg (by omega)]
  · rw [if_neg h1]
    by_cases h9 : j < k * 4 + 4
    · obtain ⟨d, hd, hd4⟩ : ∃ d, j = k * 4 + d ∧ d < 4 := ⟨j - k * 4, by omega, by omega⟩
      have e : j - (cellsN ns vs).length = d := by omega
      rw [e]
      subst hd
      clear e h1 h9 hl
      rcases (show d = 0 ∨ d = 1 ∨ d = 2 ∨ d = 3 by omega) with rfl | rfl | rfl | rfl
      all_goals
        (repeat (first | rw [if_pos (by omega)] | rw [if_neg (by omega)]))
        rfl
    · repeat rw [if_neg (by omega)]
      rw [List.getElem?_eq_none (l := cellsN ns vs) (by omega), List.getElem?_eq_none (by simp; omega)]
/-- The lists of kids, each in a block of its own. -/
structure KidsOwn (lo : Nat) (w : World) (vs : List Value) (ns : List Nd) : Prop where
  len : vs.length = ns.length
  own : ∀ (i : Nat) (v : Value) (n : Nd), vs[i]? = some v → ns[i]? = some n → w.ownsRow lo 3 1 v n.kids.length (ilV n.kids)
  apart : ∀ (i j : Nat) (a b : Value) (x : Nat), i < j → vs[i]? = some a → vs[j]? = some b → a.ownBlock = some x → b.ownBlock ≠ some x
theorem KidsOwn.nil (lo : Nat) (w : World) : KidsOwn lo w [] [] := ⟨rfl, fun i v n h => by simp at h, fun i j a b x _ h => by simp at h⟩
theorem KidsOwn.get {lo : Nat} {w : World} {vs : List Value} {ns : List Nd} (h : KidsOwn lo w vs ns) {i : Nat} {v : Value} (hv : vs[i]? = some v) : ∃ n, ns[i]? = some n := by
  have : i < vs.length := by
    rcases Nat.lt_or_ge i vs.length with h' | h'
    · exact h'
    · rw [List.getElem?_eq_none h'] at hv; cases hv
  exact ⟨_, List.getElem?_eq_getElem (by rw [← h.len]; exact this)⟩
theorem KidsOwn.lt {lo : Nat} {w : World} {vs : List Value} {ns : List Nd} (h : KidsOwn lo w vs ns) {i : Nat} {v : Value} {x : Nat} (hv : vs[i]? = some v) (hx : v.ownBlock = some x) : lo ≤ x ∧ x < w.heap.size := by
  obtain ⟨n, hn⟩ := h.get hv
  exact (h.own i v n hv hn).lt x hx
theorem KidsOwn.block {lo : Nat} {w w' : World} {vs : List Value} {ns : List Nd} (h : KidsOwn lo w vs ns) (hb : ∀ (i : Nat) (v : Value) (x : Nat), vs[i]? = some v → v.ownBlock = some x → w'.heap[x]? = w.heap[x]?) : KidsOwn lo w' vs ns :=
  ⟨h.len, fun i v n hv hn => g_row_block (h.own i v n hv hn) (fun x hx => hb i v x hv hx), h.apart⟩
theorem KidsOwn.later {lo : Nat} {w w' : World} {vs : List Value} {ns : List Nd} (h : KidsOwn lo w vs ns) (hb : Below w.heap.size w w') : KidsOwn lo w' vs ns :=
  h.block (fun _ _ x hv hx => hb.block x (h.lt hv hx).2)
theorem KidsOwn.snoc {lo : Nat} {w w' : World} {vs : List Value} {ns : List Nd} {n : Nd} {v : Value} (h : KidsOwn lo w vs ns) (hb : Below w.heap.size w w') (hlo : lo ≤ w.heap.size) (hv : w'.ownsRow w.heap.size 3 1 v n.kids.length (ilV n.kids)) : KidsOwn lo w' (vs ++ [v]) (ns ++ [n]) := by
  have h' := h.later hb
  have cut : ∀ (i : Nat) (a : Value), (vs ++ [v])[i]? = some a → vs[i]? = some a ∨ (i = vs.length ∧ a = v) := fun i a hi => by
    rcases Nat.lt_or_ge i vs.length with h1 | h1
    · rw [List.getElem?_append_left h1] at hi
      exact .inl hi
    · rw [List.getElem?_append_right h1] at hi
      rcases Nat.eq_zero_or_pos (i - vs.length) with h2 | h2
      · rw [h2] at hi
        obtain rfl : v = a := by simpa using hi
        exact .inr ⟨by omega, rfl⟩
      · rw [List.getElem?_eq_none (by simp; omega)] at hi; cases hi
  refine ⟨by simp [h.len], fun i a m hi hm => ?_, fun i j a b x hij hi hj hx => ?_⟩
  · rcases cut i a hi with h1 | ⟨h1, rfl⟩
    · obtain ⟨m', hm'⟩ := h.get h1
      have hlt : i < ns.length := (List.getElem?_eq_some_iff.1 hm').1
      rw [List.getElem?_append_left hlt] at hm
      exact h'.own i a m h1 hm
    · rw [List.getElem?_append_right (by rw [h1, h.len]; exact Nat.le_refl _), h1, h.len, Nat.sub_self] at hm
      obtain rfl : n = m := by simpa using hm
      exact g_row_lower hv hlo
  · rcases cut i a hi with h1 | ⟨h1, rfl⟩
    · rcases cut j b hj with h2 | ⟨h2, rfl⟩
      · exact h.apart i j a b x hij h1 h2 hx
      · intro hbx
        have := (h.lt h1 hx).2
        have := (hv.lt x hbx).1
        omega
    · rcases cut j b hj with h2 | ⟨h2, _⟩
      · have := (List.getElem?_eq_some_iff.1 h2).1
        omega
      · omega
theorem own_type {w : World} {lo e sz : Nat} {v : Value} {n : Nat} {xs : List Value} (h : w.ownsRow lo e sz v n xs) {x : Nat} (hx : v.ownBlock = some x) : ∃ cs fr, w.heap[x]? = some (.cells cs e fr) := by
  rcases h.2 with ⟨rfl, _⟩ | ⟨g, cap, cur, rfl, _, hg, _⟩
  · simp [Value.ownBlock] at hx
  · simp [Value.ownBlock] at hx
    subst hx
    exact ⟨_, _, hg⟩
end Go.Proofs.Ytkdlakcmhdiojaa
