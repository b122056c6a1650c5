/- Lists of texts and of pieces, as they lie; and what the three functions on folding answer, as plain functions. -/
import Derived.WalkKit
import Derived.ProofKit
import Derived.Below
import Derived.Deep.Draws
namespace Go.Proofs.Ytonhgejfbieanal
open Go.RowKit
theorem below_dq (w : World) (n : Nat) : Below w.heap.size w (w.drewN n) := by
  induction n with
  | zero => exact Below.refl _ _
  | succ n ih => exact ih.drew
/-- A list of texts, as it lies. -/
def SlS (w : World) (v : Value) (ss : List ByteArray) : Prop :=
  (ss = [] ∧ ∃ a c, v = .slice a 0 c) ∨
  (ss ≠ [] ∧ ∃ b off c, v = .slice (some ⟨b, off, none⟩) ss.length c ∧ b < w.heap.size ∧ ss.length ≤ c ∧ ∀ i s, ss[i]? = some s → w.cell? ⟨b, off + i, none⟩ = some (.string s))
theorem SlS.stays {w w' : World} {v : Value} {ss : List ByteArray} (h : SlS w v ss) (hb : Below w.heap.size w w') : SlS w' v ss := by
  rcases h with h | ⟨h, b, off, c, e, hlt, hlc, hc⟩
  · exact .inl h
  · exact .inr ⟨h, b, off, c, e, Nat.lt_of_lt_of_le hlt hb.size, hlc, fun i p hi => by rw [hb.cell hlt]; exact hc i p hi⟩
theorem SlS.sl {w : World} {v : Value} {ss : List ByteArray} (h : SlS w v ss) : ∃ a c, v = .slice a ss.length c := by
  rcases h with ⟨rfl, a, c, rfl⟩ | ⟨_, b, off, c, rfl, _⟩
  · exact ⟨a, c, rfl⟩
  · exact ⟨_, c, rfl⟩
theorem SlS.cells {w wr : World} {a : Option Addr} {c : Nat} {ss : List ByteArray} (h : SlS w (.slice a ss.length c) ss) (hb : Below w.heap.size w wr) {k : Nat} {s : ByteArray} (hx : ss[k]? = some s) :
    ∃ b off, a = some ⟨b, off, none⟩ ∧ wr.cell? ⟨b, off + k, none⟩ = some (.string s) := by
  rcases h with ⟨e, _⟩ | ⟨_, b, off, _, e, hbl, _, hcell⟩
  · rw [e] at hx; simp at hx
  · injection e with e
    exact ⟨b, off, e, by rw [hb.cell hbl]; exact hcell k _ hx⟩
theorem SlS.le {w : World} {a : Option Addr} {n c : Nat} {ss : List ByteArray} (h : SlS w (.slice a n c) ss) (h0 : ss ≠ []) : ss.length ≤ c := by
  rcases h with ⟨e, _⟩ | ⟨_, b, off, _, e, hbl, hlc, hcell⟩
  · exact absurd e h0
  · injection e with _ _ e
    rw [e]; exact hlc
/-- The beginning of it. -/
theorem SlS.take {w : World} {a : Option Addr} {c : Nat} {ss : List ByteArray} (h : SlS w (.slice a ss.length c) ss) (k : Nat) (hk : k ≤ ss.length) : SlS w (.slice a k c) (ss.take k) := by
  by_cases h0 : k = 0
  · subst h0
    exact .inl ⟨by simp, _, _, rfl⟩
  · rcases h with ⟨e, _⟩ | ⟨h1, b, off, c', e, hlt, hlc, hc⟩
    · rw [e] at hk; simp at hk; omega
    · injection e with e1 e2 e3
      subst e1
      subst e3
      have hl : (ss.take k).length = k := by rw [List.length_take]; omega
      refine .inr ⟨fun e => ?_, b, off, c, by rw [hl], hlt, by omega, fun i s hi => hc i s ?_⟩
      · rw [e] at hl; simp at hl; omega
      · rw [List.getElem?_take] at hi
        split at hi
        · exact hi
        · cases hi
/-- Pieces: a text, and whether it has glue. -/
abbrev Pc := ByteArray × Bool
def SlC (w : World) (v : Value) (ps : List Pc) : Prop :=
  (ps = [] ∧ ∃ a c, v = .slice a 0 c) ∨
  (ps ≠ [] ∧ ∃ b off c, v = .slice (some ⟨b, off, none⟩) ps.length c ∧ b < w.heap.size ∧ ∀ i p, ps[i]? = some p → w.cell? ⟨b, off + i * 2, none⟩ = some (.string p.1) ∧ w.cell? ⟨b, off + i * 2 + 1, none⟩ = some (.bool p.2))
theorem SlC.stays {w w' : World} {v : Value} {ps : List Pc} (h : SlC w v ps) (hb : Below w.heap.size w w') : SlC w' v ps := by
  rcases h with h | ⟨h, b, off, c, e, hlt, hc⟩
  · exact .inl h
  · exact .inr ⟨h, b, off, c, e, Nat.lt_of_lt_of_le hlt hb.size, fun i p hi => by rw [hb.cell hlt, hb.cell hlt]; exact hc i p hi⟩
theorem SlC.sl {w : World} {v : Value} {ps : List Pc} (h : SlC w v ps) : ∃ a c, v = .slice a ps.length c := by
  rcases h with ⟨rfl, a, c, rfl⟩ | ⟨_, b, off, c, rfl, _⟩
  · exact ⟨a, c, rfl⟩
  · exact ⟨_, c, rfl⟩
theorem SlC.cells {w wr : World} {a : Option Addr} {c : Nat} {ps : List Pc} (h : SlC w (.slice a ps.length c) ps) (hb : Below w.heap.size w wr) {k : Nat} {n : ByteArray} {g : Bool} (hx : ps[k]? = some (n, g)) :
    ∃ b off, a = some ⟨b, off, none⟩ ∧ wr.cell? ⟨b, off + k * 2, none⟩ = some (.string n) ∧ wr.cell? ⟨b, off + k * 2 + 1, none⟩ = some (.bool g) := by
  rcases h with ⟨e, _⟩ | ⟨_, b, off, _, e, hbl, hcell⟩
  · rw [e] at hx; simp at hx
  · injection e with e
    exact ⟨b, off, e, by rw [hb.cell hbl]; exact (hcell k _ hx).1, by rw [hb.cell hbl]; exact (hcell k _ hx).2⟩
/-- The sizes, taken together. -/
def totS : List ByteArray → Nat
  | [] => 0
  | s :: t => s.size + totS t
def totC : List Pc → Nat
  | [] => 0
  | p :: t => p.1.size + totC t
theorem totS_app : ∀ (a b : List ByteArray), totS (a ++ b) = totS a + totS b
  | [], b => by simp [totS]
  | h :: t, b => by have := totS_app t b; simp only [List.cons_append, totS, this]; omega
theorem totC_app : ∀ (a b : List Pc), totC (a ++ b) = totC a + totC b
  | [], b => by simp [totC]
  | h :: t, b => by have := totC_app t b; simp only [List.cons_append, totC, this]; omega
theorem totS_take {ss : List ByteArray} {k : Nat} {s : ByteArray} (e : ss[k]? = some s) : totS (ss.take (k + 1)) = totS (ss.take k) + s.size := by
  rw [List.take_add_one, e, totS_app]
  simp [totS]
theorem totC_take {ps : List Pc} {k : Nat} {p : Pc} (e : ps[k]? = some p) : totC (ps.take (k + 1)) = totC (ps.take k) + p.1.size := by
  rw [List.take_add_one, e, totC_app]
  simp [totC]
theorem totS_mem : ∀ {ss : List ByteArray} {s : ByteArray}, s ∈ ss → s.size ≤ totS ss
  | x :: t, h, e => by
    rcases List.mem_cons.1 e with rfl | e
    · simp only [totS]; omega
    · have := totS_mem e
      simp only [totS]; omega
theorem totC_mem : ∀ {ps : List Pc} {p : Pc}, p ∈ ps → p.1.size ≤ totC ps
  | x :: t, h, e => by
    rcases List.mem_cons.1 e with rfl | e
    · simp only [totC]; omega
    · have := totC_mem e
      simp only [totC]; omega
theorem totS_le (ss : List ByteArray) (k : Nat) : totS (ss.take k) ≤ totS ss := by
  have := totS_app (ss.take k) (ss.drop k)
  rw [List.take_append_drop] at this
  omega
theorem totC_le (ps : List Pc) (k : Nat) : totC (ps.take k) ≤ totC ps := by
  have := totC_app (ps.take k) (ps.drop k)
  rw [List.take_append_drop] at this
  omega
def wideS (ss : List ByteArray) : Prop := ∀ s ∈ ss, s.size ≤ 9223372036854775807
def wideC (ps : List Pc) : Prop := ∀ p ∈ ps, p.1.size ≤ 9223372036854775807
/-- Breaks. -/
def b10 : ByteArray := ⟨#[10]⟩
def b32 : ByteArray := ⟨#[32]⟩
def brks : Nat → ByteArray
  | 0 => ByteArray.empty
  | n + 1 => b10 ++ brks n
theorem ba_ext' {a b : ByteArray} (h : a.data = b.data) : a = b := by cases a; cases b; cases h; rfl
theorem app_assoc (a b c : ByteArray) : a ++ b ++ c = a ++ (b ++ c) := ByteArray.append_assoc
theorem app_empty (a : ByteArray) : a ++ ByteArray.empty = a := ByteArray.append_empty
theorem empty_app (a : ByteArray) : ByteArray.empty ++ a = a := ByteArray.empty_append
theorem brks_size : ∀ n, (brks n).size = n
  | 0 => rfl
  | n + 1 => by
    rw [brks, ByteArray.size_append, brks_size n]
    show 1 + n = n + 1
    omega
/-- FoldFlow, piece by piece: L pieces in all, i the number of this one, n counted, g the glue of the one that came last. -/
def ffGo (L : Nat) : Nat → List Pc → ByteArray → Nat → Bool → ByteArray
  | _, [], out, _, _ => out
  | i, x :: t, out, n, g =>
    if 0 < i ∧ i + 1 < L ∧ x.1 = ByteArray.empty ∧ x.2 = false then ffGo L (i + 1) t out (n + 1) g
    else ffGo L (i + 1) t ((if 0 < i ∧ n = 0 ∧ g = false then out ++ b32 else out) ++ brks n ++ x.1) 0 x.2
def foldFlow (l : List Pc) : ByteArray := ffGo l.length 0 l ByteArray.empty 0 false
/-- A line is far. -/
def farS (s : ByteArray) : Bool := decide (0 < s.size) && (decide ((s.data[0]!).toNat = 32) || decide ((s.data[0]!).toNat = 9))
/-- FoldBlock, line by line: n empty ones counted, l the last one that isn't empty. -/
def fbGo : List ByteArray → ByteArray → Nat → Option ByteArray → ByteArray
  | [], out, _, _ => out
  | x :: t, out, n, l =>
    if x = ByteArray.empty then fbGo t out (n + 1) l
    else match l with
      | none => fbGo t (out ++ brks n ++ x) 0 (some x)
      | some y => if farS x || farS y then fbGo t (out ++ brks (n + 1) ++ x) 0 (some x)
        else fbGo t ((if n = 0 then out ++ b32 else out) ++ brks n ++ x) 0 (some x)
def foldBlock (l : List ByteArray) : ByteArray := fbGo l ByteArray.empty 0 none
/-- How many lines there are up to the last one that isn't empty. -/
def endB (l : List ByteArray) : Nat → Nat
  | 0 => 0
  | k + 1 => if l.getD k ByteArray.empty = ByteArray.empty then endB l k else k + 1
def joinB : List ByteArray → ByteArray
  | [] => ByteArray.empty
  | [x] => x
  | x :: t => x ++ b10 ++ joinB t
def blockText (l : List ByteArray) (folded : Bool) (chomp : Int) : ByteArray :=
  (if folded then foldBlock (l.take (endB l l.length)) else joinB (l.take (endB l l.length)))
    ++ (if 0 < endB l l.length ∧ chomp ≠ 1 then b10 else ByteArray.empty) ++ (if chomp = 2 then brks (l.length - endB l l.length) else ByteArray.empty)
theorem endB_le (l : List ByteArray) (k : Nat) : endB l k ≤ k := by
  induction k with
  | zero => exact Nat.le_refl _
  | succ k ih => unfold endB; split <;> omega
end Go.Proofs.Ytonhgejfbieanal
