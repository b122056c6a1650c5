/- A tour in memory: knots are numbered as they are met; the program's meet. -/
import Derived.Test.YtgaibajkegfpoaaGky
namespace Go.Proofs.Ytgaibajkegfpoaa
open Go.ChangeShapes Go.WideShapes Go.ChangeAt Go.RowKit Go.Deep
theorem ptr_look_nil {P : Program} {w : World} {t kt te e : TypeId} (ht : P.underlying t = some (.map kt e)) (hp : P.underlying kt = some (.pointer te)) {z : Value} (hz : (zeroValue e).run P w = .ok z w) (a : Nat) (c : Bool) :
    (Instr.lookup t (.map none) (ptr a) c).run P w = .ok (if c then .tuple #[z, .bool false] else z) w := by
  simp [Instr.lookup, run_underlying ht, ptr_check hp, Instr.findKey, run_underlying hp, Instr.findNow, hz, Result.andThen]
def natVG (n : Nat) : Value := .int .i64 (n : Int)
theorem zeroNumG (w : World) : (zeroValue 3).run Try.prog w = .ok (.int .i64 0) w := Try.zeroValue3 w
/-- The numbers of what was met. -/
def numF (mb : List Nat) : Nat → Option Nat := fun b => if b ∈ mb then some (ix b mb) else none
theorem numF_put {mb : List Nat} {b : Nat} (h : b ∉ mb) : putP (numF mb) b mb.length = numF (mb ++ [b]) := by
  funext x
  unfold putP numF
  by_cases e : x = b
  · subst e
    rw [if_pos rfl, if_pos (by simp), ix_new h]
  · rw [if_neg e]
    by_cases hx : x ∈ mb
    · rw [if_pos hx, if_pos (by simp [hx]), ix_app _ hx]
    · rw [if_neg hx, if_neg (by simp [hx, e])]
theorem infoKi : ∃ i, Try.prog.info? 101 = some i ∧ i.size ≠ 0 := by
  have h := infoKt
  cases e : Try.prog.info? 101 with
  | none => rw [e] at h; cases h
  | some i =>
    rw [e] at h
    refine ⟨i, rfl, ?_⟩
    have : i.size = 4 := by simpa using h
    omega
/-- The tour at block B, of type t, with what else is in it. -/
structure TrAt (B : Nat) (t : TypeId) (rest : List Value) (lo : Nat) (mb : List Nat) (w : World) : Prop where
  ex : ∃ (nv : Value) (ma : Option Addr) (mn mc : Nat), w.heap[B]? = some (.cells (nv :: .slice ma mn mc :: rest).toArray t (0, 0)) ∧ w.ownsRow lo 70 1 (.slice ma mn mc) mb.length (plV mb) ∧ ((nv = .map none ∧ mb = []) ∨ ∃ M, nv = .map (some M) ∧ lo ≤ M ∧ PmAt natVG w M (numF mb))
section
variable {B : Nat} {t : TypeId} {rest : List Value} {lo : Nat} {mb : List Nat} {w w' : World} {x0 x1 : Value}
theorem tr_0 (h : w.heap[B]? = some (.cells (x0 :: x1 :: rest).toArray t (0, 0))) : w.cell? ⟨B, 0, none⟩ = some x0 := by simp [World.cell?, h]
theorem tr_1 (h : w.heap[B]? = some (.cells (x0 :: x1 :: rest).toArray t (0, 0))) : w.cell? ⟨B, 1, none⟩ = some x1 := by simp [World.cell?, h]
theorem tr_f (h : w.heap[B]? = some (.cells (x0 :: x1 :: rest).toArray t (0, 0))) (i : Nat) : w.frozen? ⟨B, i, none⟩ = false := by simp [World.frozen?, h]
theorem tr_set0 (h : w.heap[B]? = some (.cells (x0 :: x1 :: rest).toArray t (0, 0))) (a : Value) : (w.setCell ⟨B, 0, none⟩ a).heap[B]? = some (.cells (a :: x1 :: rest).toArray t (0, 0)) := by
  simp [World.setCell, Array.getElem?_modify, h]
theorem tr_set1 (h : w.heap[B]? = some (.cells (x0 :: x1 :: rest).toArray t (0, 0))) (a : Value) : (w.setCell ⟨B, 1, none⟩ a).heap[B]? = some (.cells (x0 :: a :: rest).toArray t (0, 0)) := by
  simp [World.setCell, Array.getElem?_modify, h]
theorem TrAt.lt (h : TrAt B t rest lo mb w) : B < w.heap.size := by
  obtain ⟨_, _, _, _, h, _⟩ := h.ex
  exact (Array.getElem?_eq_some_iff.1 h).1
theorem TrAt.stays (h : TrAt B t rest lo mb w) (hb : Below w.heap.size w w') : TrAt B t rest lo mb w' := by
  obtain ⟨nv, ma, mn, mc, h1, h2, h3⟩ := h.ex
  refine ⟨nv, ma, mn, mc, (hb.block _ (Array.getElem?_eq_some_iff.1 h1).1).trans h1, g_row_below h2 hb, ?_⟩
  rcases h3 with h3 | ⟨M, e, hl, hm⟩
  · exact .inl h3
  · exact .inr ⟨M, e, hl, hm.same (hb.block _ hm.lt)⟩
/-- What a tour leaves alone: blocks of another type than its row's, but its own. -/
def KeepT (B : Nat) (w w' : World) : Prop := ∀ (x : Nat) (cs : Array Value) (t : TypeId) (fr : Nat × Nat), w.heap[x]? = some (.cells cs t fr) → t ≠ 70 → x ≠ B → w'.heap[x]? = w.heap[x]?
theorem KeepT.refl (B : Nat) (w : World) : KeepT B w w := fun _ _ _ _ _ _ _ => rfl
theorem KeepT.of (hb : Below w.heap.size w w') : KeepT B w w' := fun x _ _ _ h _ _ => hb.block x (Array.getElem?_eq_some_iff.1 h).1
theorem KeepT.trans {a b c : World} (h : KeepT B a b) (k : KeepT B b c) : KeepT B a c := fun x cs t fr hx ht hB => by
  have h1 := h x cs t fr hx ht hB
  exact (k x cs t fr (h1.trans hx) ht hB).trans h1
theorem KeepT.row {lo2 e sz : Nat} {v : Value} {n : Nat} {xs : List Value} (h : KeepT B w w') (hr : w.ownsRow lo2 e sz v n xs) (he : e ≠ 70) (hB : v.ownBlock ≠ some B) : w'.ownsRow lo2 e sz v n xs := by
  refine ⟨hr.1, ?_⟩
  rcases hr.2 with hn | ⟨g, cap, cur, rfl, hlo, hg, rest⟩
  · exact .inl hn
  · exact .inr ⟨g, cap, cur, rfl, hlo, by rw [h g _ _ _ hg he (fun e2 => hB (by rw [← e2]; rfl))]; exact hg, rest⟩
end
end Go.Proofs.Ytgaibajkegfpoaa
