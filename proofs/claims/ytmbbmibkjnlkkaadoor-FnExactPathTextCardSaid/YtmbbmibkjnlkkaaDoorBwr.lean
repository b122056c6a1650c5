/- A region that draws its order, whose operations read what was there and whose calls leave it as it was: one walk serves every order. -/
import Derived.Below
import Derived.Deep.Quiet
import Derived.BigQuiet
namespace Go.Proofs.YtmbbmibkjnlkkaaDoor
open Go.RowKit
/-- A later world in which what was there is as it was. -/
structure Bw (w : World) where
  val : World
  ok : Below w.heap.size w val
theorem wp_region_bw {P : Program} {id : Nat} {Q : Exit → Act → World → Prop} {a : Act} {w0 w : World} {l : List Oper} (hm : P.follows .mixedOrders = true) (hB : Region.lexB .any l.toArray = true) (hC : Below w0.heap.size w0 w)
    (h : wpQuiet P l.toArray (fun w' => ∃ n : Bw w0, w' = n.val) (fun a' => ∀ w', (∃ n : Bw w0, w' = n.val) → Q .normal a' w') l a) : (Code.region id l.toArray true).wp P Q a w := by
  refine wp_region_quiet (C := fun w' => ∃ n : Bw w0, w' = n.val) hm hB ⟨⟨w.drew, hC.drew⟩, rfl⟩ ?_
  rw [List.toList_toArray]
  exact h
theorem Bw.calls {P : Program} {f : FuncId} {args : Array Value} {w : World} {v : Value} (h : ∀ w', Below w.heap.size w w' → Calls P f args w' fun e w'' => e = .returned v ∧ Below w'.heap.size w' w'') (m : Bw w) :
    Calls P f args m.val fun e w' => e = .returned v ∧ ∃ m' : Bw w, w' = m'.val := by
  refine (h m.val m.ok).mono ?_
  rintro e w' ⟨rfl, hb⟩
  exact ⟨rfl, ⟨w', m.ok.trans (hb.mono m.ok.size)⟩, rfl⟩
theorem Bw.some (w : World) : Nonempty (Bw w) := ⟨⟨w, Below.refl _ _⟩⟩
end Go.Proofs.YtmbbmibkjnlkkaaDoor
