/- The stretches of a plain scalar, as a plain list. -/
import Derived.Test.YthlainjkpeioeajPap
namespace Go.Proofs.Ythlainjkpeioeaj
/-- The stretch behind the one that ends at e: from, end, how many lines that are white alone are ahead of it. -/
def furt (s : ByteArray) (n : Int) (fl : Bool) (e : Nat) : Option (Nat × Nat × Nat) :=
  if s.size ≤ wh s e ∨ bt s (wh s e) ≠ 10 then none
  else if 0 < markN s (skl s s.size (wh s e + 1) 0).1 ∨ (fl = false ∧ (ind s (skl s s.size (wh s e + 1) 0).1 : Int) ≤ n) then none
  else if s.size ≤ wh s (skl s s.size (wh s e + 1) 0).1 ∨ bt s (wh s (skl s s.size (wh s e + 1) 0).1) = 10 ∨ bt s (wh s (skl s s.size (wh s e + 1) 0).1) = 35 ∨ plE s (wh s (skl s s.size (wh s e + 1) 0).1) fl = wh s (skl s s.size (wh s e + 1) 0).1 then none
  else some (wh s (skl s s.size (wh s e + 1) 0).1, plE s (wh s (skl s s.size (wh s e + 1) 0).1) fl, (skl s s.size (wh s e + 1) 0).2)
def strs (s : ByteArray) (n : Int) (fl : Bool) : Nat → Nat → List (Nat × Nat × Nat)
  | 0, _ => []
  | f + 1, e => match furt s n fl e with
    | none => []
    | some x => x :: strs s n fl f x.2.1
def pcs (s : ByteArray) : List (Nat × Nat × Nat) → List Pc
  | [] => []
  | x :: t => List.replicate x.2.2 e0 ++ [(s.extract x.1 x.2.1, false)] ++ pcs s t
def lastE : Nat → List (Nat × Nat × Nat) → Nat
  | e, [] => e
  | _, x :: t => lastE x.2.1 t
theorem paGo_strs (s : ByteArray) (n : Int) (fl : Bool) : ∀ (f e : Nat) (l : List Pc), paGo s n fl f e l = (lastE e (strs s n fl f e), l ++ pcs s (strs s n fl f e))
  | 0, e, l => by
    show (e, l) = (e, l ++ [])
    rw [List.append_nil]
  | f + 1, e, l => by
    rw [paGo, strs, furt]
    split
    · show (e, l) = (e, l ++ []); rw [List.append_nil]
    · split
      · show (e, l) = (e, l ++ []); rw [List.append_nil]
      · split
        · show (e, l) = (e, l ++ []); rw [List.append_nil]
        · rw [paGo_strs s n fl f]
          simp only [lastE, pcs, List.append_assoc]
theorem pcs_app (s : ByteArray) : ∀ a b, pcs s (a ++ b) = pcs s a ++ pcs s b
  | [], _ => rfl
  | x :: t, b => by
    show _ ++ pcs s (t ++ b) = (_ ++ pcs s t) ++ pcs s b
    rw [pcs_app s t b]
    simp only [List.append_assoc]
theorem lastE_app : ∀ (a : List (Nat × Nat × Nat)) (e : Nat) (x : Nat × Nat × Nat), lastE e (a ++ [x]) = x.2.1
  | [], _, _ => rfl
  | y :: t, _, x => lastE_app t y.2.1 x
end Go.Proofs.Ythlainjkpeioeaj
