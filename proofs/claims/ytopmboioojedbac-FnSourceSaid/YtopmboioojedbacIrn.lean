/- The contract of impl.SourceRun. -/
import Derived.Test.YtopmboioojedbacImp
namespace Go.Proofs.Ytopmboioojedbac
open Go.Maps Go.RowKit
def runR (size f : Int) (qs : List Pg) (zs : List Int) (from_ to_ : Int) : (Int × List Pg × Int) × List Int :=
  if okS size qs f = true ∧ 0 ≤ from_ ∧ to_ ≤ 60000 then
    ((size, (runM size zs (to_ - from_).toNat from_ f qs).1.2, (runM size zs (to_ - from_).toNat from_ f qs).1.1), (runM size zs (to_ - from_).toNat from_ f qs).2)
  else ((0, [], 0), [])
def RunPost (r : (Int × List Pg × Int) × List Int) (w : World) (e : Ending) (w' : World) : Prop :=
  ∃ v vb, e = .returned (.tuple #[.agg #[.int .i64 r.1.1, v, .int .i64 r.1.2.2], vb]) ∧ Own w.heap.size w' v r.1.2.1 ∧ w'.ownsRow w.heap.size 5 1 vb r.2.length (u8s r.2) ∧
    (∀ ps, w'.ownsRow w.heap.size 46 2 v ps.length (cellsP ps) → far vb v ∧ ∀ p ∈ ps, far vb p.2) ∧ Below w.heap.size w w'
/-- How far the run is: in a world, at a place, with the pages and the bytes so far. -/
structure Rn (B : Nat) (w : World) (size : Int) (f : Int) (qs : List Pg) (at_ : Int) : Prop where
  sh : ∃ ps, Sh B w size f ps ∧ PQ B w ps qs
  ok : OkS size qs f
  okd : okd qs
  wf : ∀ q ∈ qs, (Lit.int .i64 q.1).wf = true
  at0 : 0 ≤ at_
def goal_ (size : Int) (zs : List Int) (to_ at_ f : Int) (qs : List Pg) (acc : List Int) (R : (Int × List Pg) × List Int) : Prop :=
  (runM size zs (to_ - at_).toNat at_ f qs).1 = R.1 ∧ acc ++ (runM size zs (to_ - at_).toNat at_ f qs).2 = R.2
theorem goal_step {size : Int} {zs : List Int} {to_ at_ f : Int} {qs : List Pg} {acc : List Int} {R : (Int × List Pg) × List Int} (h : goal_ size zs to_ at_ f qs acc R) (hlt : at_ < to_) :
    ((readM size f qs zs at_).2 < 0 → (readM size f qs zs at_).1 = R.1 ∧ acc = R.2) ∧
    (¬ (readM size f qs zs at_).2 < 0 → goal_ size zs to_ (at_ + 1) (readM size f qs zs at_).1.1 (readM size f qs zs at_).1.2 (acc ++ [(readM size f qs zs at_).2]) R) := by
  unfold goal_ at *
  have e : (to_ - at_).toNat = (to_ - (at_ + 1)).toNat + 1 := by omega
  rw [e] at h
  unfold runM at h
  constructor
  · intro hn
    rw [if_pos hn] at h
    exact ⟨h.1, by simpa using h.2⟩
  · intro hn
    rw [if_neg hn] at h
    refine ⟨h.1, ?_⟩
    rw [List.append_assoc]
    exact h.2
theorem goal_end {size : Int} {zs : List Int} {to_ at_ f : Int} {qs : List Pg} {acc : List Int} {R : (Int × List Pg) × List Int} (h : goal_ size zs to_ at_ f qs acc R) (hlt : ¬ at_ < to_) : (f, qs) = R.1 ∧ acc = R.2 := by
  unfold goal_ at h
  have e : (to_ - at_).toNat = 0 := by omega
  rw [e] at h
  exact ⟨h.1, by simpa [runM] using h.2⟩
end Go.Proofs.Ytopmboioojedbac
