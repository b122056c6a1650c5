/- What spec.SourceByte answers, and how far its loop is. -/
import Derived.Test.YtlifedkieeogdagPse
import Derived.Deep.Light
namespace Go.Proofs.Ytlifedkieeogdag
open Go.Maps Go.RowKit Go.Deep
def SbPost (r : (Int × List Pg × Int) × Int) (w : World) (e : Ending) (w' : World) : Prop :=
  (∃ v, e = .returned (.tuple #[.agg #[.int .i64 r.1.1, v, .int .i64 r.1.2.2], .int .i64 r.2]) ∧ isSl v ∧ RdL w.heap.size w' v r.1.2.1) ∧ Below w.heap.size w w'
def Lp (H b8 : Nat) (size f num : Int) (v : Value) (fs : List Pg) (o : Option Pg) (th : Bool) (vo d : Value) (wr : World) : Prop :=
  wr.heap[H]? = some (.cells #[.int .i64 size, v, .int .i64 f] 29 (0, 0)) ∧ wr.heap[H + 1]? = some (.cells #[.int .i64 0, .slice none 0 0, .int .i64 0] 29 (0, 0)) ∧
  wr.heap[b8]? = some (.cells #[.int .i64 size, vo, .int .i64 f] 29 (0, 0)) ∧ wr.heap[b8 + 1]? = some (.cells #[.int .i64 num, d] 51 (0, 0)) ∧ Own (b8 + 2) wr vo fs ∧ H + 1 < b8 ∧
  match o with
  | none => th = false ∧ d = .slice none 0 0
  | some q => th = true ∧ wr.ownsRow (b8 + 2) 5 1 d q.2.length (u8s q.2) ∧ far d vo
end Go.Proofs.Ytlifedkieeogdag
