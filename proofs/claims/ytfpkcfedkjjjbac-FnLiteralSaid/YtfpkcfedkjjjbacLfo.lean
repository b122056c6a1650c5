/- The laws on FoldFlow, FoldBlock and BlockText, walked, over impl's contracts. -/
import Derived.Test.YtfpkcfedkjjjbacThf
import Derived.Test.YtfpkcfedkjjjbacTpc
import Derived.Test.YtfpkcfedkjjjbacSbt
namespace Go.Proofs.Ytfpkcfedkjjjbac
open Go.ChangeShapes Go.WideShapes Go.ChangeAt Go.RowKit Go.Deep
/-- What is asked of impl. -/
def ImplFf : Prop := ∀ (w : World) (v : Value) (ps : List Pc), SlC w v ps → totC ps + ps.length ≤ 8388608 →
    Calls Try.prog 10 #[v] w fun e w' => e = .returned (.string (foldFlow ps)) ∧ Below w.heap.size w w'
def ImplFb : Prop := ∀ (w : World) (v : Value) (ss : List ByteArray), SlS w v ss → totS ss + ss.length ≤ 8388608 →
    Calls Try.prog 28 #[v] w fun e w' => e = .returned (.string (foldBlock ss)) ∧ Below w.heap.size w w'
def ImplBt : Prop := ∀ (w : World) (v : Value) (ss : List ByteArray) (fd : Bool) (ch : Int), SlS w v ss → totS ss + ss.length ≤ 8388608 → (Lit.int .i64 ch).wf = true →
    Calls Try.prog 8 #[v, .bool fd, .int .i64 ch] w fun e w' => e = .returned (.string (blockText ss fd ch)) ∧ Below w.heap.size w w'
end Go.Proofs.Ytfpkcfedkjjjbac
