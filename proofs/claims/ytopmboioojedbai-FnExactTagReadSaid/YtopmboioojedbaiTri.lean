/- The contract that the law on TagRead asks of impl.TagRead. -/
import Derived.Test.YtopmboioojedbaiLtr
namespace Go.Proofs.Ytopmboioojedbai
open Go.ChangeShapes Go.WideShapes Go.ChangeAt Go.RowKit Go.Shelf Go.Maps
theorem implTr : ImplTr := fun s v hs w o hz hV hsm hl ho => tagRead_any s v hs w o hz hV hsm hl ho
end Go.Proofs.Ytopmboioojedbai
