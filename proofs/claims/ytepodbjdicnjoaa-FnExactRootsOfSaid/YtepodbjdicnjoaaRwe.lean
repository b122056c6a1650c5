/- Events in a row. -/
import Derived.Test.YtepodbjdicnjoaaEvl
import Derived.Test.YtepodbjdicnjoaaPsh
namespace Go.Proofs.Ytepodbjdicnjoaa
open Go.RowKit
def rowsE (es : List Ev) : List Value := es.flatMap (fun e => e.row.toList)
end Go.Proofs.Ytepodbjdicnjoaa
