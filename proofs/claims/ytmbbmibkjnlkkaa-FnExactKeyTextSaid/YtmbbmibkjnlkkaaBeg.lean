/- impl.begins tells whether a place is the beginning of a line. -/
import Derived.Test.YtmbbmibkjnlkkaaNat
namespace Go.Proofs.Ytmbbmibkjnlkkaa
open Go.ChangeShapes Go.WideShapes Go.ChangeAt Go.RowKit
end Go.Proofs.Ytmbbmibkjnlkkaa
