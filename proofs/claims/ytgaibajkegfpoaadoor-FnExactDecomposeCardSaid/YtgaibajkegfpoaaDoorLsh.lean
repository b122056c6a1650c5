/- The law on Shared, walked, over impl's contract. -/
import Derived.Test.YtgaibajkegfpoaaDoorZqn
import Derived.Test.YtgaibajkegfpoaaDoorGsz
import Derived.Test.YtgaibajkegfpoaaDoorGop
namespace Go.Proofs.YtgaibajkegfpoaaDoor
open Go.ChangeShapes Go.WideShapes Go.ChangeAt Go.RowKit Go.Deep
theorem sharedG_len (g : Gr) : (sharedG g).length ≤ g.nodes.length := by
  unfold sharedG
  split
  · exact sharedTo_len _ _
  · exact Nat.zero_le _
end Go.Proofs.YtgaibajkegfpoaaDoor
