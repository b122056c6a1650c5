/- impl's PlainFirst and PlainEnd answer as is asked of them. -/
import Derived.Test.YthlainjkpeioeajLpl
import Derived.Test.YthlainjkpeioeajIpf
import Derived.Test.YthlainjkpeioeajIpe
namespace Go.Proofs.Ythlainjkpeioeaj
open Go.ChangeShapes Go.WideShapes Go.ChangeAt Go.RowKit
theorem implPf : ImplPf := fun s p fl w hs _ => plainFirst_any s p fl w (by unfold mx; omega) _ rfl
theorem implPe : ImplPe := fun s p fl w hs _ => plainEnd_any s p fl w (by unfold mx; omega) _ rfl
end Go.Proofs.Ythlainjkpeioeaj
