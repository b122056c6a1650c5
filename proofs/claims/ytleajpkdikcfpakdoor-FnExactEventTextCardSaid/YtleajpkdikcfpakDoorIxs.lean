/- The contracts of impl.EventText and impl.EventsText, as the laws ask them. -/
import Derived.Test.YtleajpkdikcfpakDoorItx
import Derived.Test.YtleajpkdikcfpakDoorLxt
namespace Go.Proofs.YtleajpkdikcfpakDoor
open Go.ChangeShapes Go.WideShapes Go.ChangeAt Go.RowKit
theorem tabLasts : Lasts TabV := fun _ _ h hb => h.lasts hb
theorem implEt : ImplEt TabV := fun e w hv ht _ => by
  unfold Ev.tot at ht
  exact impl_eventText e w hv ⟨by omega, by omega, by omega⟩
theorem strN_nats (s : ByteArray) : strN (natsB s) = s := by
  unfold strN natsB
  apply ba_ext
  rw [strOfNums_data, List.map_map, List.map_map]
  refine Eq.trans (List.map_congr_left (g := id) (fun x _ => ?_)) (List.map_id _)
  simp
end Go.Proofs.YtleajpkdikcfpakDoor
