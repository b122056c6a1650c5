/- The contract of spec.SourceByte where the source is right: it answers what readM says, in pages that can be read, and changes nothing that was there. -/
import Derived.Test.YtlifedkieeogdagSw1
import Derived.Test.YtlifedkieeogdagSw2
import Derived.Test.YtlifedkieeogdagSw3
import Derived.Test.YtlifedkieeogdagSw4
import Derived.Test.YtlifedkieeogdagSw5
namespace Go.Proofs.Ytlifedkieeogdag
open Go.Maps Go.RowKit Go.Deep
theorem sbyte_ok (w : World) (size f at_ : Int) (v : Value) (qs : List Pg) (vb : Value) (zs : List Int) (hR : Rdp w v qs) (hS : Sl w.heap.size w vb zs) (hz : zs.length ≤ 1048576) (hO : OkS size qs f) (hoz : okz zs) (hod : okd qs) (g2 : 0 ≤ at_) (g3 : at_ ≤ 60000) :
    Calls Try.prog 18 #[.agg #[.int .i64 size, v, .int .i64 f], vb, .int .i64 at_] w fun e w' => SbPost ((size, (readM size f qs zs at_).1.2, (readM size f qs zs at_).1.1), (readM size f qs zs at_).2) w e w' := by
  cases hfd : qs.find? (hit (at_ / size)) with
  | some q => exact sbyte_1 w size f at_ v qs vb zs hR hS hz hO hoz hod g2 g3 (by rw [hfd]; rfl)
  | none =>
    by_cases h6 : qs.length = 6
    · by_cases hf : f < 4294967295
      · exact sbyte_2 w size f at_ v qs vb zs hR hS hz hO hoz hod g2 g3 ⟨hfd, h6, hf⟩
      · exact sbyte_3 w size f at_ v qs vb zs hR hS hz hO hoz hod g2 g3 ⟨hfd, h6, hf⟩
    · by_cases hf : f < 4294967295
      · exact sbyte_4 w size f at_ v qs vb zs hR hS hz hO hoz hod g2 g3 ⟨hfd, h6, hf⟩
      · exact sbyte_5 w size f at_ v qs vb zs hR hS hz hO hoz hod g2 g3 ⟨hfd, h6, hf⟩
end Go.Proofs.Ytlifedkieeogdag
