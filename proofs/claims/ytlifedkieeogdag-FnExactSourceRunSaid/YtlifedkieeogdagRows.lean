/-
  No cell of these rows narrows 'for every input' (looked for: loops, veiled, ifaces, maps, wideKeys, modest, calm, conditions, laid).
  DERIVED. THE GIVEN ROWS OF THIS SEAT. 6 by the template 'for every input the law returns true; each argument reads behind the call as it read before'; 0 by the template 'total and deterministic' (their statements: YtlifedkieeogdagTotals.lean).
  GIVEN WITH THE SEED: the statements are not yours to turn. If you find one false, say at which input.
  Laid BY PROGRAM, IN A SANDBOX (cutbox-rows.mjs): the forced cells as the released guide's own fill.sh prints them over the translation 0e8a9fe9c88f55ce… (all of the seat's roots in one cut). By AI agents, Wed Nov 11 2026. No macro, syntax, notation, axiom, sorry.
-/
import Derived.Test.YtlifedkieeogdagChecked
import GoSem.Claim
import GoSem.ClaimJoined
import GoSem.ClaimMapViews
import Derived.JoinedTies
import Derived.KernelRfl
namespace Go.Proofs.Ytlifedkieeogdag
/- THE CELL 'sum', in the pinned program and in every row, IS THE sha256 OF THE DUMP (.gsa) THAT YtlifedkieeogdagProg.lean LOADS. Nothing in Lean hashes anything: it is a label: what it is worth is what the hold of that sum in a sandbox is worth. -/
noncomputable def Try.pinned : Pinned := { name := "ytlifedkieeogdag", sum := "0e8a9fe9c88f55ceabac303dbdc7cf2349114a4c5e37b579ab72dd98c7f810b1", checked := Try.checked }
namespace Rows
def none {H : Type} : Left H := { results := [], args := [] }

/-- 'laws.FnExactSourceOk': WHATEVER THE INPUT: true; the input reads as it did. -/
def fnExactSourceOkSpec : ChangeSpec := { name := "fnExactSourceOk", fn := fun _ => fun
  | [d] => { results := [.lit (.bool true)], args := [d] }
  | _ => none }
def fnExactSourceOkRow : OpenClaim := { program := "ytlifedkieeogdag", sum := "0e8a9fe9c88f55ceabac303dbdc7cf2349114a4c5e37b579ab72dd98c7f810b1", func := "loop.example/g00666/laws.FnExactSourceOk", spec := "fnExactSourceOk", apart := false }
def FnExactSourceOkSaid : Prop := fnExactSourceOkRow.holds Try.pinned (OpenSpec.ofChange fnExactSourceOkSpec)

/-- ITS FALSE NEIGHBOUR: 'it returns false'. Refute it at one input. -/
def fnExactSourceOkWrong : ChangeSpec := { name := "fnExactSourceOk", fn := fun _ => fun
  | [d] => { results := [.lit (.bool false)], args := [d] }
  | _ => none }
def FnExactSourceOkWrongFalsely : Prop := fnExactSourceOkRow.holds Try.pinned (OpenSpec.ofChange fnExactSourceOkWrong)

/-- 'laws.FnExactSourceNew': WHATEVER THE INPUT: true; the input reads as it did. -/
def fnExactSourceNewSpec : ChangeSpec := { name := "fnExactSourceNew", fn := fun _ => fun
  | [d] => { results := [.lit (.bool true)], args := [d] }
  | _ => none }
def fnExactSourceNewRow : OpenClaim := { program := "ytlifedkieeogdag", sum := "0e8a9fe9c88f55ceabac303dbdc7cf2349114a4c5e37b579ab72dd98c7f810b1", func := "loop.example/g00666/laws.FnExactSourceNew", spec := "fnExactSourceNew", apart := false }
def FnExactSourceNewSaid : Prop := fnExactSourceNewRow.holds Try.pinned (OpenSpec.ofChange fnExactSourceNewSpec)

/-- ITS FALSE NEIGHBOUR: 'it returns false'. Refute it at one input. -/
def fnExactSourceNewWrong : ChangeSpec := { name := "fnExactSourceNew", fn := fun _ => fun
  | [d] => { results := [.lit (.bool false)], args := [d] }
  | _ => none }
def FnExactSourceNewWrongFalsely : Prop := fnExactSourceNewRow.holds Try.pinned (OpenSpec.ofChange fnExactSourceNewWrong)

/-- 'laws.FnExactSourceByte': WHATEVER THE INPUT: true; the input reads as it did. -/
def fnExactSourceByteSpec : ChangeSpec := { name := "fnExactSourceByte", fn := fun _ => fun
  | [d1, d2, d3] => { results := [.lit (.bool true)], args := [d1, d2, d3] }
  | _ => none }
def fnExactSourceByteRow : OpenClaim := { program := "ytlifedkieeogdag", sum := "0e8a9fe9c88f55ceabac303dbdc7cf2349114a4c5e37b579ab72dd98c7f810b1", func := "loop.example/g00666/laws.FnExactSourceByte", spec := "fnExactSourceByte", apart := false }
def FnExactSourceByteSaid : Prop := fnExactSourceByteRow.holds Try.pinned (OpenSpec.ofChange fnExactSourceByteSpec)

/-- ITS FALSE NEIGHBOUR: 'it returns false'. Refute it at one input. -/
def fnExactSourceByteWrong : ChangeSpec := { name := "fnExactSourceByte", fn := fun _ => fun
  | [d1, d2, d3] => { results := [.lit (.bool false)], args := [d1, d2, d3] }
  | _ => none }
def FnExactSourceByteWrongFalsely : Prop := fnExactSourceByteRow.holds Try.pinned (OpenSpec.ofChange fnExactSourceByteWrong)

/-- 'laws.FnExactSourceRun': WHATEVER THE INPUT: true; the input reads as it did. -/
def fnExactSourceRunSpec : ChangeSpec := { name := "fnExactSourceRun", fn := fun _ => fun
  | [d1, d2, d3, d4] => { results := [.lit (.bool true)], args := [d1, d2, d3, d4] }
  | _ => none }
def fnExactSourceRunRow : OpenClaim := { program := "ytlifedkieeogdag", sum := "0e8a9fe9c88f55ceabac303dbdc7cf2349114a4c5e37b579ab72dd98c7f810b1", func := "loop.example/g00666/laws.FnExactSourceRun", spec := "fnExactSourceRun", apart := false }
def FnExactSourceRunSaid : Prop := fnExactSourceRunRow.holds Try.pinned (OpenSpec.ofChange fnExactSourceRunSpec)

/-- ITS FALSE NEIGHBOUR: 'it returns false'. Refute it at one input. -/
def fnExactSourceRunWrong : ChangeSpec := { name := "fnExactSourceRun", fn := fun _ => fun
  | [d1, d2, d3, d4] => { results := [.lit (.bool false)], args := [d1, d2, d3, d4] }
  | _ => none }
def FnExactSourceRunWrongFalsely : Prop := fnExactSourceRunRow.holds Try.pinned (OpenSpec.ofChange fnExactSourceRunWrong)

/-- 'laws.FnExactLineAt': WHATEVER THE INPUT: true; the input reads as it did. -/
def fnExactLineAtSpec : ChangeSpec := { name := "fnExactLineAt", fn := fun _ => fun
  | [d1, d2] => { results := [.lit (.bool true)], args := [d1, d2] }
  | _ => none }
def fnExactLineAtRow : OpenClaim := { program := "ytlifedkieeogdag", sum := "0e8a9fe9c88f55ceabac303dbdc7cf2349114a4c5e37b579ab72dd98c7f810b1", func := "loop.example/g00666/laws.FnExactLineAt", spec := "fnExactLineAt", apart := false }
def FnExactLineAtSaid : Prop := fnExactLineAtRow.holds Try.pinned (OpenSpec.ofChange fnExactLineAtSpec)

/-- ITS FALSE NEIGHBOUR: 'it returns false'. Refute it at one input. -/
def fnExactLineAtWrong : ChangeSpec := { name := "fnExactLineAt", fn := fun _ => fun
  | [d1, d2] => { results := [.lit (.bool false)], args := [d1, d2] }
  | _ => none }
def FnExactLineAtWrongFalsely : Prop := fnExactLineAtRow.holds Try.pinned (OpenSpec.ofChange fnExactLineAtWrong)

/-- 'laws.FnExactCol': WHATEVER THE INPUT: true; the input reads as it did. -/
def fnExactColSpec : ChangeSpec := { name := "fnExactCol", fn := fun _ => fun
  | [d1, d2] => { results := [.lit (.bool true)], args := [d1, d2] }
  | _ => none }
def fnExactColRow : OpenClaim := { program := "ytlifedkieeogdag", sum := "0e8a9fe9c88f55ceabac303dbdc7cf2349114a4c5e37b579ab72dd98c7f810b1", func := "loop.example/g00666/laws.FnExactCol", spec := "fnExactCol", apart := false }
def FnExactColSaid : Prop := fnExactColRow.holds Try.pinned (OpenSpec.ofChange fnExactColSpec)

/-- ITS FALSE NEIGHBOUR: 'it returns false'. Refute it at one input. -/
def fnExactColWrong : ChangeSpec := { name := "fnExactCol", fn := fun _ => fun
  | [d1, d2] => { results := [.lit (.bool false)], args := [d1, d2] }
  | _ => none }
def FnExactColWrongFalsely : Prop := fnExactColRow.holds Try.pinned (OpenSpec.ofChange fnExactColWrong)

/- THE SECOND FORM. 'bulk': how many values and letters a reading holds, each counted each time it is reached (what is shared counts as often as it is met; a slice's spare places count too). A statement '..UptoSaid' is the law's where the arguments, and the package variables that the reading takes, are together of bulk at most 1048576: NARROWER than '..Said'. Prove '..Said' where nothing that the law and all that it calls make is longer than what came in: it says more and counts as full. Else prove '..UptoSaid'. A law counts once. -/
mutual
def uptoBulk {H : Type} : DataW H → Nat
  | .lit (.string bytes) => bytes.length + 1
  | .lit _ => 1
  | .nil => 1
  | .ptr d => uptoBulk d + 1
  | .slice elems spare => uptoBulkAll elems + uptoBulkAll spare + 1
  | .agg parts => uptoBulkAll parts + 1
  | .iface _ d => uptoBulk d + 1
  | .map entries => uptoBulkEntries entries + 1
  | .held _ => 1
def uptoBulkAll {H : Type} : List (DataW H) → Nat
  | [] => 0
  | d :: r => uptoBulk d + uptoBulkAll r
def uptoBulkEntries {H : Type} : List (Lit × DataW H) → Nat
  | [] => 0
  | x :: r => uptoBulkEntry x + uptoBulkEntries r
def uptoBulkEntry {H : Type} : Lit × DataW H → Nat
  | (.string bytes, d) => bytes.length + uptoBulk d + 1
  | (_, d) => uptoBulk d + 1
 end
def uptoSmall : (H : Type) → List (DataW H) → Bool := fun _ ds => decide (uptoBulkAll ds ≤ 1048576)
def OpenSpec.upto (s : _root_.Go.ChangeSpec) : _root_.Go.OpenSpec := { _root_.Go.OpenSpec.ofChange s with cond := some uptoSmall }

/-- 'laws.FnExactSourceOk', WHERE WHAT IT READS IS OF BULK AT MOST 1048576: true; the input reads as it did. -/
def fnExactSourceOkUptoRow : OpenClaim := { program := "ytlifedkieeogdag", sum := "0e8a9fe9c88f55ceabac303dbdc7cf2349114a4c5e37b579ab72dd98c7f810b1", func := "loop.example/g00666/laws.FnExactSourceOk", spec := "fnExactSourceOk", apart := false, narrowed := true }
def FnExactSourceOkUptoSaid : Prop := fnExactSourceOkUptoRow.holds Try.pinned (OpenSpec.upto fnExactSourceOkSpec)

/-- 'laws.FnExactSourceNew', WHERE WHAT IT READS IS OF BULK AT MOST 1048576: true; the input reads as it did. -/
def fnExactSourceNewUptoRow : OpenClaim := { program := "ytlifedkieeogdag", sum := "0e8a9fe9c88f55ceabac303dbdc7cf2349114a4c5e37b579ab72dd98c7f810b1", func := "loop.example/g00666/laws.FnExactSourceNew", spec := "fnExactSourceNew", apart := false, narrowed := true }
def FnExactSourceNewUptoSaid : Prop := fnExactSourceNewUptoRow.holds Try.pinned (OpenSpec.upto fnExactSourceNewSpec)

/-- 'laws.FnExactSourceByte', WHERE WHAT IT READS IS OF BULK AT MOST 1048576: true; the input reads as it did. -/
def fnExactSourceByteUptoRow : OpenClaim := { program := "ytlifedkieeogdag", sum := "0e8a9fe9c88f55ceabac303dbdc7cf2349114a4c5e37b579ab72dd98c7f810b1", func := "loop.example/g00666/laws.FnExactSourceByte", spec := "fnExactSourceByte", apart := false, narrowed := true }
def FnExactSourceByteUptoSaid : Prop := fnExactSourceByteUptoRow.holds Try.pinned (OpenSpec.upto fnExactSourceByteSpec)

/-- 'laws.FnExactSourceRun', WHERE WHAT IT READS IS OF BULK AT MOST 1048576: true; the input reads as it did. -/
def fnExactSourceRunUptoRow : OpenClaim := { program := "ytlifedkieeogdag", sum := "0e8a9fe9c88f55ceabac303dbdc7cf2349114a4c5e37b579ab72dd98c7f810b1", func := "loop.example/g00666/laws.FnExactSourceRun", spec := "fnExactSourceRun", apart := false, narrowed := true }
def FnExactSourceRunUptoSaid : Prop := fnExactSourceRunUptoRow.holds Try.pinned (OpenSpec.upto fnExactSourceRunSpec)

/-- 'laws.FnExactLineAt', WHERE WHAT IT READS IS OF BULK AT MOST 1048576: true; the input reads as it did. -/
def fnExactLineAtUptoRow : OpenClaim := { program := "ytlifedkieeogdag", sum := "0e8a9fe9c88f55ceabac303dbdc7cf2349114a4c5e37b579ab72dd98c7f810b1", func := "loop.example/g00666/laws.FnExactLineAt", spec := "fnExactLineAt", apart := false, narrowed := true }
def FnExactLineAtUptoSaid : Prop := fnExactLineAtUptoRow.holds Try.pinned (OpenSpec.upto fnExactLineAtSpec)

/-- 'laws.FnExactCol', WHERE WHAT IT READS IS OF BULK AT MOST 1048576: true; the input reads as it did. -/
def fnExactColUptoRow : OpenClaim := { program := "ytlifedkieeogdag", sum := "0e8a9fe9c88f55ceabac303dbdc7cf2349114a4c5e37b579ab72dd98c7f810b1", func := "loop.example/g00666/laws.FnExactCol", spec := "fnExactCol", apart := false, narrowed := true }
def FnExactColUptoSaid : Prop := fnExactColUptoRow.holds Try.pinned (OpenSpec.upto fnExactColSpec)

end Rows
end Go.Proofs.Ytlifedkieeogdag
