/-
  No cell of these rows narrows 'for every input' (looked for: loops, veiled, ifaces, maps, wideKeys, modest, calm, conditions, laid).
  DERIVED. THE GIVEN ROWS OF THIS SEAT. 5 by the template 'for every input the law returns true; each argument reads behind the call as it read before'; 0 by the template 'total and deterministic' (their statements: YthlainjkpeioeajTotals.lean).
  GIVEN WITH THE SEED: the statements are not yours to turn. If you find one false, say at which input.
  Laid BY PROGRAM, IN A SANDBOX (cutbox-rows.mjs): the forced cells as the released guide's own fill.sh prints them over the translation 59237daf58d7d046… (all of the seat's roots in one cut). By AI agents, Wed Nov 11 2026. No macro, syntax, notation, axiom, sorry.
-/
import Derived.Test.YthlainjkpeioeajChecked
import GoSem.Claim
import GoSem.ClaimJoined
import GoSem.ClaimMapViews
import Derived.JoinedTies
import Derived.KernelRfl
namespace Go.Proofs.Ythlainjkpeioeaj
/- THE CELL 'sum', in the pinned program and in every row, IS THE sha256 OF THE DUMP (.gsa) THAT YthlainjkpeioeajProg.lean LOADS. Nothing in Lean hashes anything: it is a label: what it is worth is what the hold of that sum in a sandbox is worth. -/
noncomputable def Try.pinned : Pinned := { name := "ythlainjkpeioeaj", sum := "59237daf58d7d0466a5b6fd612fdb79f33e18fd3b97d46833f7dddd7e9bca368", checked := Try.checked }
namespace Rows
def none {H : Type} : Left H := { results := [], args := [] }

/-- 'laws.FnExactFoldBlock': WHATEVER THE INPUT: true; the input reads as it did. -/
def fnExactFoldBlockSpec : ChangeSpec := { name := "fnExactFoldBlock", fn := fun _ => fun
  | [d] => { results := [.lit (.bool true)], args := [d] }
  | _ => none }
def fnExactFoldBlockRow : OpenClaim := { program := "ythlainjkpeioeaj", sum := "59237daf58d7d0466a5b6fd612fdb79f33e18fd3b97d46833f7dddd7e9bca368", func := "loop.example/g00666/laws.FnExactFoldBlock", spec := "fnExactFoldBlock", inPlace := ["internal/abi.NoEscape", "internal/bytealg.MakeNoZero", "internal/bytealg.IndexByteString"], unfollowed := true, recurses := true, apart := false }
def FnExactFoldBlockSaid : Prop := fnExactFoldBlockRow.holds Try.pinned (OpenSpec.ofChange fnExactFoldBlockSpec)

/-- ITS FALSE NEIGHBOUR: 'it returns false'. Refute it at one input. -/
def fnExactFoldBlockWrong : ChangeSpec := { name := "fnExactFoldBlock", fn := fun _ => fun
  | [d] => { results := [.lit (.bool false)], args := [d] }
  | _ => none }
def FnExactFoldBlockWrongFalsely : Prop := fnExactFoldBlockRow.holds Try.pinned (OpenSpec.ofChange fnExactFoldBlockWrong)

/-- 'laws.FnExactBlockText': WHATEVER THE INPUT: true; the input reads as it did. -/
def fnExactBlockTextSpec : ChangeSpec := { name := "fnExactBlockText", fn := fun _ => fun
  | [d1, d2, d3] => { results := [.lit (.bool true)], args := [d1, d2, d3] }
  | _ => none }
def fnExactBlockTextRow : OpenClaim := { program := "ythlainjkpeioeaj", sum := "59237daf58d7d0466a5b6fd612fdb79f33e18fd3b97d46833f7dddd7e9bca368", func := "loop.example/g00666/laws.FnExactBlockText", spec := "fnExactBlockText", inPlace := ["internal/abi.NoEscape", "internal/bytealg.MakeNoZero", "internal/bytealg.IndexByteString"], unfollowed := true, recurses := true, apart := false }
def FnExactBlockTextSaid : Prop := fnExactBlockTextRow.holds Try.pinned (OpenSpec.ofChange fnExactBlockTextSpec)

/-- ITS FALSE NEIGHBOUR: 'it returns false'. Refute it at one input. -/
def fnExactBlockTextWrong : ChangeSpec := { name := "fnExactBlockText", fn := fun _ => fun
  | [d1, d2, d3] => { results := [.lit (.bool false)], args := [d1, d2, d3] }
  | _ => none }
def FnExactBlockTextWrongFalsely : Prop := fnExactBlockTextRow.holds Try.pinned (OpenSpec.ofChange fnExactBlockTextWrong)

/-- 'laws.FnExactPlainFirst': WHATEVER THE INPUT: true; the input reads as it did. -/
def fnExactPlainFirstSpec : ChangeSpec := { name := "fnExactPlainFirst", fn := fun _ => fun
  | [d1, d2, d3] => { results := [.lit (.bool true)], args := [d1, d2, d3] }
  | _ => none }
def fnExactPlainFirstRow : OpenClaim := { program := "ythlainjkpeioeaj", sum := "59237daf58d7d0466a5b6fd612fdb79f33e18fd3b97d46833f7dddd7e9bca368", func := "loop.example/g00666/laws.FnExactPlainFirst", spec := "fnExactPlainFirst", inPlace := ["internal/bytealg.IndexByteString"], unfollowed := true, recurses := true, apart := false }
def FnExactPlainFirstSaid : Prop := fnExactPlainFirstRow.holds Try.pinned (OpenSpec.ofChange fnExactPlainFirstSpec)

/-- ITS FALSE NEIGHBOUR: 'it returns false'. Refute it at one input. -/
def fnExactPlainFirstWrong : ChangeSpec := { name := "fnExactPlainFirst", fn := fun _ => fun
  | [d1, d2, d3] => { results := [.lit (.bool false)], args := [d1, d2, d3] }
  | _ => none }
def FnExactPlainFirstWrongFalsely : Prop := fnExactPlainFirstRow.holds Try.pinned (OpenSpec.ofChange fnExactPlainFirstWrong)

/-- 'laws.FnExactPlainEnd': WHATEVER THE INPUT: true; the input reads as it did. -/
def fnExactPlainEndSpec : ChangeSpec := { name := "fnExactPlainEnd", fn := fun _ => fun
  | [d1, d2, d3] => { results := [.lit (.bool true)], args := [d1, d2, d3] }
  | _ => none }
def fnExactPlainEndRow : OpenClaim := { program := "ythlainjkpeioeaj", sum := "59237daf58d7d0466a5b6fd612fdb79f33e18fd3b97d46833f7dddd7e9bca368", func := "loop.example/g00666/laws.FnExactPlainEnd", spec := "fnExactPlainEnd", inPlace := ["internal/bytealg.IndexByteString"], unfollowed := true, recurses := true, apart := false }
def FnExactPlainEndSaid : Prop := fnExactPlainEndRow.holds Try.pinned (OpenSpec.ofChange fnExactPlainEndSpec)

/-- ITS FALSE NEIGHBOUR: 'it returns false'. Refute it at one input. -/
def fnExactPlainEndWrong : ChangeSpec := { name := "fnExactPlainEnd", fn := fun _ => fun
  | [d1, d2, d3] => { results := [.lit (.bool false)], args := [d1, d2, d3] }
  | _ => none }
def FnExactPlainEndWrongFalsely : Prop := fnExactPlainEndRow.holds Try.pinned (OpenSpec.ofChange fnExactPlainEndWrong)

/-- 'laws.FnExactPlainAt': WHATEVER THE INPUT: true; the input reads as it did. -/
def fnExactPlainAtSpec : ChangeSpec := { name := "fnExactPlainAt", fn := fun _ => fun
  | [d1, d2, d3, d4] => { results := [.lit (.bool true)], args := [d1, d2, d3, d4] }
  | _ => none }
def fnExactPlainAtRow : OpenClaim := { program := "ythlainjkpeioeaj", sum := "59237daf58d7d0466a5b6fd612fdb79f33e18fd3b97d46833f7dddd7e9bca368", func := "loop.example/g00666/laws.FnExactPlainAt", spec := "fnExactPlainAt", inPlace := ["internal/bytealg.IndexByteString", "internal/abi.NoEscape", "internal/bytealg.MakeNoZero"], unfollowed := true, recurses := true, apart := false }
def FnExactPlainAtSaid : Prop := fnExactPlainAtRow.holds Try.pinned (OpenSpec.ofChange fnExactPlainAtSpec)

/-- ITS FALSE NEIGHBOUR: 'it returns false'. Refute it at one input. -/
def fnExactPlainAtWrong : ChangeSpec := { name := "fnExactPlainAt", fn := fun _ => fun
  | [d1, d2, d3, d4] => { results := [.lit (.bool false)], args := [d1, d2, d3, d4] }
  | _ => none }
def FnExactPlainAtWrongFalsely : Prop := fnExactPlainAtRow.holds Try.pinned (OpenSpec.ofChange fnExactPlainAtWrong)

/- THE SECOND FORM. 'bulk': how many values and letters a reading holds, each counted each time it is reached (what is shared counts as often as it is met; a slice's spare places count too). A statement '..UptoSaid' is the law's where the arguments, and the package variables that the reading takes, are together of bulk at most 1048576: NARROWER than '..Said'. Prove '..Said' where nothing that the law and all that it calls make is longer than what came in: it says more and counts as full. Else prove '..UptoSaid'. A law counts once. -/
mutual
def uptoBulk {H : Type} : DataW H → Nat
  | .lit (.string bytes) => bytes.length + 1
  | .lit _ => 1
  | .nil => 1
  | .ptr d => uptoBulk d + 1
  | .slice elems spare => uptoBulkAll elems + uptoBulkAll spare + 1
  | .agg parts => uptoBulkAll parts + 1
  | .iface _ d => uptoBulk d + 1
  | .map entries => uptoBulkEntries entries + 1
  | .held _ => 1
def uptoBulkAll {H : Type} : List (DataW H) → Nat
  | [] => 0
  | d :: r => uptoBulk d + uptoBulkAll r
def uptoBulkEntries {H : Type} : List (Lit × DataW H) → Nat
  | [] => 0
  | x :: r => uptoBulkEntry x + uptoBulkEntries r
def uptoBulkEntry {H : Type} : Lit × DataW H → Nat
  | (.string bytes, d) => bytes.length + uptoBulk d + 1
  | (_, d) => uptoBulk d + 1
 end
def uptoSmall : (H : Type) → List (DataW H) → Bool := fun _ ds => decide (uptoBulkAll ds ≤ 1048576)
def OpenSpec.upto (s : _root_.Go.ChangeSpec) : _root_.Go.OpenSpec := { _root_.Go.OpenSpec.ofChange s with cond := some uptoSmall }

/-- 'laws.FnExactFoldBlock', WHERE WHAT IT READS IS OF BULK AT MOST 1048576: true; the input reads as it did. -/
def fnExactFoldBlockUptoRow : OpenClaim := { program := "ythlainjkpeioeaj", sum := "59237daf58d7d0466a5b6fd612fdb79f33e18fd3b97d46833f7dddd7e9bca368", func := "loop.example/g00666/laws.FnExactFoldBlock", spec := "fnExactFoldBlock", inPlace := ["internal/abi.NoEscape", "internal/bytealg.MakeNoZero", "internal/bytealg.IndexByteString"], unfollowed := true, recurses := true, apart := false, narrowed := true }
def FnExactFoldBlockUptoSaid : Prop := fnExactFoldBlockUptoRow.holds Try.pinned (OpenSpec.upto fnExactFoldBlockSpec)

/-- 'laws.FnExactBlockText', WHERE WHAT IT READS IS OF BULK AT MOST 1048576: true; the input reads as it did. -/
def fnExactBlockTextUptoRow : OpenClaim := { program := "ythlainjkpeioeaj", sum := "59237daf58d7d0466a5b6fd612fdb79f33e18fd3b97d46833f7dddd7e9bca368", func := "loop.example/g00666/laws.FnExactBlockText", spec := "fnExactBlockText", inPlace := ["internal/abi.NoEscape", "internal/bytealg.MakeNoZero", "internal/bytealg.IndexByteString"], unfollowed := true, recurses := true, apart := false, narrowed := true }
def FnExactBlockTextUptoSaid : Prop := fnExactBlockTextUptoRow.holds Try.pinned (OpenSpec.upto fnExactBlockTextSpec)

/-- 'laws.FnExactPlainFirst', WHERE WHAT IT READS IS OF BULK AT MOST 1048576: true; the input reads as it did. -/
def fnExactPlainFirstUptoRow : OpenClaim := { program := "ythlainjkpeioeaj", sum := "59237daf58d7d0466a5b6fd612fdb79f33e18fd3b97d46833f7dddd7e9bca368", func := "loop.example/g00666/laws.FnExactPlainFirst", spec := "fnExactPlainFirst", inPlace := ["internal/bytealg.IndexByteString"], unfollowed := true, recurses := true, apart := false, narrowed := true }
def FnExactPlainFirstUptoSaid : Prop := fnExactPlainFirstUptoRow.holds Try.pinned (OpenSpec.upto fnExactPlainFirstSpec)

/-- 'laws.FnExactPlainEnd', WHERE WHAT IT READS IS OF BULK AT MOST 1048576: true; the input reads as it did. -/
def fnExactPlainEndUptoRow : OpenClaim := { program := "ythlainjkpeioeaj", sum := "59237daf58d7d0466a5b6fd612fdb79f33e18fd3b97d46833f7dddd7e9bca368", func := "loop.example/g00666/laws.FnExactPlainEnd", spec := "fnExactPlainEnd", inPlace := ["internal/bytealg.IndexByteString"], unfollowed := true, recurses := true, apart := false, narrowed := true }
def FnExactPlainEndUptoSaid : Prop := fnExactPlainEndUptoRow.holds Try.pinned (OpenSpec.upto fnExactPlainEndSpec)

/-- 'laws.FnExactPlainAt', WHERE WHAT IT READS IS OF BULK AT MOST 1048576: true; the input reads as it did. -/
def fnExactPlainAtUptoRow : OpenClaim := { program := "ythlainjkpeioeaj", sum := "59237daf58d7d0466a5b6fd612fdb79f33e18fd3b97d46833f7dddd7e9bca368", func := "loop.example/g00666/laws.FnExactPlainAt", spec := "fnExactPlainAt", inPlace := ["internal/bytealg.IndexByteString", "internal/abi.NoEscape", "internal/bytealg.MakeNoZero"], unfollowed := true, recurses := true, apart := false, narrowed := true }
def FnExactPlainAtUptoSaid : Prop := fnExactPlainAtUptoRow.holds Try.pinned (OpenSpec.upto fnExactPlainAtSpec)

end Rows
end Go.Proofs.Ythlainjkpeioeaj
