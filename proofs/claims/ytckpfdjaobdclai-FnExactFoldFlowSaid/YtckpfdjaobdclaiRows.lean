/-
  No cell of these rows narrows 'for every input' (looked for: loops, veiled, ifaces, maps, wideKeys, modest, calm, conditions, laid).
  DERIVED. THE GIVEN ROWS OF THIS SEAT. 6 by the template 'for every input the law returns true; each argument reads behind the call as it read before'; 0 by the template 'total and deterministic' (their statements: YtckpfdjaobdclaiTotals.lean).
  GIVEN WITH THE SEED: the statements are not yours to turn. If you find one false, say at which input.
  Laid BY PROGRAM, IN A SANDBOX (cutbox-rows.mjs): the forced cells as the released guide's own fill.sh prints them over the translation 8ba5db4f2fb55a0e… (all of the seat's roots in one cut). By AI agents, Wed Nov 11 2026. No macro, syntax, notation, axiom, sorry.
-/
import Derived.Test.YtckpfdjaobdclaiChecked
import GoSem.Claim
import GoSem.ClaimJoined
import GoSem.ClaimMapViews
import Derived.JoinedTies
import Derived.KernelRfl
namespace Go.Proofs.Ytckpfdjaobdclai
/- THE CELL 'sum', in the pinned program and in every row, IS THE sha256 OF THE DUMP (.gsa) THAT YtckpfdjaobdclaiProg.lean LOADS. Nothing in Lean hashes anything: it is a label: what it is worth is what the hold of that sum in a sandbox is worth. -/
noncomputable def Try.pinned : Pinned := { name := "ytckpfdjaobdclai", sum := "8ba5db4f2fb55a0e2eeb4e0e64a916e9ace2a292d542e5983998243c1f25aa24", checked := Try.checked }
namespace Rows
def none {H : Type} : Left H := { results := [], args := [] }

/-- 'laws.FnExactLone': WHATEVER THE INPUT: true; the input reads as it did. -/
def fnExactLoneSpec : ChangeSpec := { name := "fnExactLone", fn := fun _ => fun
  | [d1, d2] => { results := [.lit (.bool true)], args := [d1, d2] }
  | _ => none }
def fnExactLoneRow : OpenClaim := { program := "ytckpfdjaobdclai", sum := "8ba5db4f2fb55a0e2eeb4e0e64a916e9ace2a292d542e5983998243c1f25aa24", func := "loop.example/g00666/laws.FnExactLone", spec := "fnExactLone", inPlace := ["internal/bytealg.IndexByteString"], unfollowed := true, recurses := true, apart := false }
def FnExactLoneSaid : Prop := fnExactLoneRow.holds Try.pinned (OpenSpec.ofChange fnExactLoneSpec)

/-- ITS FALSE NEIGHBOUR: 'it returns false'. Refute it at one input. -/
def fnExactLoneWrong : ChangeSpec := { name := "fnExactLone", fn := fun _ => fun
  | [d1, d2] => { results := [.lit (.bool false)], args := [d1, d2] }
  | _ => none }
def FnExactLoneWrongFalsely : Prop := fnExactLoneRow.holds Try.pinned (OpenSpec.ofChange fnExactLoneWrong)

/-- 'laws.FnExactNameAt': WHATEVER THE INPUT: true; the input reads as it did. -/
def fnExactNameAtSpec : ChangeSpec := { name := "fnExactNameAt", fn := fun _ => fun
  | [d1, d2] => { results := [.lit (.bool true)], args := [d1, d2] }
  | _ => none }
def fnExactNameAtRow : OpenClaim := { program := "ytckpfdjaobdclai", sum := "8ba5db4f2fb55a0e2eeb4e0e64a916e9ace2a292d542e5983998243c1f25aa24", func := "loop.example/g00666/laws.FnExactNameAt", spec := "fnExactNameAt", inPlace := ["internal/bytealg.IndexByteString"], unfollowed := true, recurses := true, apart := false }
def FnExactNameAtSaid : Prop := fnExactNameAtRow.holds Try.pinned (OpenSpec.ofChange fnExactNameAtSpec)

/-- ITS FALSE NEIGHBOUR: 'it returns false'. Refute it at one input. -/
def fnExactNameAtWrong : ChangeSpec := { name := "fnExactNameAt", fn := fun _ => fun
  | [d1, d2] => { results := [.lit (.bool false)], args := [d1, d2] }
  | _ => none }
def FnExactNameAtWrongFalsely : Prop := fnExactNameAtRow.holds Try.pinned (OpenSpec.ofChange fnExactNameAtWrong)

/-- 'laws.FnExactTagAt': WHATEVER THE INPUT: true; the input reads as it did. -/
def fnExactTagAtSpec : ChangeSpec := { name := "fnExactTagAt", fn := fun _ => fun
  | [d1, d2] => { results := [.lit (.bool true)], args := [d1, d2] }
  | _ => none }
def fnExactTagAtRow : OpenClaim := { program := "ytckpfdjaobdclai", sum := "8ba5db4f2fb55a0e2eeb4e0e64a916e9ace2a292d542e5983998243c1f25aa24", func := "loop.example/g00666/laws.FnExactTagAt", spec := "fnExactTagAt", inPlace := ["internal/bytealg.IndexByteString"], unfollowed := true, recurses := true, apart := false }
def FnExactTagAtSaid : Prop := fnExactTagAtRow.holds Try.pinned (OpenSpec.ofChange fnExactTagAtSpec)

/-- ITS FALSE NEIGHBOUR: 'it returns false'. Refute it at one input. -/
def fnExactTagAtWrong : ChangeSpec := { name := "fnExactTagAt", fn := fun _ => fun
  | [d1, d2] => { results := [.lit (.bool false)], args := [d1, d2] }
  | _ => none }
def FnExactTagAtWrongFalsely : Prop := fnExactTagAtRow.holds Try.pinned (OpenSpec.ofChange fnExactTagAtWrong)

/-- 'laws.FnExactHandleOk': WHATEVER THE INPUT: true; the input reads as it did. -/
def fnExactHandleOkSpec : ChangeSpec := { name := "fnExactHandleOk", fn := fun _ => fun
  | [d] => { results := [.lit (.bool true)], args := [d] }
  | _ => none }
def fnExactHandleOkRow : OpenClaim := { program := "ytckpfdjaobdclai", sum := "8ba5db4f2fb55a0e2eeb4e0e64a916e9ace2a292d542e5983998243c1f25aa24", func := "loop.example/g00666/laws.FnExactHandleOk", spec := "fnExactHandleOk", unfollowed := true, recurses := true, apart := false }
def FnExactHandleOkSaid : Prop := fnExactHandleOkRow.holds Try.pinned (OpenSpec.ofChange fnExactHandleOkSpec)

/-- ITS FALSE NEIGHBOUR: 'it returns false'. Refute it at one input. -/
def fnExactHandleOkWrong : ChangeSpec := { name := "fnExactHandleOk", fn := fun _ => fun
  | [d] => { results := [.lit (.bool false)], args := [d] }
  | _ => none }
def FnExactHandleOkWrongFalsely : Prop := fnExactHandleOkRow.holds Try.pinned (OpenSpec.ofChange fnExactHandleOkWrong)

/-- 'laws.FnExactTagRead': WHATEVER THE INPUT: true; the input reads as it did. -/
def fnExactTagReadSpec : ChangeSpec := { name := "fnExactTagRead", fn := fun _ => fun
  | [d1, d2] => { results := [.lit (.bool true)], args := [d1, d2] }
  | _ => none }
def fnExactTagReadRow : OpenClaim := { program := "ytckpfdjaobdclai", sum := "8ba5db4f2fb55a0e2eeb4e0e64a916e9ace2a292d542e5983998243c1f25aa24", func := "loop.example/g00666/laws.FnExactTagRead", spec := "fnExactTagRead", unfollowed := true, recurses := true, apart := false }
def FnExactTagReadSaid : Prop := fnExactTagReadRow.holds Try.pinned (OpenSpec.ofChange fnExactTagReadSpec)

/-- ITS FALSE NEIGHBOUR: 'it returns false'. Refute it at one input. -/
def fnExactTagReadWrong : ChangeSpec := { name := "fnExactTagRead", fn := fun _ => fun
  | [d1, d2] => { results := [.lit (.bool false)], args := [d1, d2] }
  | _ => none }
def FnExactTagReadWrongFalsely : Prop := fnExactTagReadRow.holds Try.pinned (OpenSpec.ofChange fnExactTagReadWrong)

/-- 'laws.FnExactFoldFlow': WHATEVER THE INPUT: true; the input reads as it did. -/
def fnExactFoldFlowSpec : ChangeSpec := { name := "fnExactFoldFlow", fn := fun _ => fun
  | [d] => { results := [.lit (.bool true)], args := [d] }
  | _ => none }
def fnExactFoldFlowRow : OpenClaim := { program := "ytckpfdjaobdclai", sum := "8ba5db4f2fb55a0e2eeb4e0e64a916e9ace2a292d542e5983998243c1f25aa24", func := "loop.example/g00666/laws.FnExactFoldFlow", spec := "fnExactFoldFlow", inPlace := ["internal/abi.NoEscape", "internal/bytealg.MakeNoZero"], apart := false }
def FnExactFoldFlowSaid : Prop := fnExactFoldFlowRow.holds Try.pinned (OpenSpec.ofChange fnExactFoldFlowSpec)

/-- ITS FALSE NEIGHBOUR: 'it returns false'. Refute it at one input. -/
def fnExactFoldFlowWrong : ChangeSpec := { name := "fnExactFoldFlow", fn := fun _ => fun
  | [d] => { results := [.lit (.bool false)], args := [d] }
  | _ => none }
def FnExactFoldFlowWrongFalsely : Prop := fnExactFoldFlowRow.holds Try.pinned (OpenSpec.ofChange fnExactFoldFlowWrong)

/- THE SECOND FORM. 'bulk': how many values and letters a reading holds, each counted each time it is reached (what is shared counts as often as it is met; a slice's spare places count too). A statement '..UptoSaid' is the law's where the arguments, and the package variables that the reading takes, are together of bulk at most 1048576: NARROWER than '..Said'. Prove '..Said' where nothing that the law and all that it calls make is longer than what came in: it says more and counts as full. Else prove '..UptoSaid'. A law counts once. -/
mutual
def uptoBulk {H : Type} : DataW H → Nat
  | .lit (.string bytes) => bytes.length + 1
  | .lit _ => 1
  | .nil => 1
  | .ptr d => uptoBulk d + 1
  | .slice elems spare => uptoBulkAll elems + uptoBulkAll spare + 1
  | .agg parts => uptoBulkAll parts + 1
  | .iface _ d => uptoBulk d + 1
  | .map entries => uptoBulkEntries entries + 1
  | .held _ => 1
def uptoBulkAll {H : Type} : List (DataW H) → Nat
  | [] => 0
  | d :: r => uptoBulk d + uptoBulkAll r
def uptoBulkEntries {H : Type} : List (Lit × DataW H) → Nat
  | [] => 0
  | x :: r => uptoBulkEntry x + uptoBulkEntries r
def uptoBulkEntry {H : Type} : Lit × DataW H → Nat
  | (.string bytes, d) => bytes.length + uptoBulk d + 1
  | (_, d) => uptoBulk d + 1
 end
def uptoSmall : (H : Type) → List (DataW H) → Bool := fun _ ds => decide (uptoBulkAll ds ≤ 1048576)
def OpenSpec.upto (s : _root_.Go.ChangeSpec) : _root_.Go.OpenSpec := { _root_.Go.OpenSpec.ofChange s with cond := some uptoSmall }

/-- 'laws.FnExactLone', WHERE WHAT IT READS IS OF BULK AT MOST 1048576: true; the input reads as it did. -/
def fnExactLoneUptoRow : OpenClaim := { program := "ytckpfdjaobdclai", sum := "8ba5db4f2fb55a0e2eeb4e0e64a916e9ace2a292d542e5983998243c1f25aa24", func := "loop.example/g00666/laws.FnExactLone", spec := "fnExactLone", inPlace := ["internal/bytealg.IndexByteString"], unfollowed := true, recurses := true, apart := false, narrowed := true }
def FnExactLoneUptoSaid : Prop := fnExactLoneUptoRow.holds Try.pinned (OpenSpec.upto fnExactLoneSpec)

/-- 'laws.FnExactNameAt', WHERE WHAT IT READS IS OF BULK AT MOST 1048576: true; the input reads as it did. -/
def fnExactNameAtUptoRow : OpenClaim := { program := "ytckpfdjaobdclai", sum := "8ba5db4f2fb55a0e2eeb4e0e64a916e9ace2a292d542e5983998243c1f25aa24", func := "loop.example/g00666/laws.FnExactNameAt", spec := "fnExactNameAt", inPlace := ["internal/bytealg.IndexByteString"], unfollowed := true, recurses := true, apart := false, narrowed := true }
def FnExactNameAtUptoSaid : Prop := fnExactNameAtUptoRow.holds Try.pinned (OpenSpec.upto fnExactNameAtSpec)

/-- 'laws.FnExactTagAt', WHERE WHAT IT READS IS OF BULK AT MOST 1048576: true; the input reads as it did. -/
def fnExactTagAtUptoRow : OpenClaim := { program := "ytckpfdjaobdclai", sum := "8ba5db4f2fb55a0e2eeb4e0e64a916e9ace2a292d542e5983998243c1f25aa24", func := "loop.example/g00666/laws.FnExactTagAt", spec := "fnExactTagAt", inPlace := ["internal/bytealg.IndexByteString"], unfollowed := true, recurses := true, apart := false, narrowed := true }
def FnExactTagAtUptoSaid : Prop := fnExactTagAtUptoRow.holds Try.pinned (OpenSpec.upto fnExactTagAtSpec)

/-- 'laws.FnExactHandleOk', WHERE WHAT IT READS IS OF BULK AT MOST 1048576: true; the input reads as it did. -/
def fnExactHandleOkUptoRow : OpenClaim := { program := "ytckpfdjaobdclai", sum := "8ba5db4f2fb55a0e2eeb4e0e64a916e9ace2a292d542e5983998243c1f25aa24", func := "loop.example/g00666/laws.FnExactHandleOk", spec := "fnExactHandleOk", unfollowed := true, recurses := true, apart := false, narrowed := true }
def FnExactHandleOkUptoSaid : Prop := fnExactHandleOkUptoRow.holds Try.pinned (OpenSpec.upto fnExactHandleOkSpec)

/-- 'laws.FnExactTagRead', WHERE WHAT IT READS IS OF BULK AT MOST 1048576: true; the input reads as it did. -/
def fnExactTagReadUptoRow : OpenClaim := { program := "ytckpfdjaobdclai", sum := "8ba5db4f2fb55a0e2eeb4e0e64a916e9ace2a292d542e5983998243c1f25aa24", func := "loop.example/g00666/laws.FnExactTagRead", spec := "fnExactTagRead", unfollowed := true, recurses := true, apart := false, narrowed := true }
def FnExactTagReadUptoSaid : Prop := fnExactTagReadUptoRow.holds Try.pinned (OpenSpec.upto fnExactTagReadSpec)

/-- 'laws.FnExactFoldFlow', WHERE WHAT IT READS IS OF BULK AT MOST 1048576: true; the input reads as it did. -/
def fnExactFoldFlowUptoRow : OpenClaim := { program := "ytckpfdjaobdclai", sum := "8ba5db4f2fb55a0e2eeb4e0e64a916e9ace2a292d542e5983998243c1f25aa24", func := "loop.example/g00666/laws.FnExactFoldFlow", spec := "fnExactFoldFlow", inPlace := ["internal/abi.NoEscape", "internal/bytealg.MakeNoZero"], apart := false, narrowed := true }
def FnExactFoldFlowUptoSaid : Prop := fnExactFoldFlowUptoRow.holds Try.pinned (OpenSpec.upto fnExactFoldFlowSpec)

end Rows
end Go.Proofs.Ytckpfdjaobdclai
