/-
  No cell of these rows narrows 'for every input' (looked for: loops, veiled, ifaces, maps, wideKeys, modest, calm, conditions, laid).
  DERIVED. THE GIVEN ROWS OF THIS SEAT. 6 by the template 'for every input the law returns true; each argument reads behind the call as it read before'; 0 by the template 'total and deterministic' (their statements: YthfapofjbeccaahTotals.lean).
  GIVEN WITH THE SEED: the statements are not yours to turn. If you find one false, say at which input.
  Laid BY PROGRAM, IN A SANDBOX (cutbox-rows.mjs): the forced cells as the released guide's own fill.sh prints them over the translation bb95dda98e53203e… (all of the seat's roots in one cut). By AI agents, Wed Nov 11 2026. No macro, syntax, notation, axiom, sorry.
-/
import Derived.Test.YthfapofjbeccaahChecked
import GoSem.Claim
import GoSem.ClaimJoined
import GoSem.ClaimMapViews
import Derived.JoinedTies
import Derived.KernelRfl
namespace Go.Proofs.Ythfapofjbeccaah
/- THE CELL 'sum', in the pinned program and in every row, IS THE sha256 OF THE DUMP (.gsa) THAT YthfapofjbeccaahProg.lean LOADS. Nothing in Lean hashes anything: it is a label: what it is worth is what the hold of that sum in a sandbox is worth. -/
noncomputable def Try.pinned : Pinned := { name := "ythfapofjbeccaah", sum := "bb95dda98e53203e6efae2c3d51d8e6635e8564eef85ae57478e3b780f46ec0f", checked := Try.checked }
namespace Rows
def none {H : Type} : Left H := { results := [], args := [] }

/-- 'laws.FnExactEndAt': WHATEVER THE INPUT: true; the input reads as it did. -/
def fnExactEndAtSpec : ChangeSpec := { name := "fnExactEndAt", fn := fun _ => fun
  | [d1, d2] => { results := [.lit (.bool true)], args := [d1, d2] }
  | _ => none }
def fnExactEndAtRow : OpenClaim := { program := "ythfapofjbeccaah", sum := "bb95dda98e53203e6efae2c3d51d8e6635e8564eef85ae57478e3b780f46ec0f", func := "loop.example/g00666/laws.FnExactEndAt", spec := "fnExactEndAt", unfollowed := true, recurses := true, apart := false }
def FnExactEndAtSaid : Prop := fnExactEndAtRow.holds Try.pinned (OpenSpec.ofChange fnExactEndAtSpec)

/-- ITS FALSE NEIGHBOUR: 'it returns false'. Refute it at one input. -/
def fnExactEndAtWrong : ChangeSpec := { name := "fnExactEndAt", fn := fun _ => fun
  | [d1, d2] => { results := [.lit (.bool false)], args := [d1, d2] }
  | _ => none }
def FnExactEndAtWrongFalsely : Prop := fnExactEndAtRow.holds Try.pinned (OpenSpec.ofChange fnExactEndAtWrong)

/-- 'laws.FnExactIndentAt': WHATEVER THE INPUT: true; the input reads as it did. -/
def fnExactIndentAtSpec : ChangeSpec := { name := "fnExactIndentAt", fn := fun _ => fun
  | [d1, d2] => { results := [.lit (.bool true)], args := [d1, d2] }
  | _ => none }
def fnExactIndentAtRow : OpenClaim := { program := "ythfapofjbeccaah", sum := "bb95dda98e53203e6efae2c3d51d8e6635e8564eef85ae57478e3b780f46ec0f", func := "loop.example/g00666/laws.FnExactIndentAt", spec := "fnExactIndentAt", inPlace := ["internal/bytealg.IndexByteString"], unfollowed := true, recurses := true, apart := false }
def FnExactIndentAtSaid : Prop := fnExactIndentAtRow.holds Try.pinned (OpenSpec.ofChange fnExactIndentAtSpec)

/-- ITS FALSE NEIGHBOUR: 'it returns false'. Refute it at one input. -/
def fnExactIndentAtWrong : ChangeSpec := { name := "fnExactIndentAt", fn := fun _ => fun
  | [d1, d2] => { results := [.lit (.bool false)], args := [d1, d2] }
  | _ => none }
def FnExactIndentAtWrongFalsely : Prop := fnExactIndentAtRow.holds Try.pinned (OpenSpec.ofChange fnExactIndentAtWrong)

/-- 'laws.FnExactMarkAt': WHATEVER THE INPUT: true; the input reads as it did. -/
def fnExactMarkAtSpec : ChangeSpec := { name := "fnExactMarkAt", fn := fun _ => fun
  | [d1, d2] => { results := [.lit (.bool true)], args := [d1, d2] }
  | _ => none }
def fnExactMarkAtRow : OpenClaim := { program := "ythfapofjbeccaah", sum := "bb95dda98e53203e6efae2c3d51d8e6635e8564eef85ae57478e3b780f46ec0f", func := "loop.example/g00666/laws.FnExactMarkAt", spec := "fnExactMarkAt", inPlace := ["internal/bytealg.IndexByteString"], unfollowed := true, recurses := true, apart := false }
def FnExactMarkAtSaid : Prop := fnExactMarkAtRow.holds Try.pinned (OpenSpec.ofChange fnExactMarkAtSpec)

/-- ITS FALSE NEIGHBOUR: 'it returns false'. Refute it at one input. -/
def fnExactMarkAtWrong : ChangeSpec := { name := "fnExactMarkAt", fn := fun _ => fun
  | [d1, d2] => { results := [.lit (.bool false)], args := [d1, d2] }
  | _ => none }
def FnExactMarkAtWrongFalsely : Prop := fnExactMarkAtRow.holds Try.pinned (OpenSpec.ofChange fnExactMarkAtWrong)

/-- 'laws.FnExactWhite': WHATEVER THE INPUT: true; the input reads as it did. -/
def fnExactWhiteSpec : ChangeSpec := { name := "fnExactWhite", fn := fun _ => fun
  | [d1, d2] => { results := [.lit (.bool true)], args := [d1, d2] }
  | _ => none }
def fnExactWhiteRow : OpenClaim := { program := "ythfapofjbeccaah", sum := "bb95dda98e53203e6efae2c3d51d8e6635e8564eef85ae57478e3b780f46ec0f", func := "loop.example/g00666/laws.FnExactWhite", spec := "fnExactWhite", inPlace := ["internal/bytealg.IndexByteString"], unfollowed := true, recurses := true, apart := false }
def FnExactWhiteSaid : Prop := fnExactWhiteRow.holds Try.pinned (OpenSpec.ofChange fnExactWhiteSpec)

/-- ITS FALSE NEIGHBOUR: 'it returns false'. Refute it at one input. -/
def fnExactWhiteWrong : ChangeSpec := { name := "fnExactWhite", fn := fun _ => fun
  | [d1, d2] => { results := [.lit (.bool false)], args := [d1, d2] }
  | _ => none }
def FnExactWhiteWrongFalsely : Prop := fnExactWhiteRow.holds Try.pinned (OpenSpec.ofChange fnExactWhiteWrong)

/-- 'laws.FnExactRest': WHATEVER THE INPUT: true; the input reads as it did. -/
def fnExactRestSpec : ChangeSpec := { name := "fnExactRest", fn := fun _ => fun
  | [d1, d2] => { results := [.lit (.bool true)], args := [d1, d2] }
  | _ => none }
def fnExactRestRow : OpenClaim := { program := "ythfapofjbeccaah", sum := "bb95dda98e53203e6efae2c3d51d8e6635e8564eef85ae57478e3b780f46ec0f", func := "loop.example/g00666/laws.FnExactRest", spec := "fnExactRest", inPlace := ["internal/bytealg.IndexByteString"], unfollowed := true, recurses := true, apart := false }
def FnExactRestSaid : Prop := fnExactRestRow.holds Try.pinned (OpenSpec.ofChange fnExactRestSpec)

/-- ITS FALSE NEIGHBOUR: 'it returns false'. Refute it at one input. -/
def fnExactRestWrong : ChangeSpec := { name := "fnExactRest", fn := fun _ => fun
  | [d1, d2] => { results := [.lit (.bool false)], args := [d1, d2] }
  | _ => none }
def FnExactRestWrongFalsely : Prop := fnExactRestRow.holds Try.pinned (OpenSpec.ofChange fnExactRestWrong)

/-- 'laws.FnExactGap': WHATEVER THE INPUT: true; the input reads as it did. -/
def fnExactGapSpec : ChangeSpec := { name := "fnExactGap", fn := fun _ => fun
  | [d1, d2] => { results := [.lit (.bool true)], args := [d1, d2] }
  | _ => none }
def fnExactGapRow : OpenClaim := { program := "ythfapofjbeccaah", sum := "bb95dda98e53203e6efae2c3d51d8e6635e8564eef85ae57478e3b780f46ec0f", func := "loop.example/g00666/laws.FnExactGap", spec := "fnExactGap", inPlace := ["internal/bytealg.IndexByteString"], unfollowed := true, recurses := true, apart := false }
def FnExactGapSaid : Prop := fnExactGapRow.holds Try.pinned (OpenSpec.ofChange fnExactGapSpec)

/-- ITS FALSE NEIGHBOUR: 'it returns false'. Refute it at one input. -/
def fnExactGapWrong : ChangeSpec := { name := "fnExactGap", fn := fun _ => fun
  | [d1, d2] => { results := [.lit (.bool false)], args := [d1, d2] }
  | _ => none }
def FnExactGapWrongFalsely : Prop := fnExactGapRow.holds Try.pinned (OpenSpec.ofChange fnExactGapWrong)

/- THE SECOND FORM. 'bulk': how many values and letters a reading holds, each counted each time it is reached (what is shared counts as often as it is met; a slice's spare places count too). A statement '..UptoSaid' is the law's where the arguments, and the package variables that the reading takes, are together of bulk at most 1048576: NARROWER than '..Said'. Prove '..Said' where nothing that the law and all that it calls make is longer than what came in: it says more and counts as full. Else prove '..UptoSaid'. A law counts once. -/
mutual
def uptoBulk {H : Type} : DataW H → Nat
  | .lit (.string bytes) => bytes.length + 1
  | .lit _ => 1
  | .nil => 1
  | .ptr d => uptoBulk d + 1
  | .slice elems spare => uptoBulkAll elems + uptoBulkAll spare + 1
  | .agg parts => uptoBulkAll parts + 1
  | .iface _ d => uptoBulk d + 1
  | .map entries => uptoBulkEntries entries + 1
  | .held _ => 1
def uptoBulkAll {H : Type} : List (DataW H) → Nat
  | [] => 0
  | d :: r => uptoBulk d + uptoBulkAll r
def uptoBulkEntries {H : Type} : List (Lit × DataW H) → Nat
  | [] => 0
  | x :: r => uptoBulkEntry x + uptoBulkEntries r
def uptoBulkEntry {H : Type} : Lit × DataW H → Nat
  | (.string bytes, d) => bytes.length + uptoBulk d + 1
  | (_, d) => uptoBulk d + 1
 end
def uptoSmall : (H : Type) → List (DataW H) → Bool := fun _ ds => decide (uptoBulkAll ds ≤ 1048576)
def OpenSpec.upto (s : _root_.Go.ChangeSpec) : _root_.Go.OpenSpec := { _root_.Go.OpenSpec.ofChange s with cond := some uptoSmall }

/-- 'laws.FnExactEndAt', WHERE WHAT IT READS IS OF BULK AT MOST 1048576: true; the input reads as it did. -/
def fnExactEndAtUptoRow : OpenClaim := { program := "ythfapofjbeccaah", sum := "bb95dda98e53203e6efae2c3d51d8e6635e8564eef85ae57478e3b780f46ec0f", func := "loop.example/g00666/laws.FnExactEndAt", spec := "fnExactEndAt", unfollowed := true, recurses := true, apart := false, narrowed := true }
def FnExactEndAtUptoSaid : Prop := fnExactEndAtUptoRow.holds Try.pinned (OpenSpec.upto fnExactEndAtSpec)

/-- 'laws.FnExactIndentAt', WHERE WHAT IT READS IS OF BULK AT MOST 1048576: true; the input reads as it did. -/
def fnExactIndentAtUptoRow : OpenClaim := { program := "ythfapofjbeccaah", sum := "bb95dda98e53203e6efae2c3d51d8e6635e8564eef85ae57478e3b780f46ec0f", func := "loop.example/g00666/laws.FnExactIndentAt", spec := "fnExactIndentAt", inPlace := ["internal/bytealg.IndexByteString"], unfollowed := true, recurses := true, apart := false, narrowed := true }
def FnExactIndentAtUptoSaid : Prop := fnExactIndentAtUptoRow.holds Try.pinned (OpenSpec.upto fnExactIndentAtSpec)

/-- 'laws.FnExactMarkAt', WHERE WHAT IT READS IS OF BULK AT MOST 1048576: true; the input reads as it did. -/
def fnExactMarkAtUptoRow : OpenClaim := { program := "ythfapofjbeccaah", sum := "bb95dda98e53203e6efae2c3d51d8e6635e8564eef85ae57478e3b780f46ec0f", func := "loop.example/g00666/laws.FnExactMarkAt", spec := "fnExactMarkAt", inPlace := ["internal/bytealg.IndexByteString"], unfollowed := true, recurses := true, apart := false, narrowed := true }
def FnExactMarkAtUptoSaid : Prop := fnExactMarkAtUptoRow.holds Try.pinned (OpenSpec.upto fnExactMarkAtSpec)

/-- 'laws.FnExactWhite', WHERE WHAT IT READS IS OF BULK AT MOST 1048576: true; the input reads as it did. -/
def fnExactWhiteUptoRow : OpenClaim := { program := "ythfapofjbeccaah", sum := "bb95dda98e53203e6efae2c3d51d8e6635e8564eef85ae57478e3b780f46ec0f", func := "loop.example/g00666/laws.FnExactWhite", spec := "fnExactWhite", inPlace := ["internal/bytealg.IndexByteString"], unfollowed := true, recurses := true, apart := false, narrowed := true }
def FnExactWhiteUptoSaid : Prop := fnExactWhiteUptoRow.holds Try.pinned (OpenSpec.upto fnExactWhiteSpec)

/-- 'laws.FnExactRest', WHERE WHAT IT READS IS OF BULK AT MOST 1048576: true; the input reads as it did. -/
def fnExactRestUptoRow : OpenClaim := { program := "ythfapofjbeccaah", sum := "bb95dda98e53203e6efae2c3d51d8e6635e8564eef85ae57478e3b780f46ec0f", func := "loop.example/g00666/laws.FnExactRest", spec := "fnExactRest", inPlace := ["internal/bytealg.IndexByteString"], unfollowed := true, recurses := true, apart := false, narrowed := true }
def FnExactRestUptoSaid : Prop := fnExactRestUptoRow.holds Try.pinned (OpenSpec.upto fnExactRestSpec)

/-- 'laws.FnExactGap', WHERE WHAT IT READS IS OF BULK AT MOST 1048576: true; the input reads as it did. -/
def fnExactGapUptoRow : OpenClaim := { program := "ythfapofjbeccaah", sum := "bb95dda98e53203e6efae2c3d51d8e6635e8564eef85ae57478e3b780f46ec0f", func := "loop.example/g00666/laws.FnExactGap", spec := "fnExactGap", inPlace := ["internal/bytealg.IndexByteString"], unfollowed := true, recurses := true, apart := false, narrowed := true }
def FnExactGapUptoSaid : Prop := fnExactGapUptoRow.holds Try.pinned (OpenSpec.upto fnExactGapSpec)

end Rows
end Go.Proofs.Ythfapofjbeccaah
