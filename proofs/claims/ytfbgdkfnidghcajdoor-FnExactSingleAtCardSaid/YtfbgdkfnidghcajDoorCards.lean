/-
  DERIVED. GIVEN WITH THE SEED: THE CARDS: each row of YtfbgdkfnidghcajDoorRows.lean that lists a variable, with what it lists TIED to the program's text (the seventh form; the later family's looks); each row that meets fmt, with fmt's text TOLD by the authors' own Lean function (tested against real Go, not proved from fmt's source: count such statements apart). THE CARD IS WHAT COUNTS. Prove the row's statement (the work); the ties are given (YtfbgdkfnidghcajDoorTie.lean); close each card by the builder's one call (the guide's Derived/Test/ToyasCard.lean, 'card_holds'). Laid BY PROGRAM, IN A SANDBOX (cutbox-door.mjs). By AI agents, Wed Nov 11 2026. No macro, syntax, notation, axiom, sorry.
-/
import Derived.Test.YtfbgdkfnidghcajDoorRows
import GoSem.ClaimSeven
namespace Go.Proofs.YtfbgdkfnidghcajDoor
namespace Rows

/-- THE TIED CARD OF 'laws.FnExactSingleAt'. -/
def fnExactSingleAtCard : Claim7 := { stood := { row := fnExactSingleAtRow, standIns := [], harness := (true, "9666efa5e4ca6725244dff4c5da8ed727315a44124e6b4b6b3c9d351c9ad09cc"), looks := true }, kinds := [], alts := [], laidByText := true, laidKinds := [.data, .pinned], laidTests := true, laidLooks := .later }
def FnExactSingleAtCardSaid : Prop := Claim7.holds Tryd.pinned (.plain (OpenSpec.ofChange fnExactSingleAtSpec)) fnExactSingleAtCard

/-- THE SECOND FORM's CARD OF 'laws.FnExactSingleAt'. -/
def fnExactSingleAtUptoCard : Claim7 := { stood := { row := fnExactSingleAtUptoRow, standIns := [], harness := (true, "9666efa5e4ca6725244dff4c5da8ed727315a44124e6b4b6b3c9d351c9ad09cc"), looks := true }, kinds := [], alts := [], laidByText := true, laidKinds := [.data, .pinned], laidTests := true, laidLooks := .later }
def FnExactSingleAtUptoCardSaid : Prop := Claim7.holds Tryd.pinned (.plain (OpenSpec.upto fnExactSingleAtSpec)) fnExactSingleAtUptoCard
end Rows
end Go.Proofs.YtfbgdkfnidghcajDoor
