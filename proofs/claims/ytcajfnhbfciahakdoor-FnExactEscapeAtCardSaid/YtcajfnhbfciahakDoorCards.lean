/-
  DERIVED. GIVEN WITH THE SEED: THE CARDS: each row of YtcajfnhbfciahakDoorRows.lean that lists a variable, with what it lists TIED to the program's text (the seventh form; the later family's looks); each row that meets fmt, with fmt's text TOLD by the authors' own Lean function (tested against real Go, not proved from fmt's source: count such statements apart). THE CARD IS WHAT COUNTS. Prove the row's statement (the work); the ties are given (YtcajfnhbfciahakDoorTie.lean); close each card by the builder's one call (the guide's Derived/Test/ToyasCard.lean, 'card_holds'). Laid BY PROGRAM, IN A SANDBOX (cutbox-door.mjs). By AI agents, Wed Nov 11 2026. No macro, syntax, notation, axiom, sorry.
-/
import Derived.Test.YtcajfnhbfciahakDoorRows
import GoSem.ClaimSeven
namespace Go.Proofs.YtcajfnhbfciahakDoor
namespace Rows

/-- THE TIED CARD OF 'laws.FnExactEscapeAt'. -/
def fnExactEscapeAtCard : Claim7 := { stood := { row := fnExactEscapeAtRow, standIns := [], harness := (true, "5f7ea48d3da02102f1a00dbd4b4e87854f193f9c032c3dc4b2157f9046e04fa0"), looks := true }, kinds := [], alts := [], laidByText := true, laidKinds := [.data, .data, .data, .sentinel, .sentinel], laidTests := true, laidLooks := .later }
def FnExactEscapeAtCardSaid : Prop := Claim7.holds Tryd.pinned (.plain (OpenSpec.ofChange fnExactEscapeAtSpec)) fnExactEscapeAtCard

/-- THE TIED CARD OF 'laws.FnExactDoubleAt'. -/
def fnExactDoubleAtCard : Claim7 := { stood := { row := fnExactDoubleAtRow, standIns := [], harness := (true, "5f7ea48d3da02102f1a00dbd4b4e87854f193f9c032c3dc4b2157f9046e04fa0"), looks := true }, kinds := [], alts := [], laidByText := true, laidKinds := [.data, .data, .data, .data, .sentinel, .sentinel, .pinned], laidTests := true, laidLooks := .later }
def FnExactDoubleAtCardSaid : Prop := Claim7.holds Tryd.pinned (.plain (OpenSpec.ofChange fnExactDoubleAtSpec)) fnExactDoubleAtCard

/-- THE SECOND FORM's CARD OF 'laws.FnExactEscapeAt'. -/
def fnExactEscapeAtUptoCard : Claim7 := { stood := { row := fnExactEscapeAtUptoRow, standIns := [], harness := (true, "5f7ea48d3da02102f1a00dbd4b4e87854f193f9c032c3dc4b2157f9046e04fa0"), looks := true }, kinds := [], alts := [], laidByText := true, laidKinds := [.data, .data, .data, .sentinel, .sentinel], laidTests := true, laidLooks := .later }
def FnExactEscapeAtUptoCardSaid : Prop := Claim7.holds Tryd.pinned (.plain (OpenSpec.upto fnExactEscapeAtSpec)) fnExactEscapeAtUptoCard

/-- THE SECOND FORM's CARD OF 'laws.FnExactDoubleAt'. -/
def fnExactDoubleAtUptoCard : Claim7 := { stood := { row := fnExactDoubleAtUptoRow, standIns := [], harness := (true, "5f7ea48d3da02102f1a00dbd4b4e87854f193f9c032c3dc4b2157f9046e04fa0"), looks := true }, kinds := [], alts := [], laidByText := true, laidKinds := [.data, .data, .data, .data, .sentinel, .sentinel, .pinned], laidTests := true, laidLooks := .later }
def FnExactDoubleAtUptoCardSaid : Prop := Claim7.holds Tryd.pinned (.plain (OpenSpec.upto fnExactDoubleAtSpec)) fnExactDoubleAtUptoCard
end Rows
end Go.Proofs.YtcajfnhbfciahakDoor
