/-
  DERIVED. GIVEN WITH THE SEED: THE CARDS: each row of YtfbgdkfnidghcakGreatDoorRows.lean that lists a variable, with what it lists TIED to the program's text (the seventh form; the later family's looks); each row that meets fmt, with fmt's text TOLD by the authors' own Lean function (tested against real Go, not proved from fmt's source: count such statements apart). THE CARD IS WHAT COUNTS. Prove the row's statement (the work); the ties are given (YtfbgdkfnidghcakGreatDoorTie.lean); close each card by the builder's one call (the guide's Derived/Test/ToyasCard.lean, 'card_holds'). Laid BY PROGRAM, IN A SANDBOX (cutbox-door.mjs). By AI agents, Wed Nov 11 2026. No macro, syntax, notation, axiom, sorry.
-/
import Derived.Test.YtfbgdkfnidghcakGreatDoorRows
import GoSem.ClaimSeven
namespace Go.Proofs.YtfbgdkfnidghcakGreatDoor
namespace Rows

/-- THE TIED CARD OF 'laws.FnExactDoubleAt'. -/
def fnExactDoubleAtCard : Claim7 := { stood := { row := fnExactDoubleAtRow, standIns := [], harness := (true, "f77518a563c7e95c35460fd16faf3ec6d7dfb013f39de77eeccd6a5c0cd2fab6"), looks := true }, kinds := [], alts := [], laidByText := true, laidKinds := [.data, .data, .data, .data, .sentinel, .sentinel, .pinned], laidTests := true, laidLooks := .later }
def FnExactDoubleAtCardSaid : Prop := Claim7.holds Tryz.pinned (.plain (OpenSpec.ofChange fnExactDoubleAtSpec)) fnExactDoubleAtCard

/-- THE SECOND FORM's CARD OF 'laws.FnExactDoubleAt'. -/
def fnExactDoubleAtUptoCard : Claim7 := { stood := { row := fnExactDoubleAtUptoRow, standIns := [], harness := (true, "f77518a563c7e95c35460fd16faf3ec6d7dfb013f39de77eeccd6a5c0cd2fab6"), looks := true }, kinds := [], alts := [], laidByText := true, laidKinds := [.data, .data, .data, .data, .sentinel, .sentinel, .pinned], laidTests := true, laidLooks := .later }
def FnExactDoubleAtUptoCardSaid : Prop := Claim7.holds Tryz.pinned (.plain (OpenSpec.upto fnExactDoubleAtSpec)) fnExactDoubleAtUptoCard
end Rows
end Go.Proofs.YtfbgdkfnidghcakGreatDoor
