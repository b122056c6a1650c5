/-
  DERIVED. GIVEN WITH THE SEED: THE CARDS: each row of YtjpcmmfmdoglkalGreatDoorRows.lean that lists a variable, with what it lists TIED to the program's text (the seventh form; the later family's looks); each row that meets fmt, with fmt's text TOLD by the authors' own Lean function (tested against real Go, not proved from fmt's source: count such statements apart). THE CARD IS WHAT COUNTS. Prove the row's statement (the work); the ties are given (YtjpcmmfmdoglkalGreatDoorTie.lean); close each card by the builder's one call (the guide's Derived/Test/ToyasCard.lean, 'card_holds'). Laid BY PROGRAM, IN A SANDBOX (cutbox-door.mjs). By AI agents, Wed Nov 11 2026. No macro, syntax, notation, axiom, sorry.
-/
import Derived.Test.YtjpcmmfmdoglkalGreatDoorRows
import GoSem.ClaimSeven
namespace Go.Proofs.YtjpcmmfmdoglkalGreatDoor
namespace Rows

/-- THE TIED CARD OF 'laws.FnExactFlowAt'. -/
def fnExactFlowAtCard : Claim7 := { stood := { row := fnExactFlowAtRow, standIns := [], harness := (true, "6811fba60250515ef837f219defa8f64b6fcbf9bb79ef5a9fb79b7a12e7c2acd"), looks := true }, kinds := [], alts := [], laidByText := true, laidKinds := [.data, .data, .data, .data, .sentinel, .sentinel, .pinned], laidTests := true, laidLooks := .later }
def FnExactFlowAtCardSaid : Prop := Claim7.holds Tryz.pinned (.plain (OpenSpec.ofChange fnExactFlowAtSpec)) fnExactFlowAtCard

/-- THE TIED CARD OF 'laws.FnExactKeyAt'. -/
def fnExactKeyAtCard : Claim7 := { stood := { row := fnExactKeyAtRow, standIns := [], harness := (true, "6811fba60250515ef837f219defa8f64b6fcbf9bb79ef5a9fb79b7a12e7c2acd"), looks := true }, kinds := [], alts := [], laidByText := true, laidKinds := [.data, .data, .data, .data, .sentinel, .sentinel, .pinned], laidTests := true, laidLooks := .later }
def FnExactKeyAtCardSaid : Prop := Claim7.holds Tryz.pinned (.plain (OpenSpec.ofChange fnExactKeyAtSpec)) fnExactKeyAtCard

/-- THE TIED CARD OF 'laws.FnExactBlockAt'. -/
def fnExactBlockAtCard : Claim7 := { stood := { row := fnExactBlockAtRow, standIns := [], harness := (true, "6811fba60250515ef837f219defa8f64b6fcbf9bb79ef5a9fb79b7a12e7c2acd"), looks := true }, kinds := [], alts := [], laidByText := true, laidKinds := [.data, .data, .data, .data, .sentinel, .sentinel, .pinned], laidTests := true, laidLooks := .later }
def FnExactBlockAtCardSaid : Prop := Claim7.holds Tryz.pinned (.plain (OpenSpec.ofChange fnExactBlockAtSpec)) fnExactBlockAtCard

/-- THE SECOND FORM's CARD OF 'laws.FnExactFlowAt'. -/
def fnExactFlowAtUptoCard : Claim7 := { stood := { row := fnExactFlowAtUptoRow, standIns := [], harness := (true, "6811fba60250515ef837f219defa8f64b6fcbf9bb79ef5a9fb79b7a12e7c2acd"), looks := true }, kinds := [], alts := [], laidByText := true, laidKinds := [.data, .data, .data, .data, .sentinel, .sentinel, .pinned], laidTests := true, laidLooks := .later }
def FnExactFlowAtUptoCardSaid : Prop := Claim7.holds Tryz.pinned (.plain (OpenSpec.upto fnExactFlowAtSpec)) fnExactFlowAtUptoCard

/-- THE SECOND FORM's CARD OF 'laws.FnExactKeyAt'. -/
def fnExactKeyAtUptoCard : Claim7 := { stood := { row := fnExactKeyAtUptoRow, standIns := [], harness := (true, "6811fba60250515ef837f219defa8f64b6fcbf9bb79ef5a9fb79b7a12e7c2acd"), looks := true }, kinds := [], alts := [], laidByText := true, laidKinds := [.data, .data, .data, .data, .sentinel, .sentinel, .pinned], laidTests := true, laidLooks := .later }
def FnExactKeyAtUptoCardSaid : Prop := Claim7.holds Tryz.pinned (.plain (OpenSpec.upto fnExactKeyAtSpec)) fnExactKeyAtUptoCard

/-- THE SECOND FORM's CARD OF 'laws.FnExactBlockAt'. -/
def fnExactBlockAtUptoCard : Claim7 := { stood := { row := fnExactBlockAtUptoRow, standIns := [], harness := (true, "6811fba60250515ef837f219defa8f64b6fcbf9bb79ef5a9fb79b7a12e7c2acd"), looks := true }, kinds := [], alts := [], laidByText := true, laidKinds := [.data, .data, .data, .data, .sentinel, .sentinel, .pinned], laidTests := true, laidLooks := .later }
def FnExactBlockAtUptoCardSaid : Prop := Claim7.holds Tryz.pinned (.plain (OpenSpec.upto fnExactBlockAtSpec)) fnExactBlockAtUptoCard
end Rows
end Go.Proofs.YtjpcmmfmdoglkalGreatDoor
