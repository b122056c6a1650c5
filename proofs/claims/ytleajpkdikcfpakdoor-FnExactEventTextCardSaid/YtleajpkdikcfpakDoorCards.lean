/-
  DERIVED. GIVEN WITH THE SEED: THE CARDS: each row of YtleajpkdikcfpakDoorRows.lean that lists a variable, with what it lists TIED to the program's text (the seventh form; the later family's looks); each row that meets fmt, with fmt's text TOLD by the authors' own Lean function (tested against real Go, not proved from fmt's source: count such statements apart). THE CARD IS WHAT COUNTS. Prove the row's statement (the work); the ties are given (YtleajpkdikcfpakDoorTie.lean); close each card by the builder's one call (the guide's Derived/Test/ToyasCard.lean, 'card_holds'). Laid BY PROGRAM, IN A SANDBOX (cutbox-door.mjs). By AI agents, Wed Nov 11 2026. No macro, syntax, notation, axiom, sorry.
-/
import Derived.Test.YtleajpkdikcfpakDoorRows
import GoSem.ClaimSeven
namespace Go.Proofs.YtleajpkdikcfpakDoor
namespace Rows

/-- THE TIED CARD OF 'laws.FnExactEscapeAt'. -/
def fnExactEscapeAtCard : Claim7 := { stood := { row := fnExactEscapeAtRow, standIns := [], harness := (true, "bbf5008be3b9ea226b13d73d6395b2ae27d147663032c2c4f8a66cfa796c14a9"), looks := true }, kinds := [], alts := [], laidByText := true, laidKinds := [.data, .data, .data, .sentinel, .sentinel], laidTests := true, laidLooks := .later }
def FnExactEscapeAtCardSaid : Prop := Claim7.holds Tryd.pinned (.plain (OpenSpec.ofChange fnExactEscapeAtSpec)) fnExactEscapeAtCard

/-- THE TIED CARD OF 'laws.FnExactDoubleAt'. -/
def fnExactDoubleAtCard : Claim7 := { stood := { row := fnExactDoubleAtRow, standIns := [], harness := (true, "bbf5008be3b9ea226b13d73d6395b2ae27d147663032c2c4f8a66cfa796c14a9"), looks := true }, kinds := [], alts := [], laidByText := true, laidKinds := [.data, .data, .data, .data, .sentinel, .sentinel, .pinned], laidTests := true, laidLooks := .later }
def FnExactDoubleAtCardSaid : Prop := Claim7.holds Tryd.pinned (.plain (OpenSpec.ofChange fnExactDoubleAtSpec)) fnExactDoubleAtCard

/-- THE TIED CARD OF 'laws.FnExactEventText'. -/
def fnExactEventTextCard : Claim7 := { stood := { row := fnExactEventTextRow, standIns := [], harness := (true, "bbf5008be3b9ea226b13d73d6395b2ae27d147663032c2c4f8a66cfa796c14a9"), looks := true }, kinds := [], alts := [], laidByText := true, laidKinds := [.data, .data, .data], laidTests := true, laidLooks := .later }
def FnExactEventTextCardSaid : Prop := Claim7.holds Tryd.pinned (.plain (OpenSpec.ofChange fnExactEventTextSpec)) fnExactEventTextCard

/-- THE SECOND FORM's CARD OF 'laws.FnExactEscapeAt'. -/
def fnExactEscapeAtUptoCard : Claim7 := { stood := { row := fnExactEscapeAtUptoRow, standIns := [], harness := (true, "bbf5008be3b9ea226b13d73d6395b2ae27d147663032c2c4f8a66cfa796c14a9"), looks := true }, kinds := [], alts := [], laidByText := true, laidKinds := [.data, .data, .data, .sentinel, .sentinel], laidTests := true, laidLooks := .later }
def FnExactEscapeAtUptoCardSaid : Prop := Claim7.holds Tryd.pinned (.plain (OpenSpec.upto fnExactEscapeAtSpec)) fnExactEscapeAtUptoCard

/-- THE SECOND FORM's CARD OF 'laws.FnExactDoubleAt'. -/
def fnExactDoubleAtUptoCard : Claim7 := { stood := { row := fnExactDoubleAtUptoRow, standIns := [], harness := (true, "bbf5008be3b9ea226b13d73d6395b2ae27d147663032c2c4f8a66cfa796c14a9"), looks := true }, kinds := [], alts := [], laidByText := true, laidKinds := [.data, .data, .data, .data, .sentinel, .sentinel, .pinned], laidTests := true, laidLooks := .later }
def FnExactDoubleAtUptoCardSaid : Prop := Claim7.holds Tryd.pinned (.plain (OpenSpec.upto fnExactDoubleAtSpec)) fnExactDoubleAtUptoCard

/-- THE SECOND FORM's CARD OF 'laws.FnExactEventText'. -/
def fnExactEventTextUptoCard : Claim7 := { stood := { row := fnExactEventTextUptoRow, standIns := [], harness := (true, "bbf5008be3b9ea226b13d73d6395b2ae27d147663032c2c4f8a66cfa796c14a9"), looks := true }, kinds := [], alts := [], laidByText := true, laidKinds := [.data, .data, .data], laidTests := true, laidLooks := .later }
def FnExactEventTextUptoCardSaid : Prop := Claim7.holds Tryd.pinned (.plain (OpenSpec.upto fnExactEventTextSpec)) fnExactEventTextUptoCard
end Rows
end Go.Proofs.YtleajpkdikcfpakDoor
