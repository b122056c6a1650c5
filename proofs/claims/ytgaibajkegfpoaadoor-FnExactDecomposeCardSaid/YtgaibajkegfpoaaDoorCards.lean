/-
  DERIVED. GIVEN WITH THE SEED: THE CARDS: each row of YtgaibajkegfpoaaDoorRows.lean that lists a variable, with what it lists TIED to the program's text (the seventh form; the later family's looks); each row that meets fmt, with fmt's text TOLD by the authors' own Lean function (tested against real Go, not proved from fmt's source: count such statements apart). THE CARD IS WHAT COUNTS. Prove the row's statement (the work); the ties are given (YtgaibajkegfpoaaDoorTie.lean); close each card by the builder's one call (the guide's Derived/Test/ToyasCard.lean, 'card_holds'). Laid BY PROGRAM, IN A SANDBOX (cutbox-door.mjs). By AI agents, Wed Nov 11 2026. No macro, syntax, notation, axiom, sorry.
-/
import Derived.Test.YtgaibajkegfpoaaDoorRows
import GoSem.ClaimSeven
namespace Go.Proofs.YtgaibajkegfpoaaDoor
namespace Rows

/-- THE TIED CARD OF 'laws.FnExactDecompose'. -/
def fnExactDecomposeCard : Claim7 := { stood := { row := fnExactDecomposeRow, standIns := [], harness := (true, "87a810a3df2826ea4d84173013704c0bd6c8a886e80f0c67da7791448d0bd9c1"), looks := false }, kinds := [], alts := [], laidByText := true, laidKinds := [.data, .data, .data], laidTests := true, laidLooks := .later }
def FnExactDecomposeCardSaid : Prop := Claim7.holds Tryd.pinned (.plain (OpenSpec.ofChange fnExactDecomposeSpec)) fnExactDecomposeCard

/-- THE SECOND FORM's CARD OF 'laws.FnExactDecompose'. -/
def fnExactDecomposeUptoCard : Claim7 := { stood := { row := fnExactDecomposeUptoRow, standIns := [], harness := (true, "87a810a3df2826ea4d84173013704c0bd6c8a886e80f0c67da7791448d0bd9c1"), looks := false }, kinds := [], alts := [], laidByText := true, laidKinds := [.data, .data, .data], laidTests := true, laidLooks := .later }
def FnExactDecomposeUptoCardSaid : Prop := Claim7.holds Tryd.pinned (.plain (OpenSpec.upto fnExactDecomposeSpec)) fnExactDecomposeUptoCard
end Rows
end Go.Proofs.YtgaibajkegfpoaaDoor
