/-
  DERIVED. GIVEN WITH THE SEED: THE CARDS: each row of YtldedhfbpongmaaDoorRows.lean that lists a variable, with what it lists TIED to the program's text (the seventh form; the later family's looks); each row that meets fmt, with fmt's text TOLD by the authors' own Lean function (tested against real Go, not proved from fmt's source: count such statements apart). THE CARD IS WHAT COUNTS. Prove the row's statement (the work); the ties are given (YtldedhfbpongmaaDoorTie.lean); close each card by the builder's one call (the guide's Derived/Test/ToyasCard.lean, 'card_holds'). Laid BY PROGRAM, IN A SANDBOX (cutbox-door.mjs). By AI agents, Wed Nov 11 2026. No macro, syntax, notation, axiom, sorry.
-/
import Derived.Test.YtldedhfbpongmaaDoorRows
import GoSem.ClaimSeven
namespace Go.Proofs.YtldedhfbpongmaaDoor
namespace Rows

/-- THE TIED CARD OF 'gristmilllaw02.NodeParts'. -/
def nodePartsCard : Claim7 := { stood := { row := nodePartsRow, standIns := [], harness := (true, "98faf2acb94d68264e9d8732094fb58d4a9728e00b3dacb8fc6fb73e7d2f8d3b"), looks := false }, kinds := [], alts := [], laidByText := true, laidKinds := [.data], laidTests := true, laidLooks := .later }
def NodePartsCardSaid : Prop := Claim7.holds Tryd.pinned (.plain (OpenSpec.ofChange nodePartsSpec)) nodePartsCard

/-- THE SECOND FORM's CARD OF 'gristmilllaw02.NodeParts'. -/
def nodePartsUptoCard : Claim7 := { stood := { row := nodePartsUptoRow, standIns := [], harness := (true, "98faf2acb94d68264e9d8732094fb58d4a9728e00b3dacb8fc6fb73e7d2f8d3b"), looks := false }, kinds := [], alts := [], laidByText := true, laidKinds := [.data], laidTests := true, laidLooks := .later }
def NodePartsUptoCardSaid : Prop := Claim7.holds Tryd.pinned (.plain (OpenSpec.upto nodePartsSpec)) nodePartsUptoCard
end Rows
end Go.Proofs.YtldedhfbpongmaaDoor
