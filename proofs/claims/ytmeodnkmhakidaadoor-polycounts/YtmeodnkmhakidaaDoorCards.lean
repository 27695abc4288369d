/-
  DERIVED. GIVEN WITH THE SEED: THE CARDS: each row of YtmeodnkmhakidaaDoorRows.lean that lists a variable, with what it lists TIED to the program's text (the seventh form; the later family's looks); each row that meets fmt, with fmt's text TOLD by the authors' own Lean function (tested against real Go, not proved from fmt's source: count such statements apart). THE CARD IS WHAT COUNTS. Prove the row's statement (the work); the ties are given (YtmeodnkmhakidaaDoorTie.lean); close each card by the builder's one call (the guide's Derived/Test/ToyasCard.lean, 'card_holds'). Laid BY PROGRAM, IN A SANDBOX (cutbox-door.mjs). By AI agents, Wed Nov 11 2026. No macro, syntax, notation, axiom, sorry.
-/
import Derived.Test.YtmeodnkmhakidaaDoorRows
import GoSem.ClaimSeven
namespace Go.Proofs.YtmeodnkmhakidaaDoor
namespace Rows

/-- THE TIED CARD OF 'arborlaw.PolyCounts'. -/
def polyCountsCard : Claim7 := { stood := { row := polyCountsRow, standIns := [], harness := (true, "134c4c4c44f9187f3c52e1a968cb1f8f3a2f9d35d8220e338954c0a79d00e07e"), looks := false }, kinds := [], alts := [], laidByText := true, laidKinds := [.data], laidTests := true, laidLooks := .later }
def PolyCountsCardSaid : Prop := Claim7.holds Tryd.pinned (.plain (OpenSpec.ofChange polyCountsSpec)) polyCountsCard

/-- THE SECOND FORM's CARD OF 'arborlaw.PolyCounts'. -/
def polyCountsUptoCard : Claim7 := { stood := { row := polyCountsUptoRow, standIns := [], harness := (true, "134c4c4c44f9187f3c52e1a968cb1f8f3a2f9d35d8220e338954c0a79d00e07e"), looks := false }, kinds := [], alts := [], laidByText := true, laidKinds := [.data], laidTests := true, laidLooks := .later }
def PolyCountsUptoCardSaid : Prop := Claim7.holds Tryd.pinned (.plain (OpenSpec.upto polyCountsSpec)) polyCountsUptoCard
end Rows
end Go.Proofs.YtmeodnkmhakidaaDoor
