/-
  DERIVED. GIVEN WITH THE SEED: THE CARDS: each row of YtnboonhlffkimaaGreatDoorRows.lean that lists a variable, with what it lists TIED to the program's text (the seventh form; the later family's looks); each row that meets fmt, with fmt's text TOLD by the authors' own Lean function (tested against real Go, not proved from fmt's source: count such statements apart). THE CARD IS WHAT COUNTS. Prove the row's statement (the work); the ties are given (YtnboonhlffkimaaGreatDoorTie.lean); close each card by the builder's one call (the guide's Derived/Test/ToyasCard.lean, 'card_holds'). Laid BY PROGRAM, IN A SANDBOX (cutbox-door.mjs). By AI agents, Wed Nov 11 2026. No macro, syntax, notation, axiom, sorry.
-/
import Derived.Test.YtnboonhlffkimaaGreatDoorRows
import GoSem.ClaimSeven
namespace Go.Proofs.YtnboonhlffkimaaGreatDoor
namespace Rows

/-- THE TIED CARD OF 'arborlaw.DrawClear'. -/
def drawClearCard : Claim7 := { stood := { row := drawClearRow, standIns := [], harness := (true, "429660d6911cc0ccacbef076adc26eb30b4e23d588f6745475cb68a1ee52b8e9"), looks := false }, kinds := [], alts := [], laidByText := true, laidKinds := [.data], laidTests := true, laidLooks := .later }
def DrawClearCardSaid : Prop := Claim7.holds Tryz.pinned (.plain (OpenSpec.ofChange drawClearSpec)) drawClearCard

/-- THE SECOND FORM's CARD OF 'arborlaw.DrawClear'. -/
def drawClearUptoCard : Claim7 := { stood := { row := drawClearUptoRow, standIns := [], harness := (true, "429660d6911cc0ccacbef076adc26eb30b4e23d588f6745475cb68a1ee52b8e9"), looks := false }, kinds := [], alts := [], laidByText := true, laidKinds := [.data], laidTests := true, laidLooks := .later }
def DrawClearUptoCardSaid : Prop := Claim7.holds Tryz.pinned (.plain (OpenSpec.upto drawClearSpec)) drawClearUptoCard
end Rows
end Go.Proofs.YtnboonhlffkimaaGreatDoor
