/-
  DERIVED. GIVEN WITH THE SEED: THE CARDS: each row of YtdnmoifbkojnlaaDoorRows.lean that lists a variable, with what it lists TIED to the program's text (the seventh form; the later family's looks); each row that meets fmt, with fmt's text TOLD by the authors' own Lean function (tested against real Go, not proved from fmt's source: count such statements apart). THE CARD IS WHAT COUNTS. Prove the row's statement (the work); the ties are given (YtdnmoifbkojnlaaDoorTie.lean); close each card by the builder's one call (the guide's Derived/Test/ToyasCard.lean, 'card_holds'). Laid BY PROGRAM, IN A SANDBOX (cutbox-door.mjs). By AI agents, Wed Nov 11 2026. No macro, syntax, notation, axiom, sorry.
-/
import Derived.Test.YtdnmoifbkojnlaaDoorRows
import GoSem.ClaimSeven
namespace Go.Proofs.YtdnmoifbkojnlaaDoor
namespace Rows

/-- THE TIED CARD OF 'arborlaw.ColourClique'. -/
def colourCliqueCard : Claim7 := { stood := { row := colourCliqueRow, standIns := [], harness := (true, "5ce3471a80d316bac348e35ec5cb7585af64cde8898c12af2851f0b348b360b4"), looks := false }, kinds := [], alts := [], laidByText := true, laidKinds := [.data], laidTests := true, laidLooks := .later }
def ColourCliqueCardSaid : Prop := Claim7.holds Tryd.pinned (.plain (OpenSpec.ofChange colourCliqueSpec)) colourCliqueCard

/-- THE SECOND FORM's CARD OF 'arborlaw.ColourClique'. -/
def colourCliqueUptoCard : Claim7 := { stood := { row := colourCliqueUptoRow, standIns := [], harness := (true, "5ce3471a80d316bac348e35ec5cb7585af64cde8898c12af2851f0b348b360b4"), looks := false }, kinds := [], alts := [], laidByText := true, laidKinds := [.data], laidTests := true, laidLooks := .later }
def ColourCliqueUptoCardSaid : Prop := Claim7.holds Tryd.pinned (.plain (OpenSpec.upto colourCliqueSpec)) colourCliqueUptoCard
end Rows
end Go.Proofs.YtdnmoifbkojnlaaDoor
