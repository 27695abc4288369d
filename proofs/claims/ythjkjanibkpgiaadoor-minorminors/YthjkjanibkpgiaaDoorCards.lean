/-
  DERIVED. GIVEN WITH THE SEED: THE CARDS: each row of YthjkjanibkpgiaaDoorRows.lean that lists a variable, with what it lists TIED to the program's text (the seventh form; the later family's looks); each row that meets fmt, with fmt's text TOLD by the authors' own Lean function (tested against real Go, not proved from fmt's source: count such statements apart). THE CARD IS WHAT COUNTS. Prove the row's statement (the work); the ties are given (YthjkjanibkpgiaaDoorTie.lean); close each card by the builder's one call (the guide's Derived/Test/ToyasCard.lean, 'card_holds'). Laid BY PROGRAM, IN A SANDBOX (cutbox-door.mjs). By AI agents, Wed Nov 11 2026. No macro, syntax, notation, axiom, sorry.
-/
import Derived.Test.YthjkjanibkpgiaaDoorRows
import GoSem.ClaimSeven
namespace Go.Proofs.YthjkjanibkpgiaaDoor
namespace Rows

/-- THE TIED CARD OF 'arborlaw.MinorMinors'. -/
def minorMinorsCard : Claim7 := { stood := { row := minorMinorsRow, standIns := [], harness := (true, "4bed9c28f4da2fca8deb41e8eb196e18295bf5b9fce168279b158c916109947d"), looks := false }, kinds := [], alts := [], laidByText := true, laidKinds := [.data], laidTests := true, laidLooks := .later }
def MinorMinorsCardSaid : Prop := Claim7.holds Tryd.pinned (.plain (OpenSpec.ofChange minorMinorsSpec)) minorMinorsCard

/-- THE TIED CARD OF 'arborlaw.MinorWithin'. -/
def minorWithinCard : Claim7 := { stood := { row := minorWithinRow, standIns := [], harness := (true, "4bed9c28f4da2fca8deb41e8eb196e18295bf5b9fce168279b158c916109947d"), looks := false }, kinds := [], alts := [], laidByText := true, laidKinds := [.data], laidTests := true, laidLooks := .later }
def MinorWithinCardSaid : Prop := Claim7.holds Tryd.pinned (.plain (OpenSpec.ofChange minorWithinSpec)) minorWithinCard

/-- THE SECOND FORM's CARD OF 'arborlaw.MinorMinors'. -/
def minorMinorsUptoCard : Claim7 := { stood := { row := minorMinorsUptoRow, standIns := [], harness := (true, "4bed9c28f4da2fca8deb41e8eb196e18295bf5b9fce168279b158c916109947d"), looks := false }, kinds := [], alts := [], laidByText := true, laidKinds := [.data], laidTests := true, laidLooks := .later }
def MinorMinorsUptoCardSaid : Prop := Claim7.holds Tryd.pinned (.plain (OpenSpec.upto minorMinorsSpec)) minorMinorsUptoCard

/-- THE SECOND FORM's CARD OF 'arborlaw.MinorWithin'. -/
def minorWithinUptoCard : Claim7 := { stood := { row := minorWithinUptoRow, standIns := [], harness := (true, "4bed9c28f4da2fca8deb41e8eb196e18295bf5b9fce168279b158c916109947d"), looks := false }, kinds := [], alts := [], laidByText := true, laidKinds := [.data], laidTests := true, laidLooks := .later }
def MinorWithinUptoCardSaid : Prop := Claim7.holds Tryd.pinned (.plain (OpenSpec.upto minorWithinSpec)) minorWithinUptoCard
end Rows
end Go.Proofs.YthjkjanibkpgiaaDoor
