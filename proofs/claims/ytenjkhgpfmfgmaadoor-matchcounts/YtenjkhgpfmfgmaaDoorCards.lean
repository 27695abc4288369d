/-
  DERIVED. GIVEN WITH THE SEED: THE CARDS: each row of YtenjkhgpfmfgmaaDoorRows.lean that lists a variable, with what it lists TIED to the program's text (the seventh form; the later family's looks); each row that meets fmt, with fmt's text TOLD by the authors' own Lean function (tested against real Go, not proved from fmt's source: count such statements apart). THE CARD IS WHAT COUNTS. Prove the row's statement (the work); the ties are given (YtenjkhgpfmfgmaaDoorTie.lean); close each card by the builder's one call (the guide's Derived/Test/ToyasCard.lean, 'card_holds'). Laid BY PROGRAM, IN A SANDBOX (cutbox-door.mjs). By AI agents, Wed Nov 11 2026. No macro, syntax, notation, axiom, sorry.
-/
import Derived.Test.YtenjkhgpfmfgmaaDoorRows
import GoSem.ClaimSeven
namespace Go.Proofs.YtenjkhgpfmfgmaaDoor
namespace Rows

/-- THE TIED CARD OF 'arborlaw.MatchTutte'. -/
def matchTutteCard : Claim7 := { stood := { row := matchTutteRow, standIns := [], harness := (true, "d47d62ed417db1bc9f5d416bbe0f8c73a7a733eba7ac60b9b63de5229428f353"), looks := false }, kinds := [], alts := [], laidByText := true, laidKinds := [.data, .data, .data], laidTests := true, laidLooks := .later }
def MatchTutteCardSaid : Prop := Claim7.holds Tryd.pinned (.plain (OpenSpec.ofChange matchTutteSpec)) matchTutteCard

/-- THE TIED CARD OF 'arborlaw.MatchSplit'. -/
def matchSplitCard : Claim7 := { stood := { row := matchSplitRow, standIns := [], harness := (true, "d47d62ed417db1bc9f5d416bbe0f8c73a7a733eba7ac60b9b63de5229428f353"), looks := false }, kinds := [], alts := [], laidByText := true, laidKinds := [.data, .data, .data], laidTests := true, laidLooks := .later }
def MatchSplitCardSaid : Prop := Claim7.holds Tryd.pinned (.plain (OpenSpec.ofChange matchSplitSpec)) matchSplitCard

/-- THE TIED CARD OF 'arborlaw.MatchKoenig'. -/
def matchKoenigCard : Claim7 := { stood := { row := matchKoenigRow, standIns := [], harness := (true, "d47d62ed417db1bc9f5d416bbe0f8c73a7a733eba7ac60b9b63de5229428f353"), looks := false }, kinds := [], alts := [], laidByText := true, laidKinds := [.data, .data, .data], laidTests := true, laidLooks := .later }
def MatchKoenigCardSaid : Prop := Claim7.holds Tryd.pinned (.plain (OpenSpec.ofChange matchKoenigSpec)) matchKoenigCard

/-- THE TIED CARD OF 'arborlaw.MatchCounts'. -/
def matchCountsCard : Claim7 := { stood := { row := matchCountsRow, standIns := [], harness := (true, "d47d62ed417db1bc9f5d416bbe0f8c73a7a733eba7ac60b9b63de5229428f353"), looks := false }, kinds := [], alts := [], laidByText := true, laidKinds := [.data, .data, .data], laidTests := true, laidLooks := .later }
def MatchCountsCardSaid : Prop := Claim7.holds Tryd.pinned (.plain (OpenSpec.ofChange matchCountsSpec)) matchCountsCard

/-- THE SECOND FORM's CARD OF 'arborlaw.MatchTutte'. -/
def matchTutteUptoCard : Claim7 := { stood := { row := matchTutteUptoRow, standIns := [], harness := (true, "d47d62ed417db1bc9f5d416bbe0f8c73a7a733eba7ac60b9b63de5229428f353"), looks := false }, kinds := [], alts := [], laidByText := true, laidKinds := [.data, .data, .data], laidTests := true, laidLooks := .later }
def MatchTutteUptoCardSaid : Prop := Claim7.holds Tryd.pinned (.plain (OpenSpec.upto matchTutteSpec)) matchTutteUptoCard

/-- THE SECOND FORM's CARD OF 'arborlaw.MatchSplit'. -/
def matchSplitUptoCard : Claim7 := { stood := { row := matchSplitUptoRow, standIns := [], harness := (true, "d47d62ed417db1bc9f5d416bbe0f8c73a7a733eba7ac60b9b63de5229428f353"), looks := false }, kinds := [], alts := [], laidByText := true, laidKinds := [.data, .data, .data], laidTests := true, laidLooks := .later }
def MatchSplitUptoCardSaid : Prop := Claim7.holds Tryd.pinned (.plain (OpenSpec.upto matchSplitSpec)) matchSplitUptoCard

/-- THE SECOND FORM's CARD OF 'arborlaw.MatchKoenig'. -/
def matchKoenigUptoCard : Claim7 := { stood := { row := matchKoenigUptoRow, standIns := [], harness := (true, "d47d62ed417db1bc9f5d416bbe0f8c73a7a733eba7ac60b9b63de5229428f353"), looks := false }, kinds := [], alts := [], laidByText := true, laidKinds := [.data, .data, .data], laidTests := true, laidLooks := .later }
def MatchKoenigUptoCardSaid : Prop := Claim7.holds Tryd.pinned (.plain (OpenSpec.upto matchKoenigSpec)) matchKoenigUptoCard

/-- THE SECOND FORM's CARD OF 'arborlaw.MatchCounts'. -/
def matchCountsUptoCard : Claim7 := { stood := { row := matchCountsUptoRow, standIns := [], harness := (true, "d47d62ed417db1bc9f5d416bbe0f8c73a7a733eba7ac60b9b63de5229428f353"), looks := false }, kinds := [], alts := [], laidByText := true, laidKinds := [.data, .data, .data], laidTests := true, laidLooks := .later }
def MatchCountsUptoCardSaid : Prop := Claim7.holds Tryd.pinned (.plain (OpenSpec.upto matchCountsSpec)) matchCountsUptoCard
end Rows
end Go.Proofs.YtenjkhgpfmfgmaaDoor
