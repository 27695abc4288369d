/-
  DERIVED. GIVEN WITH THE SEED: THE CARDS: each row of YtekokjechbibdaaDoorRows.lean that lists a variable, with what it lists TIED to the program's text (the seventh form; the later family's looks); each row that meets fmt, with fmt's text TOLD by the authors' own Lean function (tested against real Go, not proved from fmt's source: count such statements apart). THE CARD IS WHAT COUNTS. Prove the row's statement (the work); the ties are given (YtekokjechbibdaaDoorTie.lean); close each card by the builder's one call (the guide's Derived/Test/ToyasCard.lean, 'card_holds'). Laid BY PROGRAM, IN A SANDBOX (cutbox-door.mjs). By AI agents, Wed Nov 11 2026. No macro, syntax, notation, axiom, sorry.
-/
import Derived.Test.YtekokjechbibdaaDoorRows
import GoSem.ClaimSeven
namespace Go.Proofs.YtekokjechbibdaaDoor
namespace Rows

/-- THE TIED CARD OF 'arborlaw.PlaneEmbeds'. -/
def planeEmbedsCard : Claim7 := { stood := { row := planeEmbedsRow, standIns := [], harness := (true, "8d5531973c52eb9ec29095fdbcc283ed78ff446f9a07a6f5cf2b88838280b34f"), looks := false }, kinds := [], alts := [], laidByText := true, laidKinds := [.data], laidTests := true, laidLooks := .later }
def PlaneEmbedsCardSaid : Prop := Claim7.holds Tryd.pinned (.plain (OpenSpec.ofChange planeEmbedsSpec)) planeEmbedsCard

/-- THE TIED CARD OF 'arborlaw.PlaneFaces'. -/
def planeFacesCard : Claim7 := { stood := { row := planeFacesRow, standIns := [], harness := (true, "8d5531973c52eb9ec29095fdbcc283ed78ff446f9a07a6f5cf2b88838280b34f"), looks := false }, kinds := [], alts := [], laidByText := true, laidKinds := [.data], laidTests := true, laidLooks := .later }
def PlaneFacesCardSaid : Prop := Claim7.holds Tryd.pinned (.plain (OpenSpec.ofChange planeFacesSpec)) planeFacesCard

/-- THE TIED CARD OF 'arborlaw.PlaneEuler'. -/
def planeEulerCard : Claim7 := { stood := { row := planeEulerRow, standIns := [], harness := (true, "8d5531973c52eb9ec29095fdbcc283ed78ff446f9a07a6f5cf2b88838280b34f"), looks := false }, kinds := [], alts := [], laidByText := true, laidKinds := [.data], laidTests := true, laidLooks := .later }
def PlaneEulerCardSaid : Prop := Claim7.holds Tryd.pinned (.plain (OpenSpec.ofChange planeEulerSpec)) planeEulerCard

/-- THE SECOND FORM's CARD OF 'arborlaw.PlaneEmbeds'. -/
def planeEmbedsUptoCard : Claim7 := { stood := { row := planeEmbedsUptoRow, standIns := [], harness := (true, "8d5531973c52eb9ec29095fdbcc283ed78ff446f9a07a6f5cf2b88838280b34f"), looks := false }, kinds := [], alts := [], laidByText := true, laidKinds := [.data], laidTests := true, laidLooks := .later }
def PlaneEmbedsUptoCardSaid : Prop := Claim7.holds Tryd.pinned (.plain (OpenSpec.upto planeEmbedsSpec)) planeEmbedsUptoCard

/-- THE SECOND FORM's CARD OF 'arborlaw.PlaneFaces'. -/
def planeFacesUptoCard : Claim7 := { stood := { row := planeFacesUptoRow, standIns := [], harness := (true, "8d5531973c52eb9ec29095fdbcc283ed78ff446f9a07a6f5cf2b88838280b34f"), looks := false }, kinds := [], alts := [], laidByText := true, laidKinds := [.data], laidTests := true, laidLooks := .later }
def PlaneFacesUptoCardSaid : Prop := Claim7.holds Tryd.pinned (.plain (OpenSpec.upto planeFacesSpec)) planeFacesUptoCard

/-- THE SECOND FORM's CARD OF 'arborlaw.PlaneEuler'. -/
def planeEulerUptoCard : Claim7 := { stood := { row := planeEulerUptoRow, standIns := [], harness := (true, "8d5531973c52eb9ec29095fdbcc283ed78ff446f9a07a6f5cf2b88838280b34f"), looks := false }, kinds := [], alts := [], laidByText := true, laidKinds := [.data], laidTests := true, laidLooks := .later }
def PlaneEulerUptoCardSaid : Prop := Claim7.holds Tryd.pinned (.plain (OpenSpec.upto planeEulerSpec)) planeEulerUptoCard
end Rows
end Go.Proofs.YtekokjechbibdaaDoor
