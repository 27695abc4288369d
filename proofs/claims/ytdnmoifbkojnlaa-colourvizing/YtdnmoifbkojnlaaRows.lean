/-
  No cell of these rows narrows 'for every input' (looked for: loops, veiled, ifaces, maps, wideKeys, modest, calm, conditions, laid).
  DERIVED. THE GIVEN ROWS OF THIS SEAT. 3 by the template 'for every input the law returns true; each argument reads behind the call as it read before'; 0 by the template 'total and deterministic' (their statements: YtdnmoifbkojnlaaTotals.lean).
  GIVEN WITH THE SEED: the statements are not yours to turn. If you find one false, say at which input.
  Laid BY PROGRAM, IN A SANDBOX (cutbox-rows.mjs): the forced cells as the released guide's own fill.sh prints them over the translation 3f010172350717d3… (all of the seat's roots in one cut). By AI agents, Wed Nov 11 2026. No macro, syntax, notation, axiom, sorry.
-/
import Derived.Test.YtdnmoifbkojnlaaChecked
import GoSem.Claim
import GoSem.ClaimJoined
import GoSem.ClaimMapViews
import Derived.JoinedTies
import Derived.KernelRfl
namespace Go.Proofs.Ytdnmoifbkojnlaa
/- THE CELL 'sum', in the pinned program and in every row, IS THE sha256 OF THE DUMP (.gsa) THAT YtdnmoifbkojnlaaProg.lean LOADS. Nothing in Lean hashes anything: it is a label: what it is worth is what the hold of that sum in a sandbox is worth. -/
noncomputable def Try.pinned : Pinned := { name := "ytdnmoifbkojnlaa", sum := "3f010172350717d3dc6804e78d0c932bfeb10b63ab69d58e23925ec7d8af69c5", checked := Try.checked }
namespace Rows
def none {H : Type} : Left H := { results := [], args := [] }

/-- 'arborlaw.ColourNumber': WHATEVER THE INPUT: true; the input reads as it did. -/
def colourNumberSpec : ChangeSpec := { name := "colourNumber", fn := fun _ => fun
  | [d] => { results := [.lit (.bool true)], args := [d] }
  | _ => none }
def colourNumberRow : OpenClaim := { program := "ytdnmoifbkojnlaa", sum := "3f010172350717d3dc6804e78d0c932bfeb10b63ab69d58e23925ec7d8af69c5", func := "arbor/arborlaw.ColourNumber", spec := "colourNumber", unfollowed := true, recurses := true, plainKeys := false, apart := false }
def ColourNumberSaid : Prop := colourNumberRow.holds Try.pinned (OpenSpec.ofChange colourNumberSpec)

/-- ITS FALSE NEIGHBOUR: 'it returns false'. Refute it at one input. -/
def colourNumberWrong : ChangeSpec := { name := "colourNumber", fn := fun _ => fun
  | [d] => { results := [.lit (.bool false)], args := [d] }
  | _ => none }
def ColourNumberWrongFalsely : Prop := colourNumberRow.holds Try.pinned (OpenSpec.ofChange colourNumberWrong)

/-- 'arborlaw.ColourPoly': WHATEVER THE INPUT: true; the input reads as it did. -/
def colourPolySpec : ChangeSpec := { name := "colourPoly", fn := fun _ => fun
  | [d] => { results := [.lit (.bool true)], args := [d] }
  | _ => none }
def colourPolyRow : OpenClaim := { program := "ytdnmoifbkojnlaa", sum := "3f010172350717d3dc6804e78d0c932bfeb10b63ab69d58e23925ec7d8af69c5", func := "arbor/arborlaw.ColourPoly", spec := "colourPoly", unfollowed := true, recurses := true, plainKeys := false, apart := false }
def ColourPolySaid : Prop := colourPolyRow.holds Try.pinned (OpenSpec.ofChange colourPolySpec)

/-- ITS FALSE NEIGHBOUR: 'it returns false'. Refute it at one input. -/
def colourPolyWrong : ChangeSpec := { name := "colourPoly", fn := fun _ => fun
  | [d] => { results := [.lit (.bool false)], args := [d] }
  | _ => none }
def ColourPolyWrongFalsely : Prop := colourPolyRow.holds Try.pinned (OpenSpec.ofChange colourPolyWrong)

/-- 'arborlaw.ColourVizing': WHATEVER THE INPUT: true; the input reads as it did. -/
def colourVizingSpec : ChangeSpec := { name := "colourVizing", fn := fun _ => fun
  | [d] => { results := [.lit (.bool true)], args := [d] }
  | _ => none }
def colourVizingRow : OpenClaim := { program := "ytdnmoifbkojnlaa", sum := "3f010172350717d3dc6804e78d0c932bfeb10b63ab69d58e23925ec7d8af69c5", func := "arbor/arborlaw.ColourVizing", spec := "colourVizing", unfollowed := true, recurses := true, plainKeys := false, apart := false }
def ColourVizingSaid : Prop := colourVizingRow.holds Try.pinned (OpenSpec.ofChange colourVizingSpec)

/-- ITS FALSE NEIGHBOUR: 'it returns false'. Refute it at one input. -/
def colourVizingWrong : ChangeSpec := { name := "colourVizing", fn := fun _ => fun
  | [d] => { results := [.lit (.bool false)], args := [d] }
  | _ => none }
def ColourVizingWrongFalsely : Prop := colourVizingRow.holds Try.pinned (OpenSpec.ofChange colourVizingWrong)

/- THE SECOND FORM. 'bulk': how many values and letters a reading holds, each counted each time it is reached (what is shared counts as often as it is met; a slice's spare places count too). A statement '..UptoSaid' is the law's where the arguments, and the package variables that the reading takes, are together of bulk at most 1048576: NARROWER than '..Said'. Prove '..Said' where nothing that the law and all that it calls make is longer than what came in: it says more and counts as full. Else prove '..UptoSaid'. A law counts once. -/
mutual
def uptoBulk {H : Type} : DataW H → Nat
  | .lit (.string bytes) => bytes.length + 1
  | .lit _ => 1
  | .nil => 1
  | .ptr d => uptoBulk d + 1
  | .slice elems spare => uptoBulkAll elems + uptoBulkAll spare + 1
  | .agg parts => uptoBulkAll parts + 1
  | .iface _ d => uptoBulk d + 1
  | .map entries => uptoBulkEntries entries + 1
  | .held _ => 1
def uptoBulkAll {H : Type} : List (DataW H) → Nat
  | [] => 0
  | d :: r => uptoBulk d + uptoBulkAll r
def uptoBulkEntries {H : Type} : List (Lit × DataW H) → Nat
  | [] => 0
  | x :: r => uptoBulkEntry x + uptoBulkEntries r
def uptoBulkEntry {H : Type} : Lit × DataW H → Nat
  | (.string bytes, d) => bytes.length + uptoBulk d + 1
  | (_, d) => uptoBulk d + 1
 end
def uptoSmall : (H : Type) → List (DataW H) → Bool := fun _ ds => decide (uptoBulkAll ds ≤ 1048576)
def OpenSpec.upto (s : _root_.Go.ChangeSpec) : _root_.Go.OpenSpec := { _root_.Go.OpenSpec.ofChange s with cond := some uptoSmall }

/-- 'arborlaw.ColourNumber', WHERE WHAT IT READS IS OF BULK AT MOST 1048576: true; the input reads as it did. -/
def colourNumberUptoRow : OpenClaim := { program := "ytdnmoifbkojnlaa", sum := "3f010172350717d3dc6804e78d0c932bfeb10b63ab69d58e23925ec7d8af69c5", func := "arbor/arborlaw.ColourNumber", spec := "colourNumber", unfollowed := true, recurses := true, plainKeys := false, apart := false, narrowed := true }
def ColourNumberUptoSaid : Prop := colourNumberUptoRow.holds Try.pinned (OpenSpec.upto colourNumberSpec)

/-- 'arborlaw.ColourPoly', WHERE WHAT IT READS IS OF BULK AT MOST 1048576: true; the input reads as it did. -/
def colourPolyUptoRow : OpenClaim := { program := "ytdnmoifbkojnlaa", sum := "3f010172350717d3dc6804e78d0c932bfeb10b63ab69d58e23925ec7d8af69c5", func := "arbor/arborlaw.ColourPoly", spec := "colourPoly", unfollowed := true, recurses := true, plainKeys := false, apart := false, narrowed := true }
def ColourPolyUptoSaid : Prop := colourPolyUptoRow.holds Try.pinned (OpenSpec.upto colourPolySpec)

/-- 'arborlaw.ColourVizing', WHERE WHAT IT READS IS OF BULK AT MOST 1048576: true; the input reads as it did. -/
def colourVizingUptoRow : OpenClaim := { program := "ytdnmoifbkojnlaa", sum := "3f010172350717d3dc6804e78d0c932bfeb10b63ab69d58e23925ec7d8af69c5", func := "arbor/arborlaw.ColourVizing", spec := "colourVizing", unfollowed := true, recurses := true, plainKeys := false, apart := false, narrowed := true }
def ColourVizingUptoSaid : Prop := colourVizingUptoRow.holds Try.pinned (OpenSpec.upto colourVizingSpec)

end Rows
end Go.Proofs.Ytdnmoifbkojnlaa
