/- The pieces of the law's code. -/
import Derived.Test.YtfdlndljpmamgaaPlayV
import Derived.Test.YtfdlndljpmamgaaLawN
import Derived.Test.YtfdlndljpmamgaaBegW
import Derived.Deep.CutRange
import Derived.Deep.CutBlock
namespace Go.Proofs.Ytfdlndljpmamgaa
set_option maxRecDepth 8000
def seqL : Code → Code
  | .seq a _ => a
  | c => c
def seqR : Code → Code
  | .seq _ c => c
  | c => c
def inBlk : Code → Code
  | .block _ c => c
  | c => c
def inLoop : Code → Code
  | .loop c => c
  | c => c
def bodyOf (f : Func) : Code := match f.body with
  | some c => c
  | none => .skip
/-- A round's statement: the switch, and what follows. -/
def roundOf (f : Func) : Code := seqR (seqR (seqR (seqR (inBlk (seqL (seqR (inLoop (inBlk (seqR (seqL (seqR (seqR (seqR (seqR (seqR (bodyOf f))))))))))))))))
def swOf (f : Func) : Code := seqR (seqL (roundOf f))
def restOf (f : Func) : Code := seqR (roundOf f)
end Go.Proofs.Ytfdlndljpmamgaa
