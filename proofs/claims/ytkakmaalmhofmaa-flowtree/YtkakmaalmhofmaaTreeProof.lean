/- Whatever graph and weights it is given, FlowTree answers true and leaves them as they were; no condition. -/
import Derived.Test.YtkakmaalmhofmaaTreeLaw
namespace Go.Proofs.Ytkakmaalmhofmaa

theorem flowTree_holds : Rows.FlowTreeSaid := flowTree_of treeLaw

#print axioms flowTree_holds
end Go.Proofs.Ytkakmaalmhofmaa
