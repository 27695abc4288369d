/- The order that is found of a ring of five, and its width, reckoned out. -/
import Derived.Test.YtdalconphfgepaaDoorOrderW
import Derived.Test.YtdalconphfgepaaDoorNearM
namespace Go.Proofs.YtdalconphfgepaaDoor
set_option maxRecDepth 8000
def es5 : List E2 := [(0, 1), (1, 2), (2, 3), (3, 4), (0, 4)]
theorem ord5 : (List.range 5).all (fun j => decide ((ordL (nearBy 5 es5) 5).getD j 0 < 5)) = true := by decide +kernel
theorem wid5 : (lastL (nearBy 5 es5) (setOf (List.range 5))).1 = 2 := by decide +kernel
theorem chk5 : chk (5 : Nat) (pz es5) = (0, 0) := by decide +kernel
end Go.Proofs.YtdalconphfgepaaDoor
