/- set.parts: the literal, with the set in a box of its own. -/
import Derived.Test.YthjkjanibkpgiaaDoorNodW
namespace Go.Proofs.YthjkjanibkpgiaaDoor
set_option maxRecDepth 8000
open Go.RowKit Go.Maps
attribute [local go_sem ↓] Go.wp_at_zero Go.wp_at_succ
theorem parts_call {w : World} {s : Nat} :
    Calls Tryd.prog 40 #[.int .u32 (s : Int)] w fun e w' => (∃ b, e = .returned (.func (.func 50) #[] #[ptr b]) ∧ w.heap.size ≤ b ∧ One w' b (.int .u32 (s : Int)) 53) ∧ Below w.heap.size w w' := by
  go_enter Tryd.func40, Tryd.ntmps40
  go_wp2
  go_ret
  exact ⟨⟨w.heap.size, rfl, Nat.le_refl _, heap_alloc_new _ _⟩, below_alloc (Below.refl _ w) _⟩
end Go.Proofs.YthjkjanibkpgiaaDoor
