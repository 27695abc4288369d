/- A tally: add. -/
import Derived.Test.YthjkjanibkpgiaaDoorPzT
import Derived.Test.YthjkjanibkpgiaaDoorTalMM
import Derived.Deep.LoopGhost
namespace Go.Proofs.YthjkjanibkpgiaaDoor
set_option maxRecDepth 8000
open Go.RowKit Go.Maps
attribute [local go_sem ↓] Go.wp_at_zero Go.wp_at_succ
/-- A tally in a box: how often 0, 1, .. were counted. -/
def TA (w : World) (base bt : Nat) (t : TypeId) (L : List Nat) : Prop := ∃ vo vc, One w bt (.slice vo L.length vc) t ∧ w.ownsRow base 3 1 (.slice vo L.length vc) L.length (qv L)
abbrev FrT (base bt : Nat) : Nat → Prop := fun x => x = bt ∨ base ≤ x
theorem qv_app (a b : List Nat) : qv (a ++ b) = qv a ++ qv b := List.map_append
theorem ta_own {w : World} {base bt vc : Nat} {vo : Option Addr} {t : TypeId} {L : List Nat} {x : Value} (h : w.ownsRow base 3 1 (.slice vo L.length vc) L.length (qv L)) (hb : One w bt x t) (ht : t ≠ 3) {g : Nat} (hg : (Value.slice vo L.length vc).ownBlock = some g) : g ≠ bt := fun e => by
  subst e
  obtain ⟨cur, hc⟩ := own_cells h hg
  have hb' : w.heap[g]? = _ := hb
  rw [hc] at hb'
  cases hb'
  exact ht rfl

end Go.Proofs.YthjkjanibkpgiaaDoor
