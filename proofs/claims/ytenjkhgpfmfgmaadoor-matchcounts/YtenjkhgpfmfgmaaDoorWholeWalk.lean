/- The walk of PartsWhole: it answers true, and what was there stays. -/
import Derived.Test.YtenjkhgpfmfgmaaDoorWholeM
import Derived.Test.YtenjkhgpfmfgmaaDoorOwn
import Derived.Test.YtenjkhgpfmfgmaaDoorRefCheck
namespace Go.Proofs.YtenjkhgpfmfgmaaDoor
open Go.RowKit Go.Maps
attribute [local go_sem ↓] Go.wp_at_zero Go.wp_at_succ

/-- An edge list goes on through a call and a box. -/
theorem EdgesAt.on {W w1 : World} {v : Value} {es : List Pair} (h : EdgesAt W v es) (hb : Below W.heap.size W w1) (o : Obj) : EdgesAt (w1.alloc o) v es := (h.below hb).below (below_alloc (Below.refl _ _) o)
theorem two_on {W w1 : World} {b : Nat} {x y : Value} {t : TypeId} (h : Two W b x y t) (hb : Below W.heap.size W w1) (o : Obj) : Two (w1.alloc o) b x y t := two_alloc (two_next h hb) o
theorem below_on {w W w1 : World} (h : Below w.heap.size w W) (hb : Below W.heap.size W w1) (o : Obj) : Below w.heap.size w (w1.alloc o) := below_alloc (below_next h hb) o
theorem row_on {W w1 : World} {base : Nat} {t : TypeId} {sz : Nat} {v : Value} {n : Nat} {xs : List Value} (h : W.ownsRow base t sz v n xs) (hb : Below W.heap.size W w1) : w1.ownsRow base t sz v n xs := ownsRow_blocks h fun b hb' => hb.block b (h.lt b hb').2
theorem row_al {W : World} {base : Nat} {t : TypeId} {sz : Nat} {v : Value} {n : Nat} {xs : List Value} (h : W.ownsRow base t sz v n xs) (o : Obj) : (W.alloc o).ownsRow base t sz v n xs := row_on h (below_alloc (Below.refl _ _) o)
theorem lists_al {W : World} {base : Nat} {v : Value} {ls : List (List Nat)} (h : ListsAt W base v ls) (o : Obj) : ListsAt (W.alloc o) base v ls := h.below (below_alloc (Below.refl _ _) o)

theorem exP (P : Pair → Nat → Nat → Prop) : ∃ R : Pair → Nat → Nat → Bool, ∀ x v w, R x v w = true ↔ P x v w := by
  classical exact ⟨fun x v w => decide (P x v w), by simp⟩

end Go.Proofs.YtenjkhgpfmfgmaaDoor
