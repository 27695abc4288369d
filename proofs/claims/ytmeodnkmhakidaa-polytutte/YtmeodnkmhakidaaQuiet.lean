/- A region that draws its order, whose own operations only read, and whose callees leave what is below: one walk, in the text's order. -/
import Derived.BigQuiet
import Derived.Shelf.SlSortCmp.QuietGrown
import Derived.Test.YtmeodnkmhakidaaKitC
namespace Go.Proofs.Ytmeodnkmhakidaa
open Go.RowKit Go.Maps
abbrev GrB := GrownBy
/-- w after some draws, with some blocks behind it. -/
def growD (w : World) (p : GrB) : World := { w with heap := w.heap ++ p.os, drawn := p.n }
theorem growD_below (w : World) (p : GrB) : Below w.heap.size w (growD w p) :=
  ⟨rfl, rfl, rfl, by simp [growD], fun k hk => by simp [growD, Array.getElem?_append_left hk]⟩
theorem growD_of {w w' : World} (h : Below w.heap.size w w') : ∃ p : GrB, w' = growD w p := by
  refine ⟨⟨w'.drawn, w'.heap.extract w.heap.size w'.heap.size⟩, ?_⟩
  have hh : w'.heap = w.heap ++ w'.heap.extract w.heap.size w'.heap.size := by
    refine Array.ext_getElem? fun k => ?_
    by_cases hk : k < w.heap.size
    · rw [Array.getElem?_append_left hk, h.block k hk]
    · rw [Array.getElem?_append_right (by omega), Array.getElem?_extract]
      by_cases hk2 : k < w'.heap.size
      · rw [if_pos (by have := h.size; omega)]
        congr 1
        omega
      · rw [if_neg (by have := h.size; omega), Array.getElem?_eq_none (by omega)]
  obtain ⟨h1, h2, h3, h4, h5⟩ := w'
  have e1 := h.os
  have e2 := h.tape
  have e3 := h.output
  simp only at hh e1 e2 e3
  simp only [growD, World.mk.injEq]
  exact ⟨hh, e2, trivial, e1, e3⟩
theorem wp_region_below {P : Program} {id : Nat} {Q : Exit → Act → World → Prop} {a : Act} {w : World} {l : List Oper} (hm : P.follows .mixedOrders = true) (hB : Region.lexB .any l.toArray = true)
    (h : wpQuiet P l.toArray (fun w' => ∃ p : GrB, w' = growD w p) (fun a' => ∀ w', (∃ p : GrB, w' = growD w p) → Q .normal a' w') l a) : (Code.region id l.toArray true).wp P Q a w :=
  wp_region_quiet (C := fun w' => ∃ p : GrB, w' = growD w p) hm hB (growD_of ((Below.refl _ w).drew)) (by simpa using h)
theorem Calls.belowQ {P : Program} {f : FuncId} {args : Array Value} {w : World} {p : GrB} {v : Value} (h : ∀ W, Below w.heap.size w W → Calls P f args W fun e w' => e = .returned v ∧ Below W.heap.size W w') : Calls P f args (growD w p) fun e w'' => e = .returned v ∧ ∃ p' : GrB, w'' = growD w p' :=
  (h _ (growD_below w p)).mono fun _ _ ⟨he, hb⟩ => ⟨he, growD_of (below_next (growD_below w p) hb)⟩
theorem cell_growD {w : World} {a : Addr} {v : Value} (h : w.cell? a = some v) (p : GrB) : (growD w p).cell? a = some v := by
  rw [(growD_below w p).cell (World.block_lt_of_cell? w _ h)]; exact h
end Go.Proofs.Ytmeodnkmhakidaa
