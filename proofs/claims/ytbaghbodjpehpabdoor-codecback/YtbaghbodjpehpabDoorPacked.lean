/- The document's Packed: the bytes of a graph. -/
import Derived.Test.YtbaghbodjpehpabDoorSmalls
import Derived.Deep.Cut
namespace Go.Proofs.YtbaghbodjpehpabDoor
open Go.RowKit Go.Maps
attribute [local go_sem ↓] Go.wp_at_zero Go.wp_at_succ

theorem Tryd.info5 : (Tryd.prog.info? 5).map (fun i => (i.zero, i.size, i.bytes)) = some (some (.int .u8 0), 1, 1) := by kernel_rfl

abbrev i64s (L : List Int) : List Value := L.map (Value.int .i64)
abbrev u8s (L : List Int) : List Value := L.map (Value.int .u8)

theorem row_below {w w' : World} {base : Nat} {e : TypeId} {sz : Nat} {v : Value} {n : Nat} {xs : List Value} (h : w.ownsRow base e sz v n xs) (hb : Below w.heap.size w w') : w'.ownsRow base e sz v n xs :=
  h.kept (row := none) ⟨hb.os, hb.tape, hb.output, hb.size, fun k hk _ => hb.block k hk⟩ (by cases v.ownBlock <;> simp)

/-- Rows of different kinds lie apart. -/
theorem rows_apart {w : World} {b1 b2 : Nat} {e1 e2 : TypeId} {z1 z2 : Nat} {v1 v2 : Value} {n1 n2 : Nat} {x1 x2 : List Value} (h1 : w.ownsRow b1 e1 z1 v1 n1 x1) (h2 : w.ownsRow b2 e2 z2 v2 n2 x2) (hne : e1 ≠ e2) : v1.ownBlock = none ∨ v1.ownBlock ≠ v2.ownBlock := by
  cases e : v1.ownBlock with
  | none => exact Or.inl rfl
  | some g =>
    refine Or.inr fun e2' => ?_
    obtain ⟨c1, hc1⟩ := row_block h1 g e
    obtain ⟨c2, hc2⟩ := row_block h2 g e2'.symm
    rw [hc1] at hc2
    simp at hc2
    exact hne hc2.2

theorem below_row {W wr w1 : World} {B : Nat} {v : Value} (hb : Below B W wr) (hs : B ≤ wr.heap.size) (o : Obj) (hg : (wr.alloc o).grownBy w1 v.ownBlock) (hn : ∀ k, v.ownBlock = some k → B ≤ k) : Below B W w1 :=
  (hb.alloc hs o).grown hg (by simp; omega) hn

theorem run_convert_row {w : World} {base : Nat} {v : Value} {X : List Int} (h : w.ownsRow base 5 1 v X.length (u8s X)) {src dst : TypeId} (hs : Tryd.prog.underlying src = some (.slice 5)) (he : Tryd.prog.underlying 5 = some (.int .u8)) (hd : Tryd.prog.underlying dst = some .string) :
    (convert src dst v).run Tryd.prog w = .ok (.string (strOfNums X)) w := by
  rcases h.2 with ⟨rfl, e⟩ | ⟨g, cap, cur, rfl, hx⟩
  · rw [run_convert_bytes_nil w src 5 hs he 0 0 dst hd]
    have : X = [] := List.length_eq_zero_iff.1 e
    subst this
    rfl
  · refine run_convert_bytes_arg w src 5 hs he g 0 X.length cap X rfl (fun i hi => ?_) dst hd
    have := h.cellAt i (by omega)
    rw [Nat.zero_add, this, List.getElem?_map, List.getElem?_eq_getElem hi]
    simp [List.getD_eq_getElem?_getD, List.getElem?_eq_getElem hi]

def slen : Value → Nat
  | .slice _ n _ => n
  | _ => 0

end Go.Proofs.YtbaghbodjpehpabDoor
