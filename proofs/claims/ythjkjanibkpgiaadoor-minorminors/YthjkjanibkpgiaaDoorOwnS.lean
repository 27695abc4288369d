/- Two graphs of one's own, in a region that draws its order. -/
import Derived.Test.YthjkjanibkpgiaaDoorBegW
import Derived.Test.YthjkjanibkpgiaaDoorTwF
import Derived.Test.YthjkjanibkpgiaaDoorMnM
namespace Go.Proofs.YthjkjanibkpgiaaDoor
set_option maxRecDepth 8000
open Go.RowKit Go.Maps
/-- A graph's box; once it is written, what it holds. -/
def Bx (w : World) (b : Nat) (done : Bool) (y : Value) : Prop := ∃ (x : Value) (ao : Option Addr) (k c : Nat), Two w b x (.slice ao k c) 24 ∧ (done = true → y = .agg #[x, .slice ao k c])
theorem Bx.turns {w w' : World} {b : Nat} {done : Bool} {y : Value} {M : Nat → Prop} (h : Bx w b done y) (ht : Turns M w w') (hm : ¬ M b) : Bx w' b done y := by
  obtain ⟨x, ao, k, c, h1, h2⟩ := h
  exact ⟨x, ao, k, c, two_turns h1 ht hm, h2⟩
theorem Bx.lt {w : World} {b : Nat} {done : Bool} {y : Value} (h : Bx w b done y) : b < w.heap.size := by
  obtain ⟨x, ao, k, c, h1, h2⟩ := h
  exact lt_of_block h1
def VO (n n2 : Int) (ao ao2 : Option Addr) (el el2 cap cap2 : Nat) (es es2 : List Pair) : Nat → Value → World → Prop
  | 0, x, _ => x = .agg #[.int .i64 n, .slice ao el cap]
  | 1, x, w => ∃ oo c, x = .agg #[.int .i64 n, .slice oo el c] ∧ EdgesAt w (.slice oo el c) es
  | 2, x, _ => x = .agg #[.int .i64 n2, .slice ao2 el2 cap2]
  | _, x, w => ∃ oo c, x = .agg #[.int .i64 n2, .slice oo el2 c] ∧ EdgesAt w (.slice oo el2 c) es2
section
variable {n n2 : Int} {ao ao2 : Option Addr} {el el2 cap cap2 : Nat} {es es2 : List Pair}
theorem VO.mono : ∀ i x (w w' : World), VO n n2 ao ao2 el el2 cap cap2 es es2 i x w → Below w.heap.size w w' → VO n n2 ao ao2 el el2 cap cap2 es es2 i x w' := fun i x w w' h hb => by
  match i, h with
  | 0, h => exact h
  | 1, ⟨oo, c, e, h⟩ => exact ⟨oo, c, e, h.below hb⟩
  | 2, h => exact h
  | _ + 3, ⟨oo, c, e, h⟩ => exact ⟨oo, c, e, h.below hb⟩
theorem edges_two {w : World} {v : Value} {b : Nat} {x : Value} {ao : Option Addr} {k c : Nat} (h : EdgesAt w v es) (hb : Two w b x (.slice ao k c) 24) (y z : Value) : EdgesAt ((w.setCell ⟨b, 0, none⟩ y).setCell ⟨b, 1, none⟩ z) v es :=
  h.box hb fun a ha => by
    have h1 := (setCell_turns w b 0 y).trans (setCell_turns _ b 1 z)
    have : ∀ (k : Nat), k ≠ b → ((w.setCell ⟨b, 0, none⟩ y).setCell ⟨b, 1, none⟩ z).heap[k]? = w.heap[k]? := fun k hk => (Below.heap_setCell _ _ _ _ hk).trans (Below.heap_setCell _ _ _ _ hk)
    exact World.cell?_of_block (this a.block ha)
theorem VO.set {w : World} {b : Nat} {x' : Value} {ao' : Option Addr} {k c : Nat} (hb : Two w b x' (.slice ao' k c) 24) (y z : Value) : ∀ i x, VO n n2 ao ao2 el el2 cap cap2 es es2 i x w → VO n n2 ao ao2 el el2 cap cap2 es es2 i x ((w.setCell ⟨b, 0, none⟩ y).setCell ⟨b, 1, none⟩ z) := fun i x h => by
  match i, h with
  | 0, h => exact h
  | 1, ⟨oo, c, e, h⟩ => exact ⟨oo, c, e, edges_two h hb y z⟩
  | 2, h => exact h
  | _ + 3, ⟨oo, c, e, h⟩ => exact ⟨oo, c, e, edges_two h hb y z⟩
end
/-- Four values that are told, two new boxes, each of which is written once. -/
structure S24 (W : World) (VP : Nat → Value → World → Prop) (L : Nat → Bool) (f : Nat → Value) (w : World) : Prop where
  told : ∀ i, i < 4 → L i = true → VP i (f i) w
  bel : Below W.heap.size W w
  a4 : L 4 = true → ∃ b, f 4 = ptr b ∧ W.heap.size ≤ b ∧ Bx w b (L 6) (f 1)
  a5 : L 5 = true → ∃ b, f 5 = ptr b ∧ W.heap.size ≤ b ∧ Bx w b (L 7) (f 3)
  ne : L 4 = true → L 5 = true → f 4 ≠ f 5
  c6 : L 6 = true → L 4 = true ∧ L 1 = true
  c7 : L 7 = true → L 5 = true ∧ L 3 = true
section
variable {W : World} {VP : Nat → Value → World → Prop} {L : Nat → Bool} {f : Nat → Value} {w w' : World}
theorem S24.start : S24 W VP (fun _ => false) f W.drew := ⟨fun _ _ h => (by cases h), (Below.refl _ W).drew, fun h => (by cases h), fun h => (by cases h), fun h => (by cases h), fun h => (by cases h), fun h => (by cases h)⟩
theorem S24.put (hmono : ∀ i x w w', VP i x w → Below w.heap.size w w' → VP i x w') (h : S24 W VP L f w) {i : Nat} (hL : L i = false) (hi : i < 4) {x : Value} (hb : Below w.heap.size w w') (hx : VP i x w') : S24 W VP (also L i) (updV f i x) w' := by
  have e : ∀ k, 4 ≤ k → also L i k = L k := fun k hk => also_at (by omega)
  have e' : ∀ k, 4 ≤ k → updV f i x k = f k := fun k hk => updV_ne _ _ (by omega)
  have hT := Turns.of_below hb (fun _ => False)
  refine ⟨fun j hj hl => ?_, below_next h.bel hb, fun hl => ?_, fun hl => ?_, ?_, fun hl => ?_, fun hl => ?_⟩
  · by_cases q : j = i
    · subst q; rw [updV_same]; exact hx
    · rw [updV_ne _ _ q]; exact hmono _ _ _ _ (h.told j hj (by rwa [also_at q] at hl)) hb
  · rw [e 4 (by omega)] at hl
    obtain ⟨b, h1, h2, h3⟩ := h.a4 hl
    rw [e 6 (by omega), e' 4 (by omega)]
    obtain ⟨y, a, k, c, h4, h5⟩ := h3.turns hT (fun h => h)
    refine ⟨b, h1, h2, y, a, k, c, h4, fun q => ?_⟩
    have : i ≠ 1 := fun e => by subst e; have := (h.c6 q).2; rw [hL] at this; cases this
    rw [updV_ne _ _ (by omega)]; exact h5 q
  · rw [e 5 (by omega)] at hl
    obtain ⟨b, h1, h2, h3⟩ := h.a5 hl
    rw [e 7 (by omega), e' 5 (by omega)]
    obtain ⟨y, a, k, c, h4, h5⟩ := h3.turns hT (fun h => h)
    refine ⟨b, h1, h2, y, a, k, c, h4, fun q => ?_⟩
    have : i ≠ 3 := fun e => by subst e; have := (h.c7 q).2; rw [hL] at this; cases this
    rw [updV_ne _ _ (by omega)]; exact h5 q
  · rw [e 4 (by omega), e 5 (by omega), e' 4 (by omega), e' 5 (by omega)]; exact h.ne
  · rw [e 6 (by omega)] at hl; rw [e 4 (by omega)]; exact ⟨(h.c6 hl).1, also_of (h.c6 hl).2 _⟩
  · rw [e 7 (by omega)] at hl; rw [e 5 (by omega)]; exact ⟨(h.c7 hl).1, also_of (h.c7 hl).2 _⟩
theorem S24.alloc4 (hmono : ∀ i x w w', VP i x w → Below w.heap.size w w' → VP i x w') (h : S24 W VP L f w) (hL : L 4 = false) : S24 W VP (also L 4) (updV f 4 (ptr w.heap.size)) (w.alloc (Obj.cells #[.int .i64 0, .slice none 0 0] 24)) := by
  have h6 : L 6 = false := by
    cases e : L 6 with
    | false => rfl
    | true => have := (h.c6 e).1; rw [hL] at this; cases this
  have hb := below_alloc (Below.refl _ w) (Obj.cells #[.int .i64 0, .slice none 0 0] 24)
  have hT := Turns.of_below hb (fun _ => False)
  have a : ∀ k, k ≠ 4 → also L 4 k = L k := fun k hk => also_at hk
  have a' : ∀ k, k ≠ 4 → updV f 4 (ptr w.heap.size) k = f k := fun k hk => updV_ne _ _ hk
  refine ⟨fun j hj hl => ?_, below_alloc h.bel _, fun _ => ⟨w.heap.size, updV_same _ _ _, h.bel.size, ?_⟩, fun hl => ?_, fun _ hl => ?_, fun hl => ?_, fun hl => ?_⟩
  · rw [a' j (by omega)]; exact hmono _ _ _ _ (h.told j hj (by rwa [a j (by omega)] at hl)) hb
  · rw [a 6 (by omega), h6]; exact ⟨_, none, 0, 0, two_new _ _ _ _, fun e => by cases e⟩
  · rw [a 5 (by omega)] at hl
    obtain ⟨b, h1, h2, h3⟩ := h.a5 hl
    rw [a 7 (by omega), a' 5 (by omega), a' 3 (by omega)]
    exact ⟨b, h1, h2, h3.turns hT (fun h => h)⟩
  · rw [a 5 (by omega)] at hl
    obtain ⟨b, h1, h2, h3⟩ := h.a5 hl
    rw [updV_same, a' 5 (by omega), h1]
    exact ptr_neq (by have := h3.lt; omega)
  · rw [a 6 (by omega), h6] at hl; cases hl
  · rw [a 7 (by omega)] at hl; rw [a 5 (by omega), a 3 (by omega)]; exact h.c7 hl
theorem S24.alloc5 (hmono : ∀ i x w w', VP i x w → Below w.heap.size w w' → VP i x w') (h : S24 W VP L f w) (hL : L 5 = false) : S24 W VP (also L 5) (updV f 5 (ptr w.heap.size)) (w.alloc (Obj.cells #[.int .i64 0, .slice none 0 0] 24)) := by
  have h7 : L 7 = false := by
    cases e : L 7 with
    | false => rfl
    | true => have := (h.c7 e).1; rw [hL] at this; cases this
  have hb := below_alloc (Below.refl _ w) (Obj.cells #[.int .i64 0, .slice none 0 0] 24)
  have hT := Turns.of_below hb (fun _ => False)
  have a : ∀ k, k ≠ 5 → also L 5 k = L k := fun k hk => also_at hk
  have a' : ∀ k, k ≠ 5 → updV f 5 (ptr w.heap.size) k = f k := fun k hk => updV_ne _ _ hk
  refine ⟨fun j hj hl => ?_, below_alloc h.bel _, fun hl => ?_, fun _ => ⟨w.heap.size, updV_same _ _ _, h.bel.size, ?_⟩, fun hl _ => ?_, fun hl => ?_, fun hl => ?_⟩
  · rw [a' j (by omega)]; exact hmono _ _ _ _ (h.told j hj (by rwa [a j (by omega)] at hl)) hb
  · rw [a 4 (by omega)] at hl
    obtain ⟨b, h1, h2, h3⟩ := h.a4 hl
    rw [a 6 (by omega), a' 4 (by omega), a' 1 (by omega)]
    exact ⟨b, h1, h2, h3.turns hT (fun h => h)⟩
  · rw [a 7 (by omega), h7]; exact ⟨_, none, 0, 0, two_new _ _ _ _, fun e => by cases e⟩
  · rw [a 4 (by omega)] at hl
    obtain ⟨b, h1, h2, h3⟩ := h.a4 hl
    rw [updV_same, a' 4 (by omega), h1]
    exact ptr_neq (by have := h3.lt; omega)
  · rw [a 6 (by omega)] at hl; rw [a 4 (by omega), a 1 (by omega)]; exact h.c6 hl
  · rw [a 7 (by omega), h7] at hl; cases hl
theorem S24.store6 (hset : ∀ (w : World) b x ao k c, Two w b x (.slice ao k c) 24 → ∀ y z i x, VP i x w → VP i x ((w.setCell ⟨b, 0, none⟩ y).setCell ⟨b, 1, none⟩ z)) (h : S24 W VP L f w) (h4 : L 4 = true) (h1 : L 1 = true) {b : Nat} (hb : f 4 = ptr b) {y : Value} {oo : Option Addr} {k c : Nat} (hy : f 1 = .agg #[y, .slice oo k c]) (x : Value) : S24 W VP (also L 6) (updV f 6 x) ((w.setCell ⟨b, 0, none⟩ y).setCell ⟨b, 1, none⟩ (.slice oo k c)) := by
  have a : ∀ k, k ≠ 6 → also L 6 k = L k := fun k hk => also_at hk
  have a' : ∀ k, k ≠ 6 → updV f 6 x k = f k := fun k hk => updV_ne _ _ hk
  obtain ⟨b', e1, h2, x0, ao0, k0, c0, h3, _⟩ := h.a4 h4
  have hbb : b' = b := by
    rw [hb] at e1
    injection e1 with e1; injection e1 with e2; injection e2 with e3; exact e3.symm
  subst hbb
  have hT := (setCell_turns w b' 0 y).trans (setCell_turns _ b' 1 (.slice oo k c))
  refine ⟨fun j hj hl => ?_, (h.bel.setCell h2 _).setCell h2 _, fun _ => ⟨b', by rw [a' 4 (by omega)]; exact hb, h2, ?_⟩, fun hl => ?_, fun h1' h2' => ?_, fun _ => by rw [a 4 (by omega), a 1 (by omega)]; exact ⟨h4, h1⟩, fun hl => ?_⟩
  · rw [a' j (by omega)]; exact hset _ _ _ _ _ _ h3 _ _ _ _ (h.told j hj (by rwa [a j (by omega)] at hl))
  · rw [a' 1 (by omega)]; exact ⟨y, oo, k, c, two_setN h3, fun _ => hy⟩
  · rw [a 5 (by omega)] at hl
    obtain ⟨c', k1, k2, k3⟩ := h.a5 hl
    have hne : c' ≠ b' := fun e => h.ne h4 hl (by rw [hb, k1, e])
    rw [a 7 (by omega), a' 5 (by omega), a' 3 (by omega)]
    exact ⟨c', k1, k2, k3.turns hT hne⟩
  · rw [a' 4 (by omega), a' 5 (by omega)]; rw [a 4 (by omega)] at h1'; rw [a 5 (by omega)] at h2'; exact h.ne h1' h2'
  · rw [a 7 (by omega)] at hl; rw [a 5 (by omega), a 3 (by omega)]; exact h.c7 hl
theorem S24.store7 (hset : ∀ (w : World) b x ao k c, Two w b x (.slice ao k c) 24 → ∀ y z i x, VP i x w → VP i x ((w.setCell ⟨b, 0, none⟩ y).setCell ⟨b, 1, none⟩ z)) (h : S24 W VP L f w) (h5 : L 5 = true) (h1 : L 3 = true) {b : Nat} (hb : f 5 = ptr b) {y : Value} {oo : Option Addr} {k c : Nat} (hy : f 3 = .agg #[y, .slice oo k c]) (x : Value) : S24 W VP (also L 7) (updV f 7 x) ((w.setCell ⟨b, 0, none⟩ y).setCell ⟨b, 1, none⟩ (.slice oo k c)) := by
  have a : ∀ k, k ≠ 7 → also L 7 k = L k := fun k hk => also_at hk
  have a' : ∀ k, k ≠ 7 → updV f 7 x k = f k := fun k hk => updV_ne _ _ hk
  obtain ⟨b', e1, h2, x0, ao0, k0, c0, h3, _⟩ := h.a5 h5
  have hbb : b' = b := by
    rw [hb] at e1
    injection e1 with e1; injection e1 with e2; injection e2 with e3; exact e3.symm
  subst hbb
  have hT := (setCell_turns w b' 0 y).trans (setCell_turns _ b' 1 (.slice oo k c))
  refine ⟨fun j hj hl => ?_, (h.bel.setCell h2 _).setCell h2 _, fun hl => ?_, fun _ => ⟨b', by rw [a' 5 (by omega)]; exact hb, h2, ?_⟩, fun h1' h2' => ?_, fun hl => ?_, fun _ => by rw [a 5 (by omega), a 3 (by omega)]; exact ⟨h5, h1⟩⟩
  · rw [a' j (by omega)]; exact hset _ _ _ _ _ _ h3 _ _ _ _ (h.told j hj (by rwa [a j (by omega)] at hl))
  · rw [a 4 (by omega)] at hl
    obtain ⟨c', k1, k2, k3⟩ := h.a4 hl
    have hne : c' ≠ b' := fun e => h.ne hl h5 (by rw [hb, k1, e])
    rw [a 6 (by omega), a' 4 (by omega), a' 1 (by omega)]
    exact ⟨c', k1, k2, k3.turns hT hne⟩
  · rw [a' 3 (by omega)]; exact ⟨y, oo, k, c, two_setN h3, fun _ => hy⟩
  · rw [a' 4 (by omega), a' 5 (by omega)]; rw [a 4 (by omega)] at h1'; rw [a 5 (by omega)] at h2'; exact h.ne h1' h2'
  · rw [a 6 (by omega)] at hl; rw [a 4 (by omega), a 1 (by omega)]; exact h.c6 hl
end
end Go.Proofs.YthjkjanibkpgiaaDoor
