/- Invariants for regions that draw their order. -/
import Derived.Test.YtmeodnkmhakidaaRegX
namespace Go.Proofs.Ytmeodnkmhakidaa
open Go.RowKit Go.Maps
structure SQ (W : World) (m : Nat) (VP : Nat → Value → World → Prop) (FP : (Nat → Value) → World → Prop) (L : Nat → Bool) (f : Nat → Value) (w : World) : Prop where
  told : L m = false → ∀ i, i < m → L i = true → VP i (f i) w
  w0 : L m = false → Below W.heap.size W w
  fin : L m = true → FP f w
  cl : L m = true → ∀ j, j < m → L j = true
section
variable {W : World} {m : Nat} {VP : Nat → Value → World → Prop} {FP : (Nat → Value) → World → Prop} {L : Nat → Bool} {f : Nat → Value} {w w' : World}
theorem SQ.start : SQ W m VP FP (fun _ => false) f W.drew := ⟨fun _ _ _ h => (by cases h), fun _ => (Below.refl _ W).drew, fun h => (by cases h), fun h => (by cases h)⟩
theorem SQ.open_ (h : SQ W m VP FP L f w) {i : Nat} (hL : L i = false) (hi : i < m) : L m = false := by
  cases e : L m with
  | false => rfl
  | true => have := h.cl e i hi; rw [hL] at this; cases this
theorem SQ.early (h : SQ W m VP FP L f w) {i : Nat} (hL : L i = false) (hi : i < m) : Below W.heap.size W w := h.w0 (h.open_ hL hi)
theorem SQ.tl (h : SQ W m VP FP L f w) {i : Nat} (hL : L i = false) (hi : i < m) {j : Nat} (hj : j < m) (hl : L j = true) : VP j (f j) w := h.told (h.open_ hL hi) j hj hl
theorem SQ.put (h : SQ W m VP FP L f w) (hmono : ∀ i x w w', VP i x w → Below w.heap.size w w' → VP i x w') {i : Nat} {x : Value} (hL : L i = false) (hi : i < m) (hb : Below w.heap.size w w') (hx : VP i x w') : SQ W m VP FP (also L i) (updV f i x) w' := by
  have h7 := h.open_ hL hi
  have a7 : also L i m = false := by rw [also_at (by omega)]; exact h7
  refine ⟨fun _ j hj hk => ?_, fun _ => below_next (h.w0 h7) hb, fun hk => (by rw [a7] at hk; cases hk), fun hk => (by rw [a7] at hk; cases hk)⟩
  by_cases e : j = i
  · subst e; rw [updV_same]; exact hx
  · rw [updV_ne _ _ e]; exact hmono _ _ _ _ (h.told h7 j hj (by rwa [also_at e] at hk)) hb
theorem SQ.last (h : SQ W m VP FP L f w) (hall : ∀ j, j < m → L j = true) {x : Value} (hf : FP (updV f m x) w') : SQ W m VP FP (also L m) (updV f m x) w' := by
  have _ := h
  have a7 : also L m m = true := also_self _ _
  exact ⟨fun hk => (by rw [a7] at hk; cases hk), fun hk => (by rw [a7] at hk; cases hk), fun _ => hf, fun _ j hj => also_of (hall j hj) _⟩
end
end Go.Proofs.Ytmeodnkmhakidaa
