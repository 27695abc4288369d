/- A region that draws its order, all of whose operations but the last but one leave all below as it is. -/
import Derived.Test.YtdalconphfgepaaDoorHeavTM
namespace Go.Proofs.YtdalconphfgepaaDoor
set_option maxRecDepth 8000
open Go.RowKit Go.Maps
structure SP (W : World) (m : Nat) (VP : Nat → Value → World → Prop) (FP : Value → World → Prop) (L : Nat → Bool) (f : Nat → Value) (w : World) : Prop where
  told : L m = false → ∀ i, i < m → L i = true → VP i (f i) w
  w0 : L m = false → Below W.heap.size W w
  fin : L m = true → FP (f m) w
  asg : L (m + 1) = true → f (m + 1) = f m
  cl : L m = true → ∀ j, j < m → L j = true
  cl2 : L (m + 1) = true → L m = true
section
variable {W : World} {m : Nat} {VP : Nat → Value → World → Prop} {FP : Value → World → Prop} {L : Nat → Bool} {f : Nat → Value} {w w' : World}
theorem SP.start : SP W m VP FP (fun _ => false) f W.drew :=
  ⟨fun _ _ _ h => (by cases h), fun _ => (Below.refl _ W).drew, fun h => (by cases h), fun h => (by cases h), fun h => (by cases h), fun h => (by cases h)⟩
theorem SP.open_ (h : SP W m VP FP L f w) {i : Nat} (hL : L i = false) (hi : i < m) : L m = false := by
  cases e : L m with
  | false => rfl
  | true => have := h.cl e i hi; rw [hL] at this; cases this
theorem SP.early (h : SP W m VP FP L f w) {i : Nat} (hL : L i = false) (hi : i < m) : Below W.heap.size W w := h.w0 (h.open_ hL hi)
theorem SP.tl (h : SP W m VP FP L f w) {i : Nat} (hL : L i = false) (hi : i < m) {j : Nat} (hj : j < m) (hl : L j = true) : VP j (f j) w := h.told (h.open_ hL hi) j hj hl
theorem SP.put (h : SP W m VP FP L f w) (hmono : ∀ i x w w', VP i x w → Below w.heap.size w w' → VP i x w') {i : Nat} {x : Value} (hL : L i = false) (hi : i < m) (hb : Below w.heap.size w w') (hx : VP i x w') : SP W m VP FP (also L i) (updV f i x) w' := by
  have h7 := h.open_ hL hi
  have h8 : L (m + 1) = false := by
    cases e : L (m + 1) with
    | false => rfl
    | true => have := h.cl2 e; rw [h7] at this; cases this
  have a7 : also L i m = false := by rw [also_at (by omega)]; exact h7
  have a8 : also L i (m + 1) = false := by rw [also_at (by omega)]; exact h8
  refine ⟨fun _ j hj hk => ?_, fun _ => below_next (h.w0 h7) hb, fun hk => (by rw [a7] at hk; cases hk), fun hk => (by rw [a8] at hk; cases hk), fun hk => (by rw [a7] at hk; cases hk), fun hk => (by rw [a8] at hk; cases hk)⟩
  by_cases e : j = i
  · subst e; rw [updV_same]; exact hx
  · rw [updV_ne _ _ e]; exact hmono _ _ _ _ (h.told h7 j hj (by rwa [also_at e] at hk)) hb
theorem SP.last (h : SP W m VP FP L f w) (hL : L m = false) (hall : ∀ j, j < m → L j = true) {x : Value} (hf : FP x w') : SP W m VP FP (also L m) (updV f m x) w' := by
  have h8 : L (m + 1) = false := by
    cases e : L (m + 1) with
    | false => rfl
    | true => have := h.cl2 e; rw [hL] at this; cases this
  have a7 : also L m m = true := also_self _ _
  have a8 : also L m (m + 1) = false := by rw [also_at (by omega)]; exact h8
  exact ⟨fun hk => (by rw [a7] at hk; cases hk), fun hk => (by rw [a7] at hk; cases hk), fun _ => (by rw [updV_same]; exact hf), fun hk => (by rw [a8] at hk; cases hk), fun _ j hj => also_of (hall j hj) _, fun hk => (by rw [a8] at hk; cases hk)⟩
theorem SP.assign (h : SP W m VP FP L f w) (hm : L m = true) : SP W m VP FP (also L (m + 1)) (updV f (m + 1) (f m)) w := by
  have a7 : also L (m + 1) m = true := also_of hm _
  exact ⟨fun hk => (by rw [a7] at hk; cases hk), fun hk => (by rw [a7] at hk; cases hk), fun _ => (by rw [updV_ne _ _ (by omega)]; exact h.fin hm), fun _ => (by rw [updV_same, updV_ne _ _ (by omega)]), fun _ j hj => also_of (h.cl hm j hj) _, fun _ => a7⟩
end
/-- What lies in memory of a scale. -/
structure Sc (w : World) (bn bb : Nat) (wo ko : Option Addr) (N m : Nat) (near bags : List Nat) (wt : Nat → Int) (kd : Nat → List Nat) : Prop where
  sn : SetsAt w bn near
  sb : SetsAt w bb bags
  wts : NumF w wo N wt
  kids : ∀ i, i < m → ∃ b off xo xc, ko = some ⟨b, off, none⟩ ∧ w.cell? ⟨b, off + i, none⟩ = some (.slice xo (kd i).length xc) ∧ NumF w xo (kd i).length (fun j => (((kd i).getD j 0 : Nat) : Int))
  tab : T64 w
theorem Sc.below {w w' : World} {bn bb : Nat} {wo ko : Option Addr} {N m : Nat} {near bags : List Nat} {wt : Nat → Int} {kd : Nat → List Nat} (h : Sc w bn bb wo ko N m near bags wt kd) (hb : Below w.heap.size w w') : Sc w' bn bb wo ko N m near bags wt kd :=
  ⟨h.sn.under hb, h.sb.under hb, h.wts.below hb, fun i hi => by
    obtain ⟨b, off, xo, xc, e, c, n⟩ := h.kids i hi
    exact ⟨b, off, xo, xc, e, (hb.cell (World.block_lt_of_cell? w _ c)).trans c, n.below hb⟩, h.tab.under hb⟩
/-- What is known of the scale, besides. -/
structure Sd (N m : Nat) (near bags : List Nat) (f : Nat → Int) (wt : Nat → Int) (kd : Nat → List Nat) (d : Nat → Nat) (D : Nat) : Prop where
  T : TD m N f bags near d
  ln : near.length = N
  lb : bags.length = m
  hN : N ≤ 100
  hm : m ≤ 100
  irr : ∀ a, (at' near a).testBit a = false
  wb : ∀ i, -1000000 ≤ wt i ∧ wt i ≤ 1000000
  cnt : ∀ i, countS (at' bags i) ≤ 12
  kds : ∀ i k, i < m → (k ∈ kd i ↔ (k < m ∧ f k = i))
  nod : ∀ i, (kd i).Nodup
  kl : ∀ i, (kd i).length ≤ 100
  dD : ∀ j, j < m → d j ≤ D
theorem UR.ok {near bags : List Nat} {f : Nat → Int} {m : Nat} {wt : Nat → Int} {at_ above : Nat} {R : Lds} (h : UR near bags f m wt at_ above R) (hw : ∀ i, -1000000 ≤ wt i ∧ wt i ≤ 1000000) : LdOk R := fun s p hp => by
  obtain ⟨h1, h2, _⟩ := h.is s p hp
  have := wsum_bd hw p.2
  rw [h2]
  exact ⟨⟨by omega, by omega⟩, h1⟩
theorem AR.ok {near bags : List Nat} {f : Nat → Int} {m : Nat} {wt : Nat → Int} {at_ : Nat} {K : List Nat} {R : Lds} (h : AR near bags f m wt at_ K R) (hw : ∀ i, -1000000 ≤ wt i ∧ wt i ≤ 1000000) : LdOk R := fun s p hp => by
  obtain ⟨_, h1, h2, _⟩ := h.is s p hp
  have := wsum_bd hw p.2
  rw [h2]
  exact ⟨⟨by omega, by omega⟩, h1⟩
end Go.Proofs.YtdalconphfgepaaDoor
