/- Minor: two boxes that are made and filled in a region that draws its order; what Minor answers. -/
import Derived.Test.YthjkjanibkpgiaaDoorTrpMW
import Derived.Test.YthjkjanibkpgiaaDoorWiW
namespace Go.Proofs.YthjkjanibkpgiaaDoor
set_option maxRecDepth 8000
open Go.RowKit Go.Maps
def VM (x1 x2 : Value) (N M : Nat) (eg eh : List E2) : Nat → Value → World → Prop
  | 0, x, _ => x = x1
  | 1, x, w => ∃ b, x = sl b N ∧ RowV w b 53 N (nv (nearF eg))
  | 2, x, _ => x = x2
  | _, x, w => ∃ b, x = sl b M ∧ RowV w b 53 M (nv (nearF eh))
theorem rowV_set47 {w : World} {b c n : Nat} {f : Nat → Value} {y z : Value} (h : RowV w b 53 n f) (h2 : One w c y 47) : RowV (w.setCell ⟨c, 0, none⟩ z) b 53 n f := by
  refine h.turns (setCell_turns w c 0 z) (fun e => ?_)
  subst e
  obtain ⟨cur, hc, _⟩ := h
  have h3 : w.heap[b]? = _ := h2
  rw [hc] at h3
  cases h3
theorem VM.mono {x1 x2 : Value} {N M : Nat} {eg eh : List E2} : ∀ i x (w w' : World), VM x1 x2 N M eg eh i x w → Below w.heap.size w w' → VM x1 x2 N M eg eh i x w' := fun i x w w' h hb => by
  match i, h with
  | 0, h => exact h
  | 1, ⟨b, e, h⟩ => exact ⟨b, e, h.block (hb.block _ h.lt)⟩
  | 2, h => exact h
  | _ + 3, ⟨b, e, h⟩ => exact ⟨b, e, h.block (hb.block _ h.lt)⟩
theorem VM.set47 {x1 x2 : Value} {N M : Nat} {eg eh : List E2} {w : World} {c : Nat} {y z : Value} (h2 : One w c y 47) : ∀ i x, VM x1 x2 N M eg eh i x w → VM x1 x2 N M eg eh i x (w.setCell ⟨c, 0, none⟩ z) := fun i x h => by
  match i, h with
  | 0, h => exact h
  | 1, ⟨b, e, h⟩ => exact ⟨b, e, rowV_set47 h h2⟩
  | 2, h => exact h
  | _ + 3, ⟨b, e, h⟩ => exact ⟨b, e, rowV_set47 h h2⟩
/-- Four values that are told, two new boxes, each of which is written once. -/
structure S47 (W : World) (VP : Nat → Value → World → Prop) (L : Nat → Bool) (f : Nat → Value) (w : World) : Prop where
  told : ∀ i, i < 4 → L i = true → VP i (f i) w
  bel : Below W.heap.size W w
  a4 : L 4 = true → ∃ b, f 4 = ptr b ∧ W.heap.size ≤ b ∧ One w b (if L 6 = true then f 1 else .slice none 0 0) 47
  a5 : L 5 = true → ∃ b, f 5 = ptr b ∧ W.heap.size ≤ b ∧ One w b (if L 7 = true then f 3 else .slice none 0 0) 47
  ne : L 4 = true → L 5 = true → f 4 ≠ f 5
  c6 : L 6 = true → L 4 = true ∧ L 1 = true
  c7 : L 7 = true → L 5 = true ∧ L 3 = true
section
variable {W : World} {VP : Nat → Value → World → Prop} {L : Nat → Bool} {f : Nat → Value} {w w' : World}
theorem S47.start : S47 W VP (fun _ => false) f W.drew := ⟨fun _ _ h => (by cases h), (Below.refl _ W).drew, fun h => (by cases h), fun h => (by cases h), fun h => (by cases h), fun h => (by cases h), fun h => (by cases h)⟩
theorem S47.put (hmono : ∀ i x w w', VP i x w → Below w.heap.size w w' → VP i x w') (h : S47 W VP L f w) {i : Nat} (hL : L i = false) (hi : i < 4) {x : Value} (hb : Below w.heap.size w w') (hx : VP i x w') : S47 W VP (also L i) (updV f i x) w' := by
  have e : ∀ k, 4 ≤ k → also L i k = L k := fun k hk => also_at (by omega)
  have e' : ∀ k, 4 ≤ k → updV f i x k = f k := fun k hk => updV_ne _ _ (by omega)
  refine ⟨fun j hj hl => ?_, below_next h.bel hb, fun hl => ?_, fun hl => ?_, ?_, fun hl => ?_, fun hl => ?_⟩
  · by_cases q : j = i
    · subst q; rw [updV_same]; exact hx
    · rw [updV_ne _ _ q]; exact hmono _ _ _ _ (h.told j hj (by rwa [also_at q] at hl)) hb
  · rw [e 4 (by omega)] at hl
    obtain ⟨b, h1, h2, h3⟩ := h.a4 hl
    rw [e 6 (by omega), e' 4 (by omega)]
    refine ⟨b, h1, h2, ?_⟩
    have h4 := (hb.block _ (lt_of_block h3)).trans h3
    cases q : L 6 with
    | false => rw [q] at h4; exact h4
    | true =>
      have : i ≠ 1 := fun e => by subst e; have := (h.c6 q).2; rw [hL] at this; cases this
      rw [q] at h4
      rw [updV_ne _ _ (by omega)]; exact h4
  · rw [e 5 (by omega)] at hl
    obtain ⟨b, h1, h2, h3⟩ := h.a5 hl
    rw [e 7 (by omega), e' 5 (by omega)]
    refine ⟨b, h1, h2, ?_⟩
    have h4 := (hb.block _ (lt_of_block h3)).trans h3
    cases q : L 7 with
    | false => rw [q] at h4; exact h4
    | true =>
      have : i ≠ 3 := fun e => by subst e; have := (h.c7 q).2; rw [hL] at this; cases this
      rw [q] at h4
      rw [updV_ne _ _ (by omega)]; exact h4
  · rw [e 4 (by omega), e 5 (by omega), e' 4 (by omega), e' 5 (by omega)]; exact h.ne
  · rw [e 6 (by omega)] at hl; rw [e 4 (by omega)]; exact ⟨(h.c6 hl).1, also_of (h.c6 hl).2 _⟩
  · rw [e 7 (by omega)] at hl; rw [e 5 (by omega)]; exact ⟨(h.c7 hl).1, also_of (h.c7 hl).2 _⟩
theorem ptr_neq {b c : Nat} (h : b ≠ c) : ptr b ≠ ptr c := fun e => h (by injection e with e1; injection e1 with e2; injection e2)
theorem S47.alloc4 (hmono : ∀ i x w w', VP i x w → Below w.heap.size w w' → VP i x w') (h : S47 W VP L f w) (hL : L 4 = false) : S47 W VP (also L 4) (updV f 4 (ptr w.heap.size)) (w.alloc (Obj.cells #[.slice none 0 0] 47)) := by
  have h6 : L 6 = false := by
    cases e : L 6 with
    | false => rfl
    | true => have := (h.c6 e).1; rw [hL] at this; cases this
  have hb := below_alloc (Below.refl _ w) (Obj.cells #[.slice none 0 0] 47)
  have a : ∀ k, k ≠ 4 → also L 4 k = L k := fun k hk => also_at hk
  have a' : ∀ k, k ≠ 4 → updV f 4 (ptr w.heap.size) k = f k := fun k hk => updV_ne _ _ hk
  refine ⟨fun j hj hl => ?_, below_alloc h.bel _, fun _ => ⟨w.heap.size, updV_same _ _ _, h.bel.size, ?_⟩, fun hl => ?_, fun _ hl => ?_, fun hl => ?_, fun hl => ?_⟩
  · rw [a' j (by omega)]; exact hmono _ _ _ _ (h.told j hj (by rwa [a j (by omega)] at hl)) hb
  · rw [a 6 (by omega), h6]; exact heap_alloc_new _ _
  · rw [a 5 (by omega)] at hl
    obtain ⟨b, h1, h2, h3⟩ := h.a5 hl
    rw [a 7 (by omega), a' 5 (by omega), a' 3 (by omega)]
    exact ⟨b, h1, h2, one_alloc' h3 _⟩
  · rw [a 5 (by omega)] at hl
    obtain ⟨b, h1, h2, h3⟩ := h.a5 hl
    rw [updV_same, a' 5 (by omega), h1]
    exact ptr_neq (by have := lt_of_block h3; omega)
  · rw [a 6 (by omega), h6] at hl; cases hl
  · rw [a 7 (by omega)] at hl; rw [a 5 (by omega), a 3 (by omega)]; exact h.c7 hl
theorem S47.alloc5 (hmono : ∀ i x w w', VP i x w → Below w.heap.size w w' → VP i x w') (h : S47 W VP L f w) (hL : L 5 = false) : S47 W VP (also L 5) (updV f 5 (ptr w.heap.size)) (w.alloc (Obj.cells #[.slice none 0 0] 47)) := by
  have h7 : L 7 = false := by
    cases e : L 7 with
    | false => rfl
    | true => have := (h.c7 e).1; rw [hL] at this; cases this
  have hb := below_alloc (Below.refl _ w) (Obj.cells #[.slice none 0 0] 47)
  have a : ∀ k, k ≠ 5 → also L 5 k = L k := fun k hk => also_at hk
  have a' : ∀ k, k ≠ 5 → updV f 5 (ptr w.heap.size) k = f k := fun k hk => updV_ne _ _ hk
  refine ⟨fun j hj hl => ?_, below_alloc h.bel _, fun hl => ?_, fun _ => ⟨w.heap.size, updV_same _ _ _, h.bel.size, ?_⟩, fun hl _ => ?_, fun hl => ?_, fun hl => ?_⟩
  · rw [a' j (by omega)]; exact hmono _ _ _ _ (h.told j hj (by rwa [a j (by omega)] at hl)) hb
  · rw [a 4 (by omega)] at hl
    obtain ⟨b, h1, h2, h3⟩ := h.a4 hl
    rw [a 6 (by omega), a' 4 (by omega), a' 1 (by omega)]
    exact ⟨b, h1, h2, one_alloc' h3 _⟩
  · rw [a 7 (by omega), h7]; exact heap_alloc_new _ _
  · rw [a 4 (by omega)] at hl
    obtain ⟨b, h1, h2, h3⟩ := h.a4 hl
    rw [updV_same, a' 4 (by omega), h1]
    exact ptr_neq (by have := lt_of_block h3; omega)
  · rw [a 6 (by omega)] at hl; rw [a 4 (by omega), a 1 (by omega)]; exact h.c6 hl
  · rw [a 7 (by omega), h7] at hl; cases hl
theorem S47.store6 (hset : ∀ (w : World) c y z, One w c y 47 → ∀ i x, VP i x w → VP i x (w.setCell ⟨c, 0, none⟩ z)) (h : S47 W VP L f w) (h4 : L 4 = true) (h1 : L 1 = true) {b : Nat} (hb : f 4 = ptr b) (x : Value) : S47 W VP (also L 6) (updV f 6 x) (w.setCell ⟨b, 0, none⟩ (f 1)) := by
  have a : ∀ k, k ≠ 6 → also L 6 k = L k := fun k hk => also_at hk
  have a' : ∀ k, k ≠ 6 → updV f 6 x k = f k := fun k hk => updV_ne _ _ hk
  obtain ⟨b', e1, h2, h3⟩ := h.a4 h4
  have hbb : b' = b := by
    rw [hb] at e1
    injection e1 with e1; injection e1 with e2; injection e2 with e3; exact e3.symm
  subst hbb
  refine ⟨fun j hj hl => ?_, h.bel.setCell h2 _, fun _ => ⟨b', by rw [a' 4 (by omega)]; exact hb, h2, ?_⟩, fun hl => ?_, fun h1' h2' => ?_, fun _ => by rw [a 4 (by omega), a 1 (by omega)]; exact ⟨h4, h1⟩, fun hl => ?_⟩
  · rw [a' j (by omega)]; exact hset _ _ _ _ h3 _ _ (h.told j hj (by rwa [a j (by omega)] at hl))
  · rw [also_self, if_pos rfl, a' 1 (by omega)]; exact box_set h3 0 _
  · rw [a 5 (by omega)] at hl
    obtain ⟨c, k1, k2, k3⟩ := h.a5 hl
    have hne : c ≠ b' := fun e => h.ne h4 hl (by rw [hb, k1, e])
    rw [a 7 (by omega), a' 5 (by omega), a' 3 (by omega)]
    exact ⟨c, k1, k2, one_far k3 hne⟩
  · rw [a' 4 (by omega), a' 5 (by omega)]; rw [a 4 (by omega)] at h1'; rw [a 5 (by omega)] at h2'; exact h.ne h1' h2'
  · rw [a 7 (by omega)] at hl; rw [a 5 (by omega), a 3 (by omega)]; exact h.c7 hl
theorem S47.store7 (hset : ∀ (w : World) c y z, One w c y 47 → ∀ i x, VP i x w → VP i x (w.setCell ⟨c, 0, none⟩ z)) (h : S47 W VP L f w) (h5 : L 5 = true) (h1 : L 3 = true) {b : Nat} (hb : f 5 = ptr b) (x : Value) : S47 W VP (also L 7) (updV f 7 x) (w.setCell ⟨b, 0, none⟩ (f 3)) := by
  have a : ∀ k, k ≠ 7 → also L 7 k = L k := fun k hk => also_at hk
  have a' : ∀ k, k ≠ 7 → updV f 7 x k = f k := fun k hk => updV_ne _ _ hk
  obtain ⟨b', e1, h2, h3⟩ := h.a5 h5
  have hbb : b' = b := by
    rw [hb] at e1
    injection e1 with e1; injection e1 with e2; injection e2 with e3; exact e3.symm
  subst hbb
  refine ⟨fun j hj hl => ?_, h.bel.setCell h2 _, fun hl => ?_, fun _ => ⟨b', by rw [a' 5 (by omega)]; exact hb, h2, ?_⟩, fun h1' h2' => ?_, fun hl => ?_, fun _ => by rw [a 5 (by omega), a 3 (by omega)]; exact ⟨h5, h1⟩⟩
  · rw [a' j (by omega)]; exact hset _ _ _ _ h3 _ _ (h.told j hj (by rwa [a j (by omega)] at hl))
  · rw [a 4 (by omega)] at hl
    obtain ⟨c, k1, k2, k3⟩ := h.a4 hl
    have hne : c ≠ b' := fun e => h.ne hl h5 (by rw [hb, k1, e])
    rw [a 6 (by omega), a' 4 (by omega), a' 1 (by omega)]
    exact ⟨c, k1, k2, one_far k3 hne⟩
  · rw [also_self, if_pos rfl, a' 3 (by omega)]; exact box_set h3 0 _
  · rw [a' 4 (by omega), a' 5 (by omega)]; rw [a 4 (by omega)] at h1'; rw [a 5 (by omega)] at h2'; exact h.ne h1' h2'
  · rw [a 6 (by omega)] at hl; rw [a 4 (by omega), a 1 (by omega)]; exact h.c6 hl
end
/-- A row of rows of numbers. -/
def RowsU (w : World) (X : Nat) (v : Value) (ls : List (List Nat)) : Prop := ∃ (hs : List Value), (∃ vo vc, v = .slice vo ls.length vc) ∧ w.ownsRow X 39 1 v ls.length hs ∧ hs.length = ls.length ∧ ∀ (i : Nat) (h : Value) (l : List Nat), hs[i]? = some h → ls[i]? = some l → ∃ vo vc, h = .slice vo l.length vc ∧ w.ownsRow X 3 1 h l.length (qv l)
/-- What Minor answers. -/
def MinA (B : Nat) (w' : World) (n : Int) (es : List Pair) (n2 : Int) (es2 : List Pair) (e : Ending) : Prop :=
  ((chk2 n es n2 es2).1 ≠ 0 ∧ e = .returned (.tuple #[.slice none 0 0, .bool false, .agg #[.int .i64 (chk2 n es n2 es2).1, .int .i64 (chk2 n es n2 es2).2]])) ∨
  (chk2 n es n2 es2 = (0, 0) ∧ ∃ (N M : Nat) (eg eh : List E2) (y : Value) (db : Bool) (tog : Nat → Bool), n = N ∧ n2 = M ∧ es = pzT eg ∧ es2 = pzT eh ∧ (∀ e ∈ eg, e.1 < N ∧ e.2 < N) ∧ (∀ e ∈ eh, e.1 < M ∧ e.2 < M) ∧ (∀ e ∈ eg, e.1 ≠ e.2) ∧ (∀ e ∈ eh, e.1 ≠ e.2) ∧ N ≤ 10 ∧ M ≤ 6 ∧ (∀ x, x ≠ 0 → (tog x = true ↔ Rch (nearF eg) N x (Lib.ctz 32 x) x)) ∧ e = .returned (.tuple #[y, .bool db, .agg #[.int .i64 0, .int .i64 0]]) ∧
    ((db = true ∧ ∃ c l, Cho tog (2 ^ N - 1).testBit c ∧ c.length = M ∧ fitP (nearF eg) (nearF eh) N M c = some l ∧ RowsU w' B y (l.map fun at_ => bl (c.getD at_ 0))) ∨
     (db = false ∧ (∀ c, Cho tog (2 ^ N - 1).testBit c → c.length = M → fitP (nearF eg) (nearF eh) N M c = none) ∧ y = .slice none 0 0)))
end Go.Proofs.YthjkjanibkpgiaaDoor
