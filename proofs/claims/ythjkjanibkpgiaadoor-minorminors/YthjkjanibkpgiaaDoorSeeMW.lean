/- Minor's literal: what it tells; a row of rows of numbers in a box. Minor's literal. -/
import Derived.Test.YthjkjanibkpgiaaDoorPieW
import Derived.Test.YthjkjanibkpgiaaDoorNodW
import Derived.Test.YthjkjanibkpgiaaDoorWiW
namespace Go.Proofs.YthjkjanibkpgiaaDoor
set_option maxRecDepth 8000
open Go.RowKit Go.Maps
attribute [local go_sem ↓] Go.wp_at_zero Go.wp_at_succ
theorem fitL_lt {N : Nat} {g h : Nat → Nat → Bool} : ∀ (c : Nat) (l l' : List Nat), (∀ x ∈ l, x < N) → fitL N g h c l = some l' → ∀ x ∈ l', x < N
  | 0, l, l', hl, e => by rw [fitL] at e; cases e; exact hl
  | c + 1, l, l', hl, e => by
    rw [fitL] at e
    refine firstSome_mem (Q := fun l' => ∀ x ∈ l', x < N) N 0 (fun v _ hv l2 h2 => ?_) e
    split at h2
    · exact fitL_lt c _ _ (fun x hx => by
        rcases List.mem_append.1 hx with h1 | h1
        · exact hl x h1
        · simp at h1; omega) h2
    · cases h2
/-- A row of rows of numbers, in a box; all of it lies from X on. -/
def SetsV (w : World) (X bq : Nat) (ls : List (List Nat)) : Prop := ∃ (v : Value) (hs : List Value), One w bq v 29 ∧ (∃ vo vc, v = .slice vo ls.length vc) ∧ w.ownsRow X 39 1 v ls.length hs ∧ hs.length = ls.length ∧ ∀ (i : Nat) (h : Value) (l : List Nat), hs[i]? = some h → ls[i]? = some l → ∃ vo vc, h = .slice vo l.length vc ∧ w.ownsRow X 3 1 h l.length (qv l)
theorem SetsV.nil {w : World} {X bq : Nat} (h : One w bq (.slice none 0 0) 29) : SetsV w X bq [] := ⟨_, [], h, ⟨_, _, rfl⟩, World.ownsRow_nil _ _ _ _, rfl, fun i h l h1 _ => by simp at h1⟩
theorem SetsV.turns {w w' : World} {X bq : Nat} {ls : List (List Nat)} {M : Nat → Prop} (h : SetsV w X bq ls) (ht : Turns M w w') (h1 : ¬ M bq) (h2 : ∀ k, X ≤ k → ¬ M k) : SetsV w' X bq ls := by
  obtain ⟨v, hs, p1, p2, p3, p4, p5⟩ := h
  refine ⟨v, hs, one_turns p1 ht h1, p2, ownsRow_blocks p3 fun b hb => ht.block b (p3.lt b hb).2 (h2 b (p3.lt b hb).1), p4, fun i y l hy hl => ?_⟩
  obtain ⟨vo, vc, e, ho⟩ := p5 i y l hy hl
  exact ⟨vo, vc, e, ownsRow_blocks ho fun b hb => ht.block b (ho.lt b hb).2 (h2 b (ho.lt b hb).1)⟩
theorem SetsV.lower {w : World} {X X' bq : Nat} {ls : List (List Nat)} (h : SetsV w X bq ls) (hx : X' ≤ X) : SetsV w X' bq ls := by
  obtain ⟨v, hs, p1, p2, p3, p4, p5⟩ := h
  refine ⟨v, hs, p1, p2, ownsRow_mono p3 hx, p4, fun i y l hy hl => ?_⟩
  obtain ⟨vo, vc, e, ho⟩ := p5 i y l hy hl
  exact ⟨vo, vc, e, ownsRow_mono ho hx⟩
/-- Quiet operations, then one that is told, then a store. -/
structure SR2 (W : World) (m : Nat) (VP : Nat → Value → World → Prop) (C1 : Value → World → Prop) (C2 : World → Prop) (L : Nat → Bool) (f : Nat → Value) (w : World) : Prop where
  told : L m = false → ∀ i, i < m → L i = true → VP i (f i) w
  w0 : L m = false → Below W.heap.size W w
  c1 : L m = true → L (m + 1) = false → C1 (f m) w
  c2 : L (m + 1) = true → C2 w
  cl : L m = true → ∀ j, j < m → L j = true
  cl2 : L (m + 1) = true → L m = true
section
variable {W : World} {m : Nat} {VP : Nat → Value → World → Prop} {C1 : Value → World → Prop} {C2 : World → Prop} {L : Nat → Bool} {f : Nat → Value} {w w' : World}
theorem SR2.start : SR2 W m VP C1 C2 (fun _ => false) f W.drew := ⟨fun _ _ _ h => (by cases h), fun _ => (Below.refl _ W).drew, fun h => (by cases h), fun h => (by cases h), fun h => (by cases h), fun h => (by cases h)⟩
theorem SR2.open_ (h : SR2 W m VP C1 C2 L f w) {i : Nat} (hL : L i = false) (hi : i < m) : L m = false ∧ L (m + 1) = false := by
  have h7 : L m = false := by
    cases e : L m with
    | false => rfl
    | true => have := h.cl e i hi; rw [hL] at this; cases this
  refine ⟨h7, ?_⟩
  cases e : L (m + 1) with
  | false => rfl
  | true => have := h.cl2 e; rw [h7] at this; cases this
theorem SR2.early (h : SR2 W m VP C1 C2 L f w) {i : Nat} (hL : L i = false) (hi : i < m) : Below W.heap.size W w := h.w0 (h.open_ hL hi).1
theorem SR2.tl (h : SR2 W m VP C1 C2 L f w) {i : Nat} (hL : L i = false) (hi : i < m) {j : Nat} (hj : j < m) (hl : L j = true) : VP j (f j) w := h.told (h.open_ hL hi).1 j hj hl
theorem SR2.put (h : SR2 W m VP C1 C2 L f w) (hmono : ∀ i x w w', VP i x w → Below w.heap.size w w' → VP i x w') {i : Nat} {x : Value} (hL : L i = false) (hi : i < m) (hb : Below w.heap.size w w') (hx : VP i x w') : SR2 W m VP C1 C2 (also L i) (updV f i x) w' := by
  obtain ⟨h7, h8⟩ := h.open_ hL hi
  have a7 : also L i m = false := by rw [also_at (by omega)]; exact h7
  have a8 : also L i (m + 1) = false := by rw [also_at (by omega)]; exact h8
  refine ⟨fun _ j hj hk => ?_, fun _ => below_next (h.w0 h7) hb, fun hk => (by rw [a7] at hk; cases hk), fun hk => (by rw [a8] at hk; cases hk), fun hk => (by rw [a7] at hk; cases hk), fun hk => (by rw [a8] at hk; cases hk)⟩
  by_cases e : j = i
  · subst e; rw [updV_same]; exact hx
  · rw [updV_ne _ _ e]; exact hmono _ _ _ _ (h.told h7 j hj (by rwa [also_at e] at hk)) hb
theorem SR2.app (h : SR2 W m VP C1 C2 L f w) (hL : L m = false) (hall : ∀ j, j < m → L j = true) {x : Value} (hx : C1 x w') : SR2 W m VP C1 C2 (also L m) (updV f m x) w' := by
  have h8 : L (m + 1) = false := by
    cases e : L (m + 1) with
    | false => rfl
    | true => have := h.cl2 e; rw [hL] at this; cases this
  have a7 : also L m m = true := also_self _ _
  have a8 : also L m (m + 1) = false := by rw [also_at (by omega)]; exact h8
  exact ⟨fun hk => (by rw [a7] at hk; cases hk), fun hk => (by rw [a7] at hk; cases hk), fun _ _ => (by rw [updV_same]; exact hx), fun hk => (by rw [a8] at hk; cases hk), fun _ j hj => also_of (hall j hj) _, fun hk => (by rw [a8] at hk; cases hk)⟩
theorem SR2.store (h : SR2 W m VP C1 C2 L f w) (hL : L m = true) {x : Value} (hx : C2 w') : SR2 W m VP C1 C2 (also L (m + 1)) (updV f (m + 1) x) w' := by
  have a7 : also L (m + 1) m = true := also_of hL _
  have a8 : also L (m + 1) (m + 1) = true := also_self _ _
  exact ⟨fun hk => (by rw [a7] at hk; cases hk), fun hk => (by rw [a7] at hk; cases hk), fun _ hk => (by rw [a8] at hk; cases hk), fun _ => hx, fun _ j hj => also_of (h.cl hL j hj) _, fun _ => a7⟩
end
/-- One row more. -/
theorem run_pushS {W : World} {ty : TypeId} {base bq k : Nat} {v y : Value} {hs : List Value} (hown : W.ownsRow base 39 1 v k hs) (hc : W.cell? ⟨bq, 0, none⟩ = some y) (hy1 : y.oneCell' = true) (hl : k ≤ 1000) (hb : base ≤ W.heap.size) :
    ∃ g c w', (Builtin.append_ #[29, 29] ty #[v, .slice (some ⟨bq, 0, none⟩) 1 1]).run Tryd.prog W = .ok (.slice (some ⟨g, 0, none⟩) (k + 1) c) w' ∧ w'.ownsRow base 39 1 (.slice (some ⟨g, 0, none⟩) (k + 1) c) (k + 1) (hs ++ [y]) ∧ W.grownBy w' v.ownBlock := by
  obtain ⟨i3, hi3, hy0, hyy, hy2⟩ := info_parts Tryd.info39
  obtain ⟨g, c, w', hr, h1, h2, _⟩ := run_append_lies (P := Tryd.prog) (w := W) 29 ty base 39 i3 (.slice none 0 0) 1 24 Tryd.underlying29 hi3 hy0 hyy hy2 rfl (by decide) v k hs hown ⟨bq, 0, none⟩ 1 1 [y] rfl (fun j u hj => by
    have hj0 : j = 0 := by
      have := (List.getElem?_eq_some_iff.1 hj).1
      simp at this; exact this
    subst hj0
    simp at hj
    subst hj
    rw [add_none]
    exact hc) (fun z hz => by simp at hz; subst hz; exact hy1) (by omega) (by unfold maxLen; omega) (by omega) hb _ rfl
  exact ⟨g, c, w', hr, h1, h2⟩
/-- What firstFit finds among the pieces. -/
def fitP (near wanted : Nat → Nat) (N K : Nat) (Ps : List Nat) : Option (List Nat) := fitL K (gB (drA near (fun j => Ps.getD j 0) N K)) (hB wanted) K []
/-- What the literal tells. -/
def SeeA (near wanted : Nat → Nat) (N K X bq : Nat) (Ps : List Nat) (A w' : World) : Prop := match fitP near wanted N K Ps with
  | some l => SetsV w' X bq (l.map fun at_ => bl (Ps.getD at_ 0)) ∧ Turns (fun k => k = bq) A w'
  | none => Below A.heap.size A w'
end Go.Proofs.YthjkjanibkpgiaaDoor

namespace Go.Proofs.YthjkjanibkpgiaaDoor
set_option maxRecDepth 8000
open Go.RowKit Go.Maps
attribute [local go_sem ↓] Go.wp_at_zero Go.wp_at_succ
def VS (nb wb N K : Nat) (v : Value) (dr : Nat → Nat) (B : Nat) (R : Option (List Nat)) : Nat → Value → World → Prop
  | 0, x, _ => x = sl nb N
  | 1, x, _ => x = v
  | 2, x, w => ∃ b, x = sl b K ∧ RowV w b 53 K (nv dr)
  | 3, x, _ => x = sl wb K
  | 4, x, w => ∃ y, x = .tuple #[y, .bool R.isSome] ∧ SlV B R y w
  | 5, x, w => ∃ y, x = .tuple #[y, .bool R.isSome] ∧ SlV B R y w
  | 6, x, w => SlV B R x w
  | 8, x, w => SlV B R x w
  | _, x, _ => x = .bool R.isSome
theorem VS.mono {nb wb N K : Nat} {v : Value} {dr : Nat → Nat} {B : Nat} {R : Option (List Nat)} : ∀ i x (w w' : World), VS nb wb N K v dr B R i x w → Below w.heap.size w w' → VS nb wb N K v dr B R i x w' := fun i x w w' h hb => by
  match i, h with
  | 0, h => exact h
  | 1, h => exact h
  | 2, ⟨b, e, h⟩ => exact ⟨b, e, h.block (hb.block _ h.lt)⟩
  | 3, h => exact h
  | 4, ⟨y, e, h⟩ => exact ⟨y, e, h.mono hb⟩
  | 5, ⟨y, e, h⟩ => exact ⟨y, e, h.mono hb⟩
  | 6, h => exact SlV.mono h hb
  | 7, h => exact h
  | 8, h => exact SlV.mono h hb
  | _ + 9, h => exact h
/-- A row of numbers, as a value. -/
def RwV (X : Nat) (l : List Nat) (y : Value) (w : World) : Prop := ∃ vo vc, y = .slice vo l.length vc ∧ w.ownsRow X 3 1 y l.length (qv l)
theorem RwV.mono {X : Nat} {l : List Nat} {y : Value} {w w' : World} (h : RwV X l y w) (hb : Below w.heap.size w w') : RwV X l y w' := by
  obtain ⟨vo, vc, e, h⟩ := h
  exact ⟨vo, vc, e, ownsRow_blocks h fun b hv => hb.block b (h.lt b hv).2⟩
def VA (v0 v : Value) (pb at_ p X : Nat) : Nat → Value → World → Prop
  | 0, x, _ => x = v0
  | 1, x, _ => x = v
  | 2, x, _ => x = .int .i64 (at_ : Int)
  | 3, x, _ => x = .pointer (some ⟨pb, at_, none⟩)
  | 4, x, _ => x = .int .u32 (p : Int)
  | 5, x, w => RwV X (bl p) x w
  | _, x, w => ∃ b y, x = .slice (some ⟨b, 0, none⟩) 1 1 ∧ w.cell? ⟨b, 0, none⟩ = some y ∧ RwV X (bl p) y w
theorem VA.mono {v0 v : Value} {pb at_ p X : Nat} : ∀ i x (w w' : World), VA v0 v pb at_ p X i x w → Below w.heap.size w w' → VA v0 v pb at_ p X i x w' := fun i x w w' h hb => by
  match i, h with
  | 0, h => exact h
  | 1, h => exact h
  | 2, h => exact h
  | 3, h => exact h
  | 4, h => exact h
  | 5, h => exact RwV.mono h hb
  | _ + 6, ⟨b, y, e, hc, h⟩ => exact ⟨b, y, e, (hb.cell (World.block_lt_of_cell? _ _ hc)).trans hc, h.mono hb⟩
set_option maxHeartbeats 16000000 in
theorem see_call {A : World} {bn bw bq nb wb N K vc : Nat} {vo : Option Addr} {near wanted : Nat → Nat} {Ps : List Nat} (h1 : One A bn (sl nb N) 47) (h2 : One A bw (sl wb K) 47) (h3 : One A bq (.slice none 0 0) 29) (hn : RowV A nb 53 N (nv near)) (hw : RowV A wb 53 K (nv wanted)) (hT : T32 A)
    (hp : PcA A vo K (fun j => Ps.getD j 0)) (hpb : ∀ pb, vo = some ⟨pb, 0, none⟩ → pb ≠ bq) (nl : ∀ v, near v < 2 ^ N) (wl : ∀ v, wanted v < 2 ^ K) (hps : ∀ j, j < K → Ps.getD j 0 < 2 ^ N) (hN : N ≤ 10) (hK : K ≤ 6) (h0q : bq ≠ 0) :
    Calls Tryd.prog 21 #[.slice vo K vc, ptr bn, ptr bw, ptr bq] A fun e w' => e = .returned (.bool (fitP near wanted N K Ps).isSome) ∧ SeeA near wanted N K A.heap.size bq Ps A w' := by
  obtain ⟨dr, hdr⟩ : ∃ dr, dr = drA near (fun j => Ps.getD j 0) N K := ⟨_, rfl⟩
  obtain ⟨R, hR⟩ : ∃ R, R = fitP near wanted N K Ps := ⟨_, rfl⟩
  have hdl : ∀ v, dr v < 2 ^ K := fun v => by rw [hdr]; exact drw_lt _ _ _ _
  have C23 : Hid (∀ D, Below A.heap.size A D → Calls Tryd.prog 23 #[sl nb N, .slice vo K vc] D fun e w' => (∃ b, e = .returned (sl b K) ∧ RowV w' b 53 K (nv dr)) ∧ Below D.heap.size D w') := fun D hD => by
    rw [hdr]
    refine (drawn_call (hn.block (hD.block _ hn.lt)) (hp.below hD) (hT.below hD) nl hps (by omega) (by omega)).mono ?_
    rintro e w' ⟨⟨b, rfl, _, hb⟩, hB⟩
    exact ⟨⟨b, rfl, hb⟩, hB⟩
  have C22 : Hid (∀ D db, Below A.heap.size A D → RowV D db 53 K (nv dr) → Calls Tryd.prog 22 #[sl db K, sl wb K] D fun e w' => (∃ y, e = .returned (.tuple #[y, .bool R.isSome]) ∧ SlV A.heap.size R y w') ∧ Below D.heap.size D w') := fun D db hD hd => by
    refine (fst_call hd (hw.block (hD.block _ hw.lt)) (hT.below hD) hdl wl (by omega) (by omega)).mono fun e w' ⟨h3, h4⟩ => ⟨?_, h4⟩
    have hRR : R = fitL K (gB dr) (hB wanted) K [] := by rw [hR, hdr]; rfl
    rw [← hRR] at h3
    exact fst_val (by have := hD.size; omega) h3
  have C24 : Hid (∀ D p, T32 D → p < 1024 → Calls Tryd.prog 24 #[.int .u32 ((p : Nat) : Int)] D fun e w' => (∃ y, e = .returned y ∧ RwV D.heap.size (bl p) y w') ∧ Below D.heap.size D w') := fun D p hD hp => by
    refine (nodes_call hD (show p < 4294967296 by omega)).mono ?_
    rintro e w' ⟨⟨yo, yc, rfl, hy⟩, hB⟩
    exact ⟨⟨_, rfl, yo, yc, rfl, hy⟩, hB⟩
  have HH : Hid (One A bn (sl nb N) 47 ∧ One A bw (sl wb K) 47 ∧ One A bq (.slice none 0 0) 29 ∧ T32 A ∧ PcA A vo K (fun j => Ps.getD j 0) ∧ (∀ pb, vo = some ⟨pb, 0, none⟩ → pb ≠ bq) ∧ (∀ j, j < K → Ps.getD j 0 < 2 ^ N) ∧ R = fitP near wanted N K Ps ∧ N ≤ 10 ∧ bq ≠ 0) := ⟨h1, h2, h3, hT, hp, hpb, hps, hR, hN, h0q⟩
  have h24 : (2 : Nat) ^ N ≤ 1024 := (Nat.pow_le_pow_right (by decide) hN : 2 ^ N ≤ 2 ^ 10)
  have H24 : Hid ((2 : Nat) ^ N ≤ 1024) := h24
  have HRL : Hid (∀ l, R = some l → l.length = K ∧ ∀ x ∈ l, x < K) := fun l hl => by
    rw [hR] at hl
    exact ⟨by simpa using fitL_len K [] l hl, fitL_lt K [] l (fun x hx => by cases hx) hl⟩
  clear hn hw hT hp hpb nl wl hps hR hdr hdl h0q h24
  rw [← HH.out.2.2.2.2.2.2.2.1]
  go_enter Tryd.func21, Tryd.ntmps21
  go_upto_region 1 with (fail)
  refine region_ext (J := ST A (VS nb wb N K (.slice vo K vc) dr A.heap.size R)) (by kernel_rfl) (by kernel_rfl) (by kernel_rfl) ST.start ?_ ?_
  · intro i o hi L xs a w1 hS hL hd hcl hX
    match i, hi with
    | 0, hi =>
      cases hi
      have s1 := hX.out (s := 1) rfl
      have y0 := box_cell ((hS.bel.block _ (lt_of_block h1)).trans h1) (i := 0) rfl
      refine wpOp_value rfl rfl (v := sl nb N) (w' := w1) ?_ ⟨_, rfl, hS.put VS.mono (Below.refl _ _) rfl⟩
      simp [go_sem, Act.eval, s1, y0]
    | 1, hi =>
      cases hi
      have s1 := hX.out (s := 0) rfl
      refine wpOp_value rfl rfl (v := .slice vo K vc) (w' := w1) ?_ ⟨_, rfl, hS.put VS.mono (Below.refl _ _) rfl⟩
      simp [go_sem, Act.eval, s1]
    | 2, hi =>
      cases hi
      have l0 := hd ⟨0, .data⟩ (by simp) rfl
      have l1 := hd ⟨1, .data⟩ (by simp) rfl
      have r0 := (hX.rd 0 _ 11 rfl rfl l0).trans (hS.told 0 l0)
      have r1 := (hX.rd 1 _ 12 rfl rfl l1).trans (hS.told 1 l1)
      refine wpOp_call rfl rfl (f := 23) (args := #[sl nb N, .slice vo K vc]) (w' := w1) ?_ ?_
      · simp [go_sem, Act.eval, r0, r1]
      · refine Calls.mono (C23.out _ hS.bel) ?_
        rintro e w2 ⟨⟨b, rfl, hb⟩, hB'⟩
        exact ⟨_, rfl, _, rfl, hS.put VS.mono hB' ⟨b, rfl, hb⟩⟩
    | 3, hi =>
      cases hi
      have s1 := hX.out (s := 2) rfl
      have y0 := box_cell ((hS.bel.block _ (lt_of_block h2)).trans h2) (i := 0) rfl
      refine wpOp_value rfl rfl (v := sl wb K) (w' := w1) ?_ ⟨_, rfl, hS.put VS.mono (Below.refl _ _) rfl⟩
      simp [go_sem, Act.eval, s1, y0]
    | 4, hi =>
      cases hi
      have l2 := hd ⟨2, .data⟩ (by simp) rfl
      have l3 := hd ⟨3, .data⟩ (by simp) rfl
      obtain ⟨db, e2, hdb⟩ := hS.told 2 l2
      have r2 := (hX.rd 2 _ 13 rfl rfl l2).trans e2
      have r3 := (hX.rd 3 _ 14 rfl rfl l3).trans (hS.told 3 l3)
      refine wpOp_call rfl rfl (f := 22) (args := #[sl db K, sl wb K]) (w' := w1) ?_ ?_
      · simp [go_sem, Act.eval, r2, r3]
      · refine Calls.mono (C22.out _ _ hS.bel hdb) ?_
        rintro e w2 ⟨⟨y, rfl, hy⟩, hB'⟩
        exact ⟨_, rfl, _, rfl, hS.put VS.mono hB' ⟨y, rfl, hy⟩⟩
    | 5, hi =>
      cases hi
      have l1 := hd ⟨4, .data⟩ (by simp) rfl
      obtain ⟨y, e1, hy⟩ := hS.told 4 l1
      have r1 := (hX.rd 4 _ 15 rfl rfl l1).trans e1
      refine wpOp_value rfl rfl (v := .tuple #[y, .bool R.isSome]) (w' := w1) ?_ ⟨_, rfl, hS.put VS.mono (Below.refl _ _) ⟨y, rfl, hy⟩⟩
      simp [go_sem, Act.eval, r1]
    | 6, hi =>
      cases hi
      have l1 := hd ⟨5, .data⟩ (by simp) rfl
      obtain ⟨y, e1, hy⟩ := hS.told 5 l1
      have r1 := (hX.rd 5 _ 10 rfl rfl l1).trans e1
      refine wpOp_value rfl rfl (v := y) (w' := w1) ?_ ⟨_, rfl, hS.put VS.mono (Below.refl _ _) hy⟩
      simp [go_sem, Act.eval, r1]
    | 7, hi =>
      cases hi
      have l1 := hd ⟨5, .data⟩ (by simp) rfl
      obtain ⟨y, e1, hy⟩ := hS.told 5 l1
      have r1 := (hX.rd 5 _ 10 rfl rfl l1).trans e1
      refine wpOp_value rfl rfl (v := .bool R.isSome) (w' := w1) ?_ ⟨_, rfl, hS.put VS.mono (Below.refl _ _) rfl⟩
      simp [go_sem, Act.eval, r1]
    | 8, hi =>
      cases hi
      have l1 := hd ⟨6, .data⟩ (by simp) rfl
      have hy := hS.told 6 l1
      have r1 := hX.rd 6 _ 16 rfl rfl l1
      refine wpOp_value rfl rfl (v := xs 6) (w' := w1) ?_ ⟨_, rfl, hS.put VS.mono (Below.refl _ _) hy⟩
      simp [go_sem, Act.eval, r1]
    | 9, hi =>
      cases hi
      have l1 := hd ⟨7, .data⟩ (by simp) rfl
      have r1 := (hX.rd 7 _ 17 rfl rfl l1).trans (hS.told 7 l1)
      refine wpOp_value rfl rfl (v := .bool R.isSome) (w' := w1) ?_ ⟨_, rfl, hS.put VS.mono (Below.refl _ _) rfl⟩
      simp [go_sem, Act.eval, r1]
    | _ + 10, hi => cases hi
  · intro L xs W7 hS hall
    have hy : SlV A.heap.size R (xs 8) W7 := hS.told 8 (hall 8 (by decide))
    have hz : xs 9 = .bool R.isSome := hS.told 9 (hall 9 (by decide))
    have hB7 := hS.bel
    obtain ⟨y, hyd⟩ : ∃ y, y = xs 8 := ⟨_, rfl⟩
    rw [← hyd] at hy
    simp only [puts, hz, ← hyd]
    clear hS hall hz hyd C22 C23 h1 h2 h3
    generalize xs 0 = z0
    generalize xs 1 = z1
    generalize xs 2 = z2
    generalize xs 3 = z3
    generalize xs 4 = z4
    generalize xs 5 = z5
    generalize xs 6 = z6
    generalize xs 7 = z7
    simp only [Act.put, List.setIfInBounds_toArray, List.set_cons_succ, List.set_cons_zero]
    have HB7 : Hid (Below A.heap.size A W7) := hB7
    clear hB7
    obtain ⟨ls, hls⟩ : ∃ ls, ls = R.getD [] := ⟨_, rfl⟩
    obtain ⟨ln, hln⟩ : ∃ ln, ln = ls.length := ⟨_, rfl⟩
    obtain ⟨yo, yc, hyv, hyo⟩ : ∃ yo yc, y = .slice yo ln yc ∧ W7.ownsRow A.heap.size 3 1 (.slice yo ln yc) ln (qv ls) := by
      cases R with
      | none =>
        have hy' : y = .slice none 0 0 := hy
        have e1 : ls = [] := hls
        subst e1
        have e2 : ln = 0 := hln
        subst e2
        exact ⟨none, 0, hy', World.ownsRow_nil _ _ _ _⟩
      | some l =>
        have e1 : ls = l := hls
        subst e1
        obtain ⟨yo, yc, e, ho⟩ := hy
        rw [← hln] at e ho
        exact ⟨yo, yc, e, ho⟩
    have HLS : Hid (ls = R.getD [] ∧ ln = ls.length ∧ (∀ x ∈ ls, x < K) ∧ ln ≤ K) := by
      refine ⟨hls, hln, ?_, ?_⟩
      · cases R with
        | none => have e1 : ls = [] := hls; rw [e1]; intro x hx; cases hx
        | some l => have e1 : ls = l := hls; rw [e1]; exact (HRL.out l rfl).2
      · cases R with
        | none => have e1 : ls = [] := hls; rw [hln, e1]; exact Nat.zero_le _
        | some l => have e1 : ls = l := hls; rw [hln, e1, (HRL.out l rfl).1]; exact Nat.le_refl _
    subst hyv
    have HYO : Hid _ := hyo
    have hlnk : ln ≤ 6 := by have := HLS.out; omega
    obtain ⟨rb, hrb⟩ : ∃ rb, rb = R.isSome := ⟨_, rfl⟩
    rw [← hrb]
    have HRB : Hid (rb = R.isSome) := hrb
    clear hls hln hy hyo hrb
    go_upto_region 3 with (fail)
    go_loopw [20] (fun s20 wz => ∃ i : Nat, i ≤ ln ∧ s20 = .int .i64 (i : Int) ∧ Hid (SetsV wz A.heap.size bq ((ls.take i).map fun at_ => bl (Ps.getD at_ 0)) ∧ Turns (fun k => k = bq) A wz ∧ wz.ownsRow A.heap.size 3 1 (.slice yo ln yc) ln (qv ls) ∧ (i = 0 → Below A.heap.size A wz))) (fun s20 _ => ln - (numOf s20).toNat)
    case atStart =>
      refine ⟨0, Nat.zero_le _, rfl, SetsV.nil ?_, Turns.of_below HB7.out _, HYO.out, fun _ => HB7.out⟩
      exact one_turns HH.out.2.2.1 (Turns.of_below HB7.out (fun _ => False)) (fun h => h)
    case round =>
      obtain ⟨i, hi, rfl, hJ⟩ := hrel
      by_cases hlt : i < ln
      · have k1 : decide ((i : Int) < (ln : Int)) = true := by simp; omega
        have i0 : (0 : Int) ≤ (i : Int) := by omega
        have i1 : (i : Int) < (ln : Int) := by omega
        obtain ⟨a, ha⟩ : ∃ a, ls[i]? = some a := ⟨ls[i]'(by have := HLS.out.2.1; omega), List.getElem?_eq_getElem _⟩
        have haK : a < K := HLS.out.2.2.1 a (List.mem_of_getElem? ha)
        obtain ⟨gy, hyo, cy⟩ : ∃ g, yo = some ⟨g, 0, none⟩ ∧ wr.cell? ⟨g, i, none⟩ = some (.int .i64 (a : Int)) := by
          have h := hJ.out.2.2.1
          rw [HLS.out.2.1] at h
          exact qcell h ha
        subst hyo
        obtain ⟨pb, hvo, cp⟩ := HH.out.2.2.2.2.1 a haK
        have hpbl : pb < A.heap.size := World.block_lt_of_cell? _ _ cp
        have hpbq := HH.out.2.2.2.2.2.1 pb hvo
        subst hvo
        obtain ⟨p, hp⟩ : ∃ p, p = Ps.getD a 0 := ⟨_, rfl⟩
        have cp' : wr.cell? ⟨pb, a, none⟩ = some (.int .u32 (p : Int)) := by
          rw [hp]
          exact cell_turns cp hJ.out.2.1 hpbq
        have hp10 : p < 1024 := by rw [hp]; exact Nat.lt_of_lt_of_le (HH.out.2.2.2.2.2.2.1 a haK) H24.out
        have hT0 : 0 < A.heap.size := by
          have := HH.out.2.2.2.1 0 (by decide)
          exact World.block_lt_of_cell? _ _ this
        have HTr : Hid (T32 wr) := fun j hj => cell_turns (HH.out.2.2.2.1 j hj) hJ.out.2.1 (fun e => HH.out.2.2.2.2.2.2.2.2.2 e.symm)
        obtain ⟨v0, hs, q1, ⟨so, sc, q2⟩, q3, q4, q5⟩ := hJ.out.1
        have htl : ((ls.take i).map fun at_ => bl (Ps.getD at_ 0)).length = i := by
          rw [List.length_map, List.length_take, ← HLS.out.2.1]; omega
        rw [htl] at q2 q3 q4
        have HV0 : Hid (One wr bq v0 29 ∧ v0 = .slice so i sc ∧ wr.ownsRow A.heap.size 39 1 v0 i hs ∧ hs.length = i ∧ (∀ (j : Nat) (h : Value) (l : List Nat), hs[j]? = some h → ((ls.take i).map fun at_ => bl (Ps.getD at_ 0))[j]? = some l → ∃ vo vc, h = .slice vo l.length vc ∧ wr.ownsRow A.heap.size 3 1 h l.length (qv l)) ∧ v0.ownBlock ≠ some bq ∧ A.heap.size ≤ wr.heap.size) := ⟨q1, q2, q3, q4, q5, (fun e => by
          obtain ⟨cur, hc⟩ := own_cells q3 e
          have h2 : wr.heap[bq]? = _ := q1
          rw [hc] at h2
          cases h2), hJ.out.2.1.size⟩
        have HA : Hid (ls[i]? = some a ∧ p = Ps.getD a 0 ∧ a < K) := ⟨ha, hp, haK⟩
        have j0 : (0 : Int) ≤ (a : Int) := by omega
        have j1 : (a : Int) < (K : Int) := by omega
        clear ha hp cp q1 q2 q3 q4 q5 htl hpbq hpbl hi
        go_upto_region 5 with (fail)
        refine region_ext (J := SR2 wr 7 (VA v0 (.slice (some ⟨pb, 0, none⟩) K vc) pb a p A.heap.size) (fun x w => ∃ g c yv, x = .slice (some ⟨g, 0, none⟩) (i + 1) c ∧ RwV A.heap.size (bl p) yv w ∧ w.ownsRow A.heap.size 39 1 x (i + 1) (hs ++ [yv]) ∧ One w bq v0 29 ∧ Turns (fun k => v0.ownBlock = some k) wr w) (fun w => ∃ g c yv, RwV A.heap.size (bl p) yv w ∧ One w bq (.slice (some ⟨g, 0, none⟩) (i + 1) c) 29 ∧ w.ownsRow A.heap.size 39 1 (.slice (some ⟨g, 0, none⟩) (i + 1) c) (i + 1) (hs ++ [yv]) ∧ Turns (fun k => k = bq ∨ v0.ownBlock = some k) wr w)) (by kernel_rfl) (by kernel_rfl) (by kernel_rfl) SR2.start ?_ ?_
        · intro ix o hi L xs a' w1 hS hL hd hcl hX
          match ix, hi with
          | 0, hi =>
            cases hi
            have s1 := hX.out (s := 3) rfl
            have hb := hS.early hL (by omega)
            have y0 := box_cell ((hb.block _ (lt_of_block HV0.out.1)).trans HV0.out.1) (i := 0) rfl
            refine wpOp_value rfl rfl (v := v0) (w' := w1) ?_ ⟨_, rfl, hS.put VA.mono hL (by omega) (Below.refl _ _) rfl⟩
            simp [go_sem, Act.eval, s1, y0]
          | 1, hi =>
            cases hi
            have s1 := hX.out (s := 0) rfl
            refine wpOp_value rfl rfl (v := .slice (some ⟨pb, 0, none⟩) K vc) (w' := w1) ?_ ⟨_, rfl, hS.put VA.mono hL (by omega) (Below.refl _ _) rfl⟩
            simp [go_sem, Act.eval, s1]
          | 2, hi =>
            cases hi
            have s1 := hX.out (s := 9) rfl
            refine wpOp_value rfl rfl (v := .int .i64 (a : Int)) (w' := w1) ?_ ⟨_, rfl, hS.put VA.mono hL (by omega) (Below.refl _ _) rfl⟩
            simp [go_sem, Act.eval, s1]
          | 3, hi =>
            cases hi
            have l1 := hd ⟨1, .data⟩ (by simp) rfl
            have l2 := hd ⟨2, .data⟩ (by simp) rfl
            have r1 := (hX.rd 1 _ 25 rfl rfl l1).trans (hS.tl hL (by omega) (j := 1) (by omega) l1)
            have r2 := (hX.rd 2 _ 26 rfl rfl l2).trans (hS.tl hL (by omega) (j := 2) (by omega) l2)
            refine wpOp_value rfl rfl (v := .pointer (some ⟨pb, a, none⟩)) (w' := w1) ?_ ⟨_, rfl, hS.put VA.mono hL (by omega) (Below.refl _ _) rfl⟩
            simp [go_sem, Act.eval, r1, r2, j0, j1]
          | 4, hi =>
            cases hi
            have l1 := hd ⟨3, .data⟩ (by simp) rfl
            have r1 := (hX.rd 3 _ 27 rfl rfl l1).trans (hS.tl hL (by omega) (j := 3) (by omega) l1)
            have hb := hS.early hL (by omega)
            have y0 := (hb.cell (World.block_lt_of_cell? _ _ cp')).trans cp'
            refine wpOp_value rfl rfl (v := .int .u32 (p : Int)) (w' := w1) ?_ ⟨_, rfl, hS.put VA.mono hL (by omega) (Below.refl _ _) rfl⟩
            simp [go_sem, Act.eval, r1, y0]
          | 5, hi =>
            cases hi
            have l1 := hd ⟨4, .data⟩ (by simp) rfl
            have r1 := (hX.rd 4 _ 28 rfl rfl l1).trans (hS.tl hL (by omega) (j := 4) (by omega) l1)
            have hb := hS.early hL (by omega)
            refine wpOp_call rfl rfl (f := 24) (args := #[.int .u32 (p : Int)]) (w' := w1) ?_ ?_
            · simp [go_sem, Act.eval, r1]
            · refine Calls.mono (C24.out _ _ (HTr.out.below hb) hp10) ?_
              rintro e w2 ⟨⟨y, rfl, yo', yc', hy1, hy2⟩, hB'⟩
              exact ⟨_, rfl, _, rfl, hS.put VA.mono hL (by omega) hB' ⟨yo', yc', hy1, ownsRow_mono hy2 (Nat.le_trans HV0.out.2.2.2.2.2.2 hb.size)⟩⟩
          | 6, hi =>
            cases hi
            have l1 := hd ⟨5, .data⟩ (by simp) rfl
            have hy : RwV A.heap.size (bl p) (xs 5) w1 := hS.tl hL (by omega) (j := 5) (by omega) l1
            have r1 := hX.rd 5 _ 29 rfl rfl l1
            obtain ⟨yo', yc', hy1, hy2⟩ := id hy
            have r2 := r1.trans hy1
            simp only [Array.getD_eq_getD_getElem?] at r2
            refine wpOp_value rfl rfl (v := .slice (some ⟨w1.heap.size, 0, none⟩) 1 1) (w' := w1.alloc (Obj.cells #[xs 5] 39)) ?_ ⟨_, rfl, hS.put VA.mono hL (by omega) (below_alloc (Below.refl _ _) _) ⟨w1.heap.size, xs 5, rfl, one_cell _ _ _, hy.mono (below_alloc (Below.refl _ _) _)⟩⟩
            simp [go_sem, Act.eval, r2, hy1]
          | 7, hi =>
            cases hi
            have l0 := hd ⟨0, .data⟩ (by simp) rfl
            have l6 := hd ⟨6, .data⟩ (by simp) rfl
            have l5 := hcl 6 _ rfl l6 ⟨5, .data⟩ (by simp) rfl
            have l4 := hcl 5 _ rfl l5 ⟨4, .data⟩ (by simp) rfl
            have l3 := hcl 4 _ rfl l4 ⟨3, .data⟩ (by simp) rfl
            have l1 := hcl 3 _ rfl l3 ⟨1, .data⟩ (by simp) rfl
            have l2 := hcl 3 _ rfl l3 ⟨2, .data⟩ (by simp) rfl
            have hall : ∀ j, j < 7 → L j = true := fun j hj => by
              have : j = 0 ∨ j = 1 ∨ j = 2 ∨ j = 3 ∨ j = 4 ∨ j = 5 ∨ j = 6 := by omega
              rcases this with rfl | rfl | rfl | rfl | rfl | rfl | rfl <;> assumption
            have r0 := (hX.rd 0 _ 24 rfl rfl l0).trans (hS.told hL 0 (by omega) l0)
            obtain ⟨b, yv, e6, c6, hyv⟩ := hS.told hL 6 (by omega) l6
            have r6 := (hX.rd 6 _ 30 rfl rfl l6).trans e6
            have hb := hS.w0 hL
            have ho : w1.ownsRow A.heap.size 39 1 v0 i hs := ownsRow_blocks HV0.out.2.2.1 fun b hv => hb.block b (HV0.out.2.2.1.lt b hv).2
            have hone : yv.oneCell' = true := by obtain ⟨_, _, e, _⟩ := hyv; rw [e]; rfl
            obtain ⟨g, cc, w', hrun, h1, h2⟩ := run_pushS (ty := 29) ho c6 hone (by omega) (Nat.le_trans HV0.out.2.2.2.2.2.2 hb.size)
            refine wpOp_value rfl rfl (v := .slice (some ⟨g, 0, none⟩) (i + 1) cc) (w' := w') (exec_append rfl r0 r6 hrun) ⟨_, rfl, hS.app hL hall ⟨g, cc, yv, rfl, ?_, h1, ?_, ?_⟩⟩
            · obtain ⟨y1, y2, y3, y4⟩ := hyv
              refine ⟨y1, y2, y3, ownsRow_blocks y4 fun b' hb' => h2.block b' (y4.lt b' hb').2 (fun e => ?_)⟩
              obtain ⟨cur, hc⟩ := own_cells y4 hb'
              obtain ⟨cur2, hc2⟩ := own_cells ho e.symm
              rw [hc] at hc2
              cases hc2
            · have o1 : One w1 bq v0 29 := (hb.block _ (lt_of_block HV0.out.1)).trans HV0.out.1
              exact (h2.block bq (lt_of_block o1) (fun e => HV0.out.2.2.2.2.2.1 e.symm)).trans o1
            · exact (Turns.of_below hb _).trans ((Turns.of_grown h2).mono fun k _ e => e.symm)
          | 8, hi =>
            cases hi
            have l7 := hd ⟨7, .data⟩ (by simp) rfl
            obtain ⟨g, cc, yv, e7, hyv, h1, o1, ht⟩ := hS.c1 l7 hL
            have r7 := (hX.rd 7 _ 31 rfl rfl l7).trans e7
            have s1 := hX.out (s := 3) rfl
            have y0 := box_cell o1 (i := 0) rfl
            have y1 := one_free o1
            rw [e7] at h1
            refine wpOp_skip rfl rfl (w' := w1.setCell ⟨bq, 0, none⟩ (.slice (some ⟨g, 0, none⟩) (i + 1) cc)) ?_ ⟨undef, rfl, hS.store l7 ⟨g, cc, yv, ?_, box_set o1 0 _, ?_, ?_⟩⟩
            · simp [go_sem, Act.eval, r7, s1, y0, y1]
            · obtain ⟨z1, z2, z3, z4⟩ := hyv
              refine ⟨z1, z2, z3, ownsRow_blocks z4 fun b' hb' => Below.heap_setCell _ _ _ _ (fun e => ?_)⟩
              subst e
              obtain ⟨cur, hc⟩ := own_cells z4 hb'
              have h2 : w1.heap[b']? = _ := o1
              rw [hc] at h2
              cases h2
            · refine ownsRow_blocks h1 fun b' hb' => Below.heap_setCell _ _ _ _ (fun e => ?_)
              subst e
              obtain ⟨cur, hc⟩ := own_cells h1 hb'
              have h2 : w1.heap[b']? = _ := o1
              rw [hc] at h2
              cases h2
            · exact (ht.mono fun k _ e => Or.inr e).trans ((setCell_turns _ _ _ _).mono fun k _ e => Or.inl e)
          | m + 9, hi => cases hi
        · intro L0 xv w3 hS hall
          obtain ⟨g, cc, yv, h1, h2, h3, h4⟩ := hS.c2 (hall 8 (by simp))
          simp only [puts, Act.put, List.setIfInBounds_toArray, List.set_cons_succ, List.set_cons_zero]
          generalize xv 0 = x0
          generalize xv 1 = x1
          generalize xv 2 = x2
          generalize xv 3 = x3
          generalize xv 4 = x4
          generalize xv 5 = x5
          generalize xv 6 = x6
          generalize xv 7 = x7
          have hnd : ∀ (w' : World) (X' : Nat) (t : TypeId) (sz : Nat) (vv : Value) (n : Nat) (l' : List Value), wr.ownsRow X' t sz vv n l' → t = 3 → ∀ b, vv.ownBlock = some b → ¬ (b = bq ∨ v0.ownBlock = some b) := fun w' X' t sz vv n l' ho ht b hb h => by
            subst ht
            obtain ⟨cur, hc⟩ := own_cells ho hb
            rcases h with h | h
            · subst h
              have h2 : wr.heap[b]? = _ := HV0.out.1
              rw [hc] at h2
              cases h2
            · obtain ⟨cur2, hc2⟩ := own_cells HV0.out.2.2.1 h
              rw [hc] at hc2
              cases hc2
          have HW3 : Hid (SetsV w3 A.heap.size bq ((ls.take (i + 1)).map fun at_ => bl (Ps.getD at_ 0)) ∧ Turns (fun k => k = bq) A w3 ∧ w3.ownsRow A.heap.size 3 1 (.slice (some ⟨gy, 0, none⟩) ln yc) ln (qv ls)) := by
            have htk : ls.take (i + 1) = ls.take i ++ [a] := by
              rw [List.take_add_one, HA.out.1]; rfl
            have htl : ((ls.take i).map fun at_ => bl (Ps.getD at_ 0)).length = i := by
              rw [List.length_map, List.length_take, ← HLS.out.2.1]; omega
            have hbl : bl (Ps.getD a 0) = bl p := by rw [← HA.out.2.1]
            refine ⟨⟨_, hs ++ [yv], h2, ?_, ?_, ?_, ?_⟩, ?_, ?_⟩
            · rw [htk, List.map_append, List.length_append, htl]
              exact ⟨_, _, rfl⟩
            · rw [htk, List.map_append, List.length_append, htl]
              exact h3
            · rw [htk, List.map_append, List.length_append, List.length_append, htl, HV0.out.2.2.2.1]
              rfl
            · intro j h l hj hl
              rw [htk, List.map_append] at hl
              by_cases hji : j < i
              · rw [List.getElem?_append_left (by rw [HV0.out.2.2.2.1]; exact hji)] at hj
                rw [List.getElem?_append_left (by rw [htl]; exact hji)] at hl
                obtain ⟨z1, z2, z3, z4⟩ := HV0.out.2.2.2.2.1 j h l hj hl
                exact ⟨z1, z2, z3, ownsRow_blocks z4 fun b hb => h4.block b (z4.lt b hb).2 (hnd w3 _ _ _ _ _ _ z4 rfl b hb)⟩
              · rw [List.getElem?_append_right (by rw [HV0.out.2.2.2.1]; omega), HV0.out.2.2.2.1] at hj
                rw [List.getElem?_append_right (by rw [htl]; omega), htl] at hl
                have hj0 : j - i = 0 := by
                  have := (List.getElem?_eq_some_iff.1 hj).1
                  simpa using this
                rw [hj0] at hj hl
                have hl' : bl (Ps.getD a 0) = l := Option.some.inj hl
                have hj' : yv = h := Option.some.inj hj
                rw [← hj', ← hl', ← HA.out.2.1]
                exact h1
            · exact hJ.out.2.1.next h4 (fun k hk e => by
                rcases e with e | e
                · exact e
                · have := (HV0.out.2.2.1.lt k e).1; omega)
            · exact ownsRow_blocks hJ.out.2.2.1 fun b hb => h4.block b (hJ.out.2.2.1.lt b hb).2 (hnd w3 _ _ _ _ _ _ hJ.out.2.2.1 rfl b hb)
          clear hS hall h1 h2 h3 h4 hnd cp' cy HTr hJ
          go_wp2
          go_roundw
          case rel => exact ⟨i + 1, by omega, by simp, HW3.out.1, HW3.out.2.1, HW3.out.2.2, fun h => by omega⟩
          case measure => simp [numOf]; omega
      · have k1 : decide ((i : Int) < (ln : Int)) = false := by simp; omega
        have e : i = ln := by omega
        have HE : Hid (i = ln) := e
        clear e hi
        go_wp2
        go_ret
        refine ⟨by have := HRB.out; simp [this], ?_⟩
        unfold SeeA
        rw [← HH.out.2.2.2.2.2.2.2.1]
        have hls := HLS.out.1
        have hi := HE.out
        cases R with
        | none =>
          refine hJ.out.2.2.2 ?_
          have e1 : ls = [] := hls
          rw [hi, HLS.out.2.1, e1]; rfl
        | some l =>
          have e1 : ls = l := hls
          refine ⟨?_, hJ.out.2.1⟩
          have := hJ.out.1
          rw [hi, HLS.out.2.1, List.take_length, e1] at this
          exact this
end Go.Proofs.YthjkjanibkpgiaaDoor
