/- grow: all cliques that are part of no other one, with the nodes of one and others of some. -/
import Derived.Test.YtkkfjfphmlcieaaGreatPivotW
import Derived.Test.YtkkfjfphmlcieaaGreatLists
import Derived.Test.YtkkfjfphmlcieaaGreatAnyhow
namespace Go.Proofs.YtkkfjfphmlcieaaGreat
set_option maxRecDepth 8000
open Go.RowKit Go.Maps
attribute [local go_sem ↓] Go.wp_at_zero Go.wp_at_succ
theorem RgN.turns {M : Nat → Prop} {w w' : World} {b r N cnt : Nat} {S lf : Nat → Bool} (h : RgN w b r N S lf cnt) (ht : Turns M w w') (hb : ¬ M b) (hr : ¬ M r) : RgN w' b r N S lf cnt := by
  obtain ⟨D, LF, ⟨es, clock, since, seen, c0, h1, h2, h3, h4, h5, h6⟩, h7, h8⟩ := h
  exact ⟨D, LF, ⟨es, clock, since, seen, c0, (ht.block b (Array.getElem?_eq_some_iff.1 h1).1 hb).trans h1, h2, h3, h4, (ht.block r (Array.getElem?_eq_some_iff.1 h5).1 hr).trans h5, h6⟩, h7, h8⟩
theorem RgN.iter {w : World} {b r N cnt : Nat} {S lf : Nat → Bool} (h : RgN w b r N S lf cnt) : ∃ a b c d, w.heap[r]? = some (.mapIter a b c d) := by
  obtain ⟨D, LF, ⟨es, clock, since, seen, c0, h1, h2, h3, h4, h5, h6⟩, h7, h8⟩ := h
  exact ⟨_, _, _, _, h5⟩
/-- One step of turning behind another. -/
theorem Turns.comp {M M' : Nat → Prop} {w w1 w2 : World} (h : Turns M w w1) (h2 : Turns M' w1 w2) (hm : ∀ k, k < w.heap.size → M' k → M k) : Turns M w w2 :=
  ⟨h2.os.trans h.os, h2.tape.trans h.tape, h2.output.trans h.output, Nat.le_trans h.size h2.size, fun k hk hM => (h2.block k (Nat.lt_of_lt_of_le hk h.size) (fun h' => hM (hm k hk h'))).trans (h.block k hk hM)⟩
def capsG (bf bc bn bg : Nat) : Array Value := #[ptr bf, ptr bc, ptr bn, ptr bg]
/-- What lies there. -/
structure GrM (w : World) (base bf bc bn bg bC : Nat) (ao : Option Addr) (cap N : Nat) (bl : Nat → Nat) (adj : Nat → Nat → Bool) (fv : Value) (F : List (List Nat)) (R : Nat → Bool) : Prop where
  boxf : One w bf fv 52
  lists : ListsAt w base fv F
  boxc : One w bc (.map (some bC)) 71
  clq : SetN w bC N R
  boxn : One w bn (.slice ao N cap) 61
  boxg : One w bg (.func (.func 63) #[] (capsG bf bc bn bg)) 93
  near : NearsAt w ao N bl adj
  lo : bf < base ∧ bc < base ∧ bn < base ∧ bg < base ∧ bC < base ∧ (∀ i, i < N → bl i < base) ∧ (∀ g, ao = some ⟨g, 0, none⟩ → g < base)
  ne : bf ≠ bc ∧ bf ≠ bn ∧ bf ≠ bg ∧ (∀ g, ao = some ⟨g, 0, none⟩ → bf ≠ g) ∧ ∀ i, i < N → bC ≠ bl i
  size : base ≤ w.heap.size
section
variable {w w' : World} {base bf bc bn bg bC : Nat} {ao : Option Addr} {cap N : Nat} {bl : Nat → Nat} {adj : Nat → Nat → Bool} {fv : Value} {F : List (List Nat)} {R : Nat → Bool}
theorem GrM.next (h : GrM w base bf bc bn bg bC ao cap N bl adj fv F R) (hb : Below w.heap.size w w') : GrM w' base bf bc bn bg bC ao cap N bl adj fv F R :=
  ⟨(hb.block _ (lt_of_block h.boxf)).trans h.boxf, h.lists.turns (Turns.of_below hb (fun _ => False)) (fun _ h => h.elim), (hb.block _ (lt_of_block h.boxc)).trans h.boxc, h.clq.below hb h.clq.lt, (hb.block _ (lt_of_block h.boxn)).trans h.boxn, (hb.block _ (lt_of_block h.boxg)).trans h.boxg, h.near.below hb, h.lo, h.ne, Nat.le_trans h.size hb.size⟩
/-- A map that is none of these changes. -/
theorem GrM.other (h : GrM w base bf bc bn bg bC ao cap N bl adj fv F R) {b : Nat} {S : Nat → Bool} (hS : SetN w b N S) (h1 : b ≠ bC) (h2 : ∀ i, i < N → bl i ≠ b) (ht : Turns (fun k => k = b) w w') : GrM w' base bf bc bn bg bC ao cap N bl adj fv F R := by
  have hm : ∀ {b' : Nat} {x : Value} {t : TypeId}, One w b' x t → ¬ (b' = b) := fun {b' x t} ho e => by
    obtain ⟨es, c, hm⟩ := hS.isMap
    have h0 : w.heap[b']? = _ := ho
    rw [e, hm] at h0
    cases h0
  refine ⟨(ht.block _ (lt_of_block h.boxf) (hm h.boxf)).trans h.boxf, h.lists.turns ht (fun k e => Or.inr (by rw [e]; exact hS.isMap)), (ht.block _ (lt_of_block h.boxc) (hm h.boxc)).trans h.boxc, h.clq.turns ht (fun e => h1 e.symm), (ht.block _ (lt_of_block h.boxn) (hm h.boxn)).trans h.boxn, (ht.block _ (lt_of_block h.boxg) (hm h.boxg)).trans h.boxg, ?_, h.lo, h.ne, Nat.le_trans h.size ht.size⟩
  refine ⟨h.near.inj, fun i hi => ?_, fun i hi => (h.near.sets i hi).turns ht (h2 i hi)⟩
  obtain ⟨g, e1, c⟩ := h.near.row i hi
  exact ⟨g, e1, cell_turns c ht (not_map c hS)⟩
/-- The clique changes. -/
theorem GrM.clique (h : GrM w base bf bc bn bg bC ao cap N bl adj fv F R) {R' : Nat → Bool} (hS : SetN w' bC N R') (ht : Turns (fun k => k = bC) w w') : GrM w' base bf bc bn bg bC ao cap N bl adj fv F R' := by
  have hm : ∀ {b' : Nat} {x : Value} {t : TypeId}, One w b' x t → ¬ (b' = bC) := fun {b' x t} ho e => by
    obtain ⟨es, c, hm⟩ := h.clq.isMap
    have h0 : w.heap[b']? = _ := ho
    rw [e, hm] at h0
    cases h0
  refine ⟨(ht.block _ (lt_of_block h.boxf) (hm h.boxf)).trans h.boxf, h.lists.turns ht (fun k e => Or.inr (by rw [e]; exact h.clq.isMap)), (ht.block _ (lt_of_block h.boxc) (hm h.boxc)).trans h.boxc, hS, (ht.block _ (lt_of_block h.boxn) (hm h.boxn)).trans h.boxn, (ht.block _ (lt_of_block h.boxg) (hm h.boxg)).trans h.boxg, ?_, h.lo, h.ne, Nat.le_trans h.size ht.size⟩
  refine ⟨h.near.inj, fun i hi => ?_, fun i hi => (h.near.sets i hi).turns ht (fun e => h.ne.2.2.2.2 i hi e.symm)⟩
  obtain ⟨g, e1, c⟩ := h.near.row i hi
  exact ⟨g, e1, cell_turns c ht (not_map c h.clq)⟩
end
/-- What a call of grow may turn. -/
def MG (bf bC bP bX : Nat) (fv : Value) : Nat → Prop := fun k => k = bf ∨ k = bC ∨ k = bP ∨ k = bX ∨ some k = fv.ownBlock
/-- How many nodes a set has. -/
def cardN (N : Nat) (S : Nat → Bool) : Nat := (lsN N S).length
theorem cardN_lt {N : Nat} {S T : Nat → Bool} (h : ∀ x, x < N → T x = true → S x = true) {v : Nat} (hv : v < N) (h1 : S v = true) (h2 : T v = false) : cardN N T < cardN N S := by
  unfold cardN lsN
  exact filter_lt (fun x hx ht => h x (List.mem_range.1 hx) ht) (List.mem_range.2 hv) h2 h1
/-- What grow leaves. -/
def GrowEnd (w : World) (base bf bc bn bg bC bP bX : Nat) (ao : Option Addr) (cap N : Nat) (bl : Nat → Nat) (adj : Nat → Nat → Bool) (fv : Value) (F : List (List Nat)) (R P : Nat → Bool) (w' : World) : Prop :=
  ∃ (fv' : Value) (L : List (List Nat)), GrM w' base bf bc bn bg bC ao cap N bl adj fv' (F ++ L) R ∧ Lsts N L (Fit N adj R P) ∧ Turns (MG bf bC bP bX fv) w w' ∧ (∀ b, fv'.ownBlock = some b → some b = fv.ownBlock ∨ w.heap.size ≤ b)
def A45 (h f : Nat → Value) : Act := { tmps := #[h 0, h 1, h 2, h 3, h 4, h 5, h 6, h 7, h 8, h 9, h 10, h 11, h 12, h 13, h 14, h 15, h 16, h 17, h 18, h 19, h 20, h 21, h 22, h 23, h 24, h 25, h 26, h 27, h 28, h 29, h 30, h 31, h 32, h 33, h 34, h 35, f 0, f 1, f 2, f 3, f 4, f 5, f 6, f 7, f 8, f 9, f 10, f 11, f 12, f 13, f 14, f 15, h 52, h 53, h 54, h 55, h 56, h 57, h 58], defers := [] }
def V45 (bP bX gn cap N v : Nat) (bl : Nat → Nat) (gr : Value) (c1 c2 : Nat) : Nat → Value
  | 0 => gr
  | 1 => .map (some bP)
  | 2 => .slice (some ⟨gn, 0, none⟩) N cap
  | 3 => .int .i64 (v : Int)
  | 4 => .pointer (some ⟨gn, v, none⟩)
  | 5 => .map (some (bl v))
  | 6 => .func (.func 42) #[.map (some (bl v))] #[]
  | 7 => .map (some c1)
  | 8 => .map (some bX)
  | 9 => .slice (some ⟨gn, 0, none⟩) N cap
  | 10 => .int .i64 (v : Int)
  | 11 => .pointer (some ⟨gn, v, none⟩)
  | 12 => .map (some (bl v))
  | 13 => .func (.func 42) #[.map (some (bl v))] #[]
  | 14 => .map (some c2)
  | 15 => .tuple #[]
  | _ => undef
theorem V45_7 {bP bX gn cap N v : Nat} {bl : Nat → Nat} {gr : Value} {c1 c1' c2 j : Nat} (h : j ≠ 7) : V45 bP bX gn cap N v bl gr c1 c2 j = V45 bP bX gn cap N v bl gr c1' c2 j := by
  unfold V45
  split <;> first | rfl | exact absurd rfl h
theorem V45_14 {bP bX gn cap N v : Nat} {bl : Nat → Nat} {gr : Value} {c1 c2 c2' j : Nat} (h : j ≠ 14) : V45 bP bX gn cap N v bl gr c1 c2 j = V45 bP bX gn cap N v bl gr c1 c2' j := by
  unfold V45
  split <;> first | rfl | exact absurd rfl h
def updG (f : Nat → Value) (i : Nat) (x : Value) : Nat → Value := fun j => if j = i then x else f j
def FJ2 (A : (Nat → Value) → Act) (V : Nat → Nat → Nat → Value) (S : Nat → Nat → (Nat → Bool) → World → Prop) (L : Nat → Bool) (a : Act) (w : World) : Prop := ∃ c1 c2 f, a = A f ∧ (∀ i, L i = true → f i = V c1 c2 i) ∧ S c1 c2 L w
theorem updG_told {V f : Nat → Value} {L : Nat → Bool} {i : Nat} (hf : ∀ j, L j = true → f j = V j) : ∀ j, also L i j = true → updG f i (V i) j = V j := fun j hj => by
  unfold updG
  by_cases e : j = i
  · rw [if_pos e, e]
  · rw [if_neg e]; exact hf j (also_ne hj e)
theorem also_atG {L : Nat → Bool} {i j : Nat} (h : j ≠ i) : also L i j = L j := by simp [also, h]
theorem fj2_quiet {Pg : Program} {ops : Array Oper} {Q : Exit → Act → World → Prop} {A : (Nat → Value) → Act} {V : Nat → Nat → Nat → Value} {f : Nat → Value} {S : Nat → Nat → (Nat → Bool) → World → Prop} {L : Nat → Bool} {w : World} {i c1 c2 : Nat} {o : Oper}
    (hi : ops[i]? = some o) (hw : Region.wanted o (yielded ops (A f).tmps) = true) (hput : ∀ x, (A f).put o.dst x = A (updG f i x)) (hf : ∀ j, L j = true → f j = V c1 c2 j)
    (hS : S c1 c2 (also L i) w) (hr : (execOp (A f).eval o).run Pg w = .ok (.value (V c1 c2 i)) w) : wpOp Pg ops Q i (FJ2 A V S (also L i)) (A f) w :=
  wpOp_value hi hw hr ⟨c1, c2, _, hput _, updG_told hf, hS⟩
theorem region_invG {Pg : Program} {ops : Array Oper} {Q : Exit → Act → World → Prop} {id : Nat} {a : Act} {w : World} {J : Act → (Nat → Bool) → Act → World → Prop} (hm : Pg.follows .mixedOrders = true) (hlow : lowB ops = true)
    (h0 : J a (fun _ => false) a w.drew)
    (hstep : ∀ i o, ops[i]? = some o → ∀ L a' w, J a L a' w → L i = false → (∀ e ∈ o.after, Region.binds .any e = true → L e.on = true) → wpOp Pg ops Q i (J a (also L i)) a' w)
    (hend : ∀ L a' w, J a L a' w → (∀ i, i < ops.size → L i = true) → Q .normal a' w) : (Code.region id ops true).wp Pg Q a w := region_inv hm hlow h0 hstep hend
def depsG : Nat → List Nat
  | 4 => [2, 3]
  | 5 => [4]
  | 6 => [5]
  | 7 => [1, 6]
  | 11 => [9, 10]
  | 12 => [11]
  | 13 => [12]
  | 14 => [8, 13]
  | 15 => [0, 7, 14]
  | _ => []
theorem deps_all {L : Nat → Bool} (h : ∀ i d, d ∈ depsG i → L i = true → L d = true) (h15 : L 15 = true) : ∀ j, j < 15 → L j = true := by
  have a0 := h 15 0 (by simp [depsG]) h15
  have a7 := h 15 7 (by simp [depsG]) h15
  have a14 := h 15 14 (by simp [depsG]) h15
  have a1 := h 7 1 (by simp [depsG]) a7
  have a6 := h 7 6 (by simp [depsG]) a7
  have a5 := h 6 5 (by simp [depsG]) a6
  have a4 := h 5 4 (by simp [depsG]) a5
  have a2 := h 4 2 (by simp [depsG]) a4
  have a3 := h 4 3 (by simp [depsG]) a4
  have a8 := h 14 8 (by simp [depsG]) a14
  have a13 := h 14 13 (by simp [depsG]) a14
  have a12 := h 13 12 (by simp [depsG]) a13
  have a11 := h 12 11 (by simp [depsG]) a12
  have a9 := h 11 9 (by simp [depsG]) a11
  have a10 := h 11 10 (by simp [depsG]) a11
  intro j hj
  match j, hj with
  | 0, _ => exact a0
  | 1, _ => exact a1
  | 2, _ => exact a2
  | 3, _ => exact a3
  | 4, _ => exact a4
  | 5, _ => exact a5
  | 6, _ => exact a6
  | 7, _ => exact a7
  | 8, _ => exact a8
  | 9, _ => exact a9
  | 10, _ => exact a10
  | 11, _ => exact a11
  | 12, _ => exact a12
  | 13, _ => exact a13
  | 14, _ => exact a14
  | k + 15, h => omega
theorem deps_also {L : Nat → Bool} {i : Nat} (h : ∀ i d, d ∈ depsG i → L i = true → L d = true) (hi : ∀ d, d ∈ depsG i → L d = true) : ∀ j d, d ∈ depsG j → also L i j = true → also L i d = true := fun j d hd hj => by
  by_cases e : j = i
  · subst e; exact also_of (hi d hd) _
  · exact also_of (h j d hd (also_ne hj e)) _
/-- Which of the three calls have been done. -/
structure S45 (W0 : World) (N : Nat) (S1 S2 : Nat → Bool) (Post : World → Prop) (c1 c2 : Nat) (L : Nat → Bool) (w : World) : Prop where
  a1 : ∀ i d, d ∈ depsG i → L i = true → L d = true
  pre : L 15 = false → Below W0.heap.size W0 w
  one : L 15 = false → L 7 = true → SetN w c1 N S1 ∧ W0.heap.size ≤ c1
  two : L 15 = false → L 14 = true → SetN w c2 N S2 ∧ W0.heap.size ≤ c2
  ne : L 15 = false → L 7 = true → L 14 = true → c1 ≠ c2
  post : L 15 = true → Post w
theorem S45.quiet {W0 : World} {N : Nat} {S1 S2 : Nat → Bool} {Post : World → Prop} {c1 c2 : Nat} {L : Nat → Bool} {w : World} (h : S45 W0 N S1 S2 Post c1 c2 L w) {i : Nat} (h7 : 7 ≠ i) (h14 : 14 ≠ i) (h15 : 15 ≠ i) (hdd : ∀ d, d ∈ depsG i → L d = true) : S45 W0 N S1 S2 Post c1 c2 (also L i) w := by
  refine ⟨deps_also h.a1 hdd, fun h1 => ?_, fun h1 h2 => ?_, fun h1 h2 => ?_, fun h1 h2 h3 => ?_, fun h1 => ?_⟩
  · rw [also_atG h15] at h1; exact h.pre h1
  · rw [also_atG h15] at h1; rw [also_atG h7] at h2; exact h.one h1 h2
  · rw [also_atG h15] at h1; rw [also_atG h14] at h2; exact h.two h1 h2
  · rw [also_atG h15] at h1; rw [also_atG h7] at h2; rw [also_atG h14] at h3; exact h.ne h1 h2 h3
  · rw [also_atG h15] at h1; exact h.post h1
theorem S45.n15 {W0 : World} {N : Nat} {S1 S2 : Nat → Bool} {Post : World → Prop} {c1 c2 : Nat} {L : Nat → Bool} {w : World} (h : S45 W0 N S1 S2 Post c1 c2 L w) {i : Nat} (hL : L i = false) (hi : i < 15) : L 15 = false := by
  cases e : L 15 with
  | false => rfl
  | true => have := deps_all h.a1 e i hi; rw [hL] at this; cases this
/-- Blocks that are no rows, and lie behind, turn. -/
theorem GrM.far {M : Nat → Prop} {w w' : World} {base bf bc bn bg bC : Nat} {ao : Option Addr} {cap N : Nat} {bl : Nat → Nat} {adj : Nat → Nat → Bool} {fv : Value} {F : List (List Nat)} {R : Nat → Bool} (h : GrM w base bf bc bn bg bC ao cap N bl adj fv F R) (ht : Turns M w w') (hm : ∀ k, M k → base ≤ k ∧ ∀ cur t fr, w.heap[k]? ≠ some (.cells cur t fr)) : GrM w' base bf bc bn bg bC ao cap N bl adj fv F R := by
  obtain ⟨l1, l2, l3, l4, l5, l6, l7⟩ := h.lo
  have hlo : ∀ k, k < base → ¬ M k := fun k hk hM => by have := (hm k hM).1; omega
  refine ⟨(ht.block _ (lt_of_block h.boxf) (hlo _ l1)).trans h.boxf, ?_, (ht.block _ (lt_of_block h.boxc) (hlo _ l2)).trans h.boxc, h.clq.turns ht (hlo _ l5), (ht.block _ (lt_of_block h.boxn) (hlo _ l3)).trans h.boxn, (ht.block _ (lt_of_block h.boxg) (hlo _ l4)).trans h.boxg, h.near.turns ht (fun i hi => hlo _ (l6 i hi)) (fun g e => hlo _ (l7 g e)), h.lo, h.ne, Nat.le_trans h.size ht.size⟩
  obtain ⟨vs, h1, h2, h3⟩ := h.lists
  have key : ∀ {t : TypeId} {x : Value} {n : Nat} {xs : List Value}, w.ownsRow base t 1 x n xs → w'.ownsRow base t 1 x n xs := by
    intro t x n xs ho
    refine ownsRow_blocks ho fun b hb => ht.block b (ho.lt b hb).2 fun hmb => ?_
    obtain ⟨cur, hc⟩ := own_cells ho hb
    exact (hm b hmb).2 _ _ _ hc
  exact ⟨vs, h1, key h2, fun i x l hx hl => key (h3 i x l hx hl)⟩
theorem SetN.notCells {w : World} {b N : Nat} {S : Nat → Bool} (h : SetN w b N S) : ∀ cur t fr, w.heap[b]? ≠ some (.cells cur t fr) := fun cur t fr e => by
  obtain ⟨es, c, hm⟩ := h.isMap
  rw [hm] at e
  cases e
def A1g (h f : Nat → Value) : Act := { tmps := #[h 0, h 1, h 2, h 3, h 4, h 5, h 6, h 7, h 8, h 9, h 10, h 11, h 12, h 13, h 14, h 15, f 0, f 1, f 2, f 3, f 4, h 21, h 22, h 23, h 24, h 25, h 26, h 27, h 28, h 29, h 30, h 31, h 32, h 33, h 34, h 35, h 36, h 37, h 38, h 39, h 40, h 41, h 42, h 43, h 44, h 45, h 46, h 47, h 48, h 49, h 50, h 51, h 52, h 53, h 54, h 55, h 56, h 57, h 58], defers := [] }
/-- What the leaf's statement has got. -/
structure Cg where
  (w2 w3 : World)
  ro : Option Addr
  (rc g1 c1 : Nat)
def V1g (fv : Value) (bC n m : Nat) (c : Cg) : Nat → Value
  | 0 => fv
  | 1 => .map (some bC)
  | 2 => .slice c.ro n c.rc
  | 3 => .slice (some ⟨c.w2.heap.size, 0, none⟩) 1 1
  | 4 => .slice (some ⟨c.g1, 0, none⟩) (m + 1) c.c1
  | _ => undef
def FJg (A : (Nat → Value) → Act) (V : Cg → Nat → Value) (S : Cg → (Nat → Bool) → World → Prop) (L : Nat → Bool) (a : Act) (w : World) : Prop := ∃ c f, a = A f ∧ (∀ i, L i = true → f i = V c i) ∧ S c L w
/-- How far the leaf's statement has come. -/
structure S1g (W0 : World) (l : List Nat) (base bf : Nat) (fo : Option Addr) (m fc : Nat) (vs : List Value) (c : Cg) (L : Nat → Bool) (w : World) : Prop where
  d1 : L 2 = true → L 1 = true
  d2 : L 3 = true → L 2 = true
  d3 : L 4 = true → L 0 = true ∧ L 3 = true
  d4 : L 5 = true → L 4 = true
  s0 : L 2 = false → w = W0
  s2 : L 2 = true → L 3 = false → w = c.w2
  q2 : L 2 = true → c.w2.ownsRow W0.heap.size 3 1 (.slice c.ro l.length c.rc) l.length (qv l) ∧ Below W0.heap.size W0 c.w2
  s3 : L 3 = true → L 4 = false → w = c.w2.alloc (Obj.cells #[.slice c.ro l.length c.rc] 45)
  q4 : L 4 = true → c.w3.ownsRow base 45 1 (.slice (some ⟨c.g1, 0, none⟩) (m + 1) c.c1) (m + 1) (vs ++ [.slice c.ro l.length c.rc]) ∧ (c.w2.alloc (Obj.cells #[.slice c.ro l.length c.rc] 45)).grownBy c.w3 (Value.slice fo m fc).ownBlock ∧ ((Value.slice fo m fc).ownBlock = some c.g1 ∨ c.w2.heap.size ≤ c.g1)
  s4 : L 4 = true → L 5 = false → w = c.w3
  s5 : L 5 = true → w = c.w3.setCell ⟨bf, 0, none⟩ (.slice (some ⟨c.g1, 0, none⟩) (m + 1) c.c1)
end Go.Proofs.YtkkfjfphmlcieaaGreat
