/- direct: what lies there in its rounds, and what it means. direct: its walk. -/
import Derived.Test.YtkkfjfphmlcieaaGreatForcedW
import Derived.Test.YtkkfjfphmlcieaaGreatSortPQ
namespace Go.Proofs.YtkkfjfphmlcieaaGreat
set_option maxRecDepth 8000
open Go.RowKit Go.Maps
/-- Arcs as they stand in a row. -/
def toP (L : List (Nat × Nat)) : List Pair := L.map fun p => ((p.1 : Int), (p.2 : Int))
theorem toP_len (L : List (Nat × Nat)) : (toP L).length = L.length := by simp [toP]
/-- How far the classes have been taken out: what is left (Z), and the arcs that have been laid down. -/
structure DirI (A Z : Nat → Nat → Bool) (L : List (Nat × Nat)) : Prop where
  sym : ∀ x y, Z x y = Z y x
  sub : ∀ x y, Z x y = true → A x y = true
  on : ∀ T, Dir Z T → Dir A (fun x y => (x, y) ∈ L ∨ T x y)
  good : Good A → Good Z
  nd : L.Nodup
  out : ∀ p ∈ L, A p.1 p.2 = true ∧ Z p.1 p.2 = false
section
variable {A Z : Nat → Nat → Bool} {L : List (Nat × Nat)}
theorem DirI.start (hs : ∀ x y, A x y = A y x) : DirI A A [] :=
  ⟨hs, fun _ _ h => h, fun T hT => ⟨fun x y h => h.elim (fun h => by cases h) (hT.edge x y), fun x y h => (hT.some x y h).imp Or.inr Or.inr, fun x y h h' => by
    rcases h with h | h
    · cases h
    · rcases h' with h' | h'
      · cases h'
      · exact hT.one x y h h', fun x y z h h' => by
    rcases h with h | h
    · cases h
    · rcases h' with h' | h'
      · cases h'
      · exact Or.inr (hT.on x y z h h')⟩, id, List.nodup_nil, fun p h => by cases h⟩
theorem DirI.irr (h : DirI A Z L) (hi : ∀ x, A x x = false) (x : Nat) : Z x x = false := by
  cases e : Z x x with
  | false => rfl
  | true => have := h.sub x x e; rw [hi] at this; cases this
/-- What is left when a set with its reverse is out. -/
def offS (Z S : Nat → Nat → Bool) : Nat → Nat → Bool := fun x y => Z x y && !(S x y) && !(S y x)
theorem offS_less {e : Nat × Nat} {S : Nat → Nat → Bool} (hS : ∀ x y, S x y = true ↔ Fs Z e (x, y)) : FLess Z e (offS Z S) := by
  intro x y
  simp only [offS, Bool.and_eq_true, Bool.not_eq_true', Hat]
  rw [← hS x y, ← hS y x]
  cases Z x y <;> cases S x y <;> cases S y x <;> simp
theorem DirI.step (h : DirI A Z L) (hi : ∀ x, A x x = false) {e : Nat × Nat} (he : Z e.1 e.2 = true) {S : Nat → Nat → Bool} (hS : ∀ x y, S x y = true ↔ Fs Z e (x, y)) (hone : ∀ x y, S x y = true → S y x = false) {L' : List (Nat × Nat)} (nd : L'.Nodup) (hL : ∀ x y, (x, y) ∈ L' ↔ S x y = true) : DirI A (offS Z S) (L ++ L') := by
  have hl := offS_less hS
  have hiz := h.irr hi
  have hz : ∀ x y, S x y = true → Z x y = true := fun x y hh => ((hS x y).1 hh).edge he
  refine ⟨hl.sym h.sym, fun x y hh => h.sub x y ((hl x y).1 hh).1, fun T hT => ?_, fun hg => (h.good hg).less h.sym hiz he hl, ?_, fun p hp => ?_⟩
  · have h1 := hT.more h.sym hiz he hl (fun x y h1 h2 => by
      have := hone x y ((hS x y).2 h1)
      rw [(hS y x).2 h2] at this; cases this)
    have h2 := h.on _ h1
    have e : (fun x y => (x, y) ∈ L ++ L' ∨ T x y) = (fun x y => (x, y) ∈ L ∨ (Fs Z e (x, y) ∨ T x y)) := by
      funext x y
      rw [List.mem_append, hL x y, hS x y, or_assoc]
    rw [e]; exact h2
  · refine List.nodup_append.2 ⟨h.nd, nd, fun p hp q hq hpq => ?_⟩
    have h1 := (h.out p hp).2
    have h2 := hz q.1 q.2 ((hL q.1 q.2).1 hq)
    rw [← hpq, h1] at h2; cases h2
  · rcases List.mem_append.1 hp with hp | hp
    · refine ⟨(h.out p hp).1, ?_⟩
      simp [offS, (h.out p hp).2]
    · have hs := (hL p.1 p.2).1 hp
      exact ⟨h.sub _ _ (hz _ _ hs), by simp [offS, hs]⟩
theorem DirI.dir (h : DirI A Z L) (h0 : ∀ x y, Z x y = false) : Dir A (fun x y => (x, y) ∈ L) := by
  have := h.on (fun _ _ => False) ⟨fun x y h => h.elim, fun x y h => (by rw [h0] at h; cases h), fun x y h => h.elim, fun x y z h => h.elim⟩
  simpa using this
theorem DirI.bad (h : DirI A Z L) {e : Nat × Nat} (he : Z e.1 e.2 = true) {x y : Nat} (h1 : Fs Z e (x, y)) (h2 : Fs Z e (y, x)) : ¬ Good A := fun hg =>
  h.good hg (x, y) (h1.edge he) ((h1.sym h.sym he).trans h2)
theorem DirI.len (h : DirI A Z L) {N : Nat} (hN : ∀ x y, A x y = true → x < N ∧ y < N) : L.length ≤ N * N := by
  have := nat_nodup_len (L.map fun p => p.1 * N + p.2) (List.range (N * N)) (by
    refine List.pairwise_map.2 (h.nd.imp_of_mem fun {p q} hp hq hne e => hne ?_)
    obtain ⟨p1, p2⟩ := hN _ _ (h.out p hp).1
    obtain ⟨q1, q2⟩ := hN _ _ (h.out q hq).1
    obtain ⟨_, a1, a2⟩ := pairNum p1 p2
    obtain ⟨_, b1, b2⟩ := pairNum q1 q2
    rw [e] at a1 a2
    exact Prod.ext (a1.symm.trans b1) (a2.symm.trans b2)) (fun x hx => by
    obtain ⟨p, hp, rfl⟩ := List.mem_map.1 hx
    obtain ⟨p1, p2⟩ := hN _ _ (h.out p hp).1
    exact List.mem_range.2 (pairNum p1 p2).1)
  simpa using this
end
/-- What lies there. -/
structure DiM (w : World) (ao : Option Addr) (N : Nat) (bl : Nat → Nat) (eo : Option Addr) (ec : Nat) (es : List Pair) (v : Value) (Z : Nat → Nat → Bool) (L : List (Nat × Nat)) (wz : World) : Prop where
  near : NearsAt wz ao N bl Z
  row : wz.ownsRow w.heap.size 38 2 v (toP L).length (flat (toP L))
  edges : EdgesAt wz (.slice eo es.length ec) es
  turn : Turns (Marks N bl) w wz
  lo : ∀ i, i < N → bl i < w.heap.size
  los : ∀ g, 0 < N → ao = some ⟨g, 0, none⟩ → g < w.heap.size
  loe : ∀ b off, 0 < es.length → eo = some ⟨b, off, none⟩ → b < w.heap.size
section
variable {w wz w' : World} {ao : Option Addr} {N : Nat} {bl : Nat → Nat} {eo : Option Addr} {ec : Nat} {es : List Pair} {v : Value} {Z : Nat → Nat → Bool} {L : List (Nat × Nat)}
theorem EdgesAt.turns {M : Nat → Prop} {v : Value} (h : EdgesAt w v es) (ht : Turns M w w') (hm : ∀ k, M k → ¬ ∃ o x, w.cell? ⟨k, o, none⟩ = some x) : EdgesAt w' v es := by
  obtain ⟨ao, cap, h1, h2, h3, h4⟩ := h
  refine ⟨ao, cap, h1, h2, h3, fun k hk => ?_⟩
  obtain ⟨b, off, e, c0, c1⟩ := h4 k hk
  exact ⟨b, off, e, cell_turns c0 ht (fun hM => hm b hM ⟨_, _, c0⟩), cell_turns c1 ht (fun hM => hm b hM ⟨_, _, c1⟩)⟩
theorem EdgesAt.far {M : Nat → Prop} (h : EdgesAt wz (.slice eo es.length ec) es) (ht : Turns M wz w') (hm : ∀ b off, 0 < es.length → eo = some ⟨b, off, none⟩ → ¬ M b) : EdgesAt w' (.slice eo es.length ec) es := by
  obtain ⟨ao, cap, h1, h2, h3, h4⟩ := h
  cases h1
  refine ⟨eo, ec, rfl, h2, h3, fun k hk => ?_⟩
  obtain ⟨b, off, e, c0, c1⟩ := h4 k hk
  exact ⟨b, off, e, cell_turns c0 ht (hm b off (by omega) e), cell_turns c1 ht (hm b off (by omega) e)⟩
theorem NearsAt.far {M : Nat → Prop} (h : NearsAt wz ao N bl Z) (ht : Turns M wz w') (hm : ∀ i, i < N → ¬ M (bl i)) (hg : ∀ g, 0 < N → ao = some ⟨g, 0, none⟩ → ¬ M g) : NearsAt w' ao N bl Z := by
  refine ⟨h.inj, fun i hi => ?_, fun i hi => (h.sets i hi).turns ht (hm i hi)⟩
  obtain ⟨g, e1, c⟩ := h.row i hi
  exact ⟨g, e1, cell_turns c ht (hg g (by omega) e1)⟩
/-- All that changes lies behind w, or is no row of ours. -/
theorem DiM.far {M : Nat → Prop} (h : DiM w ao N bl eo ec es v Z L wz) (ht : Turns M wz w') (hm : ∀ k, M k → w.heap.size ≤ k) (hr : ∀ k, v.ownBlock = some k → ¬ M k) : DiM w ao N bl eo ec es v Z L w' := by
  have lo : ∀ k, k < w.heap.size → ¬ M k := fun k hk hM => by have := hm k hM; omega
  exact ⟨h.near.far ht (fun i hi => lo _ (h.lo i hi)) (fun g hN e => lo _ (h.los g hN e)), ownsRow_blocks h.row (fun b hb => ht.block b (h.row.lt b hb).2 (hr b hb)), h.edges.far ht (fun b off hl e => lo _ (h.loe b off hl e)), h.turn.comp ht (fun k hk hM => absurd hM (lo k hk)), h.lo, h.los, h.loe⟩
theorem DiM.next (h : DiM w ao N bl eo ec es v Z L wz) (hb : Below wz.heap.size wz w') : DiM w ao N bl eo ec es v Z L w' :=
  h.far (Turns.of_below hb (fun _ => False)) (fun _ h => h.elim) (fun _ _ h => h)
theorem DiM.iter (h : DiM w ao N bl eo ec es v Z L wz) {r : Nat} (hr : ∃ a b c d, wz.heap[r]? = some (.mapIter a b c d)) (hrw : w.heap.size ≤ r) (ht : wz.grownBy w' (some r)) : DiM w ao N bl eo ec es v Z L w' := by
  obtain ⟨i1, i2, i3, i4, hr⟩ := hr
  refine h.far (Turns.of_grown ht) (fun k e => by simp at e; omega) (fun k hk e => ?_)
  simp at e
  obtain ⟨cur, hc⟩ := own_cells h.row hk
  rw [e, hr] at hc; cases hc
/-- An edge is taken out. -/
theorem DiM.parted (h : DiM w ao N bl eo ec es v Z L wz) {Z' : Nat → Nat → Bool} (hn : NearsAt w' ao N bl Z') (ht : Turns (Marks N bl) wz w') : DiM w ao N bl eo ec es v Z' L w' := by
  have hlo : ∀ k, Marks N bl k → k < w.heap.size := fun k ⟨i, hi, e⟩ => by rw [e]; exact h.lo i hi
  have hme : ∀ k, Marks N bl k → ¬ ∃ o x, wz.cell? ⟨k, o, none⟩ = some x := fun k ⟨i, hi, e⟩ ⟨o, x, hc⟩ => not_map hc (h.near.sets i hi) e
  exact ⟨hn, ownsRow_blocks h.row (fun b hb => ht.block b (h.row.lt b hb).2 (fun hM => by have := hlo b hM; have := (h.row.lt b hb).1; omega)), h.edges.turns ht hme, h.turn.trans ht, h.lo, h.los, h.loe⟩
/-- An arc comes to the row. -/
theorem DiM.push (h : DiM w ao N bl eo ec es v Z L wz) {x y : Nat} {v' : Value} (hown : w'.ownsRow w.heap.size 38 2 v' ((toP L).length + 1) (flat (toP L) ++ [.int .i64 (x : Int), .int .i64 (y : Int)])) (hg : (wz.alloc (Obj.cells #[.int .i64 (x : Int), .int .i64 (y : Int)] 38)).grownBy w' v.ownBlock) : DiM w ao N bl eo ec es v' Z (L ++ [(x, y)]) w' := by
  have hB := below_alloc (Below.refl _ wz) (Obj.cells #[.int .i64 (x : Int), .int .i64 (y : Int)] 38)
  have ht : Turns (fun k => some k = v.ownBlock) wz w' := (Turns.of_below hB (fun k => some k = v.ownBlock)).comp (Turns.of_grown hg) (fun k _ e => e)
  have lo : ∀ k, k < w.heap.size → ¬ some k = v.ownBlock := fun k hk e => by have := (h.row.lt k e.symm).1; omega
  have e : toP (L ++ [(x, y)]) = toP L ++ [((x : Int), (y : Int))] := by simp [toP]
  refine ⟨h.near.far ht (fun i hi => lo _ (h.lo i hi)) (fun g hN e => lo _ (h.los g hN e)), ?_, h.edges.far ht (fun b off hl e => lo _ (h.loe b off hl e)), h.turn.comp ht (fun k hk hM => absurd hM (lo k hk)), h.lo, h.los, h.loe⟩
  rw [e, flat_snoc]
  simpa using hown
theorem DiM.form (h : DiM w ao N bl eo ec es v Z L wz) : ∃ vo vc, v = .slice vo (toP L).length vc := by
  rcases h.row.2 with ⟨rfl, e⟩ | ⟨g, cap, cur, rfl, _⟩
  · exact ⟨none, 0, by rw [e]⟩
  · exact ⟨_, cap, rfl⟩
end
end Go.Proofs.YtkkfjfphmlcieaaGreat

namespace Go.Proofs.YtkkfjfphmlcieaaGreat
set_option maxRecDepth 8000
open Go.RowKit Go.Maps
attribute [local go_sem ↓] Go.wp_at_zero Go.wp_at_succ
/-- An arc comes to a row of arcs. -/
theorem wpList_pushP {W : World} {ops : Array Oper} {rest : List Oper} {o : Oper} {a : Act} {Q : Exit → Act → World → Prop} {base : Nat} {po : Option Addr} {pc n : Nat} {vs : List Value} {x y : Int} (hgd : o.guard = none) (s t : Operand)
    (ho : o.op = .call { callee := .builtin .append, args := #[s, t], argTypes := #[22, 22] }) (hs : a.eval s = .slice po n pc) (hy : a.eval t = .slice (some ⟨W.heap.size, 0, none⟩) 1 1)
    (hown : W.ownsRow base 38 2 (.slice po n pc) n vs) (hl : n ≤ 100000000) (hbase : base ≤ W.heap.size)
    (h : ∀ v' w', w'.ownsRow base 38 2 v' (n + 1) (vs ++ [.int .i64 x, .int .i64 y]) → (W.alloc (Obj.cells #[.int .i64 x, .int .i64 y] 38)).grownBy w' (Value.slice po n pc).ownBlock → wpList Tryz.prog ops Q rest (a.put o.dst v') w') :
    wpList Tryz.prog ops Q (o :: rest) a (W.alloc (Obj.cells #[.int .i64 x, .int .i64 y] 38)) := by
  obtain ⟨i3, hi3, hy0, hy1, hy2⟩ := info_parts Tryz.info38
  refine wpList_append_lies _ hgd s t 22 ho base 38 i3 _ 2 16 Tryz.underlying22 hi3 hy0 hy1 hy2 rfl (by decide) _ _ _ hs (hown.alloc _) ⟨W.heap.size, 0, none⟩ 1 1 [.int .i64 x, .int .i64 y] hy rfl ?_ ?_ (by omega) ?_ ?_ ?_ (W.heap.size + 1) (by simp) ?_
  · intro j u hj
    rw [add_none]
    obtain ⟨c0, c1⟩ := cell_two (two_new W (.int .i64 x) (.int .i64 y) 38)
    match j, hj with
    | 0, hj => simp at hj; subst hj; exact c0
    | 1, hj => simp at hj; subst hj; exact c1
    | j + 2, hj => simp at hj
  · intro y hy; simp at hy; rcases hy with rfl | rfl <;> rfl
  · unfold maxLen; omega
  · omega
  · simp; omega
  · intro g c w' h1 h2 h3 _
    exact h _ w' h1 h2
/-- What direct answers. -/
def DirEnd (w : World) (N : Nat) (bl : Nat → Nat) (A : Nat → Nat → Bool) (e : Ending) (w' : World) : Prop :=
  ((e = .returned (.tuple #[.slice none 0 0, .bool false]) ∧ ¬ Good A) ∨ ∃ (v : Value) (L : List (Nat × Nat)), e = .returned (.tuple #[v, .bool true]) ∧ w'.ownsRow w.heap.size 38 2 v (toP L).length (flat (toP L)) ∧ Dir A (fun x y => (x, y) ∈ L) ∧ L.Nodup ∧ (toP L).Pairwise (fun a b => 0 ≤ cmpP b a)) ∧ Turns (Marks N bl) w w'
theorem toP_perm {L : List (Nat × Nat)} {P : List Pair} (h : P.Perm (toP L)) : ∃ L', P = toP L' ∧ L'.Perm L := by
  refine ⟨P.map fun p => (p.1.toNat, p.2.toNat), ?_, ?_⟩
  · unfold toP
    rw [List.map_map]
    conv => lhs; rw [← List.map_id P]
    refine List.map_congr_left fun p hp => ?_
    obtain ⟨q, _, rfl⟩ := List.mem_map.1 (h.mem_iff.1 hp)
    simp
  · have := h.map fun p : Pair => (p.1.toNat, p.2.toNat)
    refine this.trans ?_
    unfold toP
    rw [List.map_map]
    have e : L.map ((fun p : Pair => (p.1.toNat, p.2.toNat)) ∘ fun p : Nat × Nat => ((p.1 : Int), (p.2 : Int))) = L := by
      conv => rhs; rw [← List.map_id L]
      exact List.map_congr_left fun p _ => by simp
    rw [e]
/-- What a round of the third loop has done. -/
structure Dir3 (S : Nat → Nat → Bool) (lf : Nat → Nat → Bool) (N : Nat) (Z Z3 : Nat → Nat → Bool) (L' : List (Nat × Nat)) : Prop where
  z : ∀ x y, x < N → y < N → Z3 x y = (Z x y && !(S x y && !lf x y) && !(S y x && !lf y x))
  nd : L'.Nodup
  mem : ∀ x y, (x, y) ∈ L' ↔ (x < N ∧ y < N ∧ S x y = true ∧ lf x y = false)
theorem Dir3.start (S : Nat → Nat → Bool) (N : Nat) (Z : Nat → Nat → Bool) : Dir3 S S N Z Z [] :=
  ⟨fun x y _ _ => by cases S x y <;> cases S y x <;> simp, List.nodup_nil, fun x y => ⟨fun h => (by cases h), fun ⟨_, _, h1, h2⟩ => (by rw [h1] at h2; cases h2)⟩⟩
theorem Dir3.step {S lf : Nat → Nat → Bool} {N : Nat} {Z Z3 : Nat → Nat → Bool} {L' : List (Nat × Nat)} (h : Dir3 S lf N Z Z3 L') {x y : Nat} (hx : x < N) (hy : y < N) (hS : S x y = true) (hl : lf x y = true) : Dir3 S (offL lf x y) N Z (offE Z3 x y) (L' ++ [(x, y)]) := by
  refine ⟨fun u v hu hv => ?_, ?_, fun u v => ?_⟩
  · unfold offE
    rw [h.z u v hu hv]
    by_cases e1 : u = x ∧ v = y
    · obtain ⟨rfl, rfl⟩ := e1
      simp [offL, hS]
    · have e1' : (u == x && v == y) = false := by rw [Bool.eq_false_iff]; intro hh; simp at hh; exact e1 hh
      by_cases e2 : v = x ∧ u = y
      · obtain ⟨rfl, rfl⟩ := e2
        simp [offL, hS]
      · have e2' : (v == x && u == y) = false := by rw [Bool.eq_false_iff]; intro hh; simp at hh; exact e2 hh
        have e3' : (u == y && v == x) = false := by rw [Bool.and_comm]; exact e2'
        simp [offL, e1', e2', e3']
  · refine List.nodup_append.2 ⟨h.nd, by simp, fun p hp q hq hpq => ?_⟩
    simp at hq
    subst hq
    subst hpq
    have := ((h.mem x y).1 hp).2.2.2
    rw [hl] at this; cases this
  · rw [List.mem_append, h.mem u v]
    constructor
    · rintro (⟨h1, h2, h3, h4⟩ | h1)
      · exact ⟨h1, h2, h3, by simp [offL, h4]⟩
      · simp at h1
        obtain ⟨rfl, rfl⟩ := h1
        exact ⟨hx, hy, hS, by simp [offL]⟩
    · rintro ⟨h1, h2, h3, h4⟩
      by_cases e1 : u = x ∧ v = y
      · right; simp [e1]
      · left
        have e1' : (u == x && v == y) = false := by rw [Bool.eq_false_iff]; intro hh; simp at hh; exact e1 hh
        simp [offL, e1'] at h4
        exact ⟨h1, h2, h3, h4⟩
set_option maxHeartbeats 8000000 in
theorem direct_call {w : World} {ao : Option Addr} {cap N : Nat} {bl : Nat → Nat} {A : Nat → Nat → Bool} {eo : Option Addr} {ec : Nat} {es : List Pair} (hN : N ≤ 1000) (hs : ∀ x y, A x y = A y x) (hi : ∀ x, A x x = false) (hlt : ∀ x y, A x y = true → x < N ∧ y < N) (hnear : NearsAt w ao N bl A) (hE : EdgesAt w (.slice eo es.length ec) es) (hes : ∀ e ∈ es, ∃ u v : Nat, e = ((u : Int), (v : Int)) ∧ u < N ∧ v < N) (hall : ∀ x y : Nat, A x y = true → ((x : Int), (y : Int)) ∈ es ∨ ((y : Int), (x : Int)) ∈ es) (hel : es.length ≤ 1000000) :
    Calls Tryz.prog 32 #[.slice ao N cap, .slice eo es.length ec] w fun e w' => DirEnd w N bl A e w' := by
  have hN6 : N ≤ 1000000 := by omega
  have hNN : N * N ≤ 1000 * 1000 := Nat.mul_le_mul hN hN
  have HS : Hid (∀ x y, A x y = A y x) := hs
  have HI : Hid (∀ x, A x x = false) := hi
  have HLT : Hid (∀ x y, A x y = true → x < N ∧ y < N) := hlt
  have HES : Hid (∀ e ∈ es, ∃ u v : Nat, e = ((u : Int), (v : Int)) ∧ u < N ∧ v < N) := hes
  have HALL : Hid (∀ x y : Nat, A x y = true → ((x : Int), (y : Int)) ∈ es ∨ ((y : Int), (x : Int)) ∈ es) := hall
  have HD0 : Hid (DiM w ao N bl eo ec es (.slice none 0 0) A [] w) := ⟨hnear, World.ownsRow_nil _ _ _ _, hE, Turns.refl _ _, fun i hi => (hnear.sets i hi).lt, fun g hN e => by
    obtain ⟨g', e', c⟩ := hnear.row 0 hN
    rw [e] at e'; cases e'
    exact World.block_lt_of_cell? _ _ c, fun b off hl e => by
    obtain ⟨ao', cap', h1, h2, h3, h4⟩ := hE
    cases h1
    obtain ⟨b', off', e', c0, c1⟩ := h4 0 hl
    rw [e] at e'; cases e'
    exact World.block_lt_of_cell? _ _ c0⟩
  clear hnear hE hs hi hlt hes hall
  go_enter Tryz.func32, Tryz.ntmps32
  go_upto_region 2 with (fail)
  go_loopw [4, 15] (fun s4 s15 wz => ∃ (k : Nat) (Z : Nat → Nat → Bool) (L : List (Nat × Nat)), k ≤ es.length ∧ s15 = .int .i64 (k : Int) ∧ DiM w ao N bl eo ec es s4 Z L wz ∧ DirI A Z L ∧ (∀ (i : Nat) (x y : Nat), i < k → es[i]? = some ((x : Int), (y : Int)) → Z x y = false)) (fun _ s15 _ => es.length - (numOf s15).toNat)
  case atStart => exact ⟨0, A, [], Nat.zero_le _, rfl, HD0.out, DirI.start HS.out, fun i x y h => absurd h (by omega)⟩
  case round =>
    obtain ⟨k, Z, L, hk, rfl, hD, hI, hdone⟩ := hrel
    obtain ⟨vo, vc, rfl⟩ := hD.form
    have HD : Hid (DiM w ao N bl eo ec es (.slice vo (toP L).length vc) Z L wr) := hD
    have HDI : Hid (DirI A Z L) := hI
    have HDN : Hid (∀ (i : Nat) (x y : Nat), i < k → es[i]? = some ((x : Int), (y : Int)) → Z x y = false) := hdone
    have hLl : (toP L).length ≤ 100000000 := by rw [toP_len]; have := hI.len HLT.out; omega
    clear hD hI hdone HD0
    by_cases hkl : k < es.length
    · obtain ⟨x, y, hxy, hxN, hyN⟩ := HES.out es[k] (List.getElem_mem hkl)
      obtain ⟨ao', cap', hc1, _, _, hc4⟩ := HD.out.edges
      cases hc1
      obtain ⟨be, oe, rfl, ce0, ce1⟩ := hc4 k hkl
      rw [hxy] at ce0 ce1
      have HXY : Hid (es[k]? = some ((x : Int), (y : Int))) := by
        show es[k]? = _
        rw [List.getElem?_eq_getElem hkl, hxy]
      have k1 : (0 : Int) ≤ (k : Int) := by omega
      have k2 : (k : Int) < (es.length : Int) := by omega
      clear hc4 hxy
      go_upto_region 4 with (fail)
      have hB1 := below_alloc (Below.refl _ wr) (Obj.cells #[.int .i64 (x : Int), .int .i64 (y : Int)] 38)
      have t7 := two_new wr (.int .i64 (x : Int)) (.int .i64 (y : Int)) 38
      obtain ⟨b7, hb7⟩ : ∃ b, b = wr.heap.size := ⟨_, rfl⟩
      rw [← hb7] at t7 ⊢
      clear ce0 ce1
      generalize wr.alloc (Obj.cells #[.int .i64 (x : Int), .int .i64 (y : Int)] 38) = W1 at hB1 t7 ⊢
      have hnear1 := (HD.out.next hB1).near
      obtain ⟨gn, hao, cr1⟩ := hnear1.row x hxN
      cases hao
      obtain ⟨c70, c71⟩ := cell_two t7
      have m1 : (0 : Int) ≤ (x : Int) := by omega
      have m2 : (x : Int) < (N : Int) := by omega
      have h42 := has_call ((hnear1.below (drewN_below W1 1)).sets x hxN) hN6 hyN
      have HT7 : Hid (Two W1 b7 (.int .i64 (x : Int)) (.int .i64 (y : Int)) 38) := t7
      have HD1 : Hid (DiM w (some ⟨gn, 0, none⟩) N bl (some ⟨be, oe, none⟩) ec es (.slice vo (toP L).length vc) Z L W1) := HD.out.next hB1
      clear hnear1 t7 hb7 hB1 HD
      cases hz : Z x y with
      | false =>
        rw [hz] at h42
        have H42 : Hid (Calls Tryz.prog 42 #[.map (some (bl x)), .int .i64 (y : Int)] W1.drew fun e w' => e = .returned (.bool false) ∧ Below W1.drew.heap.size W1.drew w') := h42
        have HZ : Hid (Z x y = false) := hz
        clear h42 hz
        go_region_with (first | (go_at_call 42; refine Calls.mono H42.out ?_; rintro e' w9 ⟨rfl, hB9⟩))
        all_goals
          have HD9 : Hid (DiM w (some ⟨gn, 0, none⟩) N bl (some ⟨be, oe, none⟩) ec es (.slice vo (toP L).length vc) Z L w9) := (HD1.out.next (drewN_below W1 1)).next hB9
          go_wp2
          go_roundw
          case rel => exact ⟨k + 1, Z, L, by omega, by go_num, HD9.out, HDI.out, fun i u v hi hu => by
            by_cases e : i = k
            · subst e
              rw [HXY.out] at hu
              simp at hu
              obtain ⟨hu1, hu2⟩ := hu
              obtain rfl : x = u := by omega
              obtain rfl : y = v := by omega
              exact HZ.out
            · exact HDN.out i u v (by omega) hu⟩
          case measure => simp [numOf]; omega
      | true =>
        rw [hz] at h42
        have H42 : Hid (Calls Tryz.prog 42 #[.map (some (bl x)), .int .i64 (y : Int)] W1.drew fun e w' => e = .returned (.bool true) ∧ Below W1.drew.heap.size W1.drew w') := h42
        have HZ : Hid (Z x y = true) := hz
        clear h42 hz
        go_cut [27] from 19 to 27 (fun s27 wc => s27 = .bool false ∧ Below W1.heap.size W1 wc)
        case first =>
          go_region_with (first | (go_at_call 42; refine Calls.mono H42.out ?_; rintro e' w9 ⟨rfl, hB9⟩))
          all_goals
            go_wp2
            go_meet
            case rel => exact ⟨rfl, below_next (drewN_below W1 1) hB9⟩
        case rest =>
          obtain ⟨rfl, hB9⟩ := hcut
          generalize wc = w9 at hB9 ⊢
          have HD9 : Hid (DiM w (some ⟨gn, 0, none⟩) N bl (some ⟨be, oe, none⟩) ec es (.slice vo (toP L).length vc) Z L w9) := HD1.out.next hB9
          have t9 := two_next HT7.out hB9
          obtain ⟨d70, d71⟩ := cell_two t9
          have H43 : Hid (Calls Tryz.prog 43 #[.slice (some ⟨gn, 0, none⟩) N cap, .agg #[.int .i64 (x : Int), .int .i64 (y : Int)]] w9 fun e w' => ∃ (bC : Nat) (S : Nat → Nat → Bool), e = .returned (.map (some bC)) ∧ w9.heap.size ≤ bC ∧ PairS w' bC N S ∧ (∀ x' y', S x' y' = true ↔ Fs Z (x, y) (x', y')) ∧ Below w9.heap.size w9 w') := forced_call hN HDI.out.sym (fun u v h => HLT.out u v (HDI.out.sub u v h)) HD9.out.near hxN hyN
          clear c70 c71 cr1 hB9 t9
          go_upto_region 6 with (first | (go_at_call 43; refine Calls.mono H43.out ?_; rintro e' w3 ⟨bC, S, rfl, hbC, hPS, hcls, hB3⟩) | go_in)
          have HD3 : Hid (DiM w (some ⟨gn, 0, none⟩) N bl (some ⟨be, oe, none⟩) ec es (.slice vo (toP L).length vc) Z L w3) := HD9.out.next hB3
          have HCLS : Hid (∀ x' y', S x' y' = true ↔ Fs Z (x, y) (x', y')) := hcls
          have HBC : Hid (w.heap.size ≤ bC) := by
            show w.heap.size ≤ bC
            have := HD9.out.turn.size
            omega
          clear d70 d71 H43 hbC hcls hB3 HD9 HD1 H42 HT7
          go_wp2_with (first | (at_range; refine wpList_rangeP hN6 rfl _ rfl rfl hPS ?_; intro w5 cnt0 hrg0 hB5) | go_in)
          go_frame
          obtain ⟨r, hr⟩ : ∃ r, r = w3.heap.size := ⟨_, rfl⟩
          rw [← hr] at hrg0 ⊢
          have HRS : Hid (w.heap.size ≤ r) := by
            show w.heap.size ≤ r
            have := HD3.out.turn.size
            omega
          have HD5 : Hid (DiM w (some ⟨gn, 0, none⟩) N bl (some ⟨be, oe, none⟩) ec es (.slice vo (toP L).length vc) Z L w5) := HD3.out.next hB5
          clear hr hPS hB5 HD3
          go_loopw [4] (fun s4 wz => ∃ (lf : Nat → Nat → Bool) (cnt : Nat), s4 = .slice vo (toP L).length vc ∧ RgP wz bC r N S lf cnt ∧ DiM w (some ⟨gn, 0, none⟩) N bl (some ⟨be, oe, none⟩) ec es (.slice vo (toP L).length vc) Z L wz ∧ (∀ u v, u < N → v < N → S u v = true → lf u v = false → S v u = false)) (fun _ wz => wz.rangeLeft bC r)
          case atStart => exact ⟨_, _, rfl, hrg0, HD5.out, fun u v _ _ h1 h2 => by rw [h1] at h2; cases h2⟩
          case round =>
            obtain ⟨lf, cnt, rfl, hrgz, hDz, hdz⟩ := hrel
            have HDZ : Hid (DiM w (some ⟨gn, 0, none⟩) N bl (some ⟨be, oe, none⟩) ec es (.slice vo (toP L).length vc) Z L wr) := hDz
            have HOZ : Hid (∀ u v, u < N → v < N → S u v = true → lf u v = false → S v u = false) := hdz
            have HLZ : Hid (wr.rangeLeft bC r = cnt) := hrgz.left
            clear hDz hdz hrg0 HD5
            go_wp2_with (first | (at_next; refine wpList_nextP hN6 rfl _ rfl rfl hrgz ?_ ?_) | go_in)
            · intro hl0
              have HONE : Hid (∀ u v, S u v = true → S v u = false) := fun u v h => by
                have hf := (HCLS.out u v).1 h
                have hlt := HLT.out u v (HDI.out.sub u v (hf.edge (p := (x, y)) HZ.out))
                exact HOZ.out u v hlt.1 hlt.2 h (hl0 u v hlt.1 hlt.2)
              have hPS2 := hrgz.set
              clear hl0 hrgz HOZ HLZ
              generalize wr = Wa at HDZ hPS2 ⊢
              go_wp2_with (first | (at_range; refine wpList_rangeP hN6 rfl _ rfl rfl hPS2 ?_; intro w5 cnt0 hrg0 hB5) | go_in)
              go_frame
              obtain ⟨r2, hr2⟩ : ∃ r, r = Wa.heap.size := ⟨_, rfl⟩
              rw [← hr2] at hrg0 ⊢
              have HRS2 : Hid (w.heap.size ≤ r2) := by
                show w.heap.size ≤ r2
                have := HDZ.out.turn.size
                omega
              have HD5 : Hid (DiM w (some ⟨gn, 0, none⟩) N bl (some ⟨be, oe, none⟩) ec es (.slice vo (toP L).length vc) Z L w5) := HDZ.out.next hB5
              clear hr2 hPS2 hB5 HDZ
              go_loopw [4] (fun s4 wz => ∃ (lf : Nat → Nat → Bool) (cnt : Nat) (Z3 : Nat → Nat → Bool) (L3 : List (Nat × Nat)), RgP wz bC r2 N S lf cnt ∧ DiM w (some ⟨gn, 0, none⟩) N bl (some ⟨be, oe, none⟩) ec es s4 Z3 (L ++ L3) wz ∧ Dir3 S lf N Z Z3 L3) (fun _ wz => wz.rangeLeft bC r2)
              case atStart => exact ⟨_, _, Z, [], hrg0, by simpa using HD5.out, Dir3.start S N Z⟩
              case round =>
                obtain ⟨lf, cnt, Z3, L3, hrgz, hDz, hd3⟩ := hrel
                obtain ⟨qo, qc, rfl⟩ := hDz.form
                have HDZ : Hid (DiM w (some ⟨gn, 0, none⟩) N bl (some ⟨be, oe, none⟩) ec es (.slice qo (toP (L ++ L3)).length qc) Z3 (L ++ L3) wr) := hDz
                have HD3 : Hid (Dir3 S lf N Z Z3 L3) := hd3
                have HLZ : Hid (wr.rangeLeft bC r2 = cnt) := hrgz.left
                clear hDz hd3 hrg0 HD5
                go_wp2_with (first | (at_next; refine wpList_nextP hN6 rfl _ rfl rfl hrgz ?_ ?_) | go_in)
                · intro hl0
                  have hI' := HDI.out.step HI.out (e := (x, y)) HZ.out HCLS.out HONE.out (L' := L3) HD3.out.nd (fun p q => by
                    rw [HD3.out.mem p q]
                    refine ⟨fun h => h.2.2.1, fun h => ?_⟩
                    have hlt := HLT.out p q (HDI.out.sub p q (((HCLS.out p q).1 h).edge (p := (x, y)) HZ.out))
                    exact ⟨hlt.1, hlt.2, h, hl0 p q hlt.1 hlt.2⟩)
                  have HDF : Hid (DiM w (some ⟨gn, 0, none⟩) N bl (some ⟨be, oe, none⟩) ec es (.slice qo (toP (L ++ L3)).length qc) (offS Z S) (L ++ L3) wr) :=
                    { HDZ.out with near := HDZ.out.near.congr (fun p q hp hq => by rw [HD3.out.z p q hp hq, hl0 p q hp hq, hl0 q p hq hp]; simp [offS]) }
                  have HIF : Hid (DirI A (offS Z S) (L ++ L3)) := hI'
                  have HXX : Hid (S x y = true) := (HCLS.out x y).2 .refl
                  clear hI' hl0 hrgz HDZ HD3
                  go_wp2
                  go_roundw
                  case rel => exact ⟨k + 1, offS Z S, L ++ L3, by omega, by go_num, HDF.out, HIF.out, fun i u v hi hu => by
                    by_cases e : i = k
                    · subst e
                      rw [HXY.out] at hu
                      simp at hu
                      obtain ⟨hu1, hu2⟩ := hu
                      obtain rfl : x = u := by omega
                      obtain rfl : y = v := by omega
                      simp [offS, HXX.out]
                    · simp [offS, HDN.out i u v (by omega) hu]⟩
                  case measure => simp [numOf]; omega
                · intro u v w6 cnt6 huN hvN hSuv hlv hrg6 hcl hg6 hen
                  have HD6 : Hid (DiM w (some ⟨gn, 0, none⟩) N bl (some ⟨be, oe, none⟩) ec es (.slice qo (toP (L ++ L3)).length qc) Z3 (L ++ L3) w6) := HDZ.out.iter hrgz.iter HRS2.out hg6
                  have HRG6 : Hid (RgP w6 bC r2 N S (offL lf u v) cnt6) := hrg6
                  have HCL : Hid (cnt6 < cnt) := hcl
                  have HN3 : Hid (Dir3 S (offL lf u v) N Z (offE Z3 u v) (L3 ++ [(u, v)])) := HD3.out.step huN hvN hSuv hlv
                  have hLL : (toP (L ++ L3)).length ≤ 100000000 := by
                    have h1 : L3.length ≤ N * N := by
                      have := nat_nodup_len (L3.map fun p => p.1 * N + p.2) (List.range (N * N)) (by
                        refine List.pairwise_map.2 (HD3.out.nd.imp_of_mem fun {p q} hp hq hne e => hne ?_)
                        have p0 := (HD3.out.mem p.1 p.2).1 hp
                        have q0 := (HD3.out.mem q.1 q.2).1 hq
                        obtain ⟨_, a1, a2⟩ := pairNum p0.1 p0.2.1
                        obtain ⟨_, b1, b2⟩ := pairNum q0.1 q0.2.1
                        rw [e] at a1 a2
                        exact Prod.ext (a1.symm.trans b1) (a2.symm.trans b2)) (fun z hz => by
                        obtain ⟨p, hp, rfl⟩ := List.mem_map.1 hz
                        have p0 := (HD3.out.mem p.1 p.2).1 hp
                        exact List.mem_range.2 (pairNum p0.1 p0.2.1).1)
                      simpa using this
                    have h2 := HDI.out.len HLT.out
                    rw [toP_len, List.length_append]
                    omega
                  clear hrgz hcl hg6 hSuv hlv hrg6 HDZ HD3
                  go_upto_region 15 with (fail)
                  have hB7 := below_alloc (Below.refl _ w6) (Obj.cells #[.int .i64 (u : Int), .int .i64 (v : Int)] 38)
                  have t7 := two_new w6 (.int .i64 (u : Int)) (.int .i64 (v : Int)) 38
                  obtain ⟨b9, hb9⟩ : ∃ b, b = w6.heap.size := ⟨_, rfl⟩
                  rw [← hb9] at t7 ⊢
                  clear hen
                  generalize w6.alloc (Obj.cells #[.int .i64 (u : Int), .int .i64 (v : Int)] 38) = W7 at hB7 t7 ⊢
                  obtain ⟨c70, c71⟩ := cell_two t7
                  have HD7 : Hid (DiM w (some ⟨gn, 0, none⟩) N bl (some ⟨be, oe, none⟩) ec es (.slice qo (toP (L ++ L3)).length qc) Z3 (L ++ L3) W7) := HD6.out.next hB7
                  have HRG7 : Hid (RgP W7 bC r2 N S (offL lf u v) cnt6) := HRG6.out.below hB7
                  have HT7 : Hid (Two W7 b9 (.int .i64 (u : Int)) (.int .i64 (v : Int)) 38) := t7
                  have HB9 : Hid (w.heap.size ≤ b9) := by
                    show w.heap.size ≤ b9
                    have := HD6.out.turn.size
                    omega
                  have H44 : Hid (Calls Tryz.prog 44 #[.slice (some ⟨gn, 0, none⟩) N cap, .int .i64 (u : Int), .int .i64 (v : Int)] W7 fun r w' => r = .returned (.tuple #[]) ∧ NearsAt w' (some ⟨gn, 0, none⟩) N bl (offE Z3 u v) ∧ Turns (Marks N bl) W7 w') := part_call HD7.out.near hN huN hvN
                  clear hb9 t7 HD6 HRG6 hB7
                  go_upto_region 16 with (first | (go_at_call 44; refine Calls.mono H44.out ?_; rintro e' w8 ⟨rfl, hn8, ht8⟩) | go_in)
                  have hml : ∀ k, Marks N bl k → k < w.heap.size := fun k ⟨i, hi, e⟩ => by rw [e]; exact HD7.out.lo i hi
                  have HD8 : Hid (DiM w (some ⟨gn, 0, none⟩) N bl (some ⟨be, oe, none⟩) ec es (.slice qo (toP (L ++ L3)).length qc) (offE Z3 u v) (L ++ L3) w8) := HD7.out.parted hn8 ht8
                  have t8 : Two w8 b9 (.int .i64 (u : Int)) (.int .i64 (v : Int)) 38 := (ht8.block b9 (lt_of_block HT7.out) (fun hM => by have := hml b9 hM; have := HB9.out; omega)).trans HT7.out
                  have HRG8 : Hid (RgP w8 bC r2 N S (offL lf u v) cnt6) := HRG7.out.turns ht8 (fun hM => by have := hml bC hM; have := HBC.out; omega) (fun hM => by have := hml r2 hM; have := HRS2.out; omega)
                  obtain ⟨e70, e71⟩ := cell_two t8
                  have hrow8 := HD8.out.row
                  have hsz8 := HD8.out.turn.size
                  clear c70 c71 hn8 ht8 hml t8 HD7 HRG7 HT7
                  go_wp2_with (first | (at_builtin; refine wpList_pushP (x := (u : Int)) (y := (v : Int)) rfl _ _ rfl rfl rfl hrow8 hLL hsz8 ?_; intro v9 w9 hown9 hg9) | go_in)
                  have hD9 := HD8.out.push hown9 hg9
                  rw [List.append_assoc] at hD9
                  have hrg9 : RgP w9 bC r2 N S (offL lf u v) cnt6 := by
                    have hBa := below_alloc (Below.refl _ w8) (Obj.cells #[.int .i64 (u : Int), .int .i64 (v : Int)] 38)
                    have h1 := HRG8.out.below hBa
                    refine h1.kept hg9 (fun e => ?_) (fun e => ?_)
                    · obtain ⟨cur, hc⟩ := own_cells hrow8 e.symm
                      obtain ⟨es', c', hm'⟩ := HRG8.out.set.isMap
                      rw [hm'] at hc; cases hc
                    · obtain ⟨cur, hc⟩ := own_cells hrow8 e.symm
                      obtain ⟨i1, i2, i3, i4, hi'⟩ := HRG8.out.iter
                      rw [hi'] at hc; cases hc
                  go_roundw
                  case rel => exact ⟨_, _, _, _, hrg9, hD9, HN3.out⟩
                  case measure => rw [hrg9.left, HLZ.out]; exact HCL.out
            · intro u v w6 cnt6 huN hvN hSuv hlv hrg6 hcl hg6 hen
              have HD6 : Hid (DiM w (some ⟨gn, 0, none⟩) N bl (some ⟨be, oe, none⟩) ec es (.slice vo (toP L).length vc) Z L w6) := HDZ.out.iter hrgz.iter HRS.out hg6
              have HRG6 : Hid (RgP w6 bC r N S (offL lf u v) cnt6) := hrg6
              have HCL : Hid (cnt6 < cnt) := hcl
              have HSV : Hid (S u v = true) := hSuv
              have hset6 := hrg6.set
              clear hrgz hcl hg6 hSuv hlv hrg6 HDZ
              go_upto_region 9 with (fail)
              have hB7 := below_alloc (Below.refl _ w6) (Obj.cells #[.int .i64 (u : Int), .int .i64 (v : Int)] 38)
              have t7 := two_new w6 (.int .i64 (u : Int)) (.int .i64 (v : Int)) 38
              obtain ⟨b9, hb9⟩ : ∃ b, b = w6.heap.size := ⟨_, rfl⟩
              rw [← hb9] at t7 ⊢
              clear hen
              generalize w6.alloc (Obj.cells #[.int .i64 (u : Int), .int .i64 (v : Int)] 38) = W7 at hB7 t7 ⊢
              have hlk := (hset6.below hB7).look hN6 hvN huN
              obtain ⟨c70, c71⟩ := cell_two t7
              have HD7 : Hid (DiM w (some ⟨gn, 0, none⟩) N bl (some ⟨be, oe, none⟩) ec es (.slice vo (toP L).length vc) Z L W7) := HD6.out.next hB7
              have HRG7 : Hid (RgP W7 bC r N S (offL lf u v) cnt6) := HRG6.out.below hB7
              clear hb9 t7 hset6 HD6 HRG6 hB7
              cases hb : S v u with
              | true =>
                rw [hb] at hlk
                have HBAD : Hid (¬ Good A) := HDI.out.bad (e := (x, y)) HZ.out ((HCLS.out u v).1 HSV.out) ((HCLS.out v u).1 hb)
                clear hb
                go_wp2
                refine bodyPost_ret (v := .tuple #[.slice none 0 0, .bool false]) (by simp [results, Tryz.results32, go_sem]) rfl ?_
                exact ⟨Or.inl ⟨rfl, HBAD.out⟩, (HD7.out.next (below_alloc (Below.refl _ W7) (Obj.cells #[] 75))).turn⟩
              | false =>
                rw [hb] at hlk
                have HB : Hid (S v u = false) := hb
                clear hb
                have hB8 := below_alloc (Below.refl _ W7) (Obj.cells #[] 75)
                go_wp2
                go_roundw
                case rel =>
                  refine ⟨_, _, rfl, HRG7.out.below hB8, HD7.out.next hB8, fun p q hp hq h1 h2 => ?_⟩
                  by_cases c : p = u ∧ q = v
                  · obtain ⟨rfl, rfl⟩ := c; exact HB.out
                  · have c' : (p == u && q == v) = false := by rw [Bool.eq_false_iff]; intro hh; simp at hh; exact c hh
                    exact HOZ.out p q hp hq h1 (by simpa [offL, c'] using h2)
                case measure => rw [(HRG7.out.below hB8).left, HLZ.out]; exact HCL.out
    · have k2 : ¬ (k : Int) < (es.length : Int) := by omega
      have HZ0 : Hid (∀ x y, Z x y = false) := fun x y => by
        cases hz : Z x y with
        | false => rfl
        | true =>
          have hk' : k = es.length := by omega
          rcases HALL.out x y (HDI.out.sub x y hz) with h | h
          · obtain ⟨i, hi, e⟩ := List.getElem_of_mem h
            have := HDN.out i x y (by omega) (by rw [List.getElem?_eq_getElem hi, e])
            rw [hz] at this; cases this
          · obtain ⟨i, hi, e⟩ := List.getElem_of_mem h
            have := HDN.out i y x (by omega) (by rw [List.getElem?_eq_getElem hi, e])
            rw [HDI.out.sym, hz] at this; cases this
      have H45 := sortP_call HD.out.row hLl
      have H45' : Hid (Calls Tryz.prog 45 #[.slice vo (toP L).length vc, .func (.func 46) #[] #[]] wr fun e w' => e = .returned (.tuple #[]) ∧ ∃ L', L'.Perm (toP L) ∧ L'.Pairwise (fun a b => 0 ≤ cmpP b a) ∧ w'.ownsRow w.heap.size 38 2 (.slice vo (toP L).length vc) L'.length (flat L') ∧ Turns (fun k => some k = (Value.slice vo (toP L).length vc).ownBlock) wr w') := H45
      clear H45
      go_wp2_with (first | (go_at_call 45; refine Calls.mono H45'.out ?_; rintro e' w8 ⟨rfl, P8, hp8, hw8, ho8, ht8⟩) | go_in)
      obtain ⟨L8, rfl, hL8⟩ := toP_perm hp8
      refine bodyPost_ret (v := .tuple #[.slice vo (toP L).length vc, .bool true]) (by simp [results, Tryz.results32, go_sem]) rfl ?_
      refine ⟨Or.inr ⟨_, L8, rfl, ho8, ?_, hL8.nodup_iff.2 HDI.out.nd, hw8⟩, HD.out.turn.comp ht8 (fun k hk e => by have := (HD.out.row.lt k e.symm).1; omega)⟩
      have := HDI.out.dir HZ0.out
      have e : (fun x y => (x, y) ∈ L8) = (fun x y => (x, y) ∈ L) := by
        funext x y
        rw [hL8.mem_iff]
      rw [e]; exact this
end Go.Proofs.YtkkfjfphmlcieaaGreat
