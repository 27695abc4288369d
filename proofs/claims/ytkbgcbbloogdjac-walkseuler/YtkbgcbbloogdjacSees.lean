/- Check and Near of package graph. -/
import Derived.Test.YtkbgcbbloogdjacForm
namespace Go.Proofs.Ytkbgcbbloogdjac
open Go.RowKit Go.Maps

theorem below3 {w : World} (a b c : Obj) : Below w.heap.size w (((w.alloc a).alloc b).alloc c) := below_alloc (below_alloc (below_alloc (Below.refl _ _) _) _) _
theorem below2 {w : World} (a b : Obj) : Below w.heap.size w ((w.alloc a).alloc b) := below_alloc (below_alloc (Below.refl _ _) _) _

theorem nearIn_pair (n : Int) (v : Value) (es : List Pair) (w : World) (hE : EdgesAt w v es) :
    Calls Try.prog 59 #[.agg #[.int .i64 n, v]] w fun e w' => ∃ f, e = .returned (.tuple #[f, .agg #[.int .i64 (chk n es).1, .int .i64 (chk n es).2]]) ∧ Below w.heap.size w w' := by
  refine (nearIn_any n v es w hE).mono ?_
  rintro e w' ⟨hb, ⟨_, rfl⟩ | ⟨h0, Bx, rfl, _⟩⟩
  · exact ⟨_, rfl, hb⟩
  · exact ⟨_, by rw [(chk_good h0).1], hb⟩

theorem Try.info3 : (Try.prog.info? 3).map (fun i => (i.zero, i.size, i.bytes)) = some (some (.int .i64 0), 1, 8) := by kernel_rfl

/-- The nodes below u that are near v. -/
def nearTo (es : List Pair) (v : Int) (u : Nat) : List Int := ((List.range u).filter fun (j : Nat) => hasB es j v).map fun (j : Nat) => (j : Int)
theorem nearTo_succ (es : List Pair) (v : Int) (u : Nat) : nearTo es v (u + 1) = nearTo es v u ++ (if hasB es u v = true then [(u : Int)] else []) := by
  unfold nearTo
  rw [List.range_succ, List.filter_append, List.map_append]
  congr 1
  by_cases h : hasB es u v = true
  · rw [if_pos h]; simp [h]
  · rw [if_neg h]; simp [h]
theorem nearTo_le (es : List Pair) (v : Int) (u : Nat) : (nearTo es v u).length ≤ u := by
  unfold nearTo
  rw [List.length_map]
  exact Nat.le_trans (List.length_filter_le _ _) (by simp)

/-- The slice value v holds the numbers l. -/
def IntsAt (w : World) (v : Value) (l : List Int) : Prop :=
  ∃ ao cap, v = .slice ao l.length cap ∧ l.length ≤ 17592186044416 ∧ (∀ x ∈ l, I64 x) ∧
    ∀ k (h : k < l.length), ∃ b off, ao = some ⟨b, off, none⟩ ∧ w.cell? ⟨b, off + k, none⟩ = some (.int .i64 l[k])

theorem IntsAt.below {w w' : World} {v : Value} {l : List Int} (h : IntsAt w v l) (hb : Below w.heap.size w w') : IntsAt w' v l := by
  obtain ⟨ao, cap, h1, h2, h3, h4⟩ := h
  refine ⟨ao, cap, h1, h2, h3, fun k hk => ?_⟩
  obtain ⟨b, off, e, c0⟩ := h4 k hk
  exact ⟨b, off, e, by rw [hb.cell (by exact World.block_lt_of_cell? w _ c0)]; exact c0⟩

theorem intsAt_nil (w : World) : IntsAt w (.slice none 0 0) [] := ⟨none, 0, rfl, by simp, by simp, fun k h => absurd h (by simp)⟩

theorem intsAt_row {w : World} {base : Nat} {v : Value} {l : List Int} (h : w.ownsRow base 3 1 v l.length (l.map (Value.int .i64))) (hI : ∀ x ∈ l, I64 x) (hl : l.length ≤ 17592186044416) : IntsAt w v l := by
  rcases h.2 with ⟨rfl, e⟩ | ⟨g, cap, cur, rfl, _⟩
  · exact ⟨none, 0, by rw [e], hl, hI, fun k hk => by omega⟩
  · refine ⟨_, cap, rfl, hl, hI, fun k hk => ⟨g, 0, rfl, ?_⟩⟩
    have := h.cells (g := g) rfl k (.int .i64 l[k]) (by simp [hk])
    rw [add_none] at this
    simpa using this

theorem IntsAt.setCell {w : World} {ao : Option Addr} {n cap : Nat} {l : List Int} (h : IntsAt w (.slice ao n cap) l) {p : Addr} (hp : ∀ x, ao = some x → x.block ≠ p.block) (u : Value) : IntsAt (w.setCell p u) (.slice ao n cap) l := by
  obtain ⟨ao', cap', e, h2, h3, h4⟩ := h
  cases e
  refine ⟨ao, cap, rfl, h2, h3, fun k hk => ?_⟩
  obtain ⟨b, off, e, c0⟩ := h4 k hk
  have hne : p.block ≠ b := fun e' => hp _ e e'.symm
  exact ⟨b, off, e, by rw [World.cell?_setCell_far _ _ _ _ hne]; exact c0⟩

theorem form_row {w : World} {base : Nat} {e : TypeId} {sz : Nat} {v : Value} {n : Nat} {xs : List Value} (h : w.ownsRow base e sz v n xs) : ∃ ao cap, v = .slice ao n cap := by
  rcases h.2 with ⟨rfl, e⟩ | ⟨g, cap, cur, rfl, _⟩
  · exact ⟨none, 0, by rw [e]⟩
  · exact ⟨_, cap, rfl⟩

structure NB (w wr : World) (m : Nat) (v0 : Value) (es : List Pair) (Bx : Nat) (v : Value) (l : List Int) : Prop where
  b0 : wr.heap[w.heap.size]? = some (.cells #[.int .i64 m, v0] 24 (0, 0))
  b1 : wr.heap[w.heap.size + 1]? = some (.cells #[.int .i64 0, .int .i64 0] 27 (0, 0))
  near : NearAt wr Bx es
  own : wr.ownsRow (w.heap.size + 2) 3 1 v l.length (l.map (Value.int .i64))
  below : Below w.heap.size w wr

theorem NB.step {w wr wr' : World} {m : Nat} {v0 : Value} {es : List Pair} {Bx : Nat} {v : Value} {l : List Int} (h : NB w wr m v0 es Bx v l) (hb : Below wr.heap.size wr wr') : NB w wr' m v0 es Bx v l := by
  refine ⟨(hb.block _ (lt_of_block h.b0)).trans h.b0, (hb.block _ (lt_of_block h.b1)).trans h.b1, h.near.below hb, ?_, below_next h.below hb⟩
  exact h.own.kept (row := none) ⟨hb.os, hb.tape, hb.output, hb.size, fun k hk _ => hb.block k hk⟩ (by cases v.ownBlock <;> simp)

theorem NearAt.grown {w w1 : World} {Bx : Nat} {es : List Pair} {row : Option Nat} (h : NearAt w Bx es) (hg : w.grownBy w1 row) {t : TypeId} (hr : ∀ g, row = some g → ∃ cur, w.heap[g]? = some (.cells cur t (0, 0))) (ht : t ≠ 113) : NearAt w1 Bx es := by
  obtain ⟨b, n, h1, h2⟩ := h
  refine ⟨b, n, ?_, h2.block ?_⟩
  · rw [hg.block Bx (lt_of_block h1) (fun e => ?_)]
    · exact h1
    · obtain ⟨c, hc⟩ := hr Bx e.symm
      rw [h1] at hc
      simp at hc
      exact ht hc.2.symm
  · refine hg.block b h2.lt (fun e => ?_)
    obtain ⟨c, hc⟩ := hr b e.symm
    obtain ⟨D, ⟨es', clock, h3, _⟩, _⟩ := h2
    rw [h3] at hc
    simp at hc

theorem row_block {w : World} {base : Nat} {e : TypeId} {sz : Nat} {v : Value} {n : Nat} {xs : List Value} (h : w.ownsRow base e sz v n xs) : ∀ g, v.ownBlock = some g → ∃ cur, w.heap[g]? = some (.cells cur e (0, 0)) := by
  intro g hg
  rcases h.2 with ⟨rfl, _⟩ | ⟨g', cap, cur, rfl, _, hh, _⟩
  · cases hg
  · cases hg; exact ⟨cur, hh⟩

theorem NB.push {w wr w1 : World} {m : Nat} {v0 : Value} {es : List Pair} {Bx : Nat} {v v' : Value} {l : List Int} {x : Int} (h : NB w wr m v0 es Bx v l) (hown : w1.ownsRow (w.heap.size + 2) 3 1 v' (l.length + 1) (l.map (Value.int .i64) ++ [.int .i64 x])) (hg : (wr.alloc (Obj.cells #[.int .i64 x] 3)).grownBy w1 v.ownBlock) : NB w w1 m v0 es Bx v' (l ++ [x]) := by
  have hn : ∀ k, v.ownBlock = some k → w.heap.size + 2 ≤ k := fun k hk => (h.own.lt k hk).1
  have l0 := lt_of_block h.b0
  have l1 := lt_of_block h.b1
  have q : ∀ j, j < w.heap.size + 2 → w1.heap[j]? = wr.heap[j]? := fun j hj => by
    rw [hg.block j (by simp; omega) (fun e => by have := hn j e.symm; omega), Below.heap_alloc _ _ _ (by omega)]
  refine ⟨(q _ (by omega)).trans h.b0, (q _ (by omega)).trans h.b1, ?_, ?_, ?_⟩
  · exact (h.near.below (below_alloc (Below.refl _ _) _)).grown hg (t := 3) (row_block (h.own.alloc _)) (by decide)
  · simpa using hown
  · exact (h.below.alloc h.below.size _).grown hg (by simp; omega) (fun k hk => by have := hn k hk; omega)

/-- What Near answers. -/
def nearS (n : Int) (es : List Pair) (v : Int) : List Int × Int × Int :=
  if (chk n es).1 = 0 then (if isN n v then (nearTo es v n.toNat, 0, 0) else ([], 3, 0)) else ([], (chk n es).1, (chk n es).2)

def NearTells (F : FuncId) (args : Array Value) (w : World) (a : List Int × Int × Int) : Prop :=
  Calls Try.prog F args w fun e w' => Below w.heap.size w w' ∧ ∃ ao cap, e = .returned (.tuple #[.slice ao a.1.length cap, .agg #[.int .i64 a.2.1, .int .i64 a.2.2]]) ∧ IntsAt w' (.slice ao a.1.length cap) a.1

end Go.Proofs.Ytkbgcbbloogdjac
