/- Components: the nodes of each. Graphs in form: their edges by number; the map from edges to their numbers. -/
import Derived.Test.YtenjkhgpfmfgmaaDoorRise
import Derived.Test.YtenjkhgpfmfgmaaDoorParts
namespace Go.Proofs.YtenjkhgpfmfgmaaDoor
open Go.RowKit Go.Maps
attribute [local go_sem ↓] Go.wp_at_zero Go.wp_at_succ

theorem two_new1 (w : World) (o : Obj) (x y : Value) (t : TypeId) : Two ((w.alloc o).alloc (Obj.cells #[x, y] t)) (w.heap.size + 1) x y t := by
  simpa [Two] using heap_alloc_new (w.alloc o) (Obj.cells #[x, y] t)

theorem bothB_symm (es : List Pair) (m : Nat) : ∀ a b, a < m → b < m → bothB es a b = true → bothB es b a = true := fun a b _ _ h => by unfold bothB at *; rw [hasB_comm]; exact h

theorem ListsAt.mono {w : World} {base base' : Nat} {v : Value} {ls : List (List Nat)} (h : ListsAt w base v ls) (hb : base' ≤ base) : ListsAt w base' v ls := by
  obtain ⟨vs, h1, h2, h3⟩ := h
  exact ⟨vs, h1, ownsRow_mono h2 hb, fun i x l hx hl => ownsRow_mono (h3 i x l hx hl) hb⟩

/-- What is held while a region goes on: an old box, and one for the fault that is answered. -/
def HeldC (w : World) (b1 b3 : Nat) (x y : Value) (wz : World) : Prop :=
  Below w.heap.size w wz ∧ Two wz b1 x y 24 ∧ Two wz b3 (.int .i64 0) (.int .i64 0) 27 ∧ wz.cell? ⟨b1, 0, none⟩ = some x ∧ wz.cell? ⟨b1, 1, none⟩ = some y ∧ wz.cell? ⟨b3, 0, none⟩ = some (.int .i64 0) ∧ wz.cell? ⟨b3, 1, none⟩ = some (.int .i64 0) ∧ wz.frozen? ⟨b3, 0, none⟩ = false ∧ wz.frozen? ⟨b3, 1, none⟩ = false
theorem heldC_mk {w wz : World} {b1 b3 : Nat} {x y : Value} (hb : Below w.heap.size w wz) (t1 : Two wz b1 x y 24) (t3 : Two wz b3 (.int .i64 0) (.int .i64 0) 27) : HeldC w b1 b3 x y wz :=
  ⟨hb, t1, t3, (cell_two t1).1, (cell_two t1).2, (cell_two t3).1, (cell_two t3).2, free_two t3 0, free_two t3 1⟩
theorem two_zero {w : World} {b : Nat} {t : TypeId} (h : Two w b (.int .i64 0) (.int .i64 0) t) : Two ((w.setCell ⟨b, 0, none⟩ (.int .i64 0)).setCell ⟨b, 1, none⟩ (.int .i64 0)) b (.int .i64 0) (.int .i64 0) t := by
  have hl := lt_of_block h
  unfold Two at h ⊢
  simp [World.setCell, Array.getElem?_modify, h]
theorem two_far {w : World} {b b' o : Nat} {x y u : Value} {t : TypeId} (h : Two w b x y t) (hne : b ≠ b') : Two (w.setCell ⟨b', o, none⟩ u) b x y t := (Below.heap_setCell _ _ _ _ hne).trans h
theorem heldC_set {w wz : World} {b1 b3 : Nat} {x y : Value} (hne : b1 ≠ b3) (h3 : w.heap.size ≤ b3) (hb : Below w.heap.size w wz) (t1 : Two wz b1 x y 24) (t3 : Two wz b3 (.int .i64 0) (.int .i64 0) 27) : HeldC w b1 b3 x y ((wz.setCell ⟨b3, 0, none⟩ (.int .i64 0)).setCell ⟨b3, 1, none⟩ (.int .i64 0)) :=
  heldC_mk ((hb.setCell h3 _).setCell h3 _) (two_far (two_far t1 hne) hne) (two_zero t3)
theorem two_turns {M : Nat → Prop} {w w' : World} {b : Nat} {x y : Value} {t : TypeId} (h : Two w b x y t) (ht : Turns M w w') (hm : ¬ M b) : Two w' b x y t := (ht.block b (lt_of_block h) hm).trans h

end Go.Proofs.YtenjkhgpfmfgmaaDoor

namespace Go.Proofs.YtenjkhgpfmfgmaaDoor
open Go.RowKit Go.Maps

/-- The edges of a graph in form. -/
structure Formed (m : Nat) (es : List Pair) : Prop where
  nodup : es.Nodup
  ok : ∀ (i : Nat) (e : Pair), es[i]? = some e → ∃ x y : Nat, e = ((x : Int), (y : Int)) ∧ x < y ∧ y < m

def Ef (m : Nat) (es : List Pair) (a b : Nat) : Prop := a < m ∧ b < m ∧ bothB es a b = true
def elf (es : List Pair) (i : Nat) : Nat × Nat := ((es.getD i (0, 0)).1.toNat, (es.getD i (0, 0)).2.toNat)

theorem getD_some {es : List Pair} {i : Nat} {e : Pair} (h : es[i]? = some e) : es.getD i (0, 0) = e := by simp [List.getD, h]
theorem elf_some {es : List Pair} {i x y : Nat} (h : es[i]? = some ((x : Int), (y : Int))) : elf es i = (x, y) := by
  unfold elf; rw [getD_some h]; simp
theorem Formed.at {m : Nat} {es : List Pair} (h : Formed m es) {i : Nat} (hi : i < es.length) : ∃ x y : Nat, es[i]? = some ((x : Int), (y : Int)) ∧ x < y ∧ y < m := by
  obtain ⟨x, y, e, h1, h2⟩ := h.ok i es[i] (List.getElem?_eq_getElem hi)
  exact ⟨x, y, by rw [List.getElem?_eq_getElem hi, e], h1, h2⟩
theorem Formed.inj {m : Nat} {es : List Pair} (h : Formed m es) {i j : Nat} {e : Pair} (hi : es[i]? = some e) (hj : es[j]? = some e) : i = j := by
  obtain ⟨h1, e1⟩ := List.getElem?_eq_some_iff.1 hi
  obtain ⟨h2, e2⟩ := List.getElem?_eq_some_iff.1 hj
  have hp := List.pairwise_iff_getElem.1 h.nodup
  rcases Nat.lt_trichotomy i j with h' | h' | h'
  · exact absurd (e1.trans e2.symm) (hp i j h1 h2 h')
  · exact h'
  · exact absurd (e2.trans e1.symm) (hp j i h2 h1 h')

theorem both_iff {m : Nat} {es : List Pair} (h : Formed m es) (a b : Nat) : bothB es a b = true ↔ ∃ i : Nat, es[i]? = some (((min a b : Nat) : Int), ((max a b : Nat) : Int)) := by
  unfold bothB hasB
  rw [List.any_eq_true]
  constructor
  · rintro ⟨e, he, hb⟩
    obtain ⟨i, hi⟩ := List.mem_iff_getElem?.1 he
    obtain ⟨x, y, rfl, hxy, _⟩ := h.ok i e hi
    refine ⟨i, ?_⟩
    rw [hi]
    simp at hb
    rcases hb with ⟨e1, e2⟩ | ⟨e1, e2⟩
    · obtain rfl : x = a := by omega
      obtain rfl : y = b := by omega
      rw [Nat.min_eq_left (by omega), Nat.max_eq_right (by omega)]
    · obtain rfl : x = b := by omega
      obtain rfl : y = a := by omega
      rw [Nat.min_eq_right (by omega), Nat.max_eq_left (by omega)]
  · rintro ⟨i, hi⟩
    refine ⟨_, List.mem_of_getElem? hi, ?_⟩
    rcases Nat.le_total a b with hab | hab
    · rw [Nat.min_eq_left hab, Nat.max_eq_right hab]; simp
    · rw [Nat.min_eq_right hab, Nat.max_eq_left hab]; simp

theorem ef_gr {m : Nat} {es : List Pair} (h : Formed m es) : Gr m (Ef m es) where
  lt := fun a b h => ⟨h.1, h.2.1⟩
  symm := fun a b h => ⟨h.2.1, h.1, by have := h.2.2; unfold bothB at *; rw [hasB_comm]; exact this⟩
  irr := fun a ha => by
    obtain ⟨i, hi⟩ := (both_iff h a a).1 ha.2.2
    obtain ⟨x, y, e, h1, _⟩ := h.ok i _ hi
    simp at e
    omega
theorem ef_edges {m : Nat} {es : List Pair} (h : Formed m es) : Edges m es.length (Ef m es) (elf es) where
  ok := fun i hi => by
    obtain ⟨x, y, e, h1, h2⟩ := h.at hi
    rw [elf_some e]
    exact ⟨h1, by show x < m; omega, h2, (both_iff h x y).2 ⟨i, by rw [e, Nat.min_eq_left (by omega), Nat.max_eq_right (by omega)]⟩⟩
  all := fun a b hab hE => by
    obtain ⟨i, hi⟩ := (both_iff h a b).1 hE.2.2
    rw [Nat.min_eq_left (by omega), Nat.max_eq_right (by omega)] at hi
    exact ⟨i, (List.getElem?_eq_some_iff.1 hi).1, elf_some hi⟩
  inj := fun i j hi hj e => by
    obtain ⟨x, y, e1, _⟩ := h.at hi
    obtain ⟨x', y', e2, _⟩ := h.at hj
    rw [elf_some e1, elf_some e2] at e
    simp at e
    obtain ⟨rfl, rfl⟩ := e
    exact h.inj e1 e2
theorem inc_iff {m : Nat} {es : List Pair} (h : Formed m es) {i : Nat} (hi : i < es.length) (v u : Nat) : Inc (elf es) i v u ↔ es[i]? = some (((min u v : Nat) : Int), ((max u v : Nat) : Int)) := by
  obtain ⟨x, y, e1, hxy, _⟩ := h.at hi
  unfold Inc
  rw [elf_some e1, e1]
  simp
  omega

/-- Block b is a map from the first k edges to their numbers. -/
def NumAt (w : World) (b : Nat) (es : List Pair) (k : Nat) : Prop :=
  ∃ D : DataW Unit, w.ownsMap Tryd.prog 50 (plainElem Tryd.prog 3) b k D ∧ (∀ u v : Int, I64 u → I64 v → (Maps.has D (kl u v) = true ↔ ∃ i, i < k ∧ es[i]? = some (u, v))) ∧
    ∀ (i : Nat) (u v : Int), i < k → es[i]? = some (u, v) → D.atKey (kl u v) (.lit (.int .i64 0)) = .lit (.int .i64 (i : Int))
theorem NumAt.block {w w' : World} {b k : Nat} {es : List Pair} (h : NumAt w b es k) (hb : w'.heap[b]? = w.heap[b]?) : NumAt w' b es k := by
  obtain ⟨D, ⟨ms, clock, h1, h2⟩, h3⟩ := h
  exact ⟨D, ⟨ms, clock, by rw [hb]; exact h1, h2⟩, h3⟩
theorem NumAt.lt {w : World} {b k : Nat} {es : List Pair} (h : NumAt w b es k) : b < w.heap.size := by
  obtain ⟨D, h1, _⟩ := h; exact h1.lt
theorem NumAt.turns {w w' : World} {b k : Nat} {es : List Pair} {M : Nat → Prop} (h : NumAt w b es k) (ht : Turns M w w') (hm : ¬ M b) : NumAt w' b es k := h.block (ht.block b h.lt hm)
theorem numAt_made (w : World) (es : List Pair) : NumAt (w.alloc (.map #[] 0)) w.heap.size es 0 :=
  ⟨.map [], World.ownsMap_made _ _ _ _, fun _ _ _ _ => by simp [Maps.has], fun _ _ _ h => by omega⟩

theorem kl_key (u v : Int) : WideAt.IsKeyLit (kl u v) := trivial

end Go.Proofs.YtenjkhgpfmfgmaaDoor
