/- The document's Own: a copy of the graph. -/
import Derived.Test.YtbaghbodjpehpabDoorSees
import Derived.Deep.AppendLies
namespace Go.Proofs.YtbaghbodjpehpabDoor
open Go.RowKit Go.Maps
attribute [local go_sem ↓] Go.wp_at_zero Go.wp_at_succ

theorem flat_one (L : List Pair) : ∀ u ∈ flat L, u.oneCell' = true := by
  intro u hu
  simp only [flat, List.mem_flatMap] at hu
  obtain ⟨e, _, he⟩ := hu
  simp at he
  rcases he with rfl | rfl <;> rfl

theorem flat_inv (L : List Pair) : ∀ j u, (flat L)[j]? = some u → ∃ k, ∃ h : k < L.length, (j = k * 2 ∧ u = .int .i64 L[k].1) ∨ (j = k * 2 + 1 ∧ u = .int .i64 L[k].2) := by
  intro j u hj
  have hl : j < (flat L).length := (List.getElem?_eq_some_iff.1 hj).1
  rw [flat_length] at hl
  have hk : j / 2 < L.length := by omega
  obtain ⟨g1, g2⟩ := flat_get L (j / 2) hk
  refine ⟨j / 2, hk, ?_⟩
  by_cases h : j % 2 = 0
  · left
    have e : j = j / 2 * 2 := by omega
    refine ⟨e, ?_⟩
    rw [← e, hj] at g1
    exact Option.some.inj g1
  · right
    have e : j = j / 2 * 2 + 1 := by omega
    refine ⟨e, ?_⟩
    rw [← e, hj] at g2
    exact Option.some.inj g2

theorem edges_news {w : World} {ad : Addr} {n cap : Nat} {es : List Pair} (hE : EdgesAt w (.slice (some ad) n cap) es) : ∀ j u, (flat es)[j]? = some u → w.cell? (ad.add j) = some u := by
  obtain ⟨ao', cap', e, _, _, hc⟩ := hE
  cases e
  intro j u hj
  obtain ⟨k, hk, ⟨rfl, rfl⟩ | ⟨rfl, rfl⟩⟩ := flat_inv es j u hj
  · obtain ⟨b, off, e, c0, _⟩ := hc k hk
    cases e
    rw [show (⟨b, off, none⟩ : Addr).add (k * 2) = ⟨b, off + k * 2, none⟩ from by unfold Addr.add; split <;> simp_all]
    exact c0
  · obtain ⟨b, off, e, _, c1⟩ := hc k hk
    cases e
    rw [show (⟨b, off, none⟩ : Addr).add (k * 2 + 1) = ⟨b, off + k * 2 + 1, none⟩ from by unfold Addr.add; split <;> simp_all [Nat.add_assoc]]
    exact c1

theorem own_kept {w w1 : World} {x y x' y' : Value} {t t' : TypeId} (hg : (((w.alloc (Obj.cells #[x, y] t)).alloc (Obj.cells #[x', y'] t')).drew).grownBy w1 none) :
    (w1.cell? ⟨w.heap.size, 0, none⟩ = some x ∧ w1.cell? ⟨w.heap.size, 1, none⟩ = some y) ∧ w1.heap[w.heap.size + 1]? = some (.cells #[x', y'] t' (0, 0)) := by
  have h0 : w1.heap[w.heap.size]? = some (.cells #[x, y] t (0, 0)) := by
    rw [hg.block _ (by show _ < ((w.alloc _).alloc _).heap.size; simp; omega) (by simp)]
    show ((w.alloc _).alloc _).heap[w.heap.size]? = _
    rw [Below.heap_alloc _ _ _ (by simp)]; exact heap_alloc_new _ _
  refine ⟨cell_two h0, ?_⟩
  rw [hg.block _ (by show _ < ((w.alloc _).alloc _).heap.size; simp) (by simp)]
  show ((w.alloc _).alloc _).heap[w.heap.size + 1]? = _
  simpa using heap_alloc_new (w.alloc (Obj.cells #[x, y] t)) (Obj.cells #[x', y'] t')

theorem below_grown {W w1 : World} (hg : W.grownBy w1 none) : Below W.heap.size W w1 := ⟨hg.os, hg.tape, hg.output, hg.size, fun k hk => hg.block k hk (by simp)⟩

end Go.Proofs.YtbaghbodjpehpabDoor
