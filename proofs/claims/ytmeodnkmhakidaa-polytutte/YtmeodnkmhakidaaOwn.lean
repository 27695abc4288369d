/- The document's Own: a copy of the graph. -/
import Derived.Test.YtmeodnkmhakidaaSeen
import Derived.Deep.AppendLies
namespace Go.Proofs.Ytmeodnkmhakidaa
open Go.RowKit Go.Maps
attribute [local go_sem ↓] Go.wp_at_zero Go.wp_at_succ

set_option maxHeartbeats 400000 in
theorem own_nil (n : Int) (ao : Option Addr) (cap : Nat) (w : World) :
    Calls Try.prog 4 #[.agg #[.int .i64 n, .slice ao 0 cap]] w fun e w' => e = .returned (.agg #[.int .i64 n, .slice none 0 0]) ∧ Below w.heap.size w w' := by
  go_enter Try.func4, Try.ntmps4
  go_wp2_with fail
  cases ao with
  | none =>
    go_region
    all_goals
      go_wp2
      refine bodyPost_ret (v := .agg #[.int .i64 n, .slice none 0 0]) ?_ rfl ⟨rfl, (below2 _ _).drew⟩
      simp [results, Try.results4, go_sem]
  | some a =>
    go_region
    all_goals
      go_wp2
      refine bodyPost_ret (v := .agg #[.int .i64 n, .slice none 0 0]) ?_ rfl ⟨rfl, (below2 _ _).drew⟩
      simp [results, Try.results4, go_sem]

theorem flat_one (L : List Pair) : ∀ u ∈ flat L, u.oneCell' = true := by
  intro u hu
  simp only [flat, List.mem_flatMap] at hu
  obtain ⟨e, _, he⟩ := hu
  simp at he
  rcases he with rfl | rfl <;> rfl

theorem flat_inv (L : List Pair) : ∀ j u, (flat L)[j]? = some u → ∃ k, ∃ h : k < L.length, (j = k * 2 ∧ u = .int .i64 L[k].1) ∨ (j = k * 2 + 1 ∧ u = .int .i64 L[k].2) := by
  intro j u hj
  have hl : j < (flat L).length := (List.getElem?_eq_some_iff.1 hj).1
  rw [flat_length] at hl
  have hk : j / 2 < L.length := by omega
  obtain ⟨g1, g2⟩ := flat_get L (j / 2) hk
  refine ⟨j / 2, hk, ?_⟩
  by_cases h : j % 2 = 0
  · left
    have e : j = j / 2 * 2 := by omega
    refine ⟨e, ?_⟩
    rw [← e, hj] at g1
    exact Option.some.inj g1
  · right
    have e : j = j / 2 * 2 + 1 := by omega
    refine ⟨e, ?_⟩
    rw [← e, hj] at g2
    exact Option.some.inj g2

theorem edges_news {w : World} {ad : Addr} {n cap : Nat} {es : List Pair} (hE : EdgesAt w (.slice (some ad) n cap) es) : ∀ j u, (flat es)[j]? = some u → w.cell? (ad.add j) = some u := by
  obtain ⟨ao', cap', e, _, _, hc⟩ := hE
  cases e
  intro j u hj
  obtain ⟨k, hk, ⟨rfl, rfl⟩ | ⟨rfl, rfl⟩⟩ := flat_inv es j u hj
  · obtain ⟨b, off, e, c0, _⟩ := hc k hk
    cases e
    rw [show (⟨b, off, none⟩ : Addr).add (k * 2) = ⟨b, off + k * 2, none⟩ from by unfold Addr.add; split <;> simp_all]
    exact c0
  · obtain ⟨b, off, e, _, c1⟩ := hc k hk
    cases e
    rw [show (⟨b, off, none⟩ : Addr).add (k * 2 + 1) = ⟨b, off + k * 2 + 1, none⟩ from by unfold Addr.add; split <;> simp_all [Nat.add_assoc]]
    exact c1

theorem own_kept {w w1 : World} {x y x' y' : Value} {t t' : TypeId} (hg : (((w.alloc (Obj.cells #[x, y] t)).alloc (Obj.cells #[x', y'] t')).drew).grownBy w1 none) :
    (w1.cell? ⟨w.heap.size, 0, none⟩ = some x ∧ w1.cell? ⟨w.heap.size, 1, none⟩ = some y) ∧ w1.heap[w.heap.size + 1]? = some (.cells #[x', y'] t' (0, 0)) := by
  have h0 : w1.heap[w.heap.size]? = some (.cells #[x, y] t (0, 0)) := by
    rw [hg.block _ (by show _ < ((w.alloc _).alloc _).heap.size; simp; omega) (by simp)]
    show ((w.alloc _).alloc _).heap[w.heap.size]? = _
    rw [Below.heap_alloc _ _ _ (by simp)]; exact heap_alloc_new _ _
  refine ⟨cell_two h0, ?_⟩
  rw [hg.block _ (by show _ < ((w.alloc _).alloc _).heap.size; simp) (by simp)]
  show ((w.alloc _).alloc _).heap[w.heap.size + 1]? = _
  simpa using heap_alloc_new (w.alloc (Obj.cells #[x, y] t)) (Obj.cells #[x', y'] t')

theorem below_grown {W w1 : World} (hg : W.grownBy w1 none) : Below W.heap.size W w1 := ⟨hg.os, hg.tape, hg.output, hg.size, fun k hk => hg.block k hk (by simp)⟩

set_option maxHeartbeats 1000000 in
theorem own_some (n : Int) (ad : Addr) (cap : Nat) (es : List Pair) (w : World) (hE : EdgesAt w (.slice (some ad) es.length cap) es) (hpos : 0 < es.length) :
    Calls Try.prog 4 #[.agg #[.int .i64 n, .slice (some ad) es.length cap]] w fun e w' => Below w.heap.size w w' ∧ ∃ ao c, e = .returned (.agg #[.int .i64 n, .slice ao es.length c]) ∧ EdgesAt w' (.slice ao es.length c) es ∧ es.length ≤ c := by
  obtain ⟨i0, hi, hz0, hz1, hz2⟩ := info_parts Try.info38
  have hlen : es.length ≤ 8796093022208 := by obtain ⟨_, _, _, h, _⟩ := hE; exact h
  have hI : ∀ e ∈ es, I64 e.1 ∧ I64 e.2 := by obtain ⟨_, _, _, _, h, _⟩ := hE; exact h
  have HI : Hid _ := hI
  clear hI
  go_enter Try.func4, Try.ntmps4
  go_wp2_with fail
  go_region_held3 (fun w' => w'.cell? ⟨w.heap.size, 0, none⟩ = some (.int .i64 n) ∧ w'.cell? ⟨w.heap.size, 1, none⟩ = some (.slice (some ad) es.length cap))
    (first | exact (own_kept hgrow).1 | go_keep)
    ((refine step_append_lies _ (by rfl) _ _ _ (by rfl) (w.heap.size + 2) 38 i0 _ 2 16 Try.underlying22 hi hz0 hz1 hz2 rfl (by omega) (.slice none 0 0) 0 [] (by rfl) (World.ownsRow_nil _ _ _ _) ad es.length cap (flat es) (by rfl) (flat_length es) (edges_news (hE.below (below2 _ _).drew)) (flat_one es) hpos (by unfold maxLen; omega) (by omega) (by simp) (w.heap.size + 2) (by simp) ?_; intro g c w1 hown hgrow hat hlt; have e0 := (cell_two (own_kept hgrow).2).1; have e1 := (cell_two (own_kept hgrow).2).2; have g0 := free_two (own_kept hgrow).2))
  all_goals
    go_split_ands
    go_wp2
    have hE1 := edgesAt_row (base := w.heap.size + 2) (L := es) (by simpa using hown) HI.out hlen
    have hcap : es.length ≤ c := by
      rcases hown.2 with ⟨h, _⟩ | ⟨_, _, _, h, _, _, hle, _⟩
      · cases h
      · cases h; simpa using hle
    have hgb : w.heap.size + 1 < g := by
      have := (hown.lt g rfl).1
      omega
    refine bodyPost_ret (v := .agg #[.int .i64 n, .slice (some ⟨g, 0, none⟩) es.length c]) ?_ rfl ⟨?_, some ⟨g, 0, none⟩, c, rfl, ?_, hcap⟩
    · simp [results, Try.results4, go_sem, e0, e1]
    · exact ((below_next (below2 _ _).drew (below_grown hgrow)).setCell (by simp) _).setCell (by simp) _
    · exact (hE1.setCell (fun x hx => by cases hx; simp; omega) _).setCell (fun x hx => by cases hx; simp; omega) _

theorem own_any (n : Int) (ao : Option Addr) (cap : Nat) (es : List Pair) (w : World) (hE : EdgesAt w (.slice ao es.length cap) es) :
    Calls Try.prog 4 #[.agg #[.int .i64 n, .slice ao es.length cap]] w fun e w' => Below w.heap.size w w' ∧ ∃ ao c, e = .returned (.agg #[.int .i64 n, .slice ao es.length c]) ∧ EdgesAt w' (.slice ao es.length c) es ∧ es.length ≤ c := by
  cases es with
  | nil =>
    refine (own_nil n ao cap w).mono ?_
    rintro e w' ⟨rfl, hb⟩
    exact ⟨hb, none, 0, rfl, edgesAt_nil _, Nat.le_refl _⟩
  | cons e r =>
    cases ao with
    | none =>
      obtain ⟨ao', cap', e', _, _, h⟩ := hE
      cases e'
      obtain ⟨b, off, h', _⟩ := h 0 (by simp)
      cases h'
    | some ad => exact own_some n ad cap (e :: r) w hE (by simp)

end Go.Proofs.Ytmeodnkmhakidaa
