/- take: what can be reached is taken out, and told with how far it is. -/
import Derived.Test.YtkakmaalmhofmaaNears
import Derived.Test.YtkakmaalmhofmaaWalk0
import Derived.Maps.AppendAt
namespace Go.Proofs.Ytkakmaalmhofmaa
open Go.RowKit Go.Maps
attribute [local go_sem ↓] Go.wp_at_zero Go.wp_at_succ

theorem setN_del {w : World} {b N : Nat} {S : Nat → Bool} {D : DataW Unit} (h2 : ∀ u : Int, I64 u → Maps.has D (.int .i64 u) = (decide (0 ≤ u ∧ u < N) && S u.toNat)) {u : Nat} (hown : w.ownsMap Try.prog 3 unitElem b N (D.del (.int .i64 (u : Int)))) : SetN w b N (fun k => S k && k != u) := by
  refine ⟨_, hown, fun x hx => ?_⟩
  by_cases e : x = u
  · subst e
    rw [has_del_same]
    simp
  · rw [has_del_other (by simpa using e), h2 x hx]
    by_cases hb : 0 ≤ x ∧ x < N
    · have : (x.toNat != u) = true := by simp; omega
      simp [this]
    · simp [hb]

theorem Turns.after {M : Nat → Prop} {b : Nat} {w wr wr' : World} (h : Turns (fun k => k = b) w wr) (h2 : Turns M wr wr') (hm : ∀ k, M k → k = b ∨ w.heap.size ≤ k) : Turns (fun k => k = b) w wr' :=
  ⟨h2.os.trans h.os, h2.tape.trans h.tape, h2.output.trans h.output, Nat.le_trans h.size h2.size, fun i hi hn => (h2.block i (Nat.lt_of_lt_of_le hi h.size) (fun hm' => by rcases hm i hm' with e | e; exact hn e; omega)).trans (h.block i hi hn)⟩

theorem ownsRow_blocks {w w' : World} {base : Nat} {t : TypeId} {sz : Nat} {v : Value} {n : Nat} {xs : List Value} (h : w.ownsRow base t sz v n xs) (hb : ∀ b, v.ownBlock = some b → w'.heap[b]? = w.heap[b]?) : w'.ownsRow base t sz v n xs := by
  refine ⟨h.1, ?_⟩
  rcases h.2 with h2 | ⟨g, cap, cur, h1, h2, h3, h4⟩
  · exact Or.inl h2
  · exact Or.inr ⟨g, cap, cur, h1, h2, by rw [hb g (by rw [h1]; rfl)]; exact h3, h4⟩

def qv (Q : List Nat) : List Value := Q.map fun (x : Nat) => Value.int .i64 (x : Int)
theorem own_cells {w : World} {base : Nat} {t : TypeId} {sz : Nat} {v : Value} {n : Nat} {xs : List Value} (h : w.ownsRow base t sz v n xs) {g : Nat} (hv : v.ownBlock = some g) : ∃ cur, w.heap[g]? = some (.cells cur t (0, 0)) := by
  rcases h.2 with ⟨rfl, _⟩ | ⟨g', cap, cur, rfl, _, h3, _⟩
  · cases hv
  · cases hv; exact ⟨cur, h3⟩

theorem ownsRow_one (w : World) (base : Nat) (x : Value) (t : TypeId) (hb : base ≤ w.heap.size) : (w.alloc (Obj.cells #[x] t)).ownsRow base t 1 (.slice (some ⟨w.heap.size, 0, none⟩) 1 1) 1 [x] :=
  ⟨rfl, Or.inr ⟨w.heap.size, 1, #[x], rfl, hb, heap_alloc_new _ _, Nat.le_refl _, by unfold maxLen; omega, rfl, rfl⟩⟩

theorem qcell {w : World} {base : Nat} {ao : Option Addr} {cap : Nat} {Q : List Nat} (h : w.ownsRow base 3 1 (.slice ao Q.length cap) Q.length (qv Q)) {k u : Nat} (hu : Q[k]? = some u) : ∃ g, ao = some ⟨g, 0, none⟩ ∧ w.cell? ⟨g, k, none⟩ = some (.int .i64 (u : Int)) := by
  have hk := (List.getElem?_eq_some_iff.1 hu).1
  rcases h.2 with ⟨_, e⟩ | ⟨g, c, cur, e, _⟩
  · omega
  · cases e
    refine ⟨g, rfl, ?_⟩
    have := h.cells (g := g) rfl k (.int .i64 (u : Int)) (by simp [qv, hu])
    rw [add_none] at this
    exact this

end Go.Proofs.Ytkakmaalmhofmaa
