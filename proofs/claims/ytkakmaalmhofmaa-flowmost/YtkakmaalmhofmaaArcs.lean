/- A copy of arcs. -/
import Derived.Test.YtkakmaalmhofmaaMostB
import Derived.Deep.AppendLies
namespace Go.Proofs.Ytkakmaalmhofmaa
open Go.RowKit Go.Maps
attribute [local go_sem ↓] Go.wp_at_zero Go.wp_at_succ

theorem Try.info34 : (Try.prog.info? 34).map (fun i => (i.zero, i.size, i.bytes)) = some (some (.agg #[.int .i64 0, .int .i64 0, .int .i64 0]), 3, 24) := by kernel_rfl
def flat3 (L : List Arc3) : List Value := L.flatMap fun a => [Value.int .i64 a.1, Value.int .i64 a.2.1, Value.int .i64 a.2.2]
theorem flat3_length (L : List Arc3) : (flat3 L).length = L.length * 3 := by
  induction L with
  | nil => rfl
  | cons a L ih =>
    show ([Value.int .i64 a.1, Value.int .i64 a.2.1, Value.int .i64 a.2.2] ++ flat3 L).length = _
    simp [ih]; omega
theorem flat3_get (L : List Arc3) : ∀ k (h : k < L.length), (flat3 L)[k * 3]? = some (.int .i64 L[k].1) ∧ (flat3 L)[k * 3 + 1]? = some (.int .i64 L[k].2.1) ∧ (flat3 L)[k * 3 + 2]? = some (.int .i64 L[k].2.2) := by
  induction L with
  | nil => intro k h; simp at h
  | cons e L ih =>
    intro k h
    cases k with
    | zero => simp [flat3]
    | succ k =>
      have h2 := ih k (by simpa using h)
      have e1 : (k + 1) * 3 = k * 3 + 3 := by omega
      rw [e1]
      simpa [flat3] using h2
theorem flat3_one (L : List Arc3) : ∀ u ∈ flat3 L, u.oneCell' = true := by
  intro u hu
  simp only [flat3, List.mem_flatMap] at hu
  obtain ⟨e, _, he⟩ := hu
  simp at he
  rcases he with rfl | rfl | rfl <;> rfl
theorem flat3_inv (L : List Arc3) : ∀ j u, (flat3 L)[j]? = some u → ∃ k, ∃ h : k < L.length, (j = k * 3 ∧ u = .int .i64 L[k].1) ∨ (j = k * 3 + 1 ∧ u = .int .i64 L[k].2.1) ∨ (j = k * 3 + 2 ∧ u = .int .i64 L[k].2.2) := by
  intro j u hj
  have hl : j < (flat3 L).length := (List.getElem?_eq_some_iff.1 hj).1
  rw [flat3_length] at hl
  have hk : j / 3 < L.length := by omega
  obtain ⟨g1, g2, g3⟩ := flat3_get L (j / 3) hk
  refine ⟨j / 3, hk, ?_⟩
  by_cases h : j % 3 = 0
  · left
    have e : j = j / 3 * 3 := by omega
    refine ⟨e, ?_⟩
    rw [← e, hj] at g1
    exact Option.some.inj g1
  · by_cases h' : j % 3 = 1
    · right; left
      have e : j = j / 3 * 3 + 1 := by omega
      refine ⟨e, ?_⟩
      rw [← e, hj] at g2
      exact Option.some.inj g2
    · right; right
      have e : j = j / 3 * 3 + 2 := by omega
      refine ⟨e, ?_⟩
      rw [← e, hj] at g3
      exact Option.some.inj g3
theorem add_off (b off k : Nat) : (⟨b, off, none⟩ : Addr).add k = ⟨b, off + k, none⟩ := by unfold Addr.add; split <;> simp_all
theorem arcs_news {w : World} {ad : Addr} {n cap : Nat} {al : List Arc3} (hA : ArcsAt w (.slice (some ad) n cap) al) : ∀ j u, (flat3 al)[j]? = some u → w.cell? (ad.add j) = some u := by
  obtain ⟨ao', cap', e, _, _, hc⟩ := hA
  cases e
  intro j u hj
  obtain ⟨k, hk, ⟨rfl, rfl⟩ | ⟨rfl, rfl⟩ | ⟨rfl, rfl⟩⟩ := flat3_inv al j u hj
  · obtain ⟨b, off, e, c0, _⟩ := hc k hk
    cases e
    rw [add_off]
    exact c0
  · obtain ⟨b, off, e, _, c1, _⟩ := hc k hk
    cases e
    rw [add_off, show off + (k * 3 + 1) = off + k * 3 + 1 by omega]
    exact c1
  · obtain ⟨b, off, e, _, _, c2⟩ := hc k hk
    cases e
    rw [add_off, show off + (k * 3 + 2) = off + k * 3 + 2 by omega]
    exact c2
theorem arcsAt_nil (w : World) : ArcsAt w (.slice none 0 0) [] := ⟨none, 0, rfl, by simp, by simp, fun k h => absurd h (by simp)⟩
theorem arcsAt_row {w : World} {base : Nat} {v : Value} {L : List Arc3} (h : w.ownsRow base 34 3 v L.length (flat3 L)) (hI : ∀ a ∈ L, I64 a.1 ∧ I64 a.2.1 ∧ I64 a.2.2) (hl : L.length ≤ 5864062014805) : ArcsAt w v L := by
  rcases h.2 with ⟨rfl, e⟩ | ⟨g, cap, cur, rfl, _⟩
  · exact ⟨none, 0, by rw [e], hl, hI, fun k hk => by omega⟩
  · refine ⟨_, cap, rfl, hl, hI, fun k hk => ⟨g, 0, rfl, ?_, ?_, ?_⟩⟩
    · have := h.cells (g := g) rfl _ _ (flat3_get L k hk).1
      rw [add_none] at this
      simpa using this
    · have := h.cells (g := g) rfl _ _ (flat3_get L k hk).2.1
      rw [add_none] at this
      simpa using this
    · have := h.cells (g := g) rfl _ _ (flat3_get L k hk).2.2
      rw [add_none] at this
      simpa using this
theorem ArcsAt.setCell {w : World} {ao : Option Addr} {n cap : Nat} {al : List Arc3} (h : ArcsAt w (.slice ao n cap) al) {p : Addr} (hp : ∀ x, ao = some x → x.block ≠ p.block) (u : Value) : ArcsAt (w.setCell p u) (.slice ao n cap) al := by
  obtain ⟨ao', cap', e, h2, h3, h4⟩ := h
  cases e
  refine ⟨ao, cap, rfl, h2, h3, fun k hk => ?_⟩
  obtain ⟨b, off, e, c0, c1, c2⟩ := h4 k hk
  have hne : p.block ≠ b := fun e' => hp _ e e'.symm
  exact ⟨b, off, e, by rw [World.cell?_setCell_far _ _ _ _ hne]; exact c0, by rw [World.cell?_setCell_far _ _ _ _ hne]; exact c1, by rw [World.cell?_setCell_far _ _ _ _ hne]; exact c2⟩
end Go.Proofs.Ytkakmaalmhofmaa
