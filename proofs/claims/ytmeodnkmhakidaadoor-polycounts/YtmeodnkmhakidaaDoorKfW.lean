/- How many components there are, by ways and by nodes that stand for their component. -/
import Derived.Test.YtmeodnkmhakidaaDoorFromW
import Derived.Test.YtmeodnkmhakidaaDoorRiseM
namespace Go.Proofs.YtmeodnkmhakidaaDoor
set_option maxRecDepth 8000
open Go.RowKit Go.Maps
theorem hasB_pz {es : List E2} {a b : Nat} : hasB (pzT es) (a : Int) (b : Int) = true ↔ ((a, b) ∈ es ∨ (b, a) ∈ es) := by
  unfold hasB pzT
  rw [List.any_map, List.any_eq_true]
  constructor
  · rintro ⟨e, he, h⟩
    simp only [Function.comp, Bool.or_eq_true, Bool.and_eq_true, beq_iff_eq] at h
    rcases h with ⟨h1, h2⟩ | ⟨h1, h2⟩
    · refine Or.inl ?_
      have : e = (a, b) := Prod.ext (by omega) (by omega)
      rw [← this]; exact he
    · refine Or.inr ?_
      have : e = (b, a) := Prod.ext (by omega) (by omega)
      rw [← this]; exact he
  · rintro (h | h)
    · exact ⟨_, h, by simp⟩
    · exact ⟨_, h, by simp⟩
theorem star_cn {N : Nat} {es : List E2} (hes : ∀ e ∈ es, e.1 < N ∧ e.2 < N) {p : Nat → Nat → Bool} {L : Nat → Bool} (hL : ∀ x, L x = true) (hp : ∀ a b, p a b = hasB (pzT es) (a : Int) (b : Int)) (u v : Nat) : Star (St N p L) u v ↔ Cn es u v := by
  constructor
  · intro h
    refine Star.ind (P := fun v => Cn es u v) (.refl u) (fun b c _ hs ih => ?_) h
    obtain ⟨_, h2, _⟩ := hs
    rw [hp] at h2
    exact ih.step (hasB_pz.1 h2)
  · intro h
    induction h with
    | refl => exact .refl _
    | @step b c _ hbc ih =>
      refine ih.step ⟨?_, by rw [hp]; exact hasB_pz.2 hbc, hL _⟩
      rcases hbc with h | h
      · exact (hes _ h).2
      · exact (hes _ h).1
/-- However components are counted, there are so many. -/
theorem first_kf {N : Nat} {es : List E2} (hes : ∀ e ∈ es, e.1 < N ∧ e.2 < N) {p : Nat → Nat → Bool} {L : Nat → Bool} (hL : ∀ x, L x = true) (hp : ∀ a b, p a b = hasB (pzT es) (a : Int) (b : Int)) {R : Nat → Nat → Bool} (hR : ∀ v x, R v x = true ↔ Star (St N p L) v x) : ((List.range N).filter (firstB L R)).length = kf N es := by
  obtain ⟨up, k, h⟩ := kf_is hes
  rw [h.cnt, rts_fr h.rt]
  refine filter_len_congr fun v hv => ?_
  rw [List.mem_range] at hv
  rw [Bool.eq_iff_iff, firstB_iff, List.all_eq_true]
  constructor
  · rintro ⟨_, h1⟩ u hu
    rw [List.mem_range] at hu
    have := h1 u hu (hL u)
    simp only [bne_iff_ne, ne_eq]
    intro e
    rw [h.tl u v (by omega) hv, ← star_cn hes hL hp, ← hR] at e
    rw [e] at this
    cases this
  · intro h1
    refine ⟨hL v, fun u hu _ => ?_⟩
    have := h1 u (List.mem_range.2 hu)
    simp only [bne_iff_ne, ne_eq] at this
    rw [h.tl u v (by omega) hv, ← star_cn hes hL hp, ← hR] at this
    simpa using this
theorem pieces_kf {N : Nat} {es : List E2} (hes : ∀ e ∈ es, e.1 < N ∧ e.2 < N) {R : Nat → Nat → Bool} (hR : ∀ v x, R v x = true ↔ Star (St N (bothB (pzT es)) allB) v x) : (piecesS N allB R).length = kf N es := by
  unfold piecesS piecesTo
  rw [List.length_map]
  exact first_kf hes (fun _ => rfl) (fun _ _ => rfl) hR
end Go.Proofs.YtmeodnkmhakidaaDoor
