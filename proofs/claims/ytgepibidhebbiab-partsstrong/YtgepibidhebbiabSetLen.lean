/- len of a set: it is above zero just if a number is in the set. -/
import Derived.Test.YtgepibidhebbiabStrongMath
namespace Go.Proofs.Ytgepibidhebbiab
open Go.RowKit Go.Maps

theorem SetN.len {w : World} {b N : Nat} {S : Nat → Bool} (h : SetN w b N S) (hN : N ≤ 1000000) (ty : TypeId) : ∃ z : Nat, z ≤ N ∧ (Builtin.len_ #[72] ty #[.map (some b)]).run Try.prog w = .ok (.int .i64 (z : Int)) w ∧ (0 < z ↔ ∃ k, k < N ∧ S k = true) := by
  obtain ⟨D, h1, h2⟩ := h
  refine ⟨Maps.size D, h1.size_le, h1.len Try.underlying72 ty, ?_⟩
  obtain ⟨es, hD, hko⟩ := h1.keysOf
  rw [hD, size_eq]
  constructor
  · intro hz
    obtain ⟨p, hp⟩ := List.exists_mem_of_length_pos hz
    obtain ⟨v, hv⟩ := hko p hp
    obtain ⟨x, _, hx, hw⟩ := Maps.keyOf_i64 Try.underlying3 hv
    have hb := wf_bounds hw
    have hh : Maps.has D (.int .i64 x) = true := by rw [hD, has_eq, List.any_eq_true]; exact ⟨p, hp, by rw [hx]; simp [Lit.sameKey]⟩
    rw [h2 x ⟨hb.1, hb.2⟩] at hh
    simp only [Bool.and_eq_true, decide_eq_true_eq] at hh
    exact ⟨x.toNat, by omega, hh.2⟩
  · rintro ⟨k, hk, hS⟩
    have hh : Maps.has D (.int .i64 (k : Int)) = true := by rw [h2 k (natI hN hk)]; simp [hk, hS]
    rw [hD, has_eq, List.any_eq_true] at hh
    obtain ⟨p, hp, _⟩ := hh
    exact List.length_pos_of_mem hp
end Go.Proofs.Ytgepibidhebbiab
