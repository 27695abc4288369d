/- rising: the keys of a map in their order. -/
import Derived.Test.YtkbgcbbloogdjacKeys
import Derived.Test.YtkbgcbbloogdjacTake
namespace Go.Proofs.Ytkbgcbbloogdjac
open Go.RowKit Go.Maps Go.Sort Go.Shelf

/-- The numbers below N that S tells, as a list, rising. -/
def listN (N : Nat) (S : Nat → Bool) : List Nat := (List.range N).filter S

theorem listN_sorted {H : Type} {w : World} {R : Value → Option (DataW H × List MemPlace)} {b n N : Nat} {D : DataW H} {S : Nat → Bool} (h : w.ownsMap Try.prog 3 R b n D) (hk : ∀ u : Int, I64 u → Maps.has D (.int .i64 u) = (decide (0 ≤ u ∧ u < N) && S u.toNat)) (hN : N ≤ 1000000) {ss : List Int} (hp : ss.Perm (intKeys D)) :
    ss.mergeSort (fun x y => decide (x ≤ y)) = (listN N S).map fun (k : Nat) => (k : Int) := by
  obtain ⟨es, hD, hpw, _⟩ := h.entries Try.lawI
  obtain ⟨es', hD', hko⟩ := h.keysOf
  obtain rfl : es = es' := by rw [hD] at hD'; simpa using hD'
  subst hD
  have hmem : ∀ x : Int, x ∈ (listN N S).map (fun (k : Nat) => (k : Int)) ↔ Maps.has (.map es) (.int .i64 x) = true := by
    intro x
    constructor
    · intro hx
      obtain ⟨k, hk', rfl⟩ := List.mem_map.1 hx
      simp [listN] at hk'
      rw [hk k (natI hN hk'.1)]
      simp [hk'.1, hk'.2]
    · intro hx
      have hx' := hx
      rw [has_eq, List.any_eq_true] at hx'
      obtain ⟨p, hp', hs⟩ := hx'
      obtain ⟨v, hv⟩ := hko p hp'
      obtain ⟨y, _, hy, hw⟩ := Maps.keyOf_i64 Try.underlying3 hv
      rw [hy] at hs
      have : y = x := by simpa [Lit.sameKey] using hs
      subst this
      rw [hk y ⟨(wf_bounds hw).1, (wf_bounds hw).2⟩] at hx
      simp at hx
      exact List.mem_map.2 ⟨y.toNat, by simp [listN]; exact ⟨by omega, hx.2⟩, by omega⟩
  have hnd : ((listN N S).map (fun (k : Nat) => (k : Int))).Nodup := by
    rw [List.Nodup, List.pairwise_map]
    exact (List.nodup_range.filter _).imp (fun {a b} h e => h (by omega))
  have hperm := perm_intKeys hpw (fun p hp => by obtain ⟨v, hv⟩ := hko p hp; obtain ⟨x, _, hx, _⟩ := Maps.keyOf_i64 Try.underlying3 hv; exact ⟨x, hx⟩) hnd hmem
  have e := mergeSort_of_perm_i (hp.trans hperm.symm)
  refine e.trans (List.mergeSort_of_pairwise ?_)
  rw [List.pairwise_map]
  refine List.Pairwise.imp (R := fun a b => a < b) (fun {a b} h => by simp; omega) ?_
  exact List.Pairwise.filter _ List.pairwise_lt_range

end Go.Proofs.Ytkbgcbbloogdjac
