/- Where the peeling ends, there is a ring without a chord. -/
import Derived.Test.YtkkfjfphmlcieaaGreatPeelW
import Derived.Test.YtkkfjfphmlcieaaGreatFindW
namespace Go.Proofs.YtkkfjfphmlcieaaGreat
theorem peel_hole {N : Nat} {adj : Nat → Nat → Bool} (hs : ∀ x y, adj x y = adj y x) {O L : List Nat} (hp : PeelI N adj O L) (hl : ∀ x ∈ L, clqB N (offV adj O) (offV adj O x) = false) (hlt : O.length < N) (hno : ∀ v a, v < N → a < N → offV adj O v a = true → NoW N (offV adj O) v a) : False := by
  have hsym : ∀ a b, offV adj O a b = true → offV adj O b a = true := fun a b h => by rw [offV_sym hs]; exact h
  obtain ⟨z, hz, hzO⟩ : ∃ z, z < N ∧ z ∉ O := by
    apply Classical.byContradiction
    intro hn
    have := nat_nodup_len (List.range N) O List.nodup_range (fun x hx => Classical.byContradiction fun h => hn ⟨x, List.mem_range.1 hx, h⟩)
    simp at this
    omega
  obtain ⟨s, ⟨hsN, hsO⟩, hsimp⟩ := dirac (N := N) (e := fun a b => offV adj O a b = true) hsym _ (fun x => x < N ∧ x ∉ O) rfl (fun x h => h.1) ⟨z, hz, hzO⟩ (fun v a u x y hv ha hu hva hvu hau hnau hxa hxy hyu => by
    obtain ⟨Q, bk, hB⟩ := hno v a hv.1 ha.1 hva
    have hop : ∀ c, (c < N ∧ c ∉ O) ∧ c ≠ v ∧ ¬ offV adj O v c = true → (c != v && !offV adj O v c) = true := fun c hc => by
      have h1 : offV adj O v c = false := by simpa using hc.2.2
      simp [hc.2.1, h1]
    have hls : (offV adj O v u && !offV adj O a u) = true := by
      have h1 : offV adj O a u = false := by simpa using hnau
      simp [hvu, h1]
    exact hB.none (hsym _ _ hxa) (hxy.mono (fun c hc => ⟨hc.1.1, hop c hc⟩)) hyu hu.1 (fun e => hau e.symm) hls)
  have hsL := (hp.left s hsN).2 hsO
  have := hl s hsL
  rw [clqB_true.2 (fun u v hu hv h1 h2 hne => hsimp u v ⟨hu, (offV_true.1 h1).2.2⟩ ⟨hv, (offV_true.1 h2).2.2⟩ h1 h2 hne)] at this
  cases this
theorem IsHole.off {N : Nat} {adj : Nat → Nat → Bool} {O h : List Nat} (hh : IsHole N (offV adj O) h) : IsHole N adj h := by
  have hout : ∀ i, i < h.length → h.getD i 0 ∉ O := fun i hi => by
    by_cases e : i + 1 < h.length
    · exact (offV_true.1 (hh.next i e)).2.1
    · have : i = h.length - 1 := by omega
      rw [this]; exact (offV_true.1 hh.last).2.1
  refine ⟨hh.len, hh.lt, hh.ne, fun i hi => (offV_true.1 (hh.next i hi)).1, (offV_true.1 hh.last).1, fun i j hij hj hn => ?_⟩
  have := hh.no i j hij hj hn
  cases hc : adj (h.getD i 0) (h.getD j 0) with
  | false => rfl
  | true => rw [offV_true.2 ⟨hc, hout i (by omega), hout j hj⟩] at this; cases this
/-- An order: all nodes, so that of each one those behind it that are near it are a clique. -/
structure IsOrd (N : Nat) (adj : Nat → Nat → Bool) (O : List Nat) : Prop where
  len : O.length = N
  lt : ∀ x ∈ O, x < N
  nd : O.Nodup
  ok : ∀ i j k, i < k → k < j → j < N → adj (O.getD i 0) (O.getD j 0) = true → adj (O.getD i 0) (O.getD k 0) = true → adj (O.getD j 0) (O.getD k 0) = true
theorem PeelI.ord {N : Nat} {adj : Nat → Nat → Bool} {O L : List Nat} (hp : PeelI N adj O L) (hl : O.length = N) : IsOrd N adj O := by
  refine ⟨hl, hp.lt, hp.nd, fun i j k hik hkj hj h1 h2 => ?_⟩
  have hout : ∀ t, i < t → t < N → O.getD t 0 ∉ O.take (i + 1) := fun t ht htN hm => by
    obtain ⟨s, hs, e⟩ := List.getElem_of_mem hm
    have hs' : s < i + 1 := by rw [List.length_take] at hs; omega
    rw [List.getElem_take] at e
    have e' : O.getD s 0 = O.getD t 0 := by
      rw [← e]; simp [List.getD, List.getElem?_eq_getElem (show s < O.length by omega)]
    have := getD_injC hp.nd (by omega) (by omega) e'
    omega
  refine hp.ok i (by omega) _ _ (hp.lt _ (getD_memC (by omega))) (hp.lt _ (getD_memC (by omega))) (hout j (by omega) hj) (hout k hik (by omega)) h1 h2 (fun e => ?_)
  have := getD_injC hp.nd (by omega) (by omega) e
  omega
end Go.Proofs.YtkkfjfphmlcieaaGreat
