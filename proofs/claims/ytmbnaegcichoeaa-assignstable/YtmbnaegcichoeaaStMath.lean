/- A stable answer in the words of places. -/
import Derived.Test.YtmbnaegcichoeaaOrders
namespace Go.Proofs.Ytmbnaegcichoeaa
open Go.RowKit Go.Maps

section
variable {n : Nat} {la lb : List (List Int)}
theorem place_name (hla : la.length = n) (ha : ∀ l ∈ la, Nam n l) {i k : Nat} (hi : i < n) (hk : k < n) : placeB la i (nameA la i k) = k :=
  placeB_at hla ha hi hk (cellA hla ha hi hk)
theorem name_place (hla : la.length = n) (ha : ∀ l ∈ la, Nam n l) {i j : Nat} (hi : i < n) (hj : j < n) : placeB la i j < n ∧ nameA la i (placeB la i j) = j := by
  have hN := ha la[i] (List.getElem_mem (by omega))
  obtain ⟨k, hk, ek⟩ := hN.onto hj
  have e1 : cellL la i k = (j : Int) := by unfold cellL; rw [getD_lt (l := la) (by omega)]; exact ek
  have e2 := placeB_at hla ha hi hk e1
  rw [e2]
  refine ⟨hk, ?_⟩
  have := cellA hla ha hi hk
  omega
theorem stm_of {M K : Nat → Nat} (hla : la.length = n) (ha : ∀ l ∈ la, Nam n l) (h : Stb n (nameA la) (placeB lb) M K) : StM n (placeB la) (placeB lb) M := fun i j y hi hj hy e hq => by
  obtain ⟨h1, h2⟩ := name_place hla ha hi hj
  obtain ⟨k1, k2⟩ := h.at' i hi
  have : placeB la i (M i) = K i := by rw [← k2]; exact place_name hla ha hi k1
  have := h.stable i (placeB la i j) y hi (by omega) hy (by rw [h2]; exact e)
  rw [h2] at this
  exact this
theorem stb_of {M : Nat → Nat} (hla : la.length = n) (ha : ∀ l ∈ la, Nam n l) (hM : ∀ i, i < n → M i < n) (hi : ∀ i j, i < n → j < n → M i = M j → i = j) (h : StM n (placeB la) (placeB lb) M) : Stb n (nameA la) (placeB lb) M (fun i => placeB la i (M i)) where
  at' := fun x hx => name_place hla ha hx (hM x hx)
  inj := hi
  stable := fun x k y hx hk hy e => by
    have h1 := (name_place hla ha hx (hM x hx)).1
    have hkn : k < n := by have hk' : k < placeB la x (M x) := hk; omega
    have h2 := place_name hla ha hx hkn
    have h3 : nameA la x k < n := by
      have := (ha la[x] (List.getElem_mem (by omega))).rng k hkn
      have e' := cellA hla ha hx hkn
      have e2 : cellL la x k = (la[x]).getD k 0 := by unfold cellL; rw [getD_lt (l := la) (by omega)]
      omega
    exact h x (nameA la x k) y hx h3 hy e (by rw [h2]; exact hk)
theorem best_of {has : Nat → Int} {ask : Nat → Nat} (hla : la.length = n) (hlb : lb.length = n) (ha : ∀ l ∈ la, Nam n l) (hb : ∀ l ∈ lb, Nam n l) (hg : Gs n n n (nameA la) (placeB lb) has ask) (ho : Opt n (nameA la) (placeB lb) has ask) :
    ∀ M, (∀ i, i < n → M i < n) → (∀ i j, i < n → j < n → M i = M j → i = j) → StM n (placeB la) (placeB lb) M → ∀ i, i < n → placeB la i (nameA la i (ask i - 1)) ≤ placeB la i (M i) := fun M hM hi hs i hin => by
  have h1 := ho.best hg (lst_of hla hlb ha hb) (stb_of hla ha hM hi hs) hin
  have h2 := (hg.stable.at' i hin).1
  rw [place_name hla ha hin h2]
  exact h1
end
theorem list_perm {n : Nat} {L : List Nat} (hl : L.length = n) (hn : L.Nodup) (hlt : ∀ x ∈ L, x < n) : (∀ i, i < n → L.getD i 0 < n) ∧ ∀ i j, i < n → j < n → L.getD i 0 = L.getD j 0 → i = j := by
  refine ⟨fun i hi => ?_, fun i j hi hj e => ?_⟩
  · rw [getD_lt (by omega)]; exact hlt _ (List.getElem_mem _)
  · rw [getD_lt (by omega), getD_lt (by omega)] at e
    rw [List.Nodup, List.pairwise_iff_getElem] at hn
    rcases Nat.lt_trichotomy i j with h | h | h
    · exact absurd e (hn i j (by omega) (by omega) h)
    · exact h
    · exact absurd e.symm (hn j i (by omega) (by omega) h)
end Go.Proofs.Ytmbnaegcichoeaa
