/- Lists of names without a fault: orders of the numbers below n. -/
import Derived.Test.YtmbnaegcichoeaaLikes
import Derived.Test.YtmbnaegcichoeaaGaleM
import Derived.Test.YtmbnaegcichoeaaTable
namespace Go.Proofs.Ytmbnaegcichoeaa

/-- The list names each number below n once. -/
structure Nam (n : Nat) (l : List Int) : Prop where
  len : l.length = n
  rng : ∀ k, k < n → 0 ≤ l.getD k 0 ∧ l.getD k 0 < n
  inj : ∀ i j, i < n → j < n → l.getD i 0 = l.getD j 0 → i = j
theorem nmFrom_good {n : Nat} {l : List Int} : ∀ (m k : Nat), k + m = l.length → nmFrom n l k (l.drop k) = 0 → ∀ j, k ≤ j → j < l.length → (0 ≤ l.getD j 0 ∧ l.getD j 0 < n) ∧ ∀ i, i < j → l.getD i 0 ≠ l.getD j 0
  | 0, k, hk, _ => fun j h1 h2 => by omega
  | m + 1, k, hk, h => fun j h1 h2 => by
    have hkl : k < l.length := by omega
    rw [nmFrom_drop hkl] at h
    by_cases c1 : l[k] < 0 ∨ (n : Int) ≤ l[k]
    · rw [if_pos c1] at h; omega
    · rw [if_neg c1] at h
      by_cases c2 : l[k] ∈ l.take k
      · rw [if_pos c2] at h; omega
      · rw [if_neg c2] at h
        by_cases e : j = k
        · subst e
          have hg : l.getD j 0 = l[j] := getD_lt hkl
          rw [hg]
          refine ⟨by omega, fun i hi e => c2 ?_⟩
          rw [mem_take_iff (by omega)]
          exact ⟨i, hi, e⟩
        · exact nmFrom_good m (k + 1) (by omega) h j (by omega) h2
theorem nam_of {n : Nat} {l : List Int} (h : badNames n l = 0) : Nam n l := by
  unfold badNames at h
  by_cases hl : l.length ≠ n
  · rw [if_pos hl] at h; omega
  · rw [if_neg hl] at h
    have hl' : l.length = n := by omega
    have hg := nmFrom_good (n := n) (l := l) l.length 0 (by omega) (by simpa using h)
    refine ⟨hl', fun k hk => (hg k (by omega) (by omega)).1, fun i j hi hj e => ?_⟩
    rcases Nat.lt_trichotomy i j with h1 | h1 | h1
    · exact absurd e ((hg j (by omega) (by omega)).2 i h1)
    · exact h1
    · exact absurd e.symm ((hg i (by omega) (by omega)).2 j h1)
theorem likeFrom_good {n : Nat} : ∀ (ls : List (List Int)) (k : Nat), (likeFrom n k ls).1 = 0 → likeFrom n k ls = (0, 0) ∧ ∀ l ∈ ls, Nam n l
  | [], _, _ => ⟨rfl, fun _ h => by cases h⟩
  | l :: ls, k, h => by
    unfold likeFrom at h ⊢
    by_cases hb : badNames n l = 0
    · rw [if_pos hb] at h ⊢
      obtain ⟨h1, h2⟩ := likeFrom_good ls (k + 1) h
      refine ⟨h1, fun m hm => ?_⟩
      rcases List.mem_cons.1 hm with rfl | hm
      · exact nam_of hb
      · exact h2 m hm
    · rw [if_neg hb] at h
      exact absurd h hb
theorem likeF_good {la lb : List (List Int)} (h : (likeF la lb).1 = 0) : likeF la lb = (0, 0) ∧ la.length ≤ 100 ∧ lb.length = la.length ∧ (∀ l ∈ la, Nam la.length l) ∧ ∀ l ∈ lb, Nam la.length l := by
  unfold likeF at h ⊢
  by_cases h1 : 100 < la.length
  · rw [if_pos h1] at h; simp at h
  · rw [if_neg h1] at h ⊢
    by_cases h2 : lb.length ≠ la.length
    · rw [if_pos h2] at h; simp at h
    · rw [if_neg h2] at h ⊢
      obtain ⟨h3, h4⟩ := likeFrom_good _ _ h
      exact ⟨h3, by omega, by omega, fun l hl => h4 l (List.mem_append_left _ hl), fun l hl => h4 l (List.mem_append_right _ hl)⟩
/-- Each number below n stands somewhere. -/
theorem Nam.onto {n : Nat} {l : List Int} (h : Nam n l) {x : Nat} (hx : x < n) : ∃ k, k < n ∧ l.getD k 0 = (x : Int) := by
  apply Classical.byContradiction
  intro hno
  have h2 := nodup_le (x :: (List.range n).map (fun k => (l.getD k 0).toNat)) n (by
    rw [List.nodup_cons]
    refine ⟨fun hmem => ?_, ?_⟩
    · obtain ⟨k, hk, e2⟩ := List.mem_map.1 hmem
      have hk' : k < n := by simpa using hk
      have := h.rng k hk'
      exact hno ⟨k, hk', by omega⟩
    · rw [List.Nodup, List.pairwise_map]
      refine List.Pairwise.imp_of_mem (fun {a b} ha hb hab e => ?_) List.nodup_range
      have ha' : a < n := by simpa using ha
      have hb' : b < n := by simpa using hb
      have := h.rng a ha'
      have := h.rng b hb'
      exact hab (h.inj a b ha' hb' (by omega))) (fun a ha => by
    rcases List.mem_cons.1 ha with rfl | ha
    · exact hx
    · obtain ⟨k, hk, rfl⟩ := List.mem_map.1 ha
      have := h.rng k (by simpa using hk)
      omega)
  rw [List.length_cons, List.length_map, List.length_range] at h2
  omega
/-- At which place each stands, as it is written down list by list. -/
def fillF (l : List Int) : Nat → Nat → Int
  | 0 => fun _ => 0
  | m + 1 => fun x => if (x : Int) = l.getD m 0 then (m : Int) else fillF l m x
theorem fillF_at {n : Nat} {l : List Int} (h : Nam n l) : ∀ (m k x : Nat), m ≤ n → k < m → l.getD k 0 = (x : Int) → fillF l m x = (k : Int)
  | 0, k, x, _, hk, _ => by omega
  | m + 1, k, x, hm, hk, e => by
    unfold fillF
    by_cases h1 : (x : Int) = l.getD m 0
    · rw [if_pos h1]
      have := h.inj k m (by omega) (by omega) (by omega)
      omega
    · rw [if_neg h1]
      refine fillF_at h m k x (by omega) ?_ e
      have : k ≠ m := fun e' => h1 (by rw [← e', e])
      omega
/-- The lists a: whom x names at place k. -/
def nameA (la : List (List Int)) (x k : Nat) : Nat := (cellL la x k).toNat
/-- The lists b: at which place j names x. -/
def placeB (lb : List (List Int)) (j x : Nat) : Nat := (fillF (lb.getD j []) lb.length x).toNat
theorem lst_of {n : Nat} {la lb : List (List Int)} (hA : la.length = n) (hB : lb.length = n) (ha : ∀ l ∈ la, Nam n l) (hb : ∀ l ∈ lb, Nam n l) : Lst n (nameA la) (placeB lb) where
  lt := fun x k hx hk => by
    have := (ha la[x] (List.getElem_mem (by omega))).rng k hk
    have e : cellL la x k = (la[x]).getD k 0 := by unfold cellL; rw [getD_lt (l := la) (by omega)]
    unfold nameA
    rw [e]; omega
  inj := fun x k k' hx hk hk' e => by
    have hn := ha la[x] (List.getElem_mem (by omega))
    have e1 : ∀ k, cellL la x k = (la[x]).getD k 0 := fun k => by unfold cellL; rw [getD_lt (l := la) (by omega)]
    unfold nameA at e
    rw [e1, e1] at e
    have := hn.rng k hk
    have := hn.rng k' hk'
    exact hn.inj k k' hk hk' (by omega)
  pinj := fun j x y hj hx hy e => by
    have hn := hb lb[j] (List.getElem_mem (by omega))
    have e1 : lb.getD j [] = lb[j] := getD_lt (by omega)
    obtain ⟨k, hk, ek⟩ := hn.onto hx
    obtain ⟨k', hk', ek'⟩ := hn.onto hy
    unfold placeB at e
    rw [hB, e1, fillF_at hn n k x (Nat.le_refl _) hk ek, fillF_at hn n k' y (Nat.le_refl _) hk' ek'] at e
    have : k = k' := by omega
    subst this
    omega
theorem cellA {n : Nat} {la : List (List Int)} (hA : la.length = n) (ha : ∀ l ∈ la, Nam n l) {x k : Nat} (hx : x < n) (hk : k < n) : cellL la x k = (nameA la x k : Int) := by
  have := (ha la[x] (List.getElem_mem (by omega))).rng k hk
  have e : cellL la x k = (la[x]).getD k 0 := by unfold cellL; rw [getD_lt (l := la) (by omega)]
  unfold nameA
  rw [e]; omega
theorem placeB_at {n : Nat} {lb : List (List Int)} (hB : lb.length = n) (hb : ∀ l ∈ lb, Nam n l) {j k x : Nat} (hj : j < n) (hk : k < n) (e : cellL lb j k = (x : Int)) : placeB lb j x = k := by
  have hn := hb lb[j] (List.getElem_mem (by omega))
  have e1 : lb.getD j [] = lb[j] := getD_lt (by omega)
  have e2 : (lb[j]).getD k 0 = (x : Int) := by rw [← e]; unfold cellL; rw [e1]
  unfold placeB
  rw [hB, e1, fillF_at hn n k x (Nat.le_refl _) hk e2]
  omega
theorem placeB_fill {n : Nat} {lb : List (List Int)} (hB : lb.length = n) (hb : ∀ l ∈ lb, Nam n l) {j x : Nat} (hj : j < n) (hx : x < n) : fillF (lb.getD j []) n x = (placeB lb j x : Int) ∧ placeB lb j x < n := by
  have hn := hb lb[j] (List.getElem_mem (by omega))
  have e1 : lb.getD j [] = lb[j] := getD_lt (by omega)
  obtain ⟨k, hk, ek⟩ := hn.onto hx
  have := fillF_at hn n k x (Nat.le_refl _) hk ek
  unfold placeB
  rw [hB, e1, this]
  omega
end Go.Proofs.Ytmbnaegcichoeaa
