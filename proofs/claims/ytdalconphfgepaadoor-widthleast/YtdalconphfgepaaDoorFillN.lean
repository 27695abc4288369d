/- What R.Width fills in as it takes nodes away, and how many are near. -/
import Derived.Test.YtdalconphfgepaaDoorTabW
namespace Go.Proofs.YtdalconphfgepaaDoor
/-- A table with all pairs of a list besides. -/
def fillQ (q : Nat → Nat → Bool) (l : List Nat) (x y : Nat) : Bool := q x y || (decide (x ≠ y) && decide (x ∈ l) && decide (y ∈ l))
/-- Those behind place i that are near the node there. -/
def nlO (q : Nat → Nat → Bool) (o : Nat → Nat) (N i : Nat) : List Nat := ((List.range' (i + 1) (N - (i + 1))).filter fun j => q (o i) (o j)).map o
def fillO (p : Nat → Nat → Bool) (o : Nat → Nat) (N : Nat) : Nat → Nat → Nat → Bool
  | 0 => p
  | i + 1 => fillQ (fillO p o N i) (nlO (fillO p o N i) o N i)
section
variable {near : List Nat} {N : Nat} {o : Nat → Nat} {p : Nat → Nat → Bool}
theorem nl_mem {q : Nat → Nat → Bool} {i x : Nat} : x ∈ nlO q o N i ↔ ∃ j, i < j ∧ j < N ∧ q (o i) (o j) = true ∧ o j = x := by
  unfold nlO
  rw [List.mem_map]
  constructor
  · rintro ⟨j, hj, e⟩
    obtain ⟨h1, h2⟩ := List.mem_filter.1 hj
    obtain ⟨h3, h4⟩ := List.mem_range'_1.1 h1
    exact ⟨j, by omega, by omega, h2, e⟩
  · rintro ⟨j, h1, h2, h3, e⟩
    exact ⟨j, List.mem_filter.2 ⟨List.mem_range'_1.2 ⟨by omega, by omega⟩, h3⟩, e⟩
theorem Wy.congr {g g' v x : Nat} (h : ∀ u, g.testBit u = true ↔ g'.testBit u = true) : Wy near g v x ↔ Wy near g' v x := ⟨fun k => k.mono fun u hu => (h u).1 hu, fun k => k.mono fun u hu => (h u).2 hu⟩
theorem fillO_iff (hs : ∀ a b, (at' near a).testBit b = true → (at' near b).testBit a = true) (h : OrdO N o (goneF o)) (hp : ∀ a b, a < N → b < N → a ≠ b → (p a b = true ↔ (at' near a).testBit b = true)) : ∀ i, i ≤ N → ∀ x y, x < N → y < N → x ≠ y → (∀ j, j < i → o j ≠ x) → (∀ j, j < i → o j ≠ y) → (fillO p o N i x y = true ↔ Wy near (goneF o i) x y)
  | 0, _, x, y, hx, hy, hxy, _, _ => by
    show p x y = true ↔ _
    rw [hp x y hx hy hxy]
    constructor
    · exact fun h => .one h
    · intro h
      cases h with
      | one h => exact h
      | step _ hu _ => exact absurd hu (by simp [goneF])
  | i + 1, hi, x, y, hx, hy, hxy, hgx, hgy => by
    have ih := fillO_iff hs h hp i (by omega)
    have hoi := h.lt i (by omega)
    have hin : ∀ z, z < N → (∀ j, j < i + 1 → o j ≠ z) → (z ∈ nlO (fillO p o N i) o N i ↔ Wy near (goneF o i) (o i) z) := fun z hz hgz => by
      rw [nl_mem]
      have hzi : o i ≠ z := hgz i (by omega)
      have key := ih (o i) z hoi hz hzi (fun j hj => h.inj j i hj (by omega)) (fun j hj => hgz j (by omega))
      constructor
      · rintro ⟨j, h1, h2, h3, e⟩
        rw [e] at h3
        exact key.1 h3
      · intro hw
        obtain ⟨j, hj, e⟩ := h.onto hz
        refine ⟨j, ?_, hj, by rw [e]; exact key.2 hw, e⟩
        apply Classical.byContradiction
        intro hc
        exact hgz j (by omega) e
    show fillQ (fillO p o N i) (nlO (fillO p o N i) o N i) x y = true ↔ Wy near (sAdd (goneF o i) (o i)) x y
    rw [Wy.add_iff]
    unfold fillQ
    have e1 := ih x y hx hy hxy (fun j hj => hgx j (by omega)) (fun j hj => hgy j (by omega))
    have e2 := hin x hx hgx
    have e3 := hin y hy hgy
    simp only [Bool.or_eq_true, Bool.and_eq_true, decide_eq_true_eq]
    rw [e1, e2, e3]
    constructor
    · rintro (h1 | ⟨⟨_, h2⟩, h3⟩)
      · exact Or.inl h1
      · exact Or.inr ⟨h2.symm hs, h3⟩
    · rintro (h1 | ⟨h2, h3⟩)
      · exact Or.inl h1
      · exact Or.inr ⟨⟨hxy, h2.symm hs⟩, h3⟩
/-- As many are near as there are nodes to which it leads. -/
theorem nl_len (hn : ∀ s ∈ near, s < 2 ^ 128) (hN : N ≤ 128) (hbit : ∀ u x, (at' near u).testBit x = true → x < N) (hs : ∀ a b, (at' near a).testBit b = true → (at' near b).testBit a = true) (h : OrdO N o (goneF o)) (hp : ∀ a b, a < N → b < N → a ≠ b → (p a b = true ↔ (at' near a).testBit b = true)) {i : Nat} (hi : i < N) : (nlO (fillO p o N i) o N i).length = countS (ledO near o (goneF o) i) := by
  have hl : ledO near o (goneF o) i < 2 ^ 128 := behS_lt (near := near) (gone := goneF o i) hn (show o i < 128 by have := h.lt i hi; omega)
  have hmem : ∀ x, x ∈ nlO (fillO p o N i) o N i ↔ x ∈ elems (ledO near o (goneF o) i) := fun x => by
    rw [nl_mem, mem_elems hl]
    rw [led_bit hn hN h hi]
    constructor
    · rintro ⟨j, h1, h2, h3, e⟩
      have hne : o i ≠ o j := h.inj i j h1 h2
      refine ⟨?_, fun k hk e2 => ?_⟩
      · rw [← e]
        exact (fillO_iff hs h hp i (by omega) (o i) (o j) (h.lt i hi) (h.lt j h2) hne (fun k hk => h.inj k i hk hi) (fun k hk => h.inj k j (by omega) h2)).1 h3
      · have := h.eq (show k < N by omega) h2 (by rw [e2, e])
        omega
    · rintro ⟨hw, hg⟩
      have hx := hw.lt hbit
      obtain ⟨j, hj, e⟩ := h.onto hx
      have hij : i < j := by
        apply Classical.byContradiction
        intro hc
        exact hg j (by omega) e
      refine ⟨j, hij, hj, ?_, e⟩
      rw [e]
      exact (fillO_iff hs h hp i (by omega) (o i) x (h.lt i hi) hx (hg i (Nat.le_refl _)) (fun k hk => h.inj k i hk hi) (fun k hk => hg k (by omega))).2 hw
  have nd1 : (nlO (fillO p o N i) o N i).Nodup := by
    unfold nlO
    have hnd : ((List.range' (i + 1) (N - (i + 1))).filter fun j => fillO p o N i (o i) (o j)).Nodup := by
      unfold List.Nodup
      exact List.Pairwise.filter _ (List.Pairwise.imp (fun h => Nat.ne_of_lt h) (List.pairwise_lt_range' ..))
    unfold List.Nodup at hnd ⊢
    rw [List.pairwise_map]
    refine hnd.imp_of_mem fun {a b} ha hb hab e => ?_
    have h1 := (List.mem_range'_1.1 (List.mem_filter.1 ha).1)
    have h2 := (List.mem_range'_1.1 (List.mem_filter.1 hb).1)
    exact hab (h.eq (by omega) (by omega) e)
  have nd2 : (elems (ledO near o (goneF o) i)).Nodup := (elems_sorted _).imp fun h => by omega
  have h1 := nodup_lenW _ _ nd1 (fun x hx => (hmem x).1 hx)
  have h2 := nodup_lenW _ _ nd2 (fun x hx => (hmem x).2 hx)
  show _ = (elems _).length
  omega
end
end Go.Proofs.YtdalconphfgepaaDoor
