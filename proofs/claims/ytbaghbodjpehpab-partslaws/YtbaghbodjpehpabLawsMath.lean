/- The blocks hold each edge just once; without an edge there is at most one component more. -/
import Derived.Test.YtbaghbodjpehpabCount
namespace Go.Proofs.Ytbaghbodjpehpab

theorem filter_or {l : List Nat} {p q : Nat → Bool} (h : ∀ x ∈ l, p x = true → q x = false) : (l.filter fun x => p x || q x).length = (l.filter p).length + (l.filter q).length := by
  induction l with
  | nil => rfl
  | cons a l ih =>
    have := ih (fun x hx => h x (by simp [hx]))
    have ha := h a (by simp)
    simp only [List.filter_cons]
    cases hp : p a
    · cases hq : q a
      · simpa using this
      · simp [this]; omega
    · have hq := ha hp
      rw [hq]
      simp [this]; omega

section
variable {RK : Nat → Nat → Bool} (hr : ∀ i, RK i i = true) (hs : ∀ i j, RK i j = true → RK j i = true) (ht : ∀ i j k, RK i j = true → RK j k = true → RK i k = true)
include hs ht
theorem pieces_done (N k : Nat) : ((piecesTo N allB RK k).flatten).length = ((List.range N).filter (doneL allB RK k)).length := by
  induction k with
  | zero =>
    have : (List.range N).filter (doneL allB RK 0) = [] := List.filter_eq_nil_iff.2 (fun x _ h => by obtain ⟨u, hu, _⟩ := doneL_iff.1 h; omega)
    rw [this]; rfl
  | succ k ih =>
    rw [piecesTo_succ, List.flatten_append, List.length_append, ih]
    by_cases hf : firstB allB RK k = true
    · rw [if_pos hf]
      have e : ((List.range N).filter (doneL allB RK (k + 1))) = (List.range N).filter (fun x => doneL allB RK k x || RK k x) := List.filter_congr (fun x _ => by rw [doneL_succ]; simp [allB])
      rw [e, filter_or]
      · simp [classL]
      · intro x _ hd
        obtain ⟨u, hu, _, h3⟩ := doneL_iff.1 hd
        cases hk : RK k x
        · rfl
        · have := first_all.1 hf u hu
          rw [ht _ _ _ h3 (hs _ _ hk)] at this
          cases this
    · have hf' : firstB allB RK k = false := by simpa using hf
      rw [if_neg hf]
      have hd : doneL allB RK k k = true := by
        have := hf'
        rw [first_done] at this
        simpa [allB] using this
      have e : ((List.range N).filter (doneL allB RK (k + 1))) = (List.range N).filter (doneL allB RK k) := List.filter_congr (fun x _ => by
        rw [doneL_succ]
        cases hx : RK k x
        · simp
        · obtain ⟨u, hu, h1, h3⟩ := doneL_iff.1 hd
          have : doneL allB RK k x = true := doneL_iff.2 ⟨u, hu, h1, ht _ _ _ h3 hx⟩
          simp [this])
      rw [e]
      simp
include hr in
theorem pieces_len (N : Nat) : ((piecesS N allB RK).flatten).length = N := by
  unfold piecesS
  rw [pieces_done hs ht]
  have : (List.range N).filter (doneL allB RK N) = List.range N := List.filter_eq_self.2 (fun x hx => doneL_iff.2 ⟨x, by simpa using hx, rfl, hr x⟩)
  rw [this, List.length_range]
include hr in
omit hs in
theorem piece_has {N i : Nat} (hi : i < N) : ∃ l, l ∈ piecesS N allB RK ∧ i ∈ l := by
  obtain ⟨u, hu, h1, h2⟩ := least_ex (P := fun u => RK u i = true) (hr i)
  refine ⟨classL N RK u, ?_, ?_⟩
  · unfold piecesS piecesTo
    refine List.mem_map.2 ⟨u, List.mem_filter.2 ⟨by simp; omega, first_all.2 fun x hx => ?_⟩, rfl⟩
    cases h : RK x u
    · rfl
    · exact absurd (ht _ _ _ h h1) (h2 x hx)
  · unfold classL
    exact List.mem_filter.2 ⟨by simpa using hi, h1⟩
include hr in
/-- The blocks together: as long as the edges, and with just these. -/
theorem all_len (fes : List Pair) : ((blocksS fes RK).flatten).length = fes.length := by
  unfold blocksS
  have : ((piecesS fes.length allB RK).map (edgesL fes)).flatten = ((piecesS fes.length allB RK).flatten).map fun i => fes.getD i (0, 0) := by
    rw [List.map_flatten]; rfl
  rw [this, List.length_map, pieces_len hr hs ht]
include hr in
omit hs in
theorem all_mem (fes : List Pair) (e : Pair) : e ∈ (blocksS fes RK).flatten ↔ e ∈ fes := by
  constructor
  · intro h
    obtain ⟨l, hl, he⟩ := List.mem_flatten.1 h
    obtain ⟨q, hq⟩ := List.mem_iff_getElem?.1 hl
    obtain ⟨i, hi⟩ := (block_len hq).2 e he
    exact List.mem_of_getElem? hi
  · intro h
    obtain ⟨i, hi⟩ := List.mem_iff_getElem?.1 h
    obtain ⟨hlt, _⟩ := List.getElem?_eq_some_iff.1 hi
    obtain ⟨l, hl, hil⟩ := piece_has hr ht hlt
    refine List.mem_flatten.2 ⟨edgesL fes l, List.mem_map.2 ⟨l, hl, rfl⟩, ?_⟩
    exact List.mem_map.2 ⟨i, hil, getD_some hi⟩
end

theorem hasB_mem {xs ys : List Pair} (h : ∀ e, e ∈ xs ↔ e ∈ ys) (a b : Int) : hasB xs a b = hasB ys a b := by
  unfold hasB
  rw [Bool.eq_iff_iff, List.any_eq_true, List.any_eq_true]
  constructor
  · rintro ⟨e, he, hx⟩; exact ⟨e, (h e).1 he, hx⟩
  · rintro ⟨e, he, hx⟩; exact ⟨e, (h e).2 he, hx⟩

section
variable {n : Nat} {E : Nat → Nat → Prop}
theorem star_less {s t u v : Nat} (h : Star E u v) : Star (Less E s t) u v ∨ (Star (Less E s t) u s ∧ Star (Less E s t) t v) ∨ (Star (Less E s t) u t ∧ Star (Less E s t) s v) := by
  refine Star.ind (P := fun v => Star (Less E s t) u v ∨ (Star (Less E s t) u s ∧ Star (Less E s t) t v) ∨ (Star (Less E s t) u t ∧ Star (Less E s t) s v)) (Or.inl (.refl _)) (fun b c _ he ih => ?_) h
  by_cases h1 : b = s ∧ c = t
  · obtain ⟨rfl, rfl⟩ := h1
    rcases ih with h | ⟨h, _⟩ | ⟨h, _⟩
    · exact Or.inr (Or.inl ⟨h, .refl _⟩)
    · exact Or.inr (Or.inl ⟨h, .refl _⟩)
    · exact Or.inl h
  · by_cases h2 : b = t ∧ c = s
    · obtain ⟨rfl, rfl⟩ := h2
      rcases ih with h | ⟨h, _⟩ | ⟨h, _⟩
      · exact Or.inr (Or.inr ⟨h, .refl _⟩)
      · exact Or.inl h
      · exact Or.inr (Or.inr ⟨h, .refl _⟩)
    · have hl : Less E s t b c := ⟨he, fun h => h.elim h1 h2⟩
      rcases ih with h | ⟨h, h'⟩ | ⟨h, h'⟩
      · exact Or.inl (h.step hl)
      · exact Or.inr (Or.inl ⟨h, h'.step hl⟩)
      · exact Or.inr (Or.inr ⟨h, h'.step hl⟩)

theorem filter_one {N : Nat} {p q : Nat → Bool} (h : ∀ a b, a < N → b < N → q a = true → p a = false → q b = true → p b = false → a = b) : ((List.range N).filter q).length ≤ ((List.range N).filter p).length + 1 := by
  by_cases hx : ∃ a, a < N ∧ q a = true ∧ p a = false
  · obtain ⟨a, ha, hqa, hpa⟩ := hx
    rw [← count_or p a N ha hpa]
    refine filter_le fun x hx hq => ?_
    have hxN : x < N := by simpa using hx
    by_cases hp : p x = true
    · simp [hp]
    · have := h x a hxN ha hq (by simpa using hp) hqa hpa
      simp [this]
  · refine Nat.le_succ_of_le (filter_le fun x hx' hq => ?_)
    have hxN : x < N := by simpa using hx'
    cases hp : p x
    · exact absurd ⟨x, hxN, hq, hp⟩ hx
    · rfl

/-- Without an edge there is at most one component more. -/
theorem less_le (g : Gr n E) {s t : Nat} {R R' : Nat → Nat → Bool} (hR : ∀ v w, R v w = true ↔ Star E v w) (hR' : ∀ v w, R' v w = true ↔ Star (Less E s t) v w) :
    partsN n allB R' ≤ partsN n allB R + 1 := by
  have sy : ∀ {a b}, Star (Less E s t) a b → Star (Less E s t) b a := fun h => h.symm (less_symm g)
  have key : ∀ a, firstB allB R' a = true → firstB allB R a = false → ∃ u, u < a ∧ ((Star (Less E s t) u s ∧ Star (Less E s t) t a) ∨ (Star (Less E s t) u t ∧ Star (Less E s t) s a)) := by
    intro a h1 h2
    have : ¬ ∀ u, u < a → R u a = false := fun h => by rw [first_all.2 h] at h2; cases h2
    obtain ⟨u, hu⟩ := Classical.not_forall.1 this
    have hlt : u < a := Classical.byContradiction fun h => hu (fun h' => absurd h' h)
    have hRu : R u a = true := by
      cases h : R u a
      · exact absurd (fun _ => h) hu
      · rfl
    refine ⟨u, hlt, ?_⟩
    rcases star_less (s := s) (t := t) ((hR _ _).1 hRu) with h | h
    · have := first_all.1 h1 u hlt
      rw [(hR' _ _).2 h] at this
      cases this
    · exact h
  have no : ∀ {a u}, firstB allB R' a = true → Star (Less E s t) u a → a ≤ u := fun {a u} h1 h => by
    refine Nat.le_of_not_lt fun hlt => ?_
    have := first_all.1 h1 u hlt
    rw [(hR' _ _).2 h] at this
    cases this
  unfold partsN
  refine filter_one fun a b _ _ h1 h2 h3 h4 => ?_
  have same : Star (Less E s t) a b → a = b := fun h => Nat.le_antisymm (no h1 (sy h)) (no h3 h)
  obtain ⟨u, hu, h5⟩ := key a h1 h2
  obtain ⟨v, hv, h6⟩ := key b h3 h4
  rcases h5 with ⟨h5, h5'⟩ | ⟨h5, h5'⟩ <;> rcases h6 with ⟨h6, h6'⟩ | ⟨h6, h6'⟩
  · exact same ((sy h5').trans h6')
  · have x1 := no h3 (h5.trans h6')
    have x2 := no h1 (h6.trans h5')
    omega
  · have x1 := no h3 (h5.trans h6')
    have x2 := no h1 (h6.trans h5')
    omega
  · exact same ((sy h5').trans h6')
end
end Go.Proofs.Ytbaghbodjpehpab
