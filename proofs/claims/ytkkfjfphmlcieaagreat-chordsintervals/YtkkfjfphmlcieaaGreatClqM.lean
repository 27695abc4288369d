/- All cliques that are part of no other one: what the search with a pivot comes to. -/
import Derived.Test.YtkkfjfphmlcieaaGreatRows
namespace Go.Proofs.YtkkfjfphmlcieaaGreat
/-- The numbers below N that K tells, rising. -/
def lsN (N : Nat) (K : Nat → Bool) : List Nat := (List.range N).filter K
theorem lsN_mem {N : Nat} {K : Nat → Bool} {x : Nat} : x ∈ lsN N K ↔ x < N ∧ K x = true := by simp [lsN]
theorem lsN_inj {N : Nat} {K K' : Nat → Bool} (h : lsN N K = lsN N K') : ∀ x, x < N → K x = K' x := fun x hx => by
  rw [Bool.eq_iff_iff]
  constructor
  · intro hk
    have : x ∈ lsN N K := lsN_mem.2 ⟨hx, hk⟩
    rw [h] at this
    exact (lsN_mem.1 this).2
  · intro hk
    have : x ∈ lsN N K' := lsN_mem.2 ⟨hx, hk⟩
    rw [← h] at this
    exact (lsN_mem.1 this).2
theorem lsN_congr {N : Nat} {K K' : Nat → Bool} (h : ∀ x, x < N → K x = K' x) : lsN N K = lsN N K' := List.filter_congr fun x hx => h x (List.mem_range.1 hx)
section
variable {N : Nat} {adj : Nat → Nat → Bool}
/-- K is a clique that is part of no other one. -/
structure MaxC (N : Nat) (adj : Nat → Nat → Bool) (K : Nat → Bool) : Prop where
  clq : ∀ x y, x < N → y < N → K x = true → K y = true → x ≠ y → adj x y = true
  top : ∀ z, z < N → K z = false → ∃ x, x < N ∧ K x = true ∧ adj z x = false
theorem MaxC.congr {K K' : Nat → Bool} (h : MaxC N adj K) (he : ∀ x, x < N → K x = K' x) : MaxC N adj K' :=
  ⟨fun x y hx hy h1 h2 hn => h.clq x y hx hy (by rw [he x hx]; exact h1) (by rw [he y hy]; exact h2) hn, fun z hz hk => by
    obtain ⟨x, h1, h2, h3⟩ := h.top z hz (by rw [he z hz]; exact hk)
    exact ⟨x, h1, by rw [← he x h1]; exact h2, h3⟩⟩
/-- L has, each once, the lists of just those K that f tells. -/
def Lsts (N : Nat) (L : List (List Nat)) (f : (Nat → Bool) → Prop) : Prop := L.Nodup ∧ ∀ l, l ∈ L ↔ ∃ K, f K ∧ l = lsN N K
theorem Lsts.nil {f : (Nat → Bool) → Prop} (h : ∀ K, ¬ f K) : Lsts N [] f := ⟨List.nodup_nil, fun l => ⟨fun h => by simp at h, fun ⟨K, hK, _⟩ => absurd hK (h K)⟩⟩
theorem Lsts.congr {L : List (List Nat)} {f g : (Nat → Bool) → Prop} (h : Lsts N L f) (he : ∀ K, f K ↔ g K) : Lsts N L g := ⟨h.1, fun l => by
  rw [h.2 l]
  exact ⟨fun ⟨K, h1, h2⟩ => ⟨K, (he K).1 h1, h2⟩, fun ⟨K, h1, h2⟩ => ⟨K, (he K).2 h1, h2⟩⟩⟩
theorem Lsts.add {L L' : List (List Nat)} {f g : (Nat → Bool) → Prop} (h : Lsts N L f) (h' : Lsts N L' g) (hd : ∀ K K', f K → g K' → (∀ x, x < N → K x = K' x) → False) : Lsts N (L ++ L') (fun K => f K ∨ g K) := by
  refine ⟨List.nodup_append.2 ⟨h.1, h'.1, fun a ha b hb e => ?_⟩, fun l => ?_⟩
  · subst e
    obtain ⟨K, h1, e1⟩ := (h.2 a).1 ha
    obtain ⟨K', h2, e2⟩ := (h'.2 a).1 hb
    exact hd K K' h1 h2 (lsN_inj (e1.symm.trans e2))
  · rw [List.mem_append, h.2 l, h'.2 l]
    constructor
    · rintro (⟨K, h1, h2⟩ | ⟨K, h1, h2⟩)
      · exact ⟨K, Or.inl h1, h2⟩
      · exact ⟨K, Or.inr h1, h2⟩
    · rintro ⟨K, h1 | h1, h2⟩
      · exact Or.inl ⟨K, h1, h2⟩
      · exact Or.inr ⟨K, h1, h2⟩
/-- The cliques that are part of no other one, with all of R and, besides, nodes of P alone. -/
def Fit (N : Nat) (adj : Nat → Nat → Bool) (R P K : Nat → Bool) : Prop := MaxC N adj K ∧ (∀ x, x < N → R x = true → K x = true) ∧ ∀ x, x < N → K x = true → R x = true ∨ P x = true
/-- .. of which one is in D. -/
def FitD (N : Nat) (adj : Nat → Nat → Bool) (R P D K : Nat → Bool) : Prop := Fit N adj R P K ∧ ∃ x, x < N ∧ D x = true ∧ K x = true
/-- What the search has at hand: R a clique, and P and X the nodes near all of it. -/
structure Hand (N : Nat) (adj : Nat → Nat → Bool) (R P X : Nat → Bool) : Prop where
  clq : ∀ x y, x < N → y < N → R x = true → R y = true → x ≠ y → adj x y = true
  all : ∀ z, z < N → ((P z = true ∨ X z = true) ↔ R z = false ∧ ∀ x, x < N → R x = true → adj z x = true)
  apart : ∀ z, z < N → P z = true → X z = false
theorem Hand.start : Hand N adj (fun _ => false) (fun _ => true) (fun _ => false) := ⟨fun _ _ _ _ h => (by cases h), fun z _ => (by simp), fun _ _ _ => rfl⟩
theorem Hand.congr {R P X P' X' : Nat → Bool} (h : Hand N adj R P X) (hp : ∀ x, x < N → P x = P' x) (hx : ∀ x, x < N → X x = X' x) : Hand N adj R P' X' :=
  ⟨h.clq, fun z hz => by rw [← hp z hz, ← hx z hz]; exact h.all z hz, fun z hz h1 => by rw [← hx z hz]; exact h.apart z hz (by rw [hp z hz]; exact h1)⟩
/-- Nothing is left: R itself. -/
theorem Hand.leaf {R P X : Nat → Bool} (h : Hand N adj R P X) (h0 : ∀ z, z < N → P z = false ∧ X z = false) : Lsts N [lsN N R] (Fit N adj R P) := by
  refine ⟨by simp, fun l => ?_⟩
  rw [List.mem_singleton]
  constructor
  · rintro rfl
    refine ⟨R, ⟨⟨h.clq, fun z hz hr => ?_⟩, fun _ _ h => h, fun _ _ h => Or.inl h⟩, rfl⟩
    apply Classical.byContradiction
    intro hn
    have := (h.all z hz).2 ⟨hr, fun x hx hrx => by
      cases hc : adj z x with
      | true => rfl
      | false => exact absurd ⟨x, hx, hrx, hc⟩ hn⟩
    rw [(h0 z hz).1, (h0 z hz).2] at this
    simp at this
  · rintro ⟨K, ⟨_, h2, h3⟩, rfl⟩
    refine lsN_congr fun x hx => ?_
    rw [Bool.eq_iff_iff]
    constructor
    · intro hk
      rcases h3 x hx hk with h4 | h4
      · exact h4
      · rw [(h0 x hx).1] at h4; cases h4
    · exact h2 x hx
/-- One node more comes to R. -/
theorem Hand.push (hs : ∀ x y, adj x y = adj y x) (hi : ∀ x, adj x x = false) {R P X : Nat → Bool} (h : Hand N adj R P X) {v : Nat} (hv : v < N) (hp : P v = true) : Hand N adj (fun x => x == v || R x) (fun x => P x && adj v x) (fun x => X x && adj v x) := by
  have hvR := (h.all v hv).1 (Or.inl hp)
  refine ⟨fun x y hx hy h1 h2 hne => ?_, fun z hz => ?_, fun z hz h1 => ?_⟩
  · simp only [Bool.or_eq_true, beq_iff_eq] at h1 h2
    rcases h1 with rfl | h1 <;> rcases h2 with rfl | h2
    · exact absurd rfl hne
    · exact hvR.2 y hy h2
    · rw [hs]; exact hvR.2 x hx h1
    · exact h.clq x y hx hy h1 h2 hne
  · simp only [Bool.and_eq_true, Bool.or_eq_false_iff, beq_eq_false_iff_ne, Bool.or_eq_true, beq_iff_eq]
    constructor
    · intro hh
      have h1 : (P z = true ∨ X z = true) ∧ adj v z = true := by
        rcases hh with ⟨a, b⟩ | ⟨a, b⟩
        · exact ⟨Or.inl a, b⟩
        · exact ⟨Or.inr a, b⟩
      obtain ⟨h2, h3⟩ := (h.all z hz).1 h1.1
      refine ⟨⟨fun e => ?_, h2⟩, fun x hx hr => ?_⟩
      · rw [e, hi] at h1; cases h1.2
      · rcases hr with rfl | hr
        · rw [hs]; exact h1.2
        · exact h3 x hx hr
    · rintro ⟨⟨h1, h2⟩, h3⟩
      have h4 := (h.all z hz).2 ⟨h2, fun x hx hr => h3 x hx (Or.inr hr)⟩
      have h5 : adj v z = true := by rw [hs]; exact h3 v hv (Or.inl rfl)
      rcases h4 with h4 | h4
      · exact Or.inl ⟨h4, h5⟩
      · exact Or.inr ⟨h4, h5⟩
  · simp only [Bool.and_eq_true] at h1
    rw [h.apart z hz h1.1]; rfl
/-- .. and has been tried. -/
theorem Hand.tried {R P X : Nat → Bool} (h : Hand N adj R P X) {v : Nat} (hv : v < N) (hp : P v = true) : Hand N adj R (fun x => P x && x != v) (fun x => x == v || X x) := by
  refine ⟨h.clq, fun z hz => ?_, fun z hz h1 => ?_⟩
  · rw [← h.all z hz]
    by_cases e : z = v
    · subst e; simp [hp]
    · simp [e]
  · simp only [Bool.and_eq_true, bne_iff_ne] at h1
    simp [h1.2, h.apart z hz h1.1]
/-- What the search with one node more finds. -/
theorem fit_push {R P X D : Nat → Bool} (h : Hand N adj R P X) {v : Nat} (hv : v < N) (hp : P v = true) (hD : ∀ x, x < N → D x = true → P x = true) (hdv : D v = false) (K : Nat → Bool) :
    Fit N adj (fun x => x == v || R x) (fun x => (P x && !D x) && adj v x) K ↔ (Fit N adj R P K ∧ K v = true ∧ ∀ x, x < N → D x = true → K x = false) := by
  constructor
  · rintro ⟨h1, h2, h3⟩
    have kv : K v = true := h2 v hv (by simp)
    refine ⟨⟨h1, fun x hx hr => h2 x hx (by simp [hr]), fun x hx hk => ?_⟩, kv, fun x hx hd => ?_⟩
    · rcases h3 x hx hk with h4 | h4
      · simp only [Bool.or_eq_true, beq_iff_eq] at h4
        rcases h4 with rfl | h4
        · exact Or.inr hp
        · exact Or.inl h4
      · simp only [Bool.and_eq_true] at h4
        exact Or.inr h4.1.1
    · cases hk : K x with
      | false => rfl
      | true =>
        rcases h3 x hx hk with h4 | h4
        · simp only [Bool.or_eq_true, beq_iff_eq] at h4
          rcases h4 with rfl | h4
          · rw [hdv] at hd; cases hd
          · have := ((h.all x hx).1 (Or.inl (hD x hx hd))).1
            rw [h4] at this; cases this
        · simp [hd] at h4
  · rintro ⟨⟨h1, h2, h3⟩, kv, hd⟩
    refine ⟨h1, fun x hx hr => ?_, fun x hx hk => ?_⟩
    · simp only [Bool.or_eq_true, beq_iff_eq] at hr
      rcases hr with rfl | hr
      · exact kv
      · exact h2 x hx hr
    · by_cases e : x = v
      · left; simp [e]
      · rcases h3 x hx hk with h4 | h4
        · left; simp [h4]
        · right
          have hdx : D x = false := by
            cases hc : D x with
            | false => rfl
            | true => rw [hd x hx hc] at hk; cases hk
          have := h1.clq v x hv hx kv hk (fun e' => e e'.symm)
          simp [h4, hdx, this]
/-- The round of one node. -/
theorem FitD.step {R P X D : Nat → Bool} (h : Hand N adj R P X) {v : Nat} (hv : v < N) (hp : P v = true) (hD : ∀ x, x < N → D x = true → P x = true) (hdv : D v = false) {L L' : List (List Nat)}
    (hL : Lsts N L (FitD N adj R P D)) (hL' : Lsts N L' (Fit N adj (fun x => x == v || R x) (fun x => (P x && !D x) && adj v x))) : Lsts N (L ++ L') (FitD N adj R P (fun x => x == v || D x)) := by
  have key := fit_push h hv hp hD hdv
  refine (hL.add hL' (fun K K' hK hK' he => ?_)).congr (fun K => ?_)
  · obtain ⟨_, x, hx, hdx, hkx⟩ := hK
    have := ((key K').1 hK').2.2 x hx hdx
    rw [← he x hx, hkx] at this
    cases this
  · rw [key K]
    constructor
    · rintro (⟨h1, x, hx, h2, h3⟩ | ⟨h1, h2, h3⟩)
      · exact ⟨h1, x, hx, by simp [h2], h3⟩
      · exact ⟨h1, v, hv, by simp, h2⟩
    · rintro ⟨h1, x, hx, h2, h3⟩
      by_cases hq : ∃ y, y < N ∧ D y = true ∧ K y = true
      · exact Or.inl ⟨h1, hq⟩
      · refine Or.inr ⟨h1, ?_, fun y hy hd => ?_⟩
        · simp only [Bool.or_eq_true, beq_iff_eq] at h2
          rcases h2 with rfl | h2
          · exact h3
          · exact absurd ⟨x, hx, h2, h3⟩ hq
        · cases hk : K y with
          | false => rfl
          | true => exact absurd ⟨y, hy, hd, hk⟩ hq
/-- All nodes of P that are not near the pivot have been tried: that is enough. -/
theorem FitD.done (hi : ∀ x, adj x x = false) {R P X D : Nat → Bool} (h : Hand N adj R P X) {pv : Nat} (hpv : pv < N) (hin : P pv = true ∨ X pv = true) (hD : ∀ x, x < N → (D x = true ↔ P x = true ∧ adj pv x = false)) {L : List (List Nat)} (hL : Lsts N L (FitD N adj R P D)) : Lsts N L (Fit N adj R P) := by
  refine hL.congr (fun K => ⟨fun hK => hK.1, fun hK => ⟨hK, ?_⟩⟩)
  obtain ⟨h1, h2, h3⟩ := hK
  apply Classical.byContradiction
  intro hno
  have hall := (h.all pv hpv).1 hin
  have off : ∀ x, x < N → P x = true → K x = true → adj pv x = true := fun x hx hp hk => by
    cases hc : adj pv x with
    | true => rfl
    | false => exact absurd ⟨x, hx, (hD x hx).2 ⟨hp, hc⟩, hk⟩ hno
  have hkp : K pv = false := by
    cases hc : K pv with
    | false => rfl
    | true =>
      rcases h3 pv hpv hc with h4 | h4
      · rw [hall.1] at h4; cases h4
      · have := off pv hpv h4 hc
        rw [hi] at this; cases this
  obtain ⟨x, hx, hk, ha⟩ := h1.top pv hpv hkp
  rcases h3 x hx hk with h4 | h4
  · rw [hall.2 x hx h4] at ha; cases ha
  · rw [off x hx h4 hk] at ha; cases ha
end
end Go.Proofs.YtkkfjfphmlcieaaGreat
