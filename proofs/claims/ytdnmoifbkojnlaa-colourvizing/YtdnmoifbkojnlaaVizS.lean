/- The shift of Vizing's fan: every edge that had a colour has one, and one more. -/
import Derived.Test.YtdnmoifbkojnlaaVizF
namespace Go.Proofs.Ytdnmoifbkojnlaa

/-- Are x, y the two nodes p, q? -/
def Two2 (p q x y : Nat) : Prop := (x = p ∧ y = q) ∨ (x = q ∧ y = p)
theorem mv_dyed {n k : Nat} {D : Nat → Nat → Int} (hD : Dye n k D) {u v w m : Nat} (hu : u < n) (hm : m < k) (huv : v ≠ u) (hvw : v ≠ w) (e1 : D u m = (w : Int)) (e2 : D v m = -1) {x y : Nat} (hx : x < n) :
    Dyed k (mv D u v w m) x y ↔ (Dyed k D x y ∧ ¬ Two2 u w x y) ∨ Two2 u v x y := by
  obtain ⟨hw, hwu, e3⟩ := hD.back hu hm e1
  have mu : mv D u v w m u m = (v : Int) := by unfold mv; rw [if_pos rfl, if_pos rfl]
  have mvv : mv D u v w m v m = (u : Int) := by unfold mv; rw [if_pos rfl, if_neg huv, if_pos rfl]
  have mw : mv D u v w m w m = -1 := by unfold mv; rw [if_pos rfl, if_neg hwu, if_neg (fun h => hvw h.symm), if_pos rfl]
  have mo : ∀ x, x ≠ u → x ≠ v → x ≠ w → mv D u v w m x m = D x m := fun x h1 h2 h3 => by unfold mv; rw [if_pos rfl, if_neg h1, if_neg h2, if_neg h3]
  have un : ∀ c, c < k → D x c = (y : Int) → Two2 u w x y → c = m := fun c hc e ht => by
    rcases ht with ⟨rfl, rfl⟩ | ⟨rfl, rfl⟩
    · exact hD.one x c m hx hc hm (by rw [e, e1]) (by rw [e]; omega)
    · exact hD.one x c m hx hc hm (by rw [e, e3]) (by rw [e]; omega)
  constructor
  · rintro ⟨c, hc, e⟩
    by_cases hcm : c = m
    · subst hcm
      by_cases xu : x = u
      · subst xu; rw [mu] at e; exact Or.inr (Or.inl ⟨rfl, by omega⟩)
      · by_cases xv : x = v
        · subst xv; rw [mvv] at e; exact Or.inr (Or.inr ⟨rfl, by omega⟩)
        · by_cases xw : x = w
          · subst xw; rw [mw] at e; omega
          · rw [mo x xu xv xw] at e
            exact Or.inl ⟨⟨c, hc, e⟩, fun h => by rcases h with h | h; exact xu h.1; exact xw h.1⟩
    · rw [mv_far hcm] at e
      exact Or.inl ⟨⟨c, hc, e⟩, fun h => hcm (un c hc e h)⟩
  · rintro (⟨⟨c, hc, e⟩, hn⟩ | h)
    · by_cases hcm : c = m
      · subst hcm
        have xu : x ≠ u := fun h => by
          subst h
          rw [e1] at e
          exact hn (Or.inl ⟨rfl, by omega⟩)
        have xv : x ≠ v := fun h => by subst h; rw [e2] at e; omega
        have xw : x ≠ w := fun h => by
          subst h
          rw [e3] at e
          exact hn (Or.inr ⟨rfl, by omega⟩)
        exact ⟨c, hc, by rw [mo x xu xv xw]; exact e⟩
      · exact ⟨c, hc, by rw [mv_far hcm]; exact e⟩
    · rcases h with ⟨rfl, rfl⟩ | ⟨rfl, rfl⟩
      · exact ⟨m, hm, mu⟩
      · exact ⟨m, hm, mvv⟩
/-- The edge of u and v gets the colour m. -/
def st (D : Nat → Nat → Int) (u v m : Nat) (x c : Nat) : Int := if c = m then (if x = u then (v : Int) else if x = v then (u : Int) else D x c) else D x c
theorem st_far {D : Nat → Nat → Int} {u v m x c : Nat} (h : c ≠ m) : st D u v m x c = D x c := if_neg h
theorem st_dye {n k : Nat} {D : Nat → Nat → Int} (hD : Dye n k D) {u v m : Nat} (hu : u < n) (hv : v < n) (hm : m < k) (huv : v ≠ u) (e1 : D u m = -1) (e2 : D v m = -1) (hn : ¬ Dyed k D u v) :
    Dye n k (st D u v m) ∧ ∀ x y, x < n → (Dyed k (st D u v m) x y ↔ Dyed k D x y ∨ Two2 u v x y) := by
  have mu : st D u v m u m = (v : Int) := by unfold st; rw [if_pos rfl, if_pos rfl]
  have mvv : st D u v m v m = (u : Int) := by unfold st; rw [if_pos rfl, if_neg huv, if_pos rfl]
  have mo : ∀ x, x ≠ u → x ≠ v → st D u v m x m = D x m := fun x h1 h2 => by unfold st; rw [if_pos rfl, if_neg h1, if_neg h2]
  refine ⟨⟨fun x c hx hc => ?_, fun x c c' hx hc hc' e hne => ?_⟩, fun x y hx => ⟨?_, ?_⟩⟩
  · by_cases hcm : c = m
    · subst hcm
      by_cases xu : x = u
      · subst xu; exact Or.inr ⟨v, hv, mu, huv, mvv⟩
      · by_cases xv : x = v
        · subst xv; exact Or.inr ⟨u, hu, mvv, Ne.symm huv, mu⟩
        · rw [mo x xu xv]
          rcases hD.val x c hx hc with h | ⟨y, h1, h2, h3, h4⟩
          · exact Or.inl h
          · refine Or.inr ⟨y, h1, h2, h3, ?_⟩
            have yu : y ≠ u := fun h => by rw [h, e1] at h4; omega
            have yv : y ≠ v := fun h => by rw [h, e2] at h4; omega
            rw [mo y yu yv]; exact h4
    · rw [st_far hcm]
      rcases hD.val x c hx hc with h | ⟨y, h1, h2, h3, h4⟩
      · exact Or.inl h
      · exact Or.inr ⟨y, h1, h2, h3, by rw [st_far hcm]; exact h4⟩
  · have side : ∀ c', c' < k → c' ≠ m → st D u v m x m = D x c' → st D u v m x m ≠ -1 → False := fun c' hc' hcm e hne => by
      by_cases xu : x = u
      · subst xu
        rw [mu] at e
        exact hn ⟨c', hc', e.symm⟩
      · by_cases xv : x = v
        · subst xv
          rw [mvv] at e
          exact hn ⟨c', hc', (hD.back hx hc' e.symm).2.2⟩
        · rw [mo x xu xv] at e hne
          exact hcm (hD.one x m c' hx hm hc' e hne).symm
    by_cases h1 : c = m
    · by_cases h2 : c' = m
      · rw [h1, h2]
      · subst h1
        rw [st_far h2] at e
        exact (side c' hc' h2 e hne).elim
    · by_cases h2 : c' = m
      · subst h2
        rw [st_far h1] at e hne
        exact (side c hc h1 e.symm (by rw [← e]; exact hne)).elim
      · rw [st_far h1] at e hne
        rw [st_far h2] at e
        exact hD.one x c c' hx hc hc' e hne
  · rintro ⟨c, hc, e⟩
    by_cases hcm : c = m
    · subst hcm
      by_cases xu : x = u
      · subst xu; rw [mu] at e; exact Or.inr (Or.inl ⟨rfl, by omega⟩)
      · by_cases xv : x = v
        · subst xv; rw [mvv] at e; exact Or.inr (Or.inr ⟨rfl, by omega⟩)
        · rw [mo x xu xv] at e; exact Or.inl ⟨c, hc, e⟩
    · rw [st_far hcm] at e; exact Or.inl ⟨c, hc, e⟩
  · rintro (⟨c, hc, e⟩ | h)
    · by_cases hcm : c = m
      · subst hcm
        have xu : x ≠ u := fun h => by subst h; rw [e1] at e; omega
        have xv : x ≠ v := fun h => by subst h; rw [e2] at e; omega
        exact ⟨c, hc, by rw [mo x xu xv]; exact e⟩
      · exact ⟨c, hc, by rw [st_far hcm]; exact e⟩
    · rcases h with ⟨rfl, rfl⟩ | ⟨rfl, rfl⟩
      · exact ⟨m, hm, mu⟩
      · exact ⟨m, hm, mvv⟩
/-- What the shift makes of D: each edge of the fan gets the colour of the next, the last one a. -/
inductive Shf (k a u : Nat) : List Nat → (Nat → Nat → Int) → (Nat → Nat → Int) → Prop
  | last {v : Nat} {D : Nat → Nat → Int} : Shf k a u [v] D (st D u v a)
  | next {v w m : Nat} {r : List Nat} {D D' : Nat → Nat → Int} : m < k → D u m = (w : Int) → Shf k a u (w :: r) (mv D u v w m) D' → Shf k a u (v :: w :: r) D D'
theorem shf_ok {n k a u : Nat} (hu : u < n) (ha : a < k) : ∀ {f : List Nat} {D D' : Nat → Nat → Int}, Shf k a u f D D' → Dye n k D → Fan n k D u f → D u a = -1 → D (f.getD (f.length - 1) 0) a = -1 →
    Dye n k D' ∧ ∀ x y, x < n → (Dyed k D' x y ↔ Dyed k D x y ∨ Two2 u (f.getD 0 0) x y) := by
  intro f D D' hs
  induction hs with
  | @last v D =>
    intro hD hF h1 h2
    exact st_dye hD hu (hF.lt 0 (by simp)) ha hF.nu h1 h2 hF.unc
  | @next v w m r D D' hm e1 _ ih =>
    intro hD hF h1 h2
    have hvw : v ≠ w := hF.ne 0 1 (by omega) (by simp)
    have huv : v ≠ u := hF.nu
    have hv : v < n := hF.lt 0 (by simp)
    have hma : a ≠ m := fun h => by rw [h, e1] at h1; omega
    obtain ⟨c, hc, f1, f2⟩ := hF.step 0 (by simp)
    have hcm : c = m := hD.one u c m hu hc hm (by rw [f1, e1]; rfl) (by rw [f1]; omega)
    subst hcm
    have e2 : D v c = -1 := f2
    obtain ⟨g1, g2⟩ := ih (mv_dye hD hu hv hm huv hvw e1 e2 hF.unc) (mv_fan hD hu hm hF e1) (by rw [mv_far hma]; exact h1) (by
      rw [mv_far hma]
      have : (w :: r).getD ((w :: r).length - 1) 0 = (v :: w :: r).getD ((v :: w :: r).length - 1) 0 := rfl
      rw [this]; exact h2)
    refine ⟨g1, fun x y hx => ?_⟩
    rw [g2 x y hx, mv_dyed hD hu hm huv hvw e1 e2 hx]
    show (Dyed k D x y ∧ ¬ Two2 u w x y ∨ Two2 u v x y) ∨ Two2 u w x y ↔ Dyed k D x y ∨ Two2 u v x y
    have hw : Two2 u w x y → Dyed k D x y := fun h => by
      rcases h with ⟨rfl, rfl⟩ | ⟨rfl, rfl⟩
      · exact ⟨c, hm, e1⟩
      · exact ⟨c, hm, (hD.back hu hm e1).2.2⟩
    by_cases ht : Two2 u w x y
    · exact ⟨fun _ => Or.inl (hw ht), fun _ => Or.inr ht⟩
    · constructor
      · rintro ((h | h) | h)
        · exact Or.inl h.1
        · exact Or.inr h
        · exact absurd h ht
      · rintro (h | h)
        · exact Or.inl (Or.inl ⟨h, ht⟩)
        · exact Or.inl (Or.inr h)
/-- Where a node has fewer edges than there are colours, one is free at it. -/
theorem dye_free {n k : Nat} {D : Nat → Nat → Int} (hD : Dye n k D) {u : Nat} (hu : u < n) {nb : List Nat} (hnb : ∀ v, Dyed k D u v → v ∈ nb) (hl : nb.length < k) : ∃ c, c < k ∧ D u c = -1 := by
  apply Classical.byContradiction
  intro hno
  have hall : ∀ c, c < k → ∃ v : Nat, D u c = (v : Int) := fun c hc => by
    rcases hD.val u c hu hc with h | ⟨v, _, h, _⟩
    · exact absurd ⟨c, hc, h⟩ hno
    · exact ⟨v, h⟩
  have hlen := nodup_lenN ((List.range k).map fun c => (D u c).toNat) nb (by
    unfold List.Nodup
    rw [List.pairwise_map]
    refine List.Pairwise.imp_of_mem (fun {c c'} hc hc' (hne : c ≠ c') e => ?_) List.nodup_range
    have hc := List.mem_range.1 hc
    have hc' := List.mem_range.1 hc'
    obtain ⟨v, hv⟩ := hall c hc
    obtain ⟨v', hv'⟩ := hall c' hc'
    exact hne (hD.one u c c' hu hc hc' (by omega) (by omega))) (fun x hx => by
    obtain ⟨c, hc, rfl⟩ := List.mem_map.1 hx
    have hc := List.mem_range.1 hc
    obtain ⟨v, hv⟩ := hall c hc
    refine hnb _ ⟨c, hc, ?_⟩
    omega)
  simp at hlen
  omega
end Go.Proofs.Ytdnmoifbkojnlaa
