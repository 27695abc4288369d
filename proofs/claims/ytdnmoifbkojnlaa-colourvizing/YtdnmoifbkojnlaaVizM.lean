/- Vizing's colours of edges: what a dye is, and two colours that change places on a closed set of nodes. -/
import Derived.Test.YtdnmoifbkojnlaaBirk
namespace Go.Proofs.Ytdnmoifbkojnlaa

/-- D u c is the node to which the edge of colour c at u goes, or -1. -/
structure Dye (n k : Nat) (D : Nat → Nat → Int) : Prop where
  val : ∀ u c, u < n → c < k → D u c = -1 ∨ ∃ v : Nat, v < n ∧ D u c = (v : Int) ∧ v ≠ u ∧ D v c = (u : Int)
  one : ∀ u c c', u < n → c < k → c' < k → D u c = D u c' → D u c ≠ -1 → c = c'
/-- Has the edge between u and v a colour? -/
def Dyed (k : Nat) (D : Nat → Nat → Int) (u v : Nat) : Prop := ∃ c, c < k ∧ D u c = (v : Int)
theorem Dye.back {n k : Nat} {D : Nat → Nat → Int} (h : Dye n k D) {u v c : Nat} (hu : u < n) (hc : c < k) (e : D u c = (v : Int)) : v < n ∧ v ≠ u ∧ D v c = (u : Int) := by
  rcases h.val u c hu hc with h1 | ⟨v', h1, h2, h3, h4⟩
  · omega
  · have : v' = v := by omega
    subst this
    exact ⟨h1, h3, h4⟩
theorem Dyed.symm {n k : Nat} {D : Nat → Nat → Int} (h : Dye n k D) {u v : Nat} (hu : u < n) (hd : Dyed k D u v) : Dyed k D v u := by
  obtain ⟨c, hc, e⟩ := hd
  exact ⟨c, hc, (h.back hu hc e).2.2⟩
/-- Two colours change places at the nodes of P. -/
def swD (D : Nat → Nat → Int) (P : Nat → Bool) (a b : Nat) (u c : Nat) : Int := if P u then D u (sw a b c) else D u c
theorem sw_lt {a b c k : Nat} (ha : a < k) (hb : b < k) (hc : c < k) : sw a b c < k := by
  unfold sw
  split
  · exact hb
  · split
    · exact ha
    · exact hc
theorem swD_in {D : Nat → Nat → Int} {P : Nat → Bool} {a b u c : Nat} (h : P u = true) : swD D P a b u c = D u (sw a b c) := if_pos h
theorem swD_out {D : Nat → Nat → Int} {P : Nat → Bool} {a b u c : Nat} (h : P u = false) : swD D P a b u c = D u c := by
  unfold swD
  rw [h]
  rfl
theorem sw_far {a b c : Nat} (h1 : c ≠ a) (h2 : c ≠ b) : sw a b c = c := by
  unfold sw
  rw [if_neg h1, if_neg h2]
theorem swD_far {D : Nat → Nat → Int} {P : Nat → Bool} {a b u c : Nat} (h1 : c ≠ a) (h2 : c ≠ b) : swD D P a b u c = D u c := by
  unfold swD
  rw [sw_far h1 h2]
  split <;> rfl
/-- No edge of the two colours leaves P. -/
def Shut (n : Nat) (D : Nat → Nat → Int) (P : Nat → Bool) (a b : Nat) : Prop := ∀ u v : Nat, u < n → (D u a = (v : Int) ∨ D u b = (v : Int)) → (P u = true ↔ P v = true)
theorem Dye.swap {n k : Nat} {D : Nat → Nat → Int} (h : Dye n k D) {P : Nat → Bool} {a b : Nat} (ha : a < k) (hb : b < k) (hs : Shut n D P a b) : Dye n k (swD D P a b) := by
  refine ⟨fun u c hu hc => ?_, fun u c c' hu hc hc' e hne => ?_⟩
  · by_cases hp : P u = true
    · rw [swD_in hp]
      rcases h.val u (sw a b c) hu (sw_lt ha hb hc) with h1 | ⟨v, h1, h2, h3, h4⟩
      · exact Or.inl h1
      · refine Or.inr ⟨v, h1, h2, h3, ?_⟩
        by_cases e : c = a ∨ c = b
        · have hv : P v = true := by
            refine (hs u v hu ?_).1 hp
            unfold sw at h2
            rcases e with rfl | rfl
            · rw [if_pos rfl] at h2; exact Or.inr h2
            · by_cases e2 : c = a
              · rw [if_pos e2] at h2; exact Or.inr h2
              · rw [if_neg e2, if_pos rfl] at h2; exact Or.inl h2
          rw [swD_in hv]; exact h4
        · rw [swD_far (fun x => e (Or.inl x)) (fun x => e (Or.inr x))]
          rw [sw_far (fun x => e (Or.inl x)) (fun x => e (Or.inr x))] at h4
          exact h4
    · have hp' : P u = false := by simpa using hp
      rw [swD_out hp']
      rcases h.val u c hu hc with h1 | ⟨v, h1, h2, h3, h4⟩
      · exact Or.inl h1
      · refine Or.inr ⟨v, h1, h2, h3, ?_⟩
        by_cases e : c = a ∨ c = b
        · have hv : P v = false := by
            have := hs u v hu (by rcases e with rfl | rfl; exact Or.inl h2; exact Or.inr h2)
            cases hpv : P v with
            | false => rfl
            | true => exact absurd (this.2 hpv) hp
          rw [swD_out hv]; exact h4
        · rw [swD_far (fun x => e (Or.inl x)) (fun x => e (Or.inr x))]; exact h4
  · by_cases hp : P u = true
    · rw [swD_in hp] at e hne
      rw [swD_in hp] at e
      exact sw_inj (h.one u _ _ hu (sw_lt ha hb hc) (sw_lt ha hb hc') e hne)
    · have hp' : P u = false := by simpa using hp
      rw [swD_out hp'] at e hne
      rw [swD_out hp'] at e
      exact h.one u _ _ hu hc hc' e hne
theorem dyed_swap {k : Nat} {D : Nat → Nat → Int} {P : Nat → Bool} {a b : Nat} (ha : a < k) (hb : b < k) {u v : Nat} : Dyed k (swD D P a b) u v ↔ Dyed k D u v := by
  constructor
  · rintro ⟨c, hc, e⟩
    by_cases hp : P u = true
    · rw [swD_in hp] at e; exact ⟨_, sw_lt ha hb hc, e⟩
    · rw [swD_out (by simpa using hp)] at e; exact ⟨c, hc, e⟩
  · rintro ⟨c, hc, e⟩
    by_cases hp : P u = true
    · exact ⟨sw a b c, sw_lt ha hb hc, by rw [swD_in hp, sw_inv]; exact e⟩
    · exact ⟨c, hc, by rw [swD_out (by simpa using hp)]; exact e⟩
end Go.Proofs.Ytdnmoifbkojnlaa
