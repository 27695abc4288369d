/- DIRAC: where no ring of four nodes or more is without a chord, there is a node whose near nodes are a clique. -/
import Derived.Test.YtkkfjfphmlcieaaGreatConM
namespace Go.Proofs.YtkkfjfphmlcieaaGreat
theorem szOf_le {N : Nat} (K : Nat → Prop) : szOf N K ≤ N := by
  classical
  unfold szOf
  exact Nat.le_trans (List.length_filter_le _ _) (by simp)
theorem max_ex {P : Nat → Prop} {B : Nat} (hB : ∀ n, P n → n ≤ B) : ∀ k n, P n → B ≤ n + k → ∃ m, P m ∧ ∀ m', P m' → m' ≤ m
  | 0, n, hn, hk => ⟨n, hn, fun m' hm' => by have := hB m' hm'; omega⟩
  | k + 1, n, hn, hk => by
    by_cases h : ∃ m', P m' ∧ n < m'
    · obtain ⟨m', h1, h2⟩ := h
      exact max_ex hB k m' h1 (by omega)
    · exact ⟨n, hn, fun m' hm' => Nat.le_of_not_lt (fun hlt => h ⟨m', hm', hlt⟩)⟩
section
variable {N : Nat} {e : Nat → Nat → Prop}
/-- No ring without a chord goes through v, two nodes near it, and nodes far from it. -/
def NoHole (e : Nat → Nat → Prop) (V : Nat → Prop) : Prop := ∀ v a u x y, V v → V a → V u → e v a → e v u → a ≠ u → ¬ e a u → e x a → Cn e (fun z => V z ∧ z ≠ v ∧ ¬ e v z) x y → e y u → False
/-- All nodes near s are near each other. -/
def Simp (e : Nat → Nat → Prop) (V : Nat → Prop) (s : Nat) : Prop := ∀ a b, V a → V b → e s a → e s b → a ≠ b → e a b
theorem dirac (hs : ∀ a b, e a b → e b a) : ∀ (m : Nat) (V : Nat → Prop), szOf N V = m → (∀ z, V z → z < N) → (∃ z, V z) → NoHole e V → ∃ s, V s ∧ Simp e V s := by
  intro m
  induction m using Nat.strongRecOn with
  | _ m ih =>
    intro V hm hV hne hno
    by_cases hall : ∃ v c, V v ∧ V c ∧ v ≠ c ∧ ¬ e v c
    · obtain ⟨v0, c0, h1, h2, h3, h4⟩ := hall
      obtain ⟨k, ⟨v, c, hv, hc, hvc, hnvc, hk⟩, hmax⟩ := max_ex (P := fun k => ∃ v c, V v ∧ V c ∧ v ≠ c ∧ ¬ e v c ∧ szOf N (Cn e (fun z => V z ∧ z ≠ v ∧ ¬ e v z) c) = k) (B := N) (fun k h => by
        obtain ⟨v, c, _, _, _, _, h⟩ := h
        rw [← h]; exact szOf_le _) N _ ⟨v0, c0, h1, h2, h3, h4, rfl⟩ (by omega)
      obtain ⟨C, hC⟩ : ∃ C : Nat → Prop, C = Cn e (fun z => V z ∧ z ≠ v ∧ ¬ e v z) c := ⟨_, rfl⟩
      have cC : C c := by rw [hC]; exact Cn.refl ⟨hc, fun h => hvc h.symm, hnvc⟩
      have inC : ∀ z, C z → V z ∧ z ≠ v ∧ ¬ e v z := fun z hz => by rw [hC] at hz; exact hz.right
      have stepC : ∀ x z, C x → e x z → V z → z ≠ v → ¬ e v z → C z := fun x z hx hxz h1 h2 h3 => by
        rw [hC] at hx ⊢; exact hx.step hxz ⟨h1, h2, h3⟩
      have joinC : ∀ x y, C x → C y → Cn e (fun z => V z ∧ z ≠ v ∧ ¬ e v z) x y := fun x y hx hy => by
        rw [hC] at hx hy; exact (hx.symm hs).trans hy
      obtain ⟨S, hS⟩ : ∃ S : Nat → Prop, ∀ s, S s ↔ V s ∧ ¬ C s ∧ ∃ x, C x ∧ e x s := ⟨fun s => V s ∧ ¬ C s ∧ ∃ x, C x ∧ e x s, fun _ => Iff.rfl⟩
      have nearS : ∀ s, S s → e v s := fun s h => by
        obtain ⟨h1, h2, x, hx, hxs⟩ := (hS s).1 h
        apply Classical.byContradiction
        intro hn
        have hsv : s ≠ v := fun e' => by
          subst e'
          exact (inC x hx).2.2 (hs _ _ hxs)
        exact h2 (stepC x s hx hxs h1 hsv hn)
      have cliS : ∀ a u, S a → S u → a ≠ u → e a u := fun a u ha hu hau => by
        apply Classical.byContradiction
        intro hn
        obtain ⟨a1, _, x, hx, hxa⟩ := (hS a).1 ha
        obtain ⟨u1, _, y, hy, hyu⟩ := (hS u).1 hu
        exact hno v a u x y hv a1 u1 (nearS a ha) (nearS u hu) hau hn hxa (joinC x y hx hy) hyu
      have offC : ∀ w, V w → ¬ C w → ¬ S w → ∀ z, C z → ¬ e w z := fun w h1 h2 h3 z hz hwz => h3 ((hS w).2 ⟨h1, h2, z, hz, hs _ _ hwz⟩)
      have compl : ∀ w s, V w → ¬ C w → ¬ S w → S s → e w s := fun w s hw hwC hwS hs' => by
        apply Classical.byContradiction
        intro hn
        obtain ⟨s1, s2, x, hx, hxs⟩ := (hS s).1 hs'
        have off := offC w hw hwC hwS
        have hwc : w ≠ c := fun e' => hwC (e' ▸ cC)
        have hle := hmax (szOf N (Cn e (fun z => V z ∧ z ≠ w ∧ ¬ e w z) c)) ⟨w, c, hw, hc, hwc, off c cC, rfl⟩
        have sub : ∀ z, C z → Cn e (fun z => V z ∧ z ≠ w ∧ ¬ e w z) c z := fun z hz => by
          rw [hC] at hz
          have h1 := hz.also (S' := fun z => z ≠ w ∧ ¬ e w z) (fun u hu => by
            have hu' : C u := by rw [hC]; exact hu
            exact ⟨fun e' => hwC (e' ▸ hu'), off u hu'⟩)
          exact h1.mono (fun a ha => ⟨ha.1.1, ha.2⟩)
        have hsw : s ≠ w := fun e' => hwS (e' ▸ hs')
        have hlt := szOf_lt (N := N) (K := Cn e (fun z => V z ∧ z ≠ w ∧ ¬ e w z) c) (K' := C) sub (hV s s1) ((sub x hx).step hxs ⟨s1, hsw, hn⟩) s2
        rw [hC, hk] at hlt
        omega
      obtain ⟨K, hK⟩ : ∃ K : Nat → Prop, ∀ w, K w ↔ V w ∧ ¬ C w ∧ ¬ S w := ⟨fun w => V w ∧ ¬ C w ∧ ¬ S w, fun _ => Iff.rfl⟩
      have vK : K v := (hK v).2 ⟨hv, fun h => (inC v h).2.1 rfl, fun h => by
        obtain ⟨_, _, x, hx, hxv⟩ := (hS v).1 h
        exact (inC x hx).2.2 (hs _ _ hxv)⟩
      have hlt : szOf N K < m := by
        rw [← hm]
        exact szOf_lt (fun z hz => ((hK z).1 hz).1) (hV c hc) hc (fun h => ((hK c).1 h).2.1 cC)
      obtain ⟨w, hw, hsimp⟩ := ih _ hlt K rfl (fun z hz => hV z ((hK z).1 hz).1) ⟨v, vK⟩ (fun v a u x y h1 h2 h3 h4 h5 h6 h7 h8 h9 h10 =>
        hno v a u x y ((hK v).1 h1).1 ((hK a).1 h2).1 ((hK u).1 h3).1 h4 h5 h6 h7 h8 (h9.mono (fun z hz => ⟨((hK z).1 hz.1).1, hz.2⟩)) h10)
      obtain ⟨w1, w2, w3⟩ := (hK w).1 hw
      refine ⟨w, w1, fun a b ha hb hwa hwb hab => ?_⟩
      have cls : ∀ a, V a → e w a → K a ∨ S a := fun a ha hwa => by
        by_cases h : S a
        · exact Or.inr h
        · refine Or.inl ((hK a).2 ⟨ha, fun h' => offC w w1 w2 w3 a h' hwa, h⟩)
      rcases cls a ha hwa with h1 | h1 <;> rcases cls b hb hwb with h2 | h2
      · exact hsimp a b h1 h2 hwa hwb hab
      · obtain ⟨x1, x2, x3⟩ := (hK a).1 h1
        exact compl a b x1 x2 x3 h2
      · obtain ⟨x1, x2, x3⟩ := (hK b).1 h2
        exact hs _ _ (compl b a x1 x2 x3 h1)
      · exact cliS a b h1 h2 hab
    · obtain ⟨z, hz⟩ := hne
      exact ⟨z, hz, fun a b ha hb _ _ hab => Classical.byContradiction fun h => hall ⟨a, b, ha, hb, hab, h⟩⟩
end
end Go.Proofs.YtkkfjfphmlcieaaGreat
