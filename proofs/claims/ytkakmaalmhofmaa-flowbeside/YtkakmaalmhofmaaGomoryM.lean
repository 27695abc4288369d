/- Gomory's and Hu's tree as Gusfield makes it, as plain mathematics: least cuts, and why the tree tells them. -/
import Derived.Test.YtkakmaalmhofmaaFlowM
namespace Go.Proofs.Ytkakmaalmhofmaa

theorem sumN_mono {f g : Nat → Int} : ∀ {n : Nat}, (∀ k, k < n → f k ≤ g k) → sumN f n ≤ sumN g n
  | 0, _ => Int.le_refl _
  | n + 1, h => by
    have h1 := sumN_mono (f := f) (g := g) (n := n) (fun k hk => h k (by omega))
    have h2 := h n (by omega)
    show sumN f n + f n ≤ sumN g n + g n
    omega

theorem not_ite (p q : Bool) (w : Int) : (if (!p) = (!q) then 0 else w) = if p = q then 0 else w := by
  cases p <;> cases q <;> rfl
theorem sub_ite (p q r t : Bool) {w : Int} (h : 0 ≤ w) : (if (p || r) = (q || t) then 0 else w) + (if (p && r) = (q && t) then 0 else w) ≤ (if p = q then 0 else w) + (if r = t then 0 else w) := by
  cases p <;> cases q <;> cases r <;> cases t <;> simp <;> omega

/-- What goes between the nodes of a set and the others: edge a has the ends A a and B a. -/
def dcut (m : Nat) (A B : Nat → Nat) (wt : Nat → Int) (X : Nat → Bool) : Int := sumN (fun a => if X (A a) = X (B a) then 0 else wt a) m
section
variable {m : Nat} {A B : Nat → Nat} {wt : Nat → Int}
theorem dcut_pos (h : ∀ a, a < m → 0 ≤ wt a) (X : Nat → Bool) : 0 ≤ dcut m A B wt X := sumN_pos (fun k hk => by
  have := h k hk
  split <;> omega)
theorem dcut_not (X : Nat → Bool) : dcut m A B wt (fun v => !X v) = dcut m A B wt X := sumN_congr (fun k _ => not_ite (X (A k)) (X (B k)) (wt k))
theorem dcut_sub (h : ∀ a, a < m → 0 ≤ wt a) (X Y : Nat → Bool) : dcut m A B wt (fun v => X v || Y v) + dcut m A B wt (fun v => X v && Y v) ≤ dcut m A B wt X + dcut m A B wt Y := by
  unfold dcut
  rw [← sumN_add, ← sumN_add]
  refine sumN_mono (fun k hk => ?_)
  exact sub_ite (X (A k)) (X (B k)) (Y (A k)) (Y (B k)) (h k hk)

/-- c is the least cut between a and b. -/
def IsF (m : Nat) (A B : Nat → Nat) (wt : Nat → Int) (a b : Nat) (c : Int) : Prop :=
  (∃ X : Nat → Bool, X a = true ∧ X b = false ∧ dcut m A B wt X = c) ∧ ∀ X : Nat → Bool, X a = true → X b = false → c ≤ dcut m A B wt X
theorem isF_ex (h : ∀ a, a < m → 0 ≤ wt a) {a b : Nat} (hab : a ≠ b) : ∃ c, IsF m A B wt a b c := by
  have key : ∀ n : Nat, (∃ X : Nat → Bool, X a = true ∧ X b = false ∧ dcut m A B wt X ≤ n) → ∃ c, IsF m A B wt a b c := by
    intro n
    induction n with
    | zero =>
      rintro ⟨X, h1, h2, h3⟩
      have h4 := dcut_pos (A := A) (B := B) h X
      exact ⟨0, ⟨X, h1, h2, by omega⟩, fun Y _ _ => dcut_pos h Y⟩
    | succ n ih =>
      rintro ⟨X, h1, h2, h3⟩
      by_cases e : ∃ X : Nat → Bool, X a = true ∧ X b = false ∧ dcut m A B wt X ≤ n
      · exact ih e
      · refine ⟨dcut m A B wt X, ⟨X, h1, h2, rfl⟩, fun Y h5 h6 => ?_⟩
        by_cases h7 : dcut m A B wt Y ≤ n
        · exact absurd ⟨Y, h5, h6, h7⟩ e
        · have : ((n + 1 : Nat) : Int) = (n : Int) + 1 := by omega
          omega
  refine key (dcut m A B wt (fun v => v == a)).toNat ⟨fun v => v == a, by simp, by simp; exact fun e => hab e.symm, ?_⟩
  omega

/-- f tells the least cuts. -/
def AllF (m : Nat) (A B : Nat → Nat) (wt : Nat → Int) (f : Nat → Nat → Int) : Prop := ∀ a b, a ≠ b → IsF m A B wt a b (f a b)
theorem allF_ex (h : ∀ a, a < m → 0 ≤ wt a) : ∃ f, AllF m A B wt f := by
  have h1 : ∀ p : Nat × Nat, ∃ c, p.1 ≠ p.2 → IsF m A B wt p.1 p.2 c := fun p => by
    by_cases e : p.1 = p.2
    · exact ⟨0, fun h => absurd e h⟩
    · obtain ⟨c, hc⟩ := isF_ex (A := A) (B := B) h e
      exact ⟨c, fun _ => hc⟩
  obtain ⟨g, hg⟩ := Classical.axiomOfChoice h1
  exact ⟨fun a b => g (a, b), fun a b hab => hg (a, b) hab⟩
variable {f : Nat → Nat → Int}
theorem AllF.le (hf : AllF m A B wt f) {a b : Nat} (hab : a ≠ b) {X : Nat → Bool} (h : X a ≠ X b) : f a b ≤ dcut m A B wt X := by
  cases e1 : X a <;> cases e2 : X b
  · exact absurd (e1.trans e2.symm) h
  · rw [← dcut_not X]
    exact (hf a b hab).2 _ (by simp [e1]) (by simp [e2])
  · exact (hf a b hab).2 X e1 e2
  · exact absurd (e1.trans e2.symm) h
theorem AllF.symm (hf : AllF m A B wt f) {a b : Nat} (hab : a ≠ b) : f a b = f b a := by
  obtain ⟨X, h1, h2, h3⟩ := (hf a b hab).1
  obtain ⟨Y, g1, g2, g3⟩ := (hf b a (fun e => hab e.symm)).1
  have h4 := hf.le (fun e => hab e.symm : b ≠ a) (X := X) (by rw [h1, h2]; simp)
  have h5 := hf.le hab (X := Y) (by rw [g1, g2]; simp)
  omega
theorem AllF.ultra (hf : AllF m A B wt f) {a b c : Nat} (hab : a ≠ b) (hbc : b ≠ c) (hac : a ≠ c) : f a b ≤ f a c ∨ f b c ≤ f a c := by
  obtain ⟨X, h1, h2, h3⟩ := (hf a c hac).1
  cases e : X b
  · left; rw [← h3]; exact hf.le hab (by rw [h1, e]; simp)
  · right; rw [← h3]; exact hf.le hbc (by rw [h2, e]; simp)

/-- Nodes below s are parted; each other one hangs at one of them. -/
structure GH (N : Nat) (f : Nat → Nat → Int) (s : Nat) (up : Nat → Nat) : Prop where
  lt : ∀ u, s ≤ u → u < N → up u < s
  best : ∀ u r, s ≤ u → u < N → r < s → f u r ≤ f u (up u)
  tie : ∀ u u', s ≤ u → u < N → s ≤ u' → u' < N → u ≠ u' → f u (up u) < f u u' → up u = up u'
theorem GH.start (N : Nat) (f : Nat → Nat → Int) : GH N f 1 (fun _ => 0) :=
  ⟨fun _ _ _ => by omega, fun u r _ _ hr => by
    have : r = 0 := by omega
    subst this
    exact Int.le_refl _, fun _ _ _ _ _ _ _ _ => rfl⟩
def reup (up : Nat → Nat) (s : Nat) (X : Nat → Bool) : Nat → Nat := fun u => if s < u ∧ up u = up s ∧ X u = true then s else up u
theorem GH.step {N s : Nat} {up : Nat → Nat} {X : Nat → Bool} (h : GH N f s up) (hf : AllF m A B wt f) (hw : ∀ a, a < m → 0 ≤ wt a) (hs : s < N) (h1 : X s = true) (h2 : X (up s) = false) (hX : dcut m A B wt X = f s (up s)) : GH N f (s + 1) (reup up s X) := by
  have hps := h.lt s (Nat.le_refl _) hs
  have hspne : s ≠ up s := by omega
  have hbest : ∀ u r, s + 1 ≤ u → u < N → r < s + 1 → f u r ≤ f u (reup up s X u) := fun u r hu huN hr => by
    have hq := h.lt u (by omega) huN
    by_cases c : s < u ∧ up u = up s ∧ X u = true
    · have e : reup up s X u = s := by unfold reup; rw [if_pos c]
      rw [e]
      by_cases hrs : r = s
      · subst hrs; exact Int.le_refl _
      · have g1 := h.best u r (by omega) huN (by omega)
        rw [c.2.1] at g1
        have g2 := hf.le (a := u) (b := up s) (by omega) (X := X) (by rw [c.2.2, h2]; simp)
        have g3 := hf.symm hspne
        rcases hf.ultra (a := u) (b := up s) (c := s) (by omega) (by omega) (by omega) with g | g <;> omega
    · have e : reup up s X u = up u := by unfold reup; rw [if_neg c]
      rw [e]
      by_cases hrs : r = s
      · subst hrs
        by_cases hqp : up u = up r
        · have hXu : X u = false := by
            cases e2 : X u
            · rfl
            · exact absurd ⟨by omega, hqp, e2⟩ c
          have g2 := hf.le (a := u) (b := r) (by omega) (X := X) (by rw [hXu, h1]; simp)
          rw [hqp]
          rcases hf.ultra (a := u) (b := r) (c := up r) (by omega) (by omega) (by omega) with g | g <;> omega
        · by_cases g : f u r ≤ f u (up u)
          · exact g
          · exact absurd (h.tie u r (by omega) huN (Nat.le_refl _) hs (by omega) (by omega)) hqp
      · exact h.best u r (by omega) huN (by omega)
  refine ⟨fun u hu huN => ?_, hbest, fun u u' hu huN hu' huN' hne ht => ?_⟩
  · unfold reup
    split
    · omega
    · have := h.lt u (by omega) huN; omega
  · have hq := h.lt u (by omega) huN
    have b1 := hbest u (up u) hu huN (by omega)
    have hup := h.tie u u' (by omega) huN (by omega) huN' hne (by omega)
    by_cases hqp : up u = up s
    · have hXX : X u = X u' := by
        by_cases e : X u = X u'
        · exact e
        · exfalso
          have b2 := hbest u s hu huN (by omega)
          have k1 := hf.le hne (X := X) e
          obtain ⟨Y, y1, y2, y3⟩ := (hf u s (by omega)).1
          have y4 : Y u' = true := by
            cases e3 : Y u'
            · have := hf.le hne (X := Y) (by rw [y1, e3]; simp)
              omega
            · rfl
          have y5 : Y (up s) = false := by
            cases e3 : Y (up s)
            · rfl
            · have := hf.le hspne (X := Y) (by rw [y2, e3]; simp)
              omega
          have z1 := hf.le hspne (X := fun v => X v || Y v) (by simp [h1, h2, y5])
          have z2 := hf.le hne (X := fun v => X v && Y v) (by simp only [y1, y4, Bool.and_true]; exact e)
          have z3 := dcut_sub (A := A) (B := B) hw X Y
          omega
      unfold reup
      rw [← hup, ← hXX]
      by_cases c : s < u ∧ up u = up s ∧ X u = true
      · rw [if_pos c, if_pos ⟨by omega, c.2⟩]
      · rw [if_neg c, if_neg (fun c' => c ⟨by omega, c'.2⟩)]
    · unfold reup
      rw [if_neg (fun c => hqp c.2.1), if_neg (fun c => hqp (by rw [hup]; exact c.2.1)), hup]
/-- A node that is parted next is a leaf. -/
theorem GH.leaf {N s r : Nat} {up : Nat → Nat} (h : GH N f s up) (hf : AllF m A B wt f) (hs : s < N) (hr : r < s) (hne : r ≠ up s) : f s r ≤ f s (up s) ∧ f s r ≤ f (up s) r ∧ (f s (up s) ≤ f s r ∨ f (up s) r ≤ f s r) := by
  have hp := h.lt s (Nat.le_refl _) hs
  have b := h.best s r (Nat.le_refl _) hs hr
  have u1 := hf.ultra (a := s) (b := up s) (c := r) (by omega) (by omega) (by omega)
  have u2 := hf.ultra (a := up s) (b := s) (c := r) (by omega) (by omega) (by omega)
  have sy := hf.symm (a := s) (b := up s) (by omega)
  refine ⟨b, ?_, u1⟩
  rcases u2 with g | g <;> omega

/-- The least cut on the way between two nodes of a tree whose nodes hang at lesser ones. -/
def bt (up : Nat → Nat) (cut : Nat → Int) (big : Int) : Nat → Nat → Nat → Int
  | 0, _, _ => big
  | n + 1, a, b => if a = b then big else if b < a then min (cut a) (bt up cut big n (up a) b) else min (cut b) (bt up cut big n a (up b))
/-- What the whole tree tells. -/
theorem bt_eq {N : Nat} {up : Nat → Nat} {cut : Nat → Int} {big : Int} (hf : AllF m A B wt f) (hlt : ∀ v, 0 < v → v < N → up v < v) (hcut : ∀ v, 0 < v → v < N → cut v = f v (up v)) (hbig : ∀ a b, a < N → b < N → a ≠ b → f a b ≤ big)
    (hleaf : ∀ s r, 0 < s → s < N → r < s → r ≠ up s → f s r ≤ f s (up s) ∧ f s r ≤ f (up s) r ∧ (f s (up s) ≤ f s r ∨ f (up s) r ≤ f s r)) :
    ∀ n a b, a < N → b < N → a ≠ b → a + b < n → bt up cut big n a b = f a b
  | 0, _, _, _, _, _, h => by omega
  | n + 1, a, b, ha, hb, hab, h => by
    show (if a = b then big else if b < a then min (cut a) (bt up cut big n (up a) b) else min (cut b) (bt up cut big n a (up b))) = _
    rw [if_neg hab]
    by_cases c : b < a
    · rw [if_pos c]
      have hl := hlt a (by omega) ha
      have hbg := hbig a b ha hb hab
      rw [hcut a (by omega) ha]
      by_cases e : up a = b
      · rw [e]
        have : bt up cut big n b b = big := by
          cases n with
          | zero => rfl
          | succ n => show (if b = b then big else _) = big; rw [if_pos rfl]
        rw [this]
        omega
      · rw [bt_eq hf hlt hcut hbig hleaf n (up a) b (by omega) hb e (by omega)]
        have := hleaf a b (by omega) ha c (fun h => e h.symm)
        omega
    · rw [if_neg c]
      have hl := hlt b (by omega) hb
      have hbg := hbig a b ha hb hab
      have sy := hf.symm hab
      rw [hcut b (by omega) hb]
      by_cases e : up b = a
      · rw [e]
        have : bt up cut big n a a = big := by
          cases n with
          | zero => rfl
          | succ n => show (if a = a then big else _) = big; rw [if_pos rfl]
        rw [this]
        omega
      · rw [bt_eq hf hlt hcut hbig hleaf n a (up b) ha (by omega) (fun h => e h.symm) (by omega)]
        have h1 := hleaf b a (by omega) hb (by omega) (fun h => e h.symm)
        have sy2 := hf.symm (a := a) (b := up b) (fun h => e h.symm)
        omega
end
end Go.Proofs.Ytkakmaalmhofmaa
