/- Ways: what can be reached. Plain mathematics. -/
import Derived.Below
namespace Go.Proofs.Ytmeodnkmhakidaa

def Steps (e : Nat → Nat → Prop) : Nat → Nat → Nat → Prop
  | 0, a, b => a = b
  | n + 1, a, c => ∃ b, Steps e n a b ∧ e b c
/-- A way leads from a to b. -/
def Star (e : Nat → Nat → Prop) (a b : Nat) : Prop := ∃ n, Steps e n a b
theorem Star.refl {e : Nat → Nat → Prop} (a : Nat) : Star e a a := ⟨0, rfl⟩
theorem Star.step {e : Nat → Nat → Prop} {a b c : Nat} (h : Star e a b) (h2 : e b c) : Star e a c := by
  obtain ⟨n, hn⟩ := h
  exact ⟨n + 1, b, hn, h2⟩
theorem Star.ind {e : Nat → Nat → Prop} {a : Nat} {P : Nat → Prop} (h0 : P a) (hs : ∀ b c, Star e a b → e b c → P b → P c) {b : Nat} (h : Star e a b) : P b := by
  obtain ⟨n, hn⟩ := h
  induction n generalizing b with
  | zero => exact (show a = b from hn) ▸ h0
  | succ n ih =>
    obtain ⟨c, hc, hcb⟩ := hn
    exact hs c b ⟨n, hc⟩ hcb (ih hc)

theorem Star.one {e : Nat → Nat → Prop} {a b : Nat} (h : e a b) : Star e a b := .step (.refl a) h
theorem Star.trans {e : Nat → Nat → Prop} {a b c : Nat} (h : Star e a b) (h2 : Star e b c) : Star e a c :=
  Star.ind (P := fun c => Star e a c) h (fun _ _ _ hs ih => .step ih hs) h2
theorem Star.head {e : Nat → Nat → Prop} {a b c : Nat} (h : e a b) (h2 : Star e b c) : Star e a c := (Star.one h).trans h2
theorem Star.mono {e f : Nat → Nat → Prop} (hm : ∀ a b, e a b → f a b) {a b : Nat} (h : Star e a b) : Star f a b :=
  Star.ind (P := fun b => Star f a b) (.refl _) (fun _ _ _ hs ih => .step ih (hm _ _ hs)) h
theorem Star.closed {e : Nat → Nat → Prop} {P : Nat → Prop} (hc : ∀ a b, P a → e a b → P b) {a b : Nat} (h : Star e a b) (ha : P a) : P b :=
  Star.ind (P := P) ha (fun _ _ _ hs ih => hc _ _ ih hs) h
/-- Within a closed set a way may use what holds there. -/
theorem Star.within {e f : Nat → Nat → Prop} {P : Nat → Prop} (hc : ∀ a b, P a → e a b → P b ∧ f a b) {a b : Nat} (h : Star e a b) (ha : P a) : P b ∧ Star f a b :=
  Star.ind (P := fun b => P b ∧ Star f a b) ⟨ha, .refl _⟩ (fun _ _ _ hs ih => ⟨(hc _ _ ih.1 hs).1, .step ih.2 (hc _ _ ih.1 hs).2⟩) h
theorem Star.symm {e : Nat → Nat → Prop} (hs : ∀ a b, e a b → e b a) {a b : Nat} (h : Star e a b) : Star e b a :=
  Star.ind (P := fun b => Star e b a) (.refl _) (fun _ _ _ h1 ih => Star.head (hs _ _ h1) ih) h
/-- A way whose nodes, but for the first, keep to L: backwards it does so if its first node keeps to L. -/
theorem Star.back {e : Nat → Nat → Prop} {L : Nat → Prop} (hs : ∀ a b, e a b → e b a) {a b : Nat} (h : Star (fun x y => e x y ∧ L y) a b) (ha : L a) : Star (fun x y => e x y ∧ L y) b a ∧ L b :=
  Star.ind (P := fun b => Star (fun x y => e x y ∧ L y) b a ∧ L b) ⟨.refl _, ha⟩ (fun _ _ _ h1 ih => ⟨Star.head ⟨hs _ _ h1.1, ih.2⟩ ih.1, h1.2⟩) h
theorem Star.iff {e f : Nat → Nat → Prop} (hm : ∀ a b, e a b ↔ f a b) (a b : Nat) : Star e a b ↔ Star f a b := ⟨Star.mono fun a b h => (hm a b).1 h, Star.mono fun a b h => (hm a b).2 h⟩

theorem ex2 (P : Nat → Nat → Prop) : ∃ R : Nat → Nat → Bool, ∀ v w, R v w = true ↔ P v w := by
  classical exact ⟨fun v w => decide (P v w), by simp⟩
theorem ex3 (P : Nat → Nat → Nat → Prop) : ∃ R : Nat → Nat → Nat → Bool, ∀ x v w, R x v w = true ↔ P x v w := by
  classical exact ⟨fun x v w => decide (P x v w), by simp⟩

/-- v is the least of its class, of those in L. -/
def firstB (L : Nat → Bool) (R : Nat → Nat → Bool) (v : Nat) : Bool := L v && (List.range v).all fun u => !(L u && R u v)
def classL (n : Nat) (R : Nat → Nat → Bool) (v : Nat) : List Nat := (List.range n).filter (R v)
/-- What hangs together, up to k. -/
def piecesTo (n : Nat) (L : Nat → Bool) (R : Nat → Nat → Bool) (k : Nat) : List (List Nat) := ((List.range k).filter (firstB L R)).map (classL n R)
def piecesS (n : Nat) (L : Nat → Bool) (R : Nat → Nat → Bool) : List (List Nat) := piecesTo n L R n
theorem piecesTo_succ (n : Nat) (L : Nat → Bool) (R : Nat → Nat → Bool) (k : Nat) : piecesTo n L R (k + 1) = piecesTo n L R k ++ (if firstB L R k = true then [classL n R k] else []) := by
  unfold piecesTo
  rw [List.range_succ, List.filter_append, List.map_append]
  congr 1
  by_cases h : firstB L R k = true
  · rw [if_pos h]; simp [h]
  · rw [if_neg h]; simp [h]
theorem firstB_iff {L : Nat → Bool} {R : Nat → Nat → Bool} {v : Nat} : firstB L R v = true ↔ L v = true ∧ ∀ u, u < v → L u = true → R u v = false := by
  simp [firstB]
  intro _
  constructor
  · intro h u hu hl
    rcases h u hu with h | h
    · rw [hl] at h; cases h
    · exact h
  · intro h u hu
    cases hl : L u
    · exact Or.inl rfl
    · exact Or.inr (h u hu hl)

/-- Each node has a least one in its class. -/
theorem least_ex {P : Nat → Prop} : ∀ {v : Nat}, P v → ∃ u, u ≤ v ∧ P u ∧ ∀ x, x < u → ¬ P x := by
  intro v
  induction v using Nat.strongRecOn with
  | _ v ih =>
    intro hv
    by_cases h : ∃ u, u < v ∧ P u
    · obtain ⟨u, hu, hp⟩ := h
      obtain ⟨x, hx, h1, h2⟩ := ih u hu hp
      exact ⟨x, by omega, h1, h2⟩
    · exact ⟨v, Nat.le_refl _, hv, fun x hx hp => h ⟨x, hx, hp⟩⟩

/-- How many classes there are. -/
def partsN (n : Nat) (L : Nat → Bool) (R : Nat → Nat → Bool) : Nat := ((List.range n).filter (firstB L R)).length

theorem filter_lt {l : List Nat} {p q : Nat → Bool} (h : ∀ x ∈ l, p x = true → q x = true) {y : Nat} (hy : y ∈ l) (hp : p y = false) (hq : q y = true) : (l.filter p).length < (l.filter q).length := by
  induction l with
  | nil => cases hy
  | cons a l ih =>
    have hle : ∀ l' : List Nat, (∀ x ∈ l', p x = true → q x = true) → (l'.filter p).length ≤ (l'.filter q).length := by
      intro l'
      induction l' with
      | nil => intro _; simp
      | cons b l' ih' =>
        intro h'
        have := ih' (fun x hx => h' x (by simp [hx]))
        have hb := h' b (by simp)
        simp only [List.filter_cons]
        split
        · rename_i h1; rw [if_pos (hb h1)]; simp; omega
        · split <;> simp <;> omega
    have hle' := hle l (fun x hx => h x (by simp [hx]))
    simp only [List.filter_cons]
    rcases List.mem_cons.1 hy with rfl | hy
    · rw [hp, hq]; simp; omega
    · have := ih (fun x hx => h x (by simp [hx])) hy
      have ha := h a (by simp)
      split
      · rename_i h1; rw [if_pos (ha h1)]; simp; omega
      · split <;> simp <;> omega
theorem filter_le {l : List Nat} {p q : Nat → Bool} (h : ∀ x ∈ l, p x = true → q x = true) : (l.filter p).length ≤ (l.filter q).length := by
  induction l with
  | nil => simp
  | cons b l ih' =>
    have := ih' (fun x hx => h x (by simp [hx]))
    have hb := h b (by simp)
    simp only [List.filter_cons]
    split
    · rename_i h1; rw [if_pos (hb h1)]; simp; omega
    · split <;> simp <;> omega
end Go.Proofs.Ytmeodnkmhakidaa
