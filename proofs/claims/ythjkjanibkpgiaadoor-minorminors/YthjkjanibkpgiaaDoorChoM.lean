/- Choices of pieces, with their least nodes rising. -/
import Derived.Test.YthjkjanibkpgiaaDoorPtsW
namespace Go.Proofs.YthjkjanibkpgiaaDoor
abbrev lowP (p : Nat) : Nat := Lib.ctz 32 p
/-- Pieces out of what is left, each of which hangs together; the least nodes rise. -/
def Cho (tog : Nat → Bool) : (Nat → Bool) → List Nat → Prop
  | _, [] => True
  | L, p :: c => p ≠ 0 ∧ (∀ i, p.testBit i = true → L i = true) ∧ tog p = true ∧ Cho tog (fun i => L i && !p.testBit i && decide (lowP p < i)) c
theorem cho_mono {tog : Nat → Bool} : ∀ {c : List Nat} {L L' : Nat → Bool}, (∀ i, L' i = true → L i = true) → Cho tog L' c → Cho tog L c
  | [], _, _, _, _ => trivial
  | p :: c, L, L', h, ⟨h1, h2, h3, h4⟩ => ⟨h1, fun i hi => h i (h2 i hi), h3, cho_mono (fun i hi => by
      simp only [Bool.and_eq_true] at hi ⊢
      exact ⟨⟨h i hi.1.1, hi.1.2⟩, hi.2⟩) h4⟩
def cntB (L : Nat → Bool) : Nat := ((List.range 32).filter L).length
theorem filter_mono {α : Type} {p q : α → Bool} : ∀ (l : List α), (∀ x ∈ l, p x = true → q x = true) → (l.filter p).length ≤ (l.filter q).length
  | [], _ => Nat.le_refl _
  | x :: l, h => by
    have ih := filter_mono l (fun y hy => h y (by simp [hy]))
    have hx := h x (by simp)
    simp only [List.filter_cons]
    cases e : p x with
    | false => 
      simp only [Bool.false_eq_true, if_false]
      cases q x <;> simp <;> omega
    | true => 
      rw [hx e]
      simp; omega
theorem filter_strict {α : Type} {p q : α → Bool} {u : α} : ∀ (l : List α), (∀ x ∈ l, p x = true → q x = true) → u ∈ l → p u = false → q u = true → (l.filter p).length + 1 ≤ (l.filter q).length
  | [], _, hu, _, _ => by cases hu
  | x :: l, h, hu, hp, hq => by
    have hx := h x (by simp)
    have hm := filter_mono l (fun y hy => h y (by simp [hy]))
    simp only [List.filter_cons]
    rcases List.mem_cons.1 hu with rfl | hu
    · rw [hp, hq]
      simp; omega
    · have ih := filter_strict l (fun y hy => h y (by simp [hy])) hu hp hq
      cases e : p x with
      | false =>
        simp only [Bool.false_eq_true, if_false]
        cases q x <;> simp <;> omega
      | true =>
        rw [hx e]
        simp; omega
theorem cntB_mono {L L' : Nat → Bool} (h : ∀ i, L' i = true → L i = true) : cntB L' ≤ cntB L := filter_mono _ fun i _ => h i
theorem cntB_strict {L L' : Nat → Bool} {u : Nat} (h : ∀ i, L' i = true → L i = true) (hu : u < 32) (h1 : L' u = false) (h2 : L u = true) : cntB L' + 1 ≤ cntB L := filter_strict _ (fun i _ => h i) (List.mem_range.2 hu) h1 h2
theorem cntB_bl (s : Nat) : cntB s.testBit = (bl s).length := rfl
theorem cho_len {tog : Nat → Bool} : ∀ {c : List Nat} {L : Nat → Bool}, (∀ i, L i = true → i < 32) → (∀ p ∈ c, p < 4294967296) → Cho tog L c → c.length ≤ cntB L
  | [], _, _, _, _ => Nat.zero_le _
  | p :: c, L, hL, hp, ⟨h1, h2, h3, h4⟩ => by
    obtain ⟨d1, _, d3⟩ := ctz_bits h1 (hp p (by simp))
    have ih := cho_len (fun i hi => by
      simp only [Bool.and_eq_true] at hi
      exact hL i hi.1.1) (fun q hq => hp q (by simp [hq])) h4
    have := cntB_strict (L := L) (L' := fun i => L i && !p.testBit i && decide (lowP p < i)) (u := lowP p) (fun i hi => by
      simp only [Bool.and_eq_true] at hi
      exact hi.1.1) d3 (by simp) (h2 _ d1)
    simp only [List.length_cons]
    omega
theorem cho_lt {tog : Nat → Bool} {N : Nat} : ∀ {c : List Nat} {L : Nat → Bool}, (∀ i, L i = true → i < N) → Cho tog L c → ∀ p ∈ c, p < 2 ^ N
  | [], _, _, _, p, hp => by cases hp
  | p :: c, L, hL, ⟨h1, h2, h3, h4⟩, q, hq => by
    rcases List.mem_cons.1 hq with rfl | hq
    · apply Nat.lt_pow_two_of_testBit
      intro i hi
      cases e : q.testBit i with
      | false => rfl
      | true => have := hL i (h2 i e); omega
    · exact cho_lt (fun i hi => by
        simp only [Bool.and_eq_true] at hi
        exact hL i hi.1.1) h4 q hq
theorem low_is {p u : Nat} (hp : p < 4294967296) (h1 : p.testBit u = true) (h2 : ∀ x, x < u → p.testBit x = false) : lowP p = u := by
  have h0 : p ≠ 0 := fun e => by subst e; simp at h1
  obtain ⟨d1, _, d3⟩ := ctz_bits h0 hp
  have d4 := ctz_low h0 hp
  rcases Nat.lt_trichotomy (lowP p) u with h | h | h
  · have := h2 _ h; rw [d1] at this; cases this
  · exact h
  · have := d4 u h; rw [h1] at this; cases this
section
variable {tog : Nat → Bool} {left L2 u : Nat}
/-- A piece with the least node. -/
theorem low_or (hu : u < 32) (h2 : L2.testBit = outB left.testBit u) (h4 : ∀ x, x < u → left.testBit x = false) {o : Nat} (ho : ∀ i, o.testBit i = true → L2.testBit i = true) (hol : o < 4294967296) : lowP (2 ^ u ||| o) = u := by
  refine low_is (Nat.or_lt_two_pow (n := 32) (Nat.pow_lt_pow_right (by decide) hu) hol) (by rw [Nat.testBit_or, Nat.testBit_two_pow]; simp) (fun x hx => ?_)
  rw [Nat.testBit_or, Nat.testBit_two_pow]
  have hne : ¬ u = x := by omega
  simp only [hne, decide_false, Bool.false_or]
  cases e : o.testBit x with
  | false => rfl
  | true =>
    have := ho x e
    rw [h2] at this
    unfold outB at this
    rw [h4 x hx] at this
    cases this
theorem cho_with (hu : u < 32) (h1 : left.testBit u = true) (h2 : L2.testBit = outB left.testBit u) (h4 : ∀ x, x < u → left.testBit x = false) {o : Nat} (ho : ∀ i, o.testBit i = true → L2.testBit i = true) (hol : o < 4294967296) (ht : tog (2 ^ u ||| o) = true) {L3 : Nat} (h3 : ∀ i, L3.testBit i = (L2.testBit i && !o.testBit i)) {c : List Nat} (hc : Cho tog L3.testBit c) : Cho tog left.testBit ((2 ^ u ||| o) :: c) := by
  refine ⟨fun e => ?_, fun i hi => ?_, ht, cho_mono (fun i hi => ?_) hc⟩
  · have : (2 ^ u ||| o).testBit u = true := by rw [Nat.testBit_or, Nat.testBit_two_pow]; simp
    rw [e] at this; simp at this
  · rw [Nat.testBit_or, Nat.testBit_two_pow] at hi
    by_cases e : u = i
    · subst e; exact h1
    · simp only [e, decide_false, Bool.false_or] at hi
      have := ho i hi
      rw [h2] at this
      unfold outB at this
      rw [Bool.and_eq_true] at this
      exact this.1
  · rw [h3, h2] at hi
    unfold outB at hi
    simp only [Bool.and_eq_true] at hi
    obtain ⟨⟨a1, a2⟩, a3⟩ := hi
    have hne : i ≠ u := by simpa using a2
    have hlt : u < i := by
      apply Classical.byContradiction
      intro hc'
      have := h4 i (by omega)
      rw [a1] at this; cases this
    have hne' : ¬ u = i := by omega
    simp only [Bool.and_eq_true]
    refine ⟨⟨a1, ?_⟩, ?_⟩
    · rw [Nat.testBit_or, Nat.testBit_two_pow]
      simp only [hne', decide_false, Bool.false_or]
      exact a3
    · rw [low_or hu h2 h4 ho hol]
      simpa using hlt
theorem cho_out (h2 : L2.testBit = outB left.testBit u) {c : List Nat} (hc : Cho tog L2.testBit c) : Cho tog left.testBit c := cho_mono (fun i hi => by
  rw [h2] at hi
  unfold outB at hi
  rw [Bool.and_eq_true] at hi
  exact hi.1) hc
theorem cho_split (hu : u < 32) (hl : left < 1024) (h2 : L2.testBit = outB left.testBit u) (h4 : ∀ x, x < u → left.testBit x = false) {p : Nat} {c : List Nat} (hc : Cho tog left.testBit (p :: c)) :
    Cho tog L2.testBit (p :: c) ∨ ∃ o, p = 2 ^ u ||| o ∧ (∀ i, o.testBit i = true → L2.testBit i = true) ∧ tog (2 ^ u ||| o) = true ∧ ∀ L3 : Nat, (∀ i, L3.testBit i = (L2.testBit i && !o.testBit i)) → Cho tog L3.testBit c := by
  obtain ⟨k1, k2, k3, k4⟩ := hc
  have hpl : p < 1024 := by
    show p < 2 ^ 10
    apply Nat.lt_pow_two_of_testBit
    intro i hi
    cases e : p.testBit i with
    | false => rfl
    | true =>
      have := k2 i e
      rw [Nat.testBit_lt_two_pow (Nat.lt_of_lt_of_le hl (show (2 : Nat) ^ 10 ≤ 2 ^ i from Nat.pow_le_pow_right (by decide) hi))] at this
      cases this
  obtain ⟨d1, _, d3⟩ := ctz_bits k1 (show p < 4294967296 by omega)
  have d4 := ctz_low k1 (show p < 4294967296 by omega)
  by_cases hpu : p.testBit u = true
  · refine Or.inr ⟨p &&& (4294967295 - 2 ^ u), ?_, fun i hi => ?_, ?_, fun L3 h3 => cho_mono (fun i hi => ?_) k4⟩
    · apply Nat.eq_of_testBit_eq
      intro i
      rw [Nat.testBit_or, Nat.testBit_two_pow, andNot_bits (by omega) hu]
      unfold outB
      by_cases e : u = i
      · subst e; simp [hpu]
      · have e' : ¬ i = u := fun h => e h.symm
        simp [e, e']
    · rw [andNot_bits (by omega) hu] at hi
      unfold outB at hi
      rw [Bool.and_eq_true] at hi
      rw [h2]
      unfold outB
      rw [k2 i hi.1, hi.2]
      rfl
    · have : (2 ^ u ||| (p &&& (4294967295 - 2 ^ u))) = p := by
        apply Nat.eq_of_testBit_eq
        intro i
        rw [Nat.testBit_or, Nat.testBit_two_pow, andNot_bits (by omega) hu]
        unfold outB
        by_cases e : u = i
        · subst e; simp [hpu]
        · have e' : ¬ i = u := fun h => e h.symm
          simp [e, e']
      rw [this]; exact k3
    · simp only [Bool.and_eq_true] at hi
      obtain ⟨⟨a1, a2⟩, a3⟩ := hi
      have hlu : lowP p = u := low_is (by omega) hpu (fun x hx => by
        cases e : p.testBit x with
        | false => rfl
        | true => have := h4 x hx; rw [k2 x e] at this; cases this)
      have hui : u < i := by rw [hlu] at a3; simpa using a3
      have e' : ¬ i = u := by omega
      rw [h3, h2, andNot_bits (by omega) hu]
      unfold outB
      rw [a1]
      simp only [Bool.not_eq_true'] at a2
      rw [a2]
      simp [e']
  · have hpu' : p.testBit u = false := by simpa using hpu
    refine Or.inl ⟨k1, fun i hi => ?_, k3, cho_mono (fun i hi => ?_) k4⟩
    · rw [h2]
      unfold outB
      rw [k2 i hi]
      have : ¬ i = u := fun e => by subst e; rw [hi] at hpu'; cases hpu'
      simp [this]
    · simp only [Bool.and_eq_true] at hi ⊢
      obtain ⟨⟨a1, a2⟩, a3⟩ := hi
      refine ⟨⟨?_, a2⟩, a3⟩
      rw [h2]
      unfold outB
      rw [a1]
      have hlu : u < lowP p := by
        rcases Nat.lt_trichotomy (lowP p) u with h | h | h
        · have := h4 _ h; rw [k2 _ d1] at this; cases this
        · rw [← h, d1] at hpu'; cases hpu'
        · exact h
      have hli : lowP p < i := by simpa using a3
      have : ¬ i = u := by omega
      simp [this]
end
/-- A row of sets. -/
def uv (Q : List Nat) : List Value := Q.map fun (x : Nat) => Value.int .u32 (x : Int)
end Go.Proofs.YthjkjanibkpgiaaDoor
