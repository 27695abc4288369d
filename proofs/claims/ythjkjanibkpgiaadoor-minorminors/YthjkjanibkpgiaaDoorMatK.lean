/- Matchings by masks: what the search of tryMatchings counts. -/
import Derived.Test.YthjkjanibkpgiaaDoorBitsP
import Derived.Test.YthjkjanibkpgiaaDoorTalMM
namespace Go.Proofs.YthjkjanibkpgiaaDoor
open Go
def outB (s : Nat → Bool) (v : Nat) (z : Nat) : Bool := s z && !(z == v)
theorem ctz_bits {O : Nat} (h0 : O ≠ 0) (h : O < 4294967296) : O.testBit (Lib.ctz 32 O) = true ∧ (O &&& (O - 1)).testBit = outB O.testBit (Lib.ctz 32 O) ∧ Lib.ctz 32 O < 32 := by
  obtain ⟨m, hm, hk⟩ := Lib.ctzFrom_spec 32 O (by omega) h
  have e : Lib.ctz 32 O = Lib.ctzFrom 32 O := by simp [Lib.ctz, h0]
  rw [e]
  generalize Lib.ctzFrom 32 O = c at hm hk ⊢
  have hp : 2 ^ (c + 1) = 2 ^ c + 2 ^ c := by rw [Nat.pow_succ]; omega
  have hp0 := Nat.two_pow_pos c
  have e1 : O = 2 ^ (c + 1) * m + 2 ^ c := by rw [hm, Nat.mul_add, Nat.pow_succ, Nat.mul_assoc]; omega
  have e2 : O - 1 = 2 ^ (c + 1) * m + (2 ^ c - 1) := by omega
  have b1 : ∀ z, O.testBit z = if z < c + 1 then (2 ^ c).testBit z else m.testBit (z - (c + 1)) := fun z => by
    have := Nat.testBit_two_pow_mul_add m (i := c + 1) (b := 2 ^ c) (by omega) z
    rw [← e1] at this; exact this
  have b2 : ∀ z, (O - 1).testBit z = if z < c + 1 then (2 ^ c - 1).testBit z else m.testBit (z - (c + 1)) := fun z => by
    have := Nat.testBit_two_pow_mul_add m (i := c + 1) (b := 2 ^ c - 1) (by omega) z
    rw [← e2] at this; exact this
  refine ⟨by rw [b1, if_pos (by omega)]; simp, ?_, hk⟩
  funext z
  rw [Nat.testBit_and, b1, b2]
  unfold outB
  rw [b1]
  by_cases hz : z < c + 1
  · rw [if_pos hz, if_pos hz, Nat.testBit_two_pow, Nat.testBit_two_pow_sub_one]
    by_cases hzc : z = c
    · subst hzc; simp
    · have : ¬ c = z := fun e => hzc e.symm
      simp [this]
  · rw [if_neg hz, if_neg hz]
    have b3 : (z == c) = false := by simp; omega
    simp [b3]
theorem andNot_bits {R c : Nat} (hR : R < 4294967296) (hc : c < 32) : (R &&& (4294967295 - 2 ^ c)).testBit = outB R.testBit c := by
  funext z
  have hp : 2 ^ c < 2 ^ 32 := Nat.pow_lt_pow_right (by omega) hc
  have e : 4294967295 - 2 ^ c = 2 ^ 32 - (2 ^ c + 1) := by
    have : (2 : Nat) ^ 32 = 4294967296 := rfl
    omega
  rw [Nat.testBit_and, e, Nat.testBit_two_pow_sub_succ hp, Nat.testBit_two_pow]
  unfold outB
  cases h : R.testBit z with
  | false => simp
  | true =>
    have hz : z < 32 := by
      apply Classical.byContradiction
      intro hz
      have h2 : R < 2 ^ z := Nat.lt_of_lt_of_le hR (by have : (2 : Nat) ^ 32 ≤ 2 ^ z := Nat.pow_le_pow_right (by omega) (by omega); simpa using this)
      rw [Nat.testBit_lt_two_pow h2] at h; cases h
    by_cases e : c = z
    · subst e; simp
    · have e' : ¬ z = c := fun h => e h.symm
      simp [hz, e, e']
def fac : Nat → Nat
  | 0 => 1
  | n + 1 => (n + 1) * fac n
theorem fac_pos : ∀ n, 0 < fac n
  | 0 => Nat.one_pos
  | n + 1 => Nat.mul_pos (by omega) (fac_pos n)
/-- One more of those that are summed. -/
theorem ns_step {n u : Nat} {P P' : Nat → Prop} [DecidablePred P] [DecidablePred P'] {g : Nat → Nat} (hu : u < n) (hn : ¬ P u) (h : ∀ x, x < n → (P' x ↔ P x ∨ x = u)) :
    ns n (fun x => if P' x then g x else 0) = ns n (fun x => if P x then g x else 0) + g u := by
  rw [ns_congr (g := fun x => (if P x then g x else 0) + if x = u then g x else 0) (fun x hx => ?_), ns_add, ns_one, if_pos hu]
  by_cases e : x = u
  · subst e
    rw [if_pos ((h x hx).2 (Or.inr rfl)), if_neg hn, if_pos rfl]; omega
  · rw [if_neg e]
    by_cases hp : P x
    · rw [if_pos ((h x hx).2 (Or.inl hp)), if_pos hp]; rfl
    · rw [if_neg (fun h' => by rcases (h x hx).1 h' with h | h <;> contradiction), if_neg hp]
/-- How many of the nodes below n are in a set. -/
def crd (n : Nat) (s : Nat → Bool) : Nat := ns n fun x => if s x = true then 1 else 0
theorem ns_mono {f g : Nat → Nat} : ∀ {n : Nat}, (∀ i, i < n → f i ≤ g i) → ns n f ≤ ns n g
  | 0, _ => Nat.le_refl _
  | n + 1, h => by
    have := ns_mono (n := n) (fun i hi => h i (by omega))
    have := h n (by omega)
    rw [ns, ns]; omega
theorem crd_out {n v : Nat} {s : Nat → Bool} (hv : v < n) (h : s v = true) : crd n s = crd n (outB s v) + 1 := by
  unfold crd
  refine ns_step (P := fun x => outB s v x = true) (P' := fun x => s x = true) (g := fun _ => 1) hv (by simp [outB]) fun x hx => ?_
  simp [outB]
  by_cases e : x = v
  · subst e; simp [h]
  · simp [e]
theorem crd_zero {n : Nat} {s : Nat → Bool} (h : crd n s = 0) : ∀ x, x < n → s x = false := fun x hx => by
  cases hs : s x with
  | false => rfl
  | true => rw [crd_out hx hs] at h; omega
theorem crd_le : ∀ (n : Nat) (s : Nat → Bool), crd n s ≤ n
  | 0, _ => Nat.le_refl _
  | n + 1, s => by
    have := crd_le n s
    unfold crd at this ⊢
    rw [ns]
    split <;> omega
/-- What the search tells of the nodes that are left. -/
def MtK (es : List (Nat × Nat)) (left size c : Nat) (ks : List Nat) : Prop := (∀ i, ks.count i = if size ≤ i then mC es (fun x => !left.testBit x) (i - size) else 0) ∧ ks.length ≤ fac c ∧ ∀ k ∈ ks, k ≤ size + c
theorem mC_full : ∀ (l : List (Nat × Nat)) (u : Nat → Bool) (k : Nat), (∀ e ∈ l, u e.1 = true) → mC l u k = if k = 0 then 1 else 0
  | [], _, _, _ => rfl
  | e :: l, u, k, h => by
    have h1 := h e (by simp)
    rw [mC, mC_full l u k (fun e he => h e (by simp [he]))]
    have : ∀ j, (if u e.1 = false ∧ u e.2 = false then mC l (use2 u e.1 e.2) j else 0) = 0 := fun j => if_neg (fun h' => by rw [h1] at h'; cases h'.1)
    rw [pr_congr this, pr_zero]
    rfl
theorem mtK_zero (es : List (Nat × Nat)) (size c : Nat) : MtK es 0 size c [size] := by
  refine ⟨fun i => ?_, fac_pos c, fun k hk => by simp at hk; omega⟩
  rw [mC_full _ _ _ (fun e _ => by simp), List.count_singleton]
  by_cases h : size = i
  · subst h; simp
  · have : (size == i) = false := by simpa using h
    simp only [this, Bool.false_eq_true, if_false]
    split
    · rw [if_neg (by omega)]
    · rfl
/-- Those that have been gone through. -/
def dn (n O O' : Nat) : Nat := ns n fun x => if O.testBit x = true ∧ O'.testBit x = false then 1 else 0
theorem dn_le {N O O' : Nat} : dn N O O' ≤ crd N O.testBit := ns_mono fun i _ => by
  by_cases h : O.testBit i = true
  · rw [if_pos h]; split <;> omega
  · rw [if_neg h, if_neg (fun h' => h h'.1)]; exact Nat.le_refl _
/-- What the rounds have told of. -/
def MtR (es : List (Nat × Nat)) (N l1 size c O O' : Nat) (ks : List Nat) : Prop := (∀ i, ks.count i = ns N fun x => if O.testBit x = true ∧ O'.testBit x = false then (if size + 1 ≤ i then mC es (fun y => !outB l1.testBit x y) (i - (size + 1)) else 0) else 0) ∧ ks.length ≤ dn N O O' * fac c ∧ ∀ k ∈ ks, k ≤ size + 1 + c
theorem mtR_nil (es : List (Nat × Nat)) (N l1 size c O : Nat) : MtR es N l1 size c O O [] := by
  refine ⟨fun i => ?_, Nat.zero_le _, fun k hk => by cases hk⟩
  rw [List.count_nil, ns_congr (g := fun _ => 0) (fun x _ => if_neg (fun h => by rw [h.1] at h; cases h.2)), ns_zero]
theorem dn_step {N O O1 O2 u : Nat} (hu : u < N) (hOu : O.testBit u = true) (h1 : O1.testBit u = true) (h2 : O2.testBit = outB O1.testBit u) : dn N O O2 = dn N O O1 + 1 := by
  have hP : ∀ x, x < N → ((O.testBit x = true ∧ O2.testBit x = false) ↔ (O.testBit x = true ∧ O1.testBit x = false) ∨ x = u) := fun x _ => by
    rw [h2]
    unfold outB
    by_cases e : x = u
    · subst e; simp [hOu]
    · simp [e]
  have hnP : ¬ (O.testBit u = true ∧ O1.testBit u = false) := fun h => by rw [h1] at h; cases h.2
  exact ns_step (P := fun x => O.testBit x = true ∧ O1.testBit x = false) (P' := fun x => O.testBit x = true ∧ O2.testBit x = false) (g := fun _ => 1) hu hnP hP
theorem mtR_step {es : List (Nat × Nat)} {N l1 l2 size c O O1 O2 u : Nat} {ks ks2 : List Nat} (h : MtR es N l1 size c O O1 ks) (hu : u < N) (hOu : O.testBit u = true) (h1 : O1.testBit u = true) (h2 : O2.testBit = outB O1.testBit u) (hl : l2.testBit = outB l1.testBit u) (hk : MtK es l2 (size + 1) c ks2) :
    MtR es N l1 size c O O2 (ks ++ ks2) := by
  have hP : ∀ x, x < N → ((O.testBit x = true ∧ O2.testBit x = false) ↔ (O.testBit x = true ∧ O1.testBit x = false) ∨ x = u) := fun x _ => by
    rw [h2]
    unfold outB
    by_cases e : x = u
    · subst e; simp [hOu]
    · simp [e]
  have hnP : ¬ (O.testBit u = true ∧ O1.testBit u = false) := fun h => by rw [h1] at h; cases h.2
  have hd := dn_step hu hOu h1 h2
  refine ⟨fun i => ?_, ?_, fun k hk' => ?_⟩
  · rw [List.count_append, h.1 i, hk.1 i, ns_step (P := fun x => O.testBit x = true ∧ O1.testBit x = false) (P' := fun x => O.testBit x = true ∧ O2.testBit x = false) (g := fun x => (if size + 1 ≤ i then mC es (fun y => !outB l1.testBit x y) (i - (size + 1)) else 0)) hu hnP hP, hl]
  · rw [List.length_append, hd, Nat.add_mul, Nat.one_mul]
    exact Nat.add_le_add h.2.1 hk.2.1
  · rcases List.mem_append.1 hk' with h' | h'
    · exact h.2.2 k h'
    · exact hk.2.2 k h'
/-- The least node is alone, or paired. -/
theorem mtK_all {es : List (Nat × Nat)} {N left l1 v size c O : Nat} {k0 ks : List Nat} (hS : Simp es) (hN : ∀ e ∈ es, e.1 < N ∧ e.2 < N) (hv : left.testBit v = true) (hl1 : l1.testBit = outB left.testBit v) (hO : ∀ x, O.testBit x = (l1.testBit x && adjE es v x)) (hcO : crd N O.testBit ≤ c)
    (h0 : MtK es l1 size c k0) (h : MtR es N l1 size c O 0 ks) : MtK es left size (c + 1) (k0 ++ ks) := by
  refine ⟨fun i => ?_, ?_, fun k hk => ?_⟩
  · rw [List.count_append, h0.1 i, h.1 i]
    have e1 : ∀ k, mC es (use1 (fun x => !left.testBit x) v) k = mC es (fun x => !l1.testBit x) k := fun k => mC_congr es k fun x => by
      rw [hl1]
      unfold outB
      simp [use1, Bool.not_and]
    by_cases hi : size ≤ i
    · rw [if_pos hi, if_pos hi, mC_node (N := N) es (fun x => !left.testBit x) v (i - size) hS hN (by simp [hv]), e1]
      congr 1
      cases hd : i - size with
      | zero =>
        rw [pr, ns_congr (g := fun _ => 0) (fun x _ => by rw [if_neg (show ¬ size + 1 ≤ i by omega)]; split <;> rfl), ns_zero]
      | succ d =>
        rw [pr]
        refine ns_congr fun x _ => ?_
        rw [if_pos (show size + 1 ≤ i by omega), show i - (size + 1) = d by omega]
        have hc : (O.testBit x = true ∧ (0 : Nat).testBit x = false) ↔ ((!left.testBit x) = false ∧ x ≠ v ∧ adjE es v x = true) := by
          rw [hO, hl1]
          unfold outB
          simp [and_assoc]
        by_cases hp : O.testBit x = true ∧ (0 : Nat).testBit x = false
        · rw [if_pos hp, if_pos (hc.1 hp)]
          refine mC_congr es d fun y => ?_
          rw [hl1]
          unfold outB
          simp [use2, Bool.not_and]
        · rw [if_neg hp, if_neg (fun h => hp (hc.2 h))]
    · rw [if_neg hi, if_neg hi, ns_congr (g := fun _ => 0) (fun x _ => by rw [if_neg (show ¬ size + 1 ≤ i by omega)]; split <;> rfl), ns_zero]
  · rw [List.length_append]
    have h1 := h0.2.1
    have h2 := h.2.1
    have h3 : dn N O 0 * fac c ≤ c * fac c := Nat.mul_le_mul_right _ (Nat.le_trans dn_le hcO)
    rw [fac, Nat.add_mul]
    omega
  · rcases List.mem_append.1 hk with h' | h'
    · have := h0.2.2 k h'; omega
    · have := h.2.2 k h'; omega
theorem fold_get (ks L : List Nat) (i : Nat) : (ks.foldl bump L).getD i 0 ≤ L.getD i 0 + ks.length := by
  rw [(fold_bump ks L).2]
  exact Nat.add_le_add_left List.count_le_length _
theorem fold_len {ks L : List Nat} {m : Nat} (h : L.length ≤ m) (hk : ∀ k ∈ ks, k + 1 ≤ m) : (ks.foldl bump L).length ≤ m := by
  rw [(fold_bump ks L).1]
  have := mxL_le.2 hk
  omega
end Go.Proofs.YthjkjanibkpgiaaDoor
