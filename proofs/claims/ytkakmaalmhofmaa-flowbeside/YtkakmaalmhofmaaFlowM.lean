/- Flows in pipes that come in twos, as plain mathematics: what is sent, what stays, what a search that has ended shows. -/
import Derived.WalkKit
namespace Go.Proofs.Ytkakmaalmhofmaa

def sumN (f : Nat → Int) : Nat → Int
  | 0 => 0
  | n + 1 => sumN f n + f n
theorem sumN_congr {f g : Nat → Int} : ∀ {n : Nat}, (∀ k, k < n → f k = g k) → sumN f n = sumN g n
  | 0, _ => rfl
  | n + 1, h => by
    show sumN f n + f n = sumN g n + g n
    rw [sumN_congr (fun k hk => h k (by omega)), h n (by omega)]
theorem sumN_add (f g : Nat → Int) : ∀ n, sumN (fun k => f k + g k) n = sumN f n + sumN g n
  | 0 => rfl
  | n + 1 => by
    show sumN (fun k => f k + g k) n + (f n + g n) = sumN f n + f n + (sumN g n + g n)
    rw [sumN_add f g n]; omega
theorem sumN_sub (f g : Nat → Int) : ∀ n, sumN (fun k => f k - g k) n = sumN f n - sumN g n
  | 0 => rfl
  | n + 1 => by
    show sumN (fun k => f k - g k) n + (f n - g n) = sumN f n + f n - (sumN g n + g n)
    rw [sumN_sub f g n]; omega
theorem sumN_zero : ∀ n, sumN (fun _ => 0) n = 0
  | 0 => rfl
  | n + 1 => by
    show sumN _ n + 0 = 0
    rw [sumN_zero n]; rfl
theorem sumN_one (p : Nat) (d : Int) : ∀ n, sumN (fun k => if k = p then d else 0) n = if p < n then d else 0
  | 0 => rfl
  | n + 1 => by
    show sumN (fun k => if k = p then d else 0) n + (if n = p then d else 0) = _
    rw [sumN_one p d n]
    by_cases h1 : p < n
    · rw [if_pos h1, if_neg (by omega : ¬ n = p), if_pos (by omega)]; omega
    · by_cases h2 : n = p
      · rw [if_neg h1, if_pos h2, if_pos (by omega)]; omega
      · rw [if_neg h1, if_neg h2, if_neg (by omega)]; rfl
theorem sumN_pos {f : Nat → Int} : ∀ {n : Nat}, (∀ k, k < n → 0 ≤ f k) → 0 ≤ sumN f n
  | 0, _ => Int.le_refl _
  | n + 1, h => by
    have h1 := sumN_pos (f := f) (n := n) (fun k hk => h k (by omega))
    have h2 := h n (by omega)
    show 0 ≤ sumN f n + f n
    omega
theorem sumN_le {f : Nat → Int} {K : Int} : ∀ {n : Nat}, (∀ k, k < n → f k ≤ K) → sumN f n ≤ K * n
  | 0, _ => by simp [sumN]
  | n + 1, h => by
    have h1 := sumN_le (f := f) (K := K) (n := n) (fun k hk => h k (by omega))
    have h2 := h n (by omega)
    show sumN f n + f n ≤ K * ((n + 1 : Nat) : Int)
    have : K * ((n + 1 : Nat) : Int) = K * n + K := by rw [Int.natCast_add]; simp [Int.mul_add]
    omega
theorem sumN_two (f : Nat → Int) : ∀ m, sumN f (2 * m) = sumN (fun a => f (2 * a) + f (2 * a + 1)) m
  | 0 => rfl
  | m + 1 => by
    have e : 2 * (m + 1) = 2 * m + 1 + 1 := by omega
    rw [e]
    show sumN f (2 * m) + f (2 * m) + f (2 * m + 1) = sumN (fun a => f (2 * a) + f (2 * a + 1)) m + (f (2 * m) + f (2 * m + 1))
    rw [sumN_two f m]; omega

/-- The twin of a pipe. -/
def tw (p : Nat) : Nat := if p % 2 = 0 then p + 1 else p - 1
theorem tw_tw (p : Nat) : tw (tw p) = p := by unfold tw; split <;> split <;> omega
theorem tw_ne (p : Nat) : tw p ≠ p := by unfold tw; split <;> omega
theorem tw_lt {p M : Nat} (hM : M % 2 = 0) (h : p < M) : tw p < M := by unfold tw; split <;> omega
theorem tw_even (a : Nat) : tw (2 * a) = 2 * a + 1 := by unfold tw; rw [if_pos (by omega)]
theorem tw_odd (a : Nat) : tw (2 * a + 1) = 2 * a := by unfold tw; rw [if_neg (by omega)]; omega

/-- The room of all pipes that leave nodes of a set. -/
def outR (M : Nat) (T : Nat → Nat) (R : Nat → Int) (S : Nat → Bool) : Int := sumN (fun p => if S (T (tw p)) = true then R p else 0) M
def mv (R : Nat → Int) (p : Nat) (d : Int) : Nat → Int := fun q => if q = p then R p - d else if q = tw p then R (tw p) + d else R q
theorem mv_at (R : Nat → Int) (p : Nat) (d : Int) : mv R p d p = R p - d := by unfold mv; rw [if_pos rfl]
theorem mv_tw (R : Nat → Int) (p : Nat) (d : Int) : mv R p d (tw p) = R (tw p) + d := by unfold mv; rw [if_neg (tw_ne p), if_pos rfl]
theorem mv_far (R : Nat → Int) {p q : Nat} (d : Int) (h1 : q ≠ p) (h2 : q ≠ tw p) : mv R p d q = R q := by unfold mv; rw [if_neg h1, if_neg h2]
theorem mv_two (R : Nat → Int) (p q : Nat) (d : Int) : mv R p d q + mv R p d (tw q) = R q + R (tw q) := by
  by_cases h1 : q = p
  · subst h1; rw [mv_at, mv_tw]; omega
  · by_cases h2 : q = tw p
    · subst h2; rw [tw_tw, mv_at, mv_tw]; omega
    · rw [mv_far R d h1 h2, mv_far R d (fun e => h2 (by rw [← e, tw_tw])) (fun e => h1 (by have := congrArg tw e; rwa [tw_tw, tw_tw] at this))]
theorem outR_mv {M : Nat} (T : Nat → Nat) (R : Nat → Int) {p : Nat} (d : Int) (S : Nat → Bool) (hp : p < M) (hq : tw p < M) :
    outR M T (mv R p d) S = outR M T R S - (if S (T (tw p)) = true then d else 0) + (if S (T p) = true then d else 0) := by
  unfold outR
  have e : ∀ k, k < M → (if S (T (tw k)) = true then mv R p d k else 0) = ((if S (T (tw k)) = true then R k else 0) + (if k = p then -(if S (T (tw p)) = true then d else 0) else 0)) + (if k = tw p then (if S (T p) = true then d else 0) else 0) := fun k _ => by
    by_cases h1 : k = p
    · subst h1
      rw [mv_at, if_pos (rfl : k = k), if_neg (fun h : k = tw k => tw_ne k h.symm)]
      split <;> omega
    · by_cases h2 : k = tw p
      · subst h2
        rw [mv_tw, tw_tw, if_neg h1, if_pos rfl]
        split <;> omega
      · rw [mv_far R d h1 h2, if_neg h1, if_neg h2]; omega
  rw [sumN_congr e, sumN_add, sumN_add, sumN_one, sumN_one, if_pos hp, if_pos hq]
  omega

/-- Pipes: of each node those that leave it. -/
structure Net (N M : Nat) (T : Nat → Nat) (ls : Nat → List Nat) : Prop where
  even : M % 2 = 0
  lt : ∀ p, p < M → T p < N
  mem : ∀ v p, v < N → (p ∈ ls v ↔ p < M ∧ T (tw p) = v)
  len : ∀ v, v < N → (ls v).length ≤ 1000000
  many : M ≤ 1000000

/-- From R to R' as much as x has gone from v to t. -/
structure Mv (M : Nat) (T : Nat → Nat) (t v : Nat) (x : Int) (R R' : Nat → Int) : Prop where
  pos : ∀ p, p < M → 0 ≤ R' p
  pair : ∀ p, p < M → R' p + R' (tw p) = R p + R (tw p)
  net : ∀ S, outR M T R' S = outR M T R S - (if S v = true then x else 0) + (if S t = true then x else 0)
theorem Mv.refl {M : Nat} {T : Nat → Nat} {R : Nat → Int} (t v : Nat) (h : ∀ p, p < M → 0 ≤ R p) : Mv M T t v 0 R R := ⟨h, fun _ _ => rfl, fun S => by split <;> split <;> omega⟩
theorem Mv.same {M : Nat} {T : Nat → Nat} {R : Nat → Int} (t : Nat) (x : Int) (h : ∀ p, p < M → 0 ≤ R p) : Mv M T t t x R R := ⟨h, fun _ _ => rfl, fun S => by split <;> omega⟩
theorem Mv.trans {M : Nat} {T : Nat → Nat} {t v : Nat} {x y : Int} {R R1 R2 : Nat → Int} (h1 : Mv M T t v x R R1) (h2 : Mv M T t v y R1 R2) : Mv M T t v (x + y) R R2 :=
  ⟨h2.pos, fun p hp => (h2.pair p hp).trans (h1.pair p hp), fun S => by
    rw [h2.net S, h1.net S]
    split <;> split <;> omega⟩
theorem Mv.le {M : Nat} {T : Nat → Nat} {t v : Nat} {x : Int} {R R' : Nat → Int} (h : Mv M T t v x R R') (hvt : v ≠ t) (K : Int) (hK0 : 0 ≤ K) (hK : ∀ p, p < M → R p ≤ K) : x ≤ K * M := by
  have h1 := h.net (fun y => y == v)
  have h2 : 0 ≤ outR M T R' (fun y => y == v) := sumN_pos (fun k hk => by
    have := h.pos k hk
    split <;> omega)
  have h3 : outR M T R (fun y => y == v) ≤ K * M := sumN_le (fun k hk => by
    have := hK k hk
    split <;> omega)
  rw [if_pos (by simp), if_neg (by simp; exact fun e => hvt e.symm)] at h1
  omega

def Dead (T : Nat → Nat) (ls : Nat → List Nat) (F : Nat → Int) (t : Nat) (R : Nat → Int) (fu : Nat → Nat) (p y : Nat) : Prop := R p = 0 ∨ F (T p) ≠ F y + 1 ∨ (T p ≠ t ∧ fu (T p) = (ls (T p)).length)

/-- Of each node the first fu of its pipes lead to t no longer. -/
structure Inv (N : Nat) (T : Nat → Nat) (ls : Nat → List Nat) (F : Nat → Int) (t : Nat) (R : Nat → Int) (fu : Nat → Nat) : Prop where
  le : ∀ y, y < N → fu y ≤ (ls y).length
  dead : ∀ y i p, y < N → i < fu y → (ls y)[i]? = some p → Dead T ls F t R fu p y

/-- What push leaves: it began with R and fu. -/
structure Sent (N M : Nat) (T : Nat → Nat) (ls : Nat → List Nat) (F : Nat → Int) (t v : Nat) (x : Int) (R : Nat → Int) (fu : Nat → Nat) (R' : Nat → Int) (fu' : Nat → Nat) : Prop where
  go : Mv M T t v x R R'
  inv : Inv N T ls F t R' fu'
  keep : ∀ p, p < M → F (T (tw p)) < F v → R' p = R p ∧ R' (tw p) = R (tw p)
  down : ∀ p, p < M → F (T p) = F (T (tw p)) + 1 → R' p ≤ R p
  zero : x = 0 → ∀ p, p < M → R' p = R p
  ful : ∀ y, F y < F v → fu' y = fu y

def bump (fu : Nat → Nat) (v : Nat) : Nat → Nat := fun y => if y = v then fu v + 1 else fu y
theorem bump_at (fu : Nat → Nat) (v : Nat) : bump fu v v = fu v + 1 := by unfold bump; rw [if_pos rfl]
theorem bump_far (fu : Nat → Nat) {v y : Nat} (h : y ≠ v) : bump fu v y = fu y := by unfold bump; rw [if_neg h]

section
variable {N M : Nat} {T : Nat → Nat} {ls : Nat → List Nat} {F : Nat → Int} {t v : Nat} {R R1 R2 : Nat → Int} {fu fu1 fu2 : Nat → Nat} {x y : Int} {p : Nat}

theorem Sent.start (hR : ∀ p, p < M → 0 ≤ R p) (hi : Inv N T ls F t R fu) : Sent N M T ls F t v 0 R fu R fu :=
  ⟨Mv.refl t v hR, hi, fun _ _ _ => ⟨rfl, rfl⟩, fun _ _ _ => Int.le_refl _, fun _ _ _ => rfl, fun _ _ => rfl⟩
theorem Sent.there (hR : ∀ p, p < M → 0 ≤ R p) (hi : Inv N T ls F t R fu) (x : Int) : Sent N M T ls F t t x R fu R fu :=
  ⟨Mv.same t x hR, hi, fun _ _ _ => ⟨rfl, rfl⟩, fun _ _ _ => Int.le_refl _, fun _ _ _ => rfl, fun _ _ => rfl⟩

theorem Sent.skip (h : Sent N M T ls F t v x R fu R1 fu1) (hp : (ls v)[fu1 v]? = some p) (hd : Dead T ls F t R1 fu1 p v) : Sent N M T ls F t v x R fu R1 (bump fu1 v) := by
  have hl := (List.getElem?_eq_some_iff.1 hp).1
  have up : ∀ {q y}, Dead T ls F t R1 fu1 q y → Dead T ls F t R1 (bump fu1 v) q y := fun {q y} hd => by
    rcases hd with h1 | h1 | ⟨h1, h2⟩
    · exact Or.inl h1
    · exact Or.inr (Or.inl h1)
    · refine Or.inr (Or.inr ⟨h1, ?_⟩)
      rw [bump_far]
      · exact h2
      · intro e
        rw [e] at h2
        omega
  refine ⟨h.go, ⟨fun y hy => ?_, fun y i q hy hi hq => ?_⟩, h.keep, h.down, h.zero, fun y hy => ?_⟩
  · by_cases e : y = v
    · subst e; rw [bump_at]; omega
    · rw [bump_far _ e]; exact h.inv.le y hy
  · by_cases e : y = v
    · subst e
      rw [bump_at] at hi
      by_cases e2 : i = fu1 y
      · subst e2
        rw [hp] at hq
        cases hq
        exact up hd
      · exact up (h.inv.dead y i q hy (by omega) hq)
    · rw [bump_far _ e] at hi
      exact up (h.inv.dead y i q hy hi hq)
  · rw [bump_far _ (fun e => by rw [e] at hy; omega)]
    exact h.ful y hy

theorem Sent.push (hn : Net N M T ls) (hv : v < N) (h : Sent N M T ls F t v x R fu R1 fu1) (hx : 0 ≤ x) (hp : (ls v)[fu1 v]? = some p) (hF : F (T p) = F v + 1)
    (h2 : Sent N M T ls F t (T p) y R1 fu1 R2 fu2) (hy : 0 ≤ y) (hy2 : y ≤ R1 p) :
    Sent N M T ls F t v (x + y) R fu (mv R2 p y) fu2 ∧ fu2 v = fu1 v ∧ R2 p = R1 p ∧ R2 (tw p) = R1 (tw p) := by
  have hmem := (hn.mem v p hv).1 (List.mem_of_getElem? hp)
  have hq := tw_lt hn.even hmem.1
  have hk := h2.keep p hmem.1 (by rw [hmem.2, hF]; omega)
  refine ⟨⟨?_, ⟨h2.inv.le, fun z i q hz hi hq' => ?_⟩, fun q hq' hlt => ?_, fun q hq' hlev => ?_, fun h0 q hq' => ?_, fun z hz => ?_⟩, h2.ful v (by omega), hk.1, hk.2⟩
  · have m1 := h.go
    have m2 := h2.go
    refine ⟨fun q hq' => ?_, fun q hq' => ?_, fun S => ?_⟩
    · have g1 := m2.pos q hq'
      by_cases e1 : q = p
      · subst e1; rw [mv_at, hk.1]; omega
      · by_cases e2 : q = tw p
        · subst e2; rw [mv_tw]; omega
        · rw [mv_far _ _ e1 e2]; exact g1
    · rw [mv_two, m2.pair q hq', m1.pair q hq']
    · rw [outR_mv T R2 y S hmem.1 hq, m2.net S, m1.net S, hmem.2]
      split <;> split <;> split <;> omega
  · have hd := h2.inv.dead z i q hz hi hq'
    have hm2 := (hn.mem z q hz).1 (List.mem_of_getElem? hq')
    rcases hd with h1 | h1 | h1
    · by_cases e1 : q = p
      · subst e1
        left
        rw [mv_at]
        rw [hk.1] at h1 ⊢
        omega
      · by_cases e2 : q = tw p
        · subst e2
          right; left
          rw [tw_tw] at hm2
          rw [hmem.2, ← hm2.2, hF]
          omega
        · left; rw [mv_far _ _ e1 e2]; exact h1
    · exact Or.inr (Or.inl h1)
    · exact Or.inr (Or.inr h1)
  · have g1 := h.keep q hq' hlt
    have g2 := h2.keep q hq' (by omega)
    have e1 : q ≠ p := fun e => by subst e; rw [hmem.2] at hlt; omega
    have e2 : q ≠ tw p := fun e => by subst e; rw [tw_tw, hF] at hlt; omega
    rw [mv_far _ _ e1 e2, mv_far _ _ (fun e => e2 (by rw [← e, tw_tw])) (fun e => e1 (by have := congrArg tw e; rwa [tw_tw, tw_tw] at this))]
    exact ⟨g2.1.trans g1.1, g2.2.trans g1.2⟩
  · have g1 := h.down q hq' hlev
    have g2 := h2.down q hq' hlev
    by_cases e1 : q = p
    · subst e1; rw [mv_at]; omega
    · have e2 : q ≠ tw p := fun e => by
        subst e
        rw [tw_tw, hmem.2, hF] at hlev
        omega
      rw [mv_far _ _ e1 e2]; omega
  · have hx0 : x = 0 := by omega
    have hy0 : y = 0 := by omega
    have g1 := h.zero hx0 q hq'
    have g2 := h2.zero hy0 q hq'
    by_cases e1 : q = p
    · subst e1; rw [mv_at, g2, g1]; omega
    · by_cases e2 : q = tw p
      · subst e2; rw [mv_tw, g2, g1]; omega
      · rw [mv_far _ _ e1 e2, g2, g1]
  · rw [h2.ful z (by omega)]
    exact h.ful z hz

/-- How far the nodes are from s, on ways with room. -/
structure Far (N M : Nat) (T : Nat → Nat) (R : Nat → Int) (s : Nat) (F : Nat → Int) : Prop where
  src : F s = 0
  low : ∀ v, v < N → -1 ≤ F v ∧ F v < N
  closed : ∀ p, p < M → 0 ≤ F (T (tw p)) → 0 < R p → 0 ≤ F (T p)
  back : ∀ v, v < N → 0 ≤ F v → v ≠ s → ∃ p, p < M ∧ T p = v ∧ 0 < R p ∧ 0 ≤ F (T (tw p)) ∧ F v = F (T (tw p)) + 1

theorem Far.some {s : Nat} {R' : Nat → Int} (hn : Net N M T ls) (hf : Far N M T R s F) (hs : s < N) (ht : t < N) (hF : 0 ≤ F t) (hst : s ≠ t) (h : Sent N M T ls F t s x R fu R' fu1) (hx : 0 ≤ x) (hfull : fu1 s = (ls s).length) : 0 < x := by
  by_cases hx0 : x = 0
  · exfalso
    have hz := h.zero hx0
    have key : ∀ n : Nat, ∀ u, u < N → 0 ≤ F u → F u < n → u ≠ t ∧ fu1 u = (ls u).length := by
      intro n
      induction n with
      | zero => intro u _ h1 h2; omega
      | succ n ih =>
        intro u hu h1 h2
        by_cases e : u = s
        · subst e; exact ⟨hst, hfull⟩
        · obtain ⟨p, hp, hpu, hr, h3, h4⟩ := hf.back u hu h1 e
          have hq := tw_lt hn.even hp
          have hw := hn.lt _ hq
          obtain ⟨g1, g2⟩ := ih (T (tw p)) hw h3 (by omega)
          have hm := (hn.mem (T (tw p)) p hw).2 ⟨hp, rfl⟩
          obtain ⟨i, hi, hpi⟩ := List.getElem_of_mem hm
          have hpi? : (ls (T (tw p)))[i]? = Option.some p := List.getElem?_eq_some_iff.2 ⟨hi, hpi⟩
          rcases h.inv.dead _ i p hw (by omega) hpi? with d | d | d
          · rw [hz p hp] at d; omega
          · rw [hpu] at d; omega
          · rw [hpu] at d; exact d
    have := (hf.low t ht).2
    exact (key (F t).toNat.succ t ht hF (by omega)).1 rfl
  · omega

/-- What shows that no more can go. -/
theorem Mv.cut {s m : Nat} {R R' : Nat → Int} {S : Nat → Bool} (h : Mv (2 * m) T t s x R R') (hs : S s = true) (ht : S t = false) (hc : ∀ p, p < 2 * m → S (T (tw p)) = true → S (T p) = false → R' p = 0) :
    x = sumN (fun a => if S (T (2 * a + 1)) = true then (if S (T (2 * a)) = true then 0 else R (2 * a)) else (if S (T (2 * a)) = true then R (2 * a + 1) else 0)) m := by
  have h1 := h.net S
  rw [if_pos hs, if_neg (by rw [ht]; simp)] at h1
  unfold outR at h1
  rw [sumN_two, sumN_two] at h1
  have h2 : x = sumN (fun a => ((if S (T (tw (2 * a))) = true then R (2 * a) else 0) + (if S (T (tw (2 * a + 1))) = true then R (2 * a + 1) else 0)) - ((if S (T (tw (2 * a))) = true then R' (2 * a) else 0) + (if S (T (tw (2 * a + 1))) = true then R' (2 * a + 1) else 0))) m := by
    rw [sumN_sub]; omega
  rw [h2]
  refine sumN_congr (fun a ha => ?_)
  rw [tw_even, tw_odd]
  have hp := h.pair (2 * a) (by omega)
  rw [tw_even] at hp
  have c1 := hc (2 * a) (by omega)
  have c2 := hc (2 * a + 1) (by omega)
  rw [tw_even] at c1
  rw [tw_odd] at c2
  by_cases e1 : S (T (2 * a + 1)) = true
  · by_cases e2 : S (T (2 * a)) = true
    · simp only [e1, e2, if_true]; omega
    · have := c1 e1 (by simpa using e2)
      simp only [e1, e2, if_true]
      simp
      omega
  · by_cases e2 : S (T (2 * a)) = true
    · have := c2 e2 (by simpa using e1)
      simp only [e1, e2, if_true]
      simp
      omega
    · simp [e1, e2]
end
end Go.Proofs.Ytkakmaalmhofmaa
