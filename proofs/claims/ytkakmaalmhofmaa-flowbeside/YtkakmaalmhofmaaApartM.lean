/- The mathematics of Apart: steps along edges of room one, and the cut. -/
import Derived.Test.YtkakmaalmhofmaaStepsW
import Derived.Test.YtkakmaalmhofmaaRefCut
namespace Go.Proofs.Ytkakmaalmhofmaa
open Go.RowKit Go.Maps

def optE (e : Nat → Nat → Bool) (c : Bool) (a b : Nat) : Nat → Nat → Bool := fun x y => (c && (x == a && y == b)) || e x y
theorem optE_less {e : Nat → Nat → Bool} {a b : Nat} (h : e a b = false) : lessE (optE e true a b) a b = e := by
  funext x y
  rw [lessE_eq]
  by_cases hx : x = a ∧ y = b
  · rw [if_pos hx, hx.1, hx.2, h]
  · rw [if_neg hx]
    have : (x == a && y == b) = false := by simpa using hx
    simp [optE, this]
theorem optE_out {e : Nat → Nat → Bool} {c : Bool} {a b N z : Nat} (h : e a b = false) (hb : b < N) : outE (optE e c a b) N z = outE e N z + (if z = a then b01 c else 0) := by
  cases c
  · have : optE e false a b = e := by funext x y; simp [optE]
    rw [this]
    simp [b01]
  · have h1 := outE_less (e := optE e true a b) (N := N) (a := a) (b := b) (z := z) hb (by simp [optE])
    rw [optE_less h] at h1
    simp only [b01]
    split at h1 <;> simp_all <;> omega
theorem optE_in {e : Nat → Nat → Bool} {c : Bool} {a b N z : Nat} (h : e a b = false) (ha : a < N) : inE (optE e c a b) N z = inE e N z + (if z = b then b01 c else 0) := by
  cases c
  · have : optE e false a b = e := by funext x y; simp [optE]
    rw [this]
    simp [b01]
  · have h1 := inE_less (e := optE e true a b) (N := N) (a := a) (b := b) (z := z) ha (by simp [optE])
    rw [optE_less h] at h1
    simp only [b01]
    split at h1 <;> simp_all <;> omega
theorem stepB_ex {es : List Pair} {R : Nat → Int} : ∀ {k a b : Nat}, stepB es R k a b = true → ∃ j, j < k ∧ ((a = endA es j ∧ b = endB es j ∧ R (2 * j) = 0) ∨ (a = endB es j ∧ b = endA es j ∧ R (2 * j + 1) = 0))
  | 0, a, b, h => by simp [stepB] at h
  | k + 1, a, b, h => by
    simp only [stepB, Bool.or_eq_true, Bool.and_eq_true, decide_eq_true_eq, beq_iff_eq] at h
    rcases h with h | h | h
    · exact ⟨k, by omega, Or.inr ⟨h.2.1, h.2.2, h.1⟩⟩
    · exact ⟨k, by omega, Or.inl ⟨h.2.1, h.2.2, h.1⟩⟩
    · obtain ⟨j, hj, h⟩ := stepB_ex h
      exact ⟨j, by omega, h⟩
/-- Edges that stand in form: the lesser node first, none twice. -/
structure FormE (N : Nat) (es : List Pair) : Prop where
  lt : ∀ j, j < es.length → endA es j < endB es j ∧ endB es j < N
  inj : ∀ i j, i < es.length → j < es.length → endA es i = endA es j → endB es i = endB es j → i = j
section
variable {N : Nat} {es : List Pair} {R : Nat → Int}
theorem stepB_new (hf : FormE N es) {k : Nat} (hk : k < es.length) : stepB es R k (endA es k) (endB es k) = false ∧ stepB es R k (endB es k) (endA es k) = false := by
  have h0 := (hf.lt k hk).1
  constructor
  · cases h : stepB es R k (endA es k) (endB es k)
    · rfl
    · obtain ⟨j, hj, h | h⟩ := stepB_ex h
      · have := hf.inj k j hk (by omega) h.1 h.2.1; omega
      · have := (hf.lt j (by omega)).1; omega
  · cases h : stepB es R k (endB es k) (endA es k)
    · rfl
    · obtain ⟨j, hj, h | h⟩ := stepB_ex h
      · have := (hf.lt j (by omega)).1; omega
      · have := hf.inj k j hk (by omega) h.2.1 h.1; omega
theorem stepB_bal (hf : FormE N es) (hr : ∀ a, a < es.length → R (2 * a) + R (2 * a + 1) = 2 ∧ 0 ≤ R (2 * a) ∧ 0 ≤ R (2 * a + 1)) (z : Nat) : ∀ k, k ≤ es.length →
    outE (stepB es R k) N z - inE (stepB es R k) N z = sumN (fun a => (if endA es a = z then 1 - R (2 * a) else 0) + (if endB es a = z then 1 - R (2 * a + 1) else 0)) k
  | 0, _ => by
    have h1 : outE (stepB es R 0) N z = 0 := sum_zero (fun j _ => rfl)
    have h2 : inE (stepB es R 0) N z = 0 := sum_zero (fun j _ => rfl)
    rw [h1, h2]; rfl
  | k + 1, hk => by
    have ih := stepB_bal hf hr z k (by omega)
    obtain ⟨n1, n2⟩ := stepB_new (R := R) hf (k := k) (by omega)
    obtain ⟨l1, l2⟩ := hf.lt k (by omega)
    obtain ⟨r1, r2, r3⟩ := hr k (by omega)
    have e1 : stepB es R (k + 1) = optE (optE (stepB es R k) (decide (R (2 * k) = 0)) (endA es k) (endB es k)) (decide (R (2 * k + 1) = 0)) (endB es k) (endA es k) := rfl
    have n3 : optE (stepB es R k) (decide (R (2 * k) = 0)) (endA es k) (endB es k) (endB es k) (endA es k) = false := by
      have : (endB es k == endA es k) = false := by rw [beq_eq_false_iff_ne]; omega
      simp [optE, this, n2]
    rw [e1, optE_out n3 (by omega), optE_out n1 l2, optE_in n3 l2, optE_in n1 (by omega)]
    show _ = sumN (fun a => (if endA es a = z then 1 - R (2 * a) else 0) + (if endB es a = z then 1 - R (2 * a + 1) else 0)) k + ((if endA es k = z then 1 - R (2 * k) else 0) + (if endB es k = z then 1 - R (2 * k + 1) else 0))
    have q1 : b01 (decide (R (2 * k) = 0)) = if R (2 * k) = 0 then 1 else 0 := by simp [b01]
    have q2 : b01 (decide (R (2 * k + 1) = 0)) = if R (2 * k + 1) = 0 then 1 else 0 := by simp [b01]
    rw [q1, q2]
    generalize outE (stepB es R k) N z = O at ih ⊢
    generalize inE (stepB es R k) N z = I at ih ⊢
    generalize sumN (fun a => (if endA es a = z then 1 - R (2 * a) else 0) + (if endB es a = z then 1 - R (2 * a + 1) else 0)) k = S at ih ⊢
    generalize R (2 * k) = x at r1 r2 r3 ⊢
    generalize R (2 * k + 1) = y at r1 r2 r3 ⊢
    clear e1 n1 n2 n3 q1 q2
    generalize endA es k = A at l1 l2 ⊢
    generalize endB es k = B at l1 l2 ⊢
    (repeat' split) <;> omega
theorem stepB_anti (hr : ∀ a, a < es.length → R (2 * a) + R (2 * a + 1) = 2 ∧ 0 ≤ R (2 * a) ∧ 0 ≤ R (2 * a + 1)) (hf : FormE N es) {a b : Nat} (h : stepB es R es.length a b = true) : stepB es R es.length b a = false := by
  cases h2 : stepB es R es.length b a
  · rfl
  · exfalso
    obtain ⟨i, hi, h⟩ := stepB_ex h
    obtain ⟨j, hj, h2⟩ := stepB_ex h2
    have a1 := hf.lt i hi
    have a2 := hf.lt j hj
    have a3 := hr i hi
    rcases h with h | h <;> rcases h2 with h2 | h2
    · omega
    · have := hf.inj i j hi hj (by omega) (by omega)
      subst this; omega
    · have := hf.inj i j hi hj (by omega) (by omega)
      subst this; omega
    · omega
/-- The edges between nodes that are reached and nodes that are not. -/
def cutB (F : Nat → Int) (e : Pair) : Bool := decide (F e.1.toNat = -1) != decide (F e.2.toNat = -1)
def cutL (F : Nat → Int) (es : List Pair) : List Pair := es.filter (cutB F)
theorem cutL_len (F : Nat → Int) {ws : List Int} (hw : ∀ a, a < es.length → wtE ws a = 1) : ∀ k, k ≤ es.length → dcut k (endA es) (endB es) (wtE ws) (fun v => decide (F v ≠ -1)) = ((cutL F (es.take k)).length : Int)
  | 0, _ => by simp [dcut, sumN, cutL]
  | k + 1, hk => by
    rw [dcut_succ, cutL_len F hw k (by omega), List.take_succ_eq_append_getElem (by omega)]
    unfold cutL
    rw [List.filter_append]
    have hA : endA es k = es[k].1.toNat := by unfold endA; rw [getD_lt (by omega)]
    have hB : endB es k = es[k].2.toNat := by unfold endB; rw [getD_lt (by omega)]
    rw [hA, hB, hw k (by omega)]
    by_cases h1 : F es[k].1.toNat = -1 <;> by_cases h2 : F es[k].2.toNat = -1 <;> simp [cutB, h1, h2]
theorem outR_one {m : Nat} {R : Nat → Int} (hm : m = es.length) (z : Nat) : outR (2 * m) (fun p => (tsE es).getD p 0) R (fun y => y == z) = sumN (fun a => (if endA es a = z then R (2 * a) else 0) + (if endB es a = z then R (2 * a + 1) else 0)) m := by
  unfold outR
  rw [sumN_two]
  refine sumN_congr fun a ha => ?_
  rw [tw_even, tw_odd]
  show (if ((tsE es).getD (2 * a + 1) 0 == z) = true then R (2 * a) else 0) + (if ((tsE es).getD (2 * a) 0 == z) = true then R (2 * a + 1) else 0) = _
  rw [(tsE_get (by omega)).1, (tsE_get (by omega)).2]
  simp
/-- What the pipes tell when they are full. -/
theorem apart_bal {s t : Nat} {x : Int} {R' : Nat → Int} {ws : List Int} (hf : FormE N es) (hl : ws.length = es.length) (hw : ∀ a, a < es.length → wtE ws a = 1) (hm : Mv (2 * es.length) (fun p => (tsE es).getD p 0) t s x (fun p => (rsW ws).getD p 0) R') :
    (∀ a, a < es.length → R' (2 * a) + R' (2 * a + 1) = 2 ∧ 0 ≤ R' (2 * a) ∧ 0 ≤ R' (2 * a + 1)) ∧ Bal (stepB es R' es.length) N s t x s := by
  have hr : ∀ a, a < es.length → R' (2 * a) + R' (2 * a + 1) = 2 ∧ 0 ≤ R' (2 * a) ∧ 0 ≤ R' (2 * a + 1) := fun a ha => by
    have h1 := hm.pair (2 * a) (by omega)
    rw [tw_even, (rsW_get (by omega)).1, (rsW_get (by omega)).2, hw a ha] at h1
    exact ⟨by omega, hm.pos _ (by omega), hm.pos _ (by omega)⟩
  refine ⟨hr, fun z _ => ?_⟩
  rw [stepB_bal hf hr z _ (Nat.le_refl _)]
  have h1 := hm.net (fun y => y == z)
  rw [outR_one rfl, outR_one rfl] at h1
  have h2 : sumN (fun a => (if endA es a = z then (rsW ws).getD (2 * a) 0 else 0) + (if endB es a = z then (rsW ws).getD (2 * a + 1) 0 else 0)) es.length = sumN (fun a => (if endA es a = z then 1 else 0) + (if endB es a = z then 1 else 0)) es.length := sumN_congr fun a ha => by
    rw [(rsW_get (by omega)).1, (rsW_get (by omega)).2, hw a ha]
  rw [h2] at h1
  have h3 : sumN (fun a => (if endA es a = z then 1 - R' (2 * a) else 0) + (if endB es a = z then 1 - R' (2 * a + 1) else 0)) es.length = sumN (fun a => ((if endA es a = z then 1 else 0) + (if endB es a = z then 1 else 0)) - ((if endA es a = z then R' (2 * a) else 0) + (if endB es a = z then R' (2 * a + 1) else 0))) es.length := sumN_congr fun a _ => by
    (repeat' split) <;> omega
  rw [h3, sumN_sub]
  have e1 : (if (s == z) = true then x else 0) = if z = s then x else 0 := by
    by_cases h : z = s
    · subst h; simp
    · rw [if_neg h, if_neg (by rw [beq_iff_eq]; exact fun e => h e.symm)]
  have e2 : (if (t == z) = true then x else 0) = if z = t then x else 0 := by
    by_cases h : z = t
    · subst h; simp
    · rw [if_neg h, if_neg (by rw [beq_iff_eq]; exact fun e => h e.symm)]
  rw [e1, e2] at h1
  (repeat' split at h1) <;> (repeat' split) <;> omega
theorem apart_cut {n s t : Nat} {x : Int} {R' F : Nat → Int} {ws : List Int} (hl : ws.length = es.length) (hg : ∀ e ∈ es, 0 ≤ e.1 ∧ e.1 < n ∧ 0 ≤ e.2 ∧ e.2 < n) (hst : s ≠ t) (hw : ∀ a, a < es.length → wtE ws a = 1)
    (hm : Mv (2 * es.length) (fun p => (tsE es).getD p 0) t s x (fun p => (rsW ws).getD p 0) R') (hfa : Far n (2 * es.length) (fun p => (tsE es).getD p 0) R' s F) (ht : F t = -1) : x = ((cutL F es).length : Int) := by
  obtain ⟨f, hf⟩ := allF_ex (m := es.length) (A := endA es) (B := endB es) (wt := wtE ws) (fun a ha => by rw [hw a ha]; omega)
  have h1 := fill_is hl hg hst hf hm hfa ht
  have h2 := cutL_len (es := es) F hw es.length (Nat.le_refl _)
  rw [List.take_length] at h2
  omega
end
end Go.Proofs.Ytkakmaalmhofmaa
