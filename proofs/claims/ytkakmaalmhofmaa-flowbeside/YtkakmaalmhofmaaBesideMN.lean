/- The mathematics of Beside: what goes through gates of one. Gates of a graph: what goes through them, and the cut. -/
import Derived.Test.YtkakmaalmhofmaaApartM
import Derived.Test.YtkakmaalmhofmaaGateS
namespace Go.Proofs.Ytkakmaalmhofmaa
open Go.RowKit Go.Maps

theorem sumN_split (F : Nat → Int) (a : Nat) : ∀ b, sumN F (a + b) = sumN F a + sumN (fun i => F (a + i)) b
  | 0 => by simp [sumN]
  | b + 1 => by
    show sumN F (a + b) + F (a + b) = sumN F a + (sumN (fun i => F (a + i)) b + F (a + b))
    rw [sumN_split F a b]; omega
theorem term_le {key : Nat → Nat} {f : Nat → Int} : ∀ {n j : Nat}, j < n → (∀ i, i < n → 0 ≤ f i) → f j ≤ sumN (fun i => if key i = key j then f i else 0) n
  | 0, j, h, _ => absurd h (Nat.not_lt_zero _)
  | n + 1, j, h, hf => by
    show _ ≤ sumN (fun i => if key i = key j then f i else 0) n + (if key n = key j then f n else 0)
    by_cases e : j = n
    · subst e
      have : 0 ≤ sumN (fun i => if key i = key j then f i else 0) j := sumN_pos (fun k hk => by
        have := hf k (by omega)
        split <;> omega)
      rw [if_pos rfl]; omega
    · have h1 := term_le (key := key) (n := n) (j := j) (f := f) (by omega) (fun i hi => hf i (by omega))
      have := hf n (by omega)
      split <;> omega
theorem inj_le {key : Nat → Nat} {f : Nat → Int} {a : Nat} : ∀ {n : Nat}, (∀ i, i < n → 0 ≤ f i ∧ f i ≤ 1) → (∀ i j, i < n → j < n → key i = key j → i = j) → sumN (fun i => if key i = a then f i else 0) n ≤ 1
  | 0, _, _ => by simp [sumN]
  | n + 1, hf, hi => by
    show sumN (fun i => if key i = a then f i else 0) n + (if key n = a then f n else 0) ≤ 1
    by_cases e : key n = a
    · have : sumN (fun i => if key i = a then f i else 0) n = 0 := sum_zero (fun j hj => by
        rw [if_neg]
        intro h
        have := hi j n (by omega) (by omega) (by rw [h, e])
        omega)
      rw [if_pos e, this]
      have := hf n (by omega)
      omega
    · rw [if_neg e]
      have := inj_le (key := key) (f := f) (a := a) (n := n) (fun i h => hf i (by omega)) (fun i j h1 h2 => hi i j (by omega) (by omega))
      omega
/-- Pipes of edges first, then gates; f tells what goes along each. -/
structure Gated (N s t n1 n2 : Nat) (x : Int) (fr to1 oa ob vv : Nat → Nat) (f : Nat → Int) : Prop where
  edge : ∀ j, j < n1 → fr j = 2 * oa j + 1 ∧ to1 j = 2 * ob j ∧ oa j < N ∧ ob j < N
  gate : ∀ i, i < n2 → fr (n1 + i) = 2 * vv i ∧ to1 (n1 + i) = 2 * vv i + 1 ∧ vv i ≠ s ∧ vv i ≠ t
  inj : ∀ i j, i < n1 → j < n1 → oa i = oa j → ob i = ob j → i = j
  injV : ∀ i j, i < n2 → j < n2 → vv i = vv j → i = j
  pos : ∀ j, j < n1 + n2 → 0 ≤ f j
  one : ∀ i, i < n2 → f (n1 + i) ≤ 1
  apart : ∀ j, j < n1 → ¬ (oa j = s ∧ ob j = t)
  net : ∀ z, sumN (fun j => if fr j = z then f j else 0) (n1 + n2) - sumN (fun j => if to1 j = z then f j else 0) (n1 + n2) = (if z = 2 * s + 1 then x else 0) - (if z = 2 * t then x else 0)
section
variable {N s t n1 n2 : Nat} {x : Int} {fr to1 oa ob vv : Nat → Nat} {f : Nat → Int}
def outS (n1 : Nat) (oa : Nat → Nat) (f : Nat → Int) (a : Nat) : Int := sumN (fun j => if oa j = a then f j else 0) n1
def gS (n1 n2 : Nat) (vv : Nat → Nat) (f : Nat → Int) (a : Nat) : Int := sumN (fun i => if vv i = a then f (n1 + i) else 0) n2
theorem Gated.leave (h : Gated N s t n1 n2 x fr to1 oa ob vv f) (a : Nat) : outS n1 oa f a - gS n1 n2 vv f a = if a = s then x else 0 := by
  have h1 := h.net (2 * a + 1)
  rw [sumN_split, sumN_split] at h1
  have e1 : sumN (fun j => if fr j = 2 * a + 1 then f j else 0) n1 = outS n1 oa f a := sumN_congr (fun j hj => by
    rw [(h.edge j hj).1]
    by_cases e : oa j = a
    · rw [if_pos (by omega), if_pos e]
    · rw [if_neg (by omega), if_neg e])
  have e2 : sumN (fun i => if fr (n1 + i) = 2 * a + 1 then f (n1 + i) else 0) n2 = 0 := sum_zero (fun i hi => by
    rw [(h.gate i hi).1, if_neg (by omega)])
  have e3 : sumN (fun j => if to1 j = 2 * a + 1 then f j else 0) n1 = 0 := sum_zero (fun j hj => by
    rw [(h.edge j hj).2.1, if_neg (by omega)])
  have e4 : sumN (fun i => if to1 (n1 + i) = 2 * a + 1 then f (n1 + i) else 0) n2 = gS n1 n2 vv f a := sumN_congr (fun i hi => by
    rw [(h.gate i hi).2.1]
    by_cases e : vv i = a
    · rw [if_pos (by omega), if_pos e]
    · rw [if_neg (by omega), if_neg e])
  rw [e1, e2, e3, e4, if_neg (show ¬ 2 * a + 1 = 2 * t by omega)] at h1
  by_cases e : a = s
  · rw [if_pos (by omega)] at h1; rw [if_pos e]; omega
  · rw [if_neg (by omega)] at h1; rw [if_neg e]; omega
theorem Gated.enter (h : Gated N s t n1 n2 x fr to1 oa ob vv f) (a : Nat) : outS n1 ob f a - gS n1 n2 vv f a = if a = t then x else 0 := by
  have h1 := h.net (2 * a)
  rw [sumN_split, sumN_split] at h1
  have e1 : sumN (fun j => if fr j = 2 * a then f j else 0) n1 = 0 := sum_zero (fun j hj => by
    rw [(h.edge j hj).1, if_neg (by omega)])
  have e2 : sumN (fun i => if fr (n1 + i) = 2 * a then f (n1 + i) else 0) n2 = gS n1 n2 vv f a := sumN_congr (fun i hi => by
    rw [(h.gate i hi).1]
    by_cases e : vv i = a
    · rw [if_pos (by omega), if_pos e]
    · rw [if_neg (by omega), if_neg e])
  have e3 : sumN (fun j => if to1 j = 2 * a then f j else 0) n1 = outS n1 ob f a := sumN_congr (fun j hj => by
    rw [(h.edge j hj).2.1]
    by_cases e : ob j = a
    · rw [if_pos (by omega), if_pos e]
    · rw [if_neg (by omega), if_neg e])
  have e4 : sumN (fun i => if to1 (n1 + i) = 2 * a then f (n1 + i) else 0) n2 = 0 := sum_zero (fun i hi => by
    rw [(h.gate i hi).2.1, if_neg (by omega)])
  rw [e1, e2, e3, e4, if_neg (show ¬ 2 * a = 2 * s + 1 by omega)] at h1
  by_cases e : a = t
  · rw [if_pos (by omega)] at h1; rw [if_pos e]; omega
  · rw [if_neg (by omega)] at h1; rw [if_neg e]; omega
theorem Gated.gle (h : Gated N s t n1 n2 x fr to1 oa ob vv f) (a : Nat) : gS n1 n2 vv f a ≤ 1 := inj_le (fun i hi => ⟨h.pos _ (by omega), h.one i hi⟩) h.injV
theorem Gated.gst (h : Gated N s t n1 n2 x fr to1 oa ob vv f) : gS n1 n2 vv f s = 0 ∧ gS n1 n2 vv f t = 0 :=
  ⟨sum_zero (fun i hi => by rw [if_neg (h.gate i hi).2.2.1]), sum_zero (fun i hi => by rw [if_neg (h.gate i hi).2.2.2])⟩
theorem Gated.le_one (h : Gated N s t n1 n2 x fr to1 oa ob vv f) {j : Nat} (hj : j < n1) : f j ≤ 1 := by
  have hp : ∀ i, i < n1 → 0 ≤ f i := fun i hi => h.pos i (by omega)
  by_cases e : oa j = s
  · have h1 := term_le (key := ob) (f := f) hj hp
    have h2 := h.enter (ob j)
    rw [if_neg (fun h' => h.apart j hj ⟨e, h'⟩)] at h2
    have h3 := h.gle (ob j)
    have h4 : f j ≤ outS n1 ob f (ob j) := h1
    omega
  · have h1 := term_le (key := oa) (f := f) hj hp
    have h2 := h.leave (oa j)
    rw [if_neg e] at h2
    have h3 := h.gle (oa j)
    have h4 : f j ≤ outS n1 oa f (oa j) := h1
    omega
/-- The steps along the first k pipes. -/
def stepO (oa ob : Nat → Nat) (f : Nat → Int) : Nat → Nat → Nat → Bool
  | 0, _, _ => false
  | k + 1, a, b => (decide (0 < f k) && (a == oa k && b == ob k)) || stepO oa ob f k a b
theorem stepO_ex : ∀ {k a b : Nat}, stepO oa ob f k a b = true ↔ ∃ j, j < k ∧ 0 < f j ∧ a = oa j ∧ b = ob j
  | 0, a, b => by simp [stepO]
  | k + 1, a, b => by
    simp only [stepO, Bool.or_eq_true, Bool.and_eq_true, decide_eq_true_eq, beq_iff_eq, stepO_ex (k := k)]
    constructor
    · rintro (⟨h1, h2, h3⟩ | ⟨j, hj, h⟩)
      · exact ⟨k, by omega, h1, h2, h3⟩
      · exact ⟨j, by omega, h⟩
    · rintro ⟨j, hj, h1, h2, h3⟩
      by_cases e : j = k
      · subst e; exact Or.inl ⟨h1, h2, h3⟩
      · exact Or.inr ⟨j, by omega, h1, h2, h3⟩
theorem Gated.steps (h : Gated N s t n1 n2 x fr to1 oa ob vv f) (z : Nat) : ∀ k, k ≤ n1 → outE (stepO oa ob f k) N z = outS k oa f z ∧ inE (stepO oa ob f k) N z = outS k ob f z
  | 0, _ => ⟨sum_zero (fun _ _ => rfl), sum_zero (fun _ _ => rfl)⟩
  | k + 1, hk => by
    obtain ⟨i1, i2⟩ := h.steps z k (by omega)
    have hnew : stepO oa ob f k (oa k) (ob k) = false := by
      cases hq : stepO oa ob f k (oa k) (ob k)
      · rfl
      · obtain ⟨j, hj, _, h2, h3⟩ := stepO_ex.1 hq
        have := h.inj k j (by omega) (by omega) h2 h3
        omega
    have e1 : stepO oa ob f (k + 1) = optE (stepO oa ob f k) (decide (0 < f k)) (oa k) (ob k) := rfl
    obtain ⟨_, _, l1, l2⟩ := h.edge k (by omega)
    have f1 := h.le_one (j := k) (by omega)
    have f0 := h.pos k (by omega)
    have hb : b01 (decide (0 < f k)) = f k := by
      unfold b01
      by_cases e : 0 < f k
      · rw [if_pos (by simpa using e)]; omega
      · rw [if_neg (by simpa using e)]; omega
    rw [e1, optE_out hnew l2, optE_in hnew l1, i1, i2, hb]
    constructor
    · show _ = outS k oa f z + (if oa k = z then f k else 0)
      by_cases e : z = oa k
      · rw [if_pos e, if_pos e.symm]
      · rw [if_neg e, if_neg (fun h => e h.symm)]
    · show _ = outS k ob f z + (if ob k = z then f k else 0)
      by_cases e : z = ob k
      · rw [if_pos e, if_pos e.symm]
      · rw [if_neg e, if_neg (fun h => e h.symm)]
theorem Gated.bal (h : Gated N s t n1 n2 x fr to1 oa ob vv f) : Bal (stepO oa ob f n1) N s t x s := fun z _ => by
  obtain ⟨h1, h2⟩ := h.steps z n1 (Nat.le_refl _)
  have h3 := h.leave z
  have h4 := h.enter z
  rw [h1, h2]
  (repeat' split at h3) <;> (repeat' split at h4) <;> (repeat' split) <;> omega
/-- Into a node other than s and t there is one step at most. -/
theorem Gated.only (h : Gated N s t n1 n2 x fr to1 oa ob vv f) {a b v : Nat} (hv : v ≠ t) (ha : stepO oa ob f n1 a v = true) (hb : stepO oa ob f n1 b v = true) : a = b := by
  obtain ⟨i, hi, p1, p2, p3⟩ := stepO_ex.1 ha
  obtain ⟨j, hj, q1, q2, q3⟩ := stepO_ex.1 hb
  by_cases e : i = j
  · subst e; rw [p2, q2]
  · exfalso
    have h1 := h.enter v
    rw [if_neg hv] at h1
    have h2 := h.gle v
    have key : ∀ n, i < n → j < n → n ≤ n1 → 2 ≤ outS n ob f v := by
      intro n
      induction n with
      | zero => intro h; omega
      | succ n ih =>
        intro hi' hj' hn
        show 2 ≤ outS n ob f v + (if ob n = v then f n else 0)
        have hpos : ∀ k, k < n → 0 ≤ f k := fun k hk => h.pos k (by omega)
        by_cases ei : i = n
        · subst ei
          have := term_le (key := ob) (f := f) (n := i) (j := j) (by omega) hpos
          rw [← q3] at this
          have t2 : f j ≤ outS i ob f v := this
          rw [if_pos p3.symm]; omega
        · by_cases ej : j = n
          · subst ej
            have := term_le (key := ob) (f := f) (n := j) (j := i) (by omega) hpos
            rw [← p3] at this
            have t2 : f i ≤ outS j ob f v := this
            rw [if_pos q3.symm]; omega
          · have := ih (by omega) (by omega) (by omega)
            have := h.pos n (by omega)
            split <;> omega
    have := key n1 hi hj (Nat.le_refl _)
    omega
end
end Go.Proofs.Ytkakmaalmhofmaa

namespace Go.Proofs.Ytkakmaalmhofmaa
open Go.RowKit Go.Maps

def pip (gl : List Pip) (j : Nat) : Pip := gl.getD j (0, 0, 0)
def oaE (es : List Pair) (j : Nat) : Nat := if j % 2 = 0 then endA es (j / 2) else endB es (j / 2)
def obE (es : List Pair) (j : Nat) : Nat := if j % 2 = 0 then endB es (j / 2) else endA es (j / 2)
def vlG (s t N : Nat) : List Nat := (List.range N).filter fun v => v != s && v != t
def vvG (s t N i : Nat) : Nat := (vlG s t N).getD i 0
theorem tsG_get {gl : List Pip} {j : Nat} (h : j < gl.length) : (tsG gl).getD (2 * j) 0 = (pip gl j).2.1 ∧ (tsG gl).getD (2 * j + 1) 0 = (pip gl j).1 := pr_getD _ _ 0 (0, 0, 0) h
theorem rsG_get {gl : List Pip} {j : Nat} (h : j < gl.length) : (rsG gl).getD (2 * j) 0 = (pip gl j).2.2 ∧ (rsG gl).getD (2 * j + 1) 0 = 0 := pr_getD _ _ 0 (0, 0, 0) h
theorem gV_map (s t N : Nat) : gV s t N = (vlG s t N).map fun v => (2 * v, 2 * v + 1, (1 : Int)) := rfl
section
variable {N s t : Nat} {es : List Pair}
theorem pip_edge {j : Nat} (h : j < 2 * es.length) : pip (gatesL N s t es) j = (2 * oaE es j + 1, 2 * obE es j, (N : Int)) := by
  unfold pip gatesL
  have hg : (gE N es ++ gV s t N).getD j (0, 0, 0) = (gE N es).getD j (0, 0, 0) := by
    simp only [List.getD]
    rw [List.getElem?_append_left (by rw [gE_len]; exact h)]
  rw [hg]
  have hp := pr_getD (fun e : Pair => ((2 * e.1.toNat + 1, 2 * e.2.toNat, (N : Int)) : Pip)) (fun e => (2 * e.2.toNat + 1, 2 * e.1.toNat, (N : Int))) (l := es) (k := j / 2) (0, 0, 0) (0, 0) (by omega)
  by_cases e : j % 2 = 0
  · have e2 : j = 2 * (j / 2) := by omega
    unfold oaE obE
    rw [if_pos e, if_pos e]
    rw [show (gE N es).getD j (0, 0, 0) = (gE N es).getD (2 * (j / 2)) (0, 0, 0) by rw [← e2]]
    exact hp.1
  · have e2 : j = 2 * (j / 2) + 1 := by omega
    unfold oaE obE
    rw [if_neg e, if_neg e]
    rw [show (gE N es).getD j (0, 0, 0) = (gE N es).getD (2 * (j / 2) + 1) (0, 0, 0) by rw [← e2]]
    exact hp.2
theorem pip_gate {i : Nat} (h : i < (vlG s t N).length) : pip (gatesL N s t es) (2 * es.length + i) = (2 * vvG s t N i, 2 * vvG s t N i + 1, (1 : Int)) := by
  unfold pip gatesL vvG
  simp only [List.getD]
  rw [List.getElem?_append_right (by rw [gE_len]; omega), gE_len, gV_map, show 2 * es.length + i - 2 * es.length = i by omega, List.getElem?_map, List.getElem?_eq_getElem h]
  rfl
theorem vv_mem {i : Nat} (h : i < (vlG s t N).length) : vvG s t N i < N ∧ vvG s t N i ≠ s ∧ vvG s t N i ≠ t := by
  have : vvG s t N i ∈ vlG s t N := by
    unfold vvG
    rw [getD_lt h]
    exact List.getElem_mem h
  simp [vlG] at this
  exact this
theorem vv_inj {i j : Nat} (hi : i < (vlG s t N).length) (hj : j < (vlG s t N).length) (h : vvG s t N i = vvG s t N j) : i = j := by
  unfold vvG at h
  rw [getD_lt hi, getD_lt hj] at h
  have hp : (vlG s t N).Pairwise (· < ·) := List.Pairwise.filter _ List.pairwise_lt_range
  rcases Nat.lt_trichotomy i j with hlt | e | hlt
  · have := List.pairwise_iff_getElem.1 hp i j hi hj hlt; omega
  · exact e
  · have := List.pairwise_iff_getElem.1 hp j i hj hi hlt; omega
theorem gates_len : (gatesL N s t es).length = 2 * es.length + (vlG s t N).length := by
  unfold gatesL
  rw [List.length_append, gE_len, gV_map, List.length_map]
theorem oaE_inj (hf : FormE N es) {i j : Nat} (hi : i < 2 * es.length) (hj : j < 2 * es.length) (h1 : oaE es i = oaE es j) (h2 : obE es i = obE es j) : i = j := by
  have a1 := hf.lt (i / 2) (by omega)
  have a2 := hf.lt (j / 2) (by omega)
  unfold oaE at h1
  unfold obE at h2
  by_cases e1 : i % 2 = 0 <;> by_cases e2 : j % 2 = 0
  · rw [if_pos e1, if_pos e2] at h1 h2
    have := hf.inj _ _ (by omega) (by omega) h1 h2; omega
  · rw [if_pos e1, if_neg e2] at h1 h2; omega
  · rw [if_neg e1, if_pos e2] at h1 h2; omega
  · rw [if_neg e1, if_neg e2] at h1 h2
    have := hf.inj _ _ (by omega) (by omega) h2 h1; omega
theorem gated {x : Int} {R' : Nat → Int} (hf : FormE N es) (hno : ∀ k, k < es.length → ¬ (endA es k = s ∧ endB es k = t) ∧ ¬ (endA es k = t ∧ endB es k = s))
    (hm : Mv (2 * (gatesL N s t es).length) (fun p => (tsG (gatesL N s t es)).getD p 0) (2 * t) (2 * s + 1) x (fun p => (rsG (gatesL N s t es)).getD p 0) R') :
    Gated N s t (2 * es.length) (vlG s t N).length x (fun j => (pip (gatesL N s t es) j).1) (fun j => (pip (gatesL N s t es) j).2.1) (oaE es) (obE es) (vvG s t N) (fun j => R' (2 * j + 1)) where
  edge := fun j hj => by
    rw [pip_edge hj]
    have a1 := hf.lt (j / 2) (by omega)
    refine ⟨rfl, rfl, ?_, ?_⟩
    · unfold oaE; split <;> omega
    · unfold obE; split <;> omega
  gate := fun i hi => by
    rw [pip_gate hi]
    exact ⟨rfl, rfl, (vv_mem hi).2.1, (vv_mem hi).2.2⟩
  inj := fun i j hi hj => oaE_inj hf hi hj
  injV := fun i j hi hj => vv_inj hi hj
  pos := fun j hj => hm.pos _ (by rw [gates_len]; omega)
  one := fun i hi => by
    have hlt : 2 * es.length + i < (gatesL N s t es).length := by rw [gates_len]; omega
    have h1 := hm.pair (2 * (2 * es.length + i)) (by omega)
    rw [tw_even, (rsG_get hlt).1, (rsG_get hlt).2, pip_gate hi] at h1
    have h2 := hm.pos (2 * (2 * es.length + i)) (by omega)
    show R' (2 * (2 * es.length + i) + 1) ≤ 1
    simp only at h1
    omega
  apart := fun j hj => by
    have := hno (j / 2) (by omega)
    unfold oaE obE
    by_cases e : j % 2 = 0
    · rw [if_pos e, if_pos e]; exact this.1
    · rw [if_neg e, if_neg e]; exact fun h => this.2 ⟨h.2, h.1⟩
  net := fun z => by
    have h1 := hm.net (fun y => y == z)
    unfold outR at h1
    rw [sumN_two, sumN_two] at h1
    rw [← gates_len (es := es)]
    have h2 : sumN (fun a => (if ((fun y => y == z) ((fun p => (tsG (gatesL N s t es)).getD p 0) (tw (2 * a)))) = true then R' (2 * a) else 0) + (if ((fun y => y == z) ((fun p => (tsG (gatesL N s t es)).getD p 0) (tw (2 * a + 1)))) = true then R' (2 * a + 1) else 0)) (gatesL N s t es).length
        = sumN (fun a => ((if (pip (gatesL N s t es) a).1 = z then (pip (gatesL N s t es) a).2.2 else 0) - (if (pip (gatesL N s t es) a).1 = z then R' (2 * a + 1) else 0)) + (if (pip (gatesL N s t es) a).2.1 = z then R' (2 * a + 1) else 0)) (gatesL N s t es).length := sumN_congr (fun a ha => by
      have h3 := hm.pair (2 * a) (by omega)
      rw [tw_even, (rsG_get ha).1, (rsG_get ha).2] at h3
      rw [tw_even, tw_odd]
      show (if ((tsG (gatesL N s t es)).getD (2 * a + 1) 0 == z) = true then R' (2 * a) else 0) + (if ((tsG (gatesL N s t es)).getD (2 * a) 0 == z) = true then R' (2 * a + 1) else 0) = _
      rw [(tsG_get ha).1, (tsG_get ha).2]
      simp only [beq_iff_eq]
      split <;> omega)
    have h4 : sumN (fun a => (if ((fun y => y == z) ((fun p => (tsG (gatesL N s t es)).getD p 0) (tw (2 * a)))) = true then (rsG (gatesL N s t es)).getD (2 * a) 0 else 0) + (if ((fun y => y == z) ((fun p => (tsG (gatesL N s t es)).getD p 0) (tw (2 * a + 1)))) = true then (rsG (gatesL N s t es)).getD (2 * a + 1) 0 else 0)) (gatesL N s t es).length
        = sumN (fun a => if (pip (gatesL N s t es) a).1 = z then (pip (gatesL N s t es) a).2.2 else 0) (gatesL N s t es).length := sumN_congr (fun a ha => by
      rw [tw_even, tw_odd]
      show (if ((tsG (gatesL N s t es)).getD (2 * a + 1) 0 == z) = true then (rsG (gatesL N s t es)).getD (2 * a) 0 else 0) + (if ((tsG (gatesL N s t es)).getD (2 * a) 0 == z) = true then (rsG (gatesL N s t es)).getD (2 * a + 1) 0 else 0) = _
      rw [(tsG_get ha).1, (tsG_get ha).2, (rsG_get ha).1, (rsG_get ha).2]
      simp only [beq_iff_eq]
      split <;> split <;> omega)
    rw [h2, h4, sumN_add, sumN_sub] at h1
    have e1 : (if ((2 * s + 1) == z) = true then x else 0) = if z = 2 * s + 1 then x else 0 := by
      by_cases h : z = 2 * s + 1
      · subst h; simp
      · rw [if_neg h, if_neg (by rw [beq_iff_eq]; exact fun e => h e.symm)]
    have e2 : (if ((2 * t) == z) = true then x else 0) = if z = 2 * t then x else 0 := by
      by_cases h : z = 2 * t
      · subst h; simp
      · rw [if_neg h, if_neg (by rw [beq_iff_eq]; exact fun e => h e.symm)]
    rw [e1, e2] at h1
    omega
theorem gate_step {R' : Nat → Int} {T : Nat → Nat} {ls : Nat → List Nat} (hf : FormE N es) (hT : T = fun p => (tsG (gatesL N s t es)).getD p 0) (hn : Net (2 * N) (2 * (gatesL N s t es).length) T ls)
    {a b : Nat} (ha : a < N) :
    gateB ls T R' a b = stepO (oaE es) (obE es) (fun j => R' (2 * j + 1)) (2 * es.length) a b := by
  rw [Bool.eq_iff_iff, stepO_ex]
  unfold gateB
  simp only [List.any_eq_true, gateP, decide_eq_true_eq]
  have hlen := gates_len (N := N) (s := s) (t := t) (es := es)
  have t1 : ∀ j, j < (gatesL N s t es).length → T (2 * j) = (pip (gatesL N s t es) j).2.1 ∧ T (2 * j + 1) = (pip (gatesL N s t es) j).1 := fun j hj => by rw [hT]; exact tsG_get hj
  constructor
  · rintro ⟨p, hp, h1, h2, h3⟩
    obtain ⟨g1, g2⟩ := (hn.mem (2 * a + 1) p (by omega)).1 hp
    obtain ⟨j, e⟩ : ∃ j, p = 2 * j ∨ p = 2 * j + 1 := ⟨p / 2, by omega⟩
    rcases e with rfl | rfl
    · rw [tw_even] at g2 h3
      rw [(t1 j (by omega)).2] at g2
      rw [(t1 j (by omega)).1] at h1 h2
      by_cases hj : j < 2 * es.length
      · rw [pip_edge hj] at g2 h1 h2
        simp only at g2 h1 h2
        exact ⟨j, hj, h3, by omega, by omega⟩
      · obtain ⟨i, rfl⟩ : ∃ i, j = 2 * es.length + i := ⟨j - 2 * es.length, by omega⟩
        rw [pip_gate (by omega)] at g2
        simp only at g2
        omega
    · rw [tw_odd] at g2 h3
      rw [(t1 j (by omega)).1] at g2
      rw [(t1 j (by omega)).2] at h1 h2
      by_cases hj : j < 2 * es.length
      · rw [pip_edge hj] at g2
        simp only at g2
        omega
      · obtain ⟨i, rfl⟩ : ∃ i, j = 2 * es.length + i := ⟨j - 2 * es.length, by omega⟩
        rw [pip_gate (by omega)] at g2 h1 h2
        simp only at g2 h1 h2
        omega
  · rintro ⟨j, hj, h1, h2, h3⟩
    have hj2 : j < (gatesL N s t es).length := by omega
    have a1 := hf.lt (j / 2) (by omega)
    have hne : oaE es j ≠ obE es j := by unfold oaE obE; split <;> omega
    refine ⟨2 * j, (hn.mem (2 * a + 1) (2 * j) (by omega)).2 ⟨by omega, ?_⟩, ?_, ?_, ?_⟩
    · rw [tw_even, (t1 j hj2).2, pip_edge hj, h2]
    · rw [(t1 j hj2).1, pip_edge hj]
      show 2 * obE es j / 2 = b
      omega
    · rw [(t1 j hj2).1, pip_edge hj]
      show 2 * obE es j / 2 ≠ a
      omega
    · rw [tw_even]; exact h1
theorem sum_count {P : Nat → Bool} {l : List Nat} : ∀ k, k ≤ l.length → sumN (fun i => if P (l.getD i 0) = true then 1 else 0) k = (((l.take k).filter P).length : Int)
  | 0, _ => by simp [sumN]
  | k + 1, hk => by
    show sumN (fun i => if P (l.getD i 0) = true then 1 else 0) k + (if P (l.getD k 0) = true then 1 else 0) = _
    rw [sum_count k (by omega), List.take_succ_eq_append_getElem (by omega), List.filter_append, getD_lt (show k < l.length by omega)]
    by_cases h : P l[k] = true
    · simp [h]
    · simp [h]
/-- The nodes whose gate lies across the cut. -/
def cutN (F : Nat → Int) (v : Nat) : Bool := decide (F (2 * v) ≠ -1) && decide (F (2 * v + 1) = -1)
theorem beside_cut {x : Int} {R' F : Nat → Int} (hs : s < N) (ht : t < N) (hst : s ≠ t)
    (hm : Mv (2 * (gatesL N s t es).length) (fun p => (tsG (gatesL N s t es)).getD p 0) (2 * t) (2 * s + 1) x (fun p => (rsG (gatesL N s t es)).getD p 0) R')
    (hG : Gated N s t (2 * es.length) (vlG s t N).length x (fun j => (pip (gatesL N s t es) j).1) (fun j => (pip (gatesL N s t es) j).2.1) (oaE es) (obE es) (vvG s t N) (fun j => R' (2 * j + 1)))
    (hfa : Far (2 * N) (2 * (gatesL N s t es).length) (fun p => (tsG (gatesL N s t es)).getD p 0) R' (2 * s + 1) F) (hlt : ∀ p, p < 2 * (gatesL N s t es).length → (tsG (gatesL N s t es)).getD p 0 < 2 * N) (hFt : F (2 * t) = -1) :
    x = ((listN N (cutN F)).length : Int) ∧ ∀ j, j < 2 * es.length → F (2 * oaE es j + 1) ≠ -1 → F (2 * obE es j) ≠ -1 := by
  have hlen := gates_len (N := N) (s := s) (t := t) (es := es)
  have hcl : ∀ p, p < 2 * (gatesL N s t es).length → decide (F ((tsG (gatesL N s t es)).getD (tw p) 0) ≠ -1) = true → decide (F ((tsG (gatesL N s t es)).getD p 0) ≠ -1) = false → R' p = 0 := fun p hp h1 h2 => by
    have hp0 := hm.pos p hp
    by_cases e : R' p = 0
    · exact e
    · exfalso
      have h3 : F ((tsG (gatesL N s t es)).getD (tw p) 0) ≠ -1 := by simpa using h1
      have h4 : F ((tsG (gatesL N s t es)).getD p 0) = -1 := by simpa using h2
      have htw := tw_lt (M := 2 * (gatesL N s t es).length) (by omega) hp
      have h5 := hfa.low _ (hlt _ htw)
      have h6 := hfa.closed p hp (by show 0 ≤ F ((tsG (gatesL N s t es)).getD (tw p) 0); omega) (by omega)
      have h6' : 0 ≤ F ((tsG (gatesL N s t es)).getD p 0) := h6
      omega
  have hedge : ∀ j, j < 2 * es.length → F (2 * oaE es j + 1) ≠ -1 → F (2 * obE es j) ≠ -1 := fun j hj h1 h2 => by
    have hj2 : j < (gatesL N s t es).length := by omega
    have h3 := hcl (2 * j) (by omega) (by rw [tw_even, (tsG_get hj2).2, pip_edge hj]; simpa using h1) (by rw [(tsG_get hj2).1, pip_edge hj]; simpa using h2)
    have h4 := hm.pair (2 * j) (by omega)
    rw [tw_even, (rsG_get hj2).1, (rsG_get hj2).2, pip_edge hj, h3] at h4
    have h5 := hG.le_one hj
    simp only at h4 h5
    omega
  refine ⟨?_, hedge⟩
  have h1 := hm.cut (S := fun v => decide (F v ≠ -1)) (by have := hfa.src; simp; omega) (by simp [hFt]) (fun p hp => hcl p hp)
  rw [h1, hlen, sumN_split]
  have e1 : sumN (fun a => if (fun v => decide (F v ≠ -1)) ((fun p => (tsG (gatesL N s t es)).getD p 0) (2 * a + 1)) = true then (if (fun v => decide (F v ≠ -1)) ((fun p => (tsG (gatesL N s t es)).getD p 0) (2 * a)) = true then 0 else (fun p => (rsG (gatesL N s t es)).getD p 0) (2 * a)) else (if (fun v => decide (F v ≠ -1)) ((fun p => (tsG (gatesL N s t es)).getD p 0) (2 * a)) = true then (fun p => (rsG (gatesL N s t es)).getD p 0) (2 * a + 1) else 0)) (2 * es.length) = 0 := sum_zero (fun j hj => by
    have hj2 : j < (gatesL N s t es).length := by omega
    show (if decide (F ((tsG (gatesL N s t es)).getD (2 * j + 1) 0) ≠ -1) = true then (if decide (F ((tsG (gatesL N s t es)).getD (2 * j) 0) ≠ -1) = true then 0 else (rsG (gatesL N s t es)).getD (2 * j) 0) else (if decide (F ((tsG (gatesL N s t es)).getD (2 * j) 0) ≠ -1) = true then (rsG (gatesL N s t es)).getD (2 * j + 1) 0 else 0)) = 0
    rw [(tsG_get hj2).1, (tsG_get hj2).2, (rsG_get hj2).2, pip_edge hj]
    have h2 := hedge j hj
    by_cases h3 : F (2 * oaE es j + 1) = -1
    · simp [h3]
    · simp [h3, h2 h3])
  have e2 : sumN (fun i => (fun a => if (fun v => decide (F v ≠ -1)) ((fun p => (tsG (gatesL N s t es)).getD p 0) (2 * a + 1)) = true then (if (fun v => decide (F v ≠ -1)) ((fun p => (tsG (gatesL N s t es)).getD p 0) (2 * a)) = true then 0 else (fun p => (rsG (gatesL N s t es)).getD p 0) (2 * a)) else (if (fun v => decide (F v ≠ -1)) ((fun p => (tsG (gatesL N s t es)).getD p 0) (2 * a)) = true then (fun p => (rsG (gatesL N s t es)).getD p 0) (2 * a + 1) else 0)) (2 * es.length + i)) (vlG s t N).length = sumN (fun i => if cutN F ((vlG s t N).getD i 0) = true then 1 else 0) (vlG s t N).length := sumN_congr (fun i hi => by
    have hj2 : 2 * es.length + i < (gatesL N s t es).length := by omega
    show (if decide (F ((tsG (gatesL N s t es)).getD (2 * (2 * es.length + i) + 1) 0) ≠ -1) = true then (if decide (F ((tsG (gatesL N s t es)).getD (2 * (2 * es.length + i)) 0) ≠ -1) = true then 0 else (rsG (gatesL N s t es)).getD (2 * (2 * es.length + i)) 0) else (if decide (F ((tsG (gatesL N s t es)).getD (2 * (2 * es.length + i)) 0) ≠ -1) = true then (rsG (gatesL N s t es)).getD (2 * (2 * es.length + i) + 1) 0 else 0)) = (if cutN F (vvG s t N i) = true then 1 else 0)
    rw [(tsG_get hj2).1, (tsG_get hj2).2, (rsG_get hj2).1, (rsG_get hj2).2, pip_gate hi]
    by_cases h3 : F (2 * vvG s t N i) = -1 <;> by_cases h4 : F (2 * vvG s t N i + 1) = -1 <;> simp [cutN, h3, h4])
  rw [e1, e2, sum_count _ (Nat.le_refl _), List.take_length]
  have e3 : (vlG s t N).filter (cutN F) = listN N (cutN F) := by
    unfold vlG listN
    rw [List.filter_filter]
    refine List.filter_congr (fun v _ => ?_)
    by_cases hv : cutN F v = true
    · have h1 : v ≠ s := fun e => by
        subst e
        have := hfa.src
        simp [cutN, this] at hv
      have h2 : v ≠ t := fun e => by
        subst e
        simp [cutN, hFt] at hv
      simp [hv, h1, h2]
    · have : cutN F v = false := by simpa using hv
      simp [this]
  rw [e3]
  omega
end
end Go.Proofs.Ytkakmaalmhofmaa
