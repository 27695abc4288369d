/- Clear drawings: what the program asks, and what the document asks. Sides of lines: side, isBetween, isOn, hasEnd, isValue; R.Cross, R.Dot, R.OnLine. Sides of lines: isBetween, isOn, hasEnd, isValue; R.Cross, R.Dot, R.OnLine. -/
import Derived.Test.YtnboonhlffkimaaGreatDoorTailM
namespace Go.Proofs.YtnboonhlffkimaaGreatDoor
abbrev Pt := Int × Int
/-- (b - a) x (c - a). -/
def crs (a b c : Pt) : Int := (b.1 - a.1) * (c.2 - a.2) - (b.2 - a.2) * (c.1 - a.1)
/-- (b - a) . (c - a). -/
def dots (a b c : Pt) : Int := (b.1 - a.1) * (c.1 - a.1) + (b.2 - a.2) * (c.2 - a.2)
def OnL (a b c : Pt) : Prop := crs a b c = 0 ∧ dots c a b ≤ 0
def Meets (a b c d : Pt) : Prop := OnL a b c ∨ OnL a b d ∨ OnL c d a ∨ OnL c d b ∨
  ((0 < crs a b c ∧ crs a b d < 0 ∨ crs a b c < 0 ∧ 0 < crs a b d) ∧ (0 < crs c d a ∧ crs c d b < 0 ∨ crs c d a < 0 ∧ 0 < crs c d b))
def cmpZ (u v : Int) : Int := if u < v then -1 else if v < u then 1 else 0
def sideZ (a b p : Pt) : Int := cmpZ ((b.1 - a.1) * (p.2 - a.2)) ((b.2 - a.2) * (p.1 - a.1))
def Btw (x a b : Int) : Prop := min a b ≤ x ∧ x ≤ max a b
def IsOn (p a b : Pt) : Prop := sideZ a b p = 0 ∧ Btw p.1 a.1 b.1 ∧ Btw p.2 a.2 b.2
def Crosses (a b c d : Pt) : Prop := sideZ a b c * sideZ a b d < 0 ∧ sideZ c d a * sideZ c d b < 0
theorem sideZ_cases (a b p : Pt) : (crs a b p = 0 ∧ sideZ a b p = 0) ∨ (0 < crs a b p ∧ sideZ a b p = 1) ∨ (crs a b p < 0 ∧ sideZ a b p = -1) := by
  unfold sideZ cmpZ crs
  generalize (b.1 - a.1) * (p.2 - a.2) = u
  generalize (b.2 - a.2) * (p.1 - a.1) = v
  by_cases h1 : u < v
  · rw [if_pos h1]; omega
  · rw [if_neg h1]
    by_cases h2 : v < u
    · rw [if_pos h2]; omega
    · rw [if_neg h2]; omega
theorem btw_iff (x a b : Int) : (a - x) * (b - x) ≤ 0 ↔ Btw x a b := by
  unfold Btw
  constructor
  · intro h
    by_cases h1 : a - x ≤ 0
    · by_cases h2 : 0 ≤ b - x
      · omega
      · by_cases h3 : a - x = 0
        · omega
        · have := Int.mul_pos_of_neg_of_neg (a := a - x) (b := b - x) (by omega) (by omega)
          omega
    · by_cases h2 : b - x ≤ 0
      · omega
      · have := Int.mul_pos (a := a - x) (b := b - x) (by omega) (by omega)
        omega
  · intro h
    by_cases h1 : a - x ≤ 0
    · by_cases h2 : 0 ≤ b - x
      · exact Int.mul_nonpos_of_nonpos_of_nonneg h1 h2
      · have h3 : a - x = 0 := by omega
        rw [h3, Int.zero_mul]; exact Int.le_refl _
    · by_cases h2 : b - x ≤ 0
      · exact Int.mul_nonpos_of_nonneg_of_nonpos (by omega) h2
      · omega
theorem isOn_iff (a b p : Pt) : IsOn p a b ↔ OnL a b p := by
  unfold IsOn OnL
  have hs : sideZ a b p = 0 ↔ crs a b p = 0 := by rcases sideZ_cases a b p with ⟨h1, h2⟩ | ⟨h1, h2⟩ | ⟨h1, h2⟩ <;> omega
  rw [hs, ← btw_iff, ← btw_iff]
  refine and_congr_right fun hc => ?_
  unfold dots
  obtain ⟨u1, hu1⟩ : ∃ u, u = a.1 - p.1 := ⟨_, rfl⟩
  obtain ⟨u2, hu2⟩ : ∃ u, u = a.2 - p.2 := ⟨_, rfl⟩
  obtain ⟨v1, hv1⟩ : ∃ u, u = b.1 - p.1 := ⟨_, rfl⟩
  obtain ⟨v2, hv2⟩ : ∃ u, u = b.2 - p.2 := ⟨_, rfl⟩
  rw [← hu1, ← hu2, ← hv1, ← hv2]
  have hx : u1 * v2 = u2 * v1 := by
    unfold crs at hc
    have e1 : b.1 - a.1 = v1 - u1 := by omega
    have e2 : p.2 - a.2 = -u2 := by omega
    have e3 : b.2 - a.2 = v2 - u2 := by omega
    have e4 : p.1 - a.1 = -u1 := by omega
    rw [e1, e2, e3, e4, Int.sub_mul, Int.sub_mul] at hc
    simp only [Int.mul_neg] at hc
    have c1 := Int.mul_comm v1 u2
    have c2 := Int.mul_comm v2 u1
    have c3 := Int.mul_comm u1 u2
    omega
  constructor
  · rintro ⟨h1, h2⟩; omega
  · intro h
    have hp : (u1 * v1) * (u2 * v2) = (u1 * v2) * (u1 * v2) := by
      rw [show (u1 * v1) * (u2 * v2) = (u1 * v2) * (u2 * v1) by
        rw [Int.mul_assoc, Int.mul_assoc, Int.mul_left_comm v1 u2 v2, ← Int.mul_assoc v2 u2 v1, Int.mul_comm v2 u2, Int.mul_assoc u2 v2 v1, Int.mul_comm v2 v1], ← hx]
    have hq : 0 ≤ (u1 * v2) * (u1 * v2) := by
      by_cases h0 : 0 ≤ u1 * v2
      · exact Int.mul_nonneg h0 h0
      · exact Int.mul_nonneg_of_nonpos_of_nonpos (by omega) (by omega)
    rw [← hp] at hq
    generalize u1 * v1 = s at *
    generalize u2 * v2 = t at *
    refine ⟨?_, ?_⟩
    · by_cases hs1 : s ≤ 0
      · exact hs1
      · have : s * t < 0 := Int.mul_neg_of_pos_of_neg (by omega) (by omega)
        omega
    · by_cases hs1 : t ≤ 0
      · exact hs1
      · have : s * t < 0 := Int.mul_neg_of_neg_of_pos (by omega) (by omega)
        omega
theorem crosses_iff {a b c d : Pt} : Crosses a b c d ↔ ((0 < crs a b c ∧ crs a b d < 0 ∨ crs a b c < 0 ∧ 0 < crs a b d) ∧ (0 < crs c d a ∧ crs c d b < 0 ∨ crs c d a < 0 ∧ 0 < crs c d b)) := by
  unfold Crosses
  have key : ∀ x y z t : Int, ∀ s r : Int, ((x = 0 ∧ s = 0) ∨ (0 < x ∧ s = 1) ∨ (x < 0 ∧ s = -1)) → ((y = 0 ∧ r = 0) ∨ (0 < y ∧ r = 1) ∨ (y < 0 ∧ r = -1)) → z = z → t = t → (s * r < 0 ↔ (0 < x ∧ y < 0 ∨ x < 0 ∧ 0 < y)) := by
    intro x y z t s r h1 h2 _ _
    rcases h1 with ⟨h1, rfl⟩ | ⟨h1, rfl⟩ | ⟨h1, rfl⟩ <;> rcases h2 with ⟨h2, rfl⟩ | ⟨h2, rfl⟩ | ⟨h2, rfl⟩ <;> omega
  exact and_congr (key _ _ 0 0 _ _ (sideZ_cases a b c) (sideZ_cases a b d) rfl rfl) (key _ _ 0 0 _ _ (sideZ_cases c d a) (sideZ_cases c d b) rfl rfl)
theorem crs_self1 (a b : Pt) : crs a b a = 0 := by unfold crs; simp
theorem crs_self2 (a b : Pt) : crs a b b = 0 := by
  unfold crs
  rw [Int.mul_comm]
  omega
/-- No node meets another one, or an edge that is not its own. -/
def Lone (N : Nat) (E : List (Nat × Nat)) (P : Nat → Pt) : Prop := ∀ i, i < N → (∀ j, j < i → P i ≠ P j) ∧ ∀ e ∈ E, e.1 ≠ i → e.2 ≠ i → ¬ OnL (P e.1) (P e.2) (P i)
/-- The document's second half. -/
def NoMeet (E : List (Nat × Nat)) (P : Nat → Pt) : Prop := ∀ i j (hi : i < E.length) (hj : j < i), E[i].1 ≠ (E[j]).1 → E[i].1 ≠ (E[j]).2 → E[i].2 ≠ (E[j]).1 → E[i].2 ≠ (E[j]).2 → ¬ Meets (P E[i].1) (P E[i].2) (P (E[j]).1) (P (E[j]).2)
/-- The program's second half. -/
def NoCross (E : List (Nat × Nat)) (P : Nat → Pt) : Prop := ∀ i j (hi : i < E.length) (hj : j < i), ¬ Crosses (P E[i].1) (P E[i].2) (P (E[j]).1) (P (E[j]).2)
theorem clear_iff {N : Nat} {E : List (Nat × Nat)} {P : Nat → Pt} (hE : ∀ e ∈ E, e.1 < N ∧ e.2 < N) (hL : Lone N E P) : NoMeet E P ↔ NoCross E P := by
  constructor
  · intro h i j hi hj hx
    have hx' := crosses_iff.1 hx
    by_cases e1 : E[i].1 = (E[j]).1
    · rw [e1] at hx'; have := crs_self1 (P (E[j]).1) (P E[i].2); omega
    by_cases e2 : E[i].1 = (E[j]).2
    · rw [e2] at hx'; have := crs_self1 (P (E[j]).2) (P E[i].2); omega
    by_cases e3 : E[i].2 = (E[j]).1
    · rw [e3] at hx'; have := crs_self2 (P E[i].1) (P (E[j]).1); omega
    by_cases e4 : E[i].2 = (E[j]).2
    · rw [e4] at hx'; have := crs_self2 (P E[i].1) (P (E[j]).2); omega
    exact h i j hi hj e1 e2 e3 e4 (Or.inr (Or.inr (Or.inr (Or.inr hx'))))
  · intro h i j hi hj e1 e2 e3 e4 hm
    have mi : E[i] ∈ E := List.getElem_mem _
    have mj : E[j] ∈ E := List.getElem_mem _
    rcases hm with hm | hm | hm | hm | hm
    · exact (hL _ (hE _ mj).1).2 _ mi e1 e3 hm
    · exact (hL _ (hE _ mj).2).2 _ mi e2 e4 hm
    · exact (hL _ (hE _ mi).1).2 _ mj (Ne.symm e1) (Ne.symm e2) hm
    · exact (hL _ (hE _ mi).2).2 _ mj (Ne.symm e3) (Ne.symm e4) hm
    · exact h i j hi hj (crosses_iff.2 hm)
end Go.Proofs.YtnboonhlffkimaaGreatDoor

namespace Go.Proofs.YtnboonhlffkimaaGreatDoor
set_option maxRecDepth 8000
open Go.RowKit Go.Maps
attribute [local go_sem ↓] Go.wp_at_zero Go.wp_at_succ
def ptv (p : Pt) : Value := .agg #[.int .i64 p.1, .int .i64 p.2]
/-- A point with small numbers. -/
def BdP (p : Pt) : Prop := (-1000000 ≤ p.1 ∧ p.1 ≤ 1000000) ∧ (-1000000 ≤ p.2 ∧ p.2 ≤ 1000000)
theorem mul_bd {u v : Int} (h1 : -2000000 ≤ u) (h2 : u ≤ 2000000) (h3 : -2000000 ≤ v) (h4 : v ≤ 2000000) : -4000000000000 ≤ u * v ∧ u * v ≤ 4000000000000 := by
  have h : (u * v).natAbs ≤ 4000000000000 := by
    rw [Int.natAbs_mul]
    exact Nat.mul_le_mul (show u.natAbs ≤ 2000000 by omega) (show v.natAbs ≤ 2000000 by omega)
  omega
theorem nan_call {w : World} (x : Int) : Calls Tryz.prog 64 #[.int .i64 x] w fun e w' => e = .returned (.bool false) ∧ w = w' := by
  have k : (x != x) = false := by simp
  go_enter Tryz.func64, Tryz.ntmps64
  go_wp2
  go_ret
  exact ⟨rfl, rfl⟩
theorem cmp_call {w : World} (u v : Int) : Calls Tryz.prog 44 #[.int .i64 u, .int .i64 v] w fun e w' => e = .returned (.int .i64 (cmpZ u v)) ∧ w = w' := by
  have C : Hid (∀ x, Calls Tryz.prog 64 #[.int .i64 x] w fun e w' => e = .returned (.bool false) ∧ w = w') := fun x => nan_call x
  by_cases h1 : u < v
  · have k1 : decide (u < v) = true := by simpa using h1
    have HR : Hid (cmpZ u v = -1) := by show cmpZ u v = -1; unfold cmpZ; rw [if_pos h1]
    clear h1
    go_enter Tryz.func44, Tryz.ntmps44
    go_wp2_with (first | (go_at_call 64; refine Calls.mono (C.out _) ?_; rintro e W2 ⟨rfl, rfl⟩) | fail)
    go_ret
    exact ⟨by rw [HR.out]; rfl, rfl⟩
  · have k1 : decide (u < v) = false := by simpa using h1
    by_cases h2 : v < u
    · have k2 : decide (v < u) = true := by simpa using h2
      have HR : Hid (cmpZ u v = 1) := by show cmpZ u v = 1; unfold cmpZ; rw [if_neg h1, if_pos h2]
      clear h1 h2
      go_enter Tryz.func44, Tryz.ntmps44
      go_wp2_with (first | (go_at_call 64; refine Calls.mono (C.out _) ?_; rintro e W2 ⟨rfl, rfl⟩) | fail)
      go_ret
      exact ⟨by rw [HR.out]; rfl, rfl⟩
    · have k2 : decide (v < u) = false := by simpa using h2
      have HR : Hid (cmpZ u v = 0) := by show cmpZ u v = 0; unfold cmpZ; rw [if_neg h1, if_neg h2]
      clear h1 h2
      go_enter Tryz.func44, Tryz.ntmps44
      go_wp2_with (first | (go_at_call 64; refine Calls.mono (C.out _) ?_; rintro e W2 ⟨rfl, rfl⟩) | fail)
      go_ret
      exact ⟨by rw [HR.out]; rfl, rfl⟩
theorem three_new (w : World) (a b c a' b' c' : Value) (t : TypeId) :
    Two (((w.alloc (Obj.cells #[a, a'] t)).alloc (Obj.cells #[b, b'] t)).alloc (Obj.cells #[c, c'] t)) w.heap.size a a' t ∧ Two (((w.alloc (Obj.cells #[a, a'] t)).alloc (Obj.cells #[b, b'] t)).alloc (Obj.cells #[c, c'] t)) (w.heap.size + 1) b b' t ∧ Two (((w.alloc (Obj.cells #[a, a'] t)).alloc (Obj.cells #[b, b'] t)).alloc (Obj.cells #[c, c'] t)) (w.heap.size + 1 + 1) c c' t := by
  refine ⟨two_alloc (two_alloc (two_new _ _ _ _) _) _, two_alloc (two_nxt _ _ _ _ _) _, ?_⟩
  have h := two_new ((w.alloc (Obj.cells #[a, a'] t)).alloc (Obj.cells #[b, b'] t)) c c' t
  rw [show ((w.alloc (Obj.cells #[a, a'] t)).alloc (Obj.cells #[b, b'] t)).heap.size = w.heap.size + 1 + 1 by simp] at h
  exact h
set_option maxHeartbeats 4000000 in
theorem side_call {w : World} {a b p : Pt} (ha : BdP a) (hb : BdP b) (hp : BdP p) : Calls Tryz.prog 28 #[ptv a, ptv b, ptv p] w fun e w' => e = .returned (.int .i64 (sideZ a b p)) ∧ Below w.heap.size w w' := by
  obtain ⟨ax, ay⟩ := a
  obtain ⟨bx, b_y⟩ := b
  obtain ⟨px, py⟩ := p
  obtain ⟨⟨ha1, ha2⟩, ha3, ha4⟩ := ha
  obtain ⟨⟨hb1, hb2⟩, hb3, hb4⟩ := hb
  obtain ⟨⟨hp1, hp2⟩, hp3, hp4⟩ := hp
  simp only at ha1 ha2 ha3 ha4 hb1 hb2 hb3 hb4 hp1 hp2 hp3 hp4
  obtain ⟨m1, m2⟩ := mul_bd (u := bx - ax) (v := py - ay) (by omega) (by omega) (by omega) (by omega)
  obtain ⟨m3, m4⟩ := mul_bd (u := b_y - ay) (v := px - ax) (by omega) (by omega) (by omega) (by omega)
  have C : Hid (∀ (A : World) u v, Calls Tryz.prog 44 #[.int .i64 u, .int .i64 v] A fun e w' => e = .returned (.int .i64 (cmpZ u v)) ∧ A = w') := fun A u v => cmp_call u v
  have x1 : -9223372036854775808 ≤ bx - ax ∧ bx - ax < 9223372036854775808 := by omega
  have x2 : -9223372036854775808 ≤ py - ay ∧ py - ay < 9223372036854775808 := by omega
  have x3 : -9223372036854775808 ≤ b_y - ay ∧ b_y - ay < 9223372036854775808 := by omega
  have x4 : -9223372036854775808 ≤ px - ax ∧ px - ax < 9223372036854775808 := by omega
  obtain ⟨x1a, x1b⟩ := x1
  obtain ⟨x2a, x2b⟩ := x2
  obtain ⟨x3a, x3b⟩ := x3
  obtain ⟨x4a, x4b⟩ := x4
  have n1 : -9223372036854775808 ≤ (bx - ax) * (py - ay) := by omega
  have n2 : (bx - ax) * (py - ay) < 9223372036854775808 := by omega
  have n3 : -9223372036854775808 ≤ (b_y - ay) * (px - ax) := by omega
  have n4 : (b_y - ay) * (px - ax) < 9223372036854775808 := by omega
  have HR : Hid (sideZ (ax, ay) (bx, b_y) (px, py) = cmpZ ((bx - ax) * (py - ay)) ((b_y - ay) * (px - ax))) := rfl
  clear m1 m2 m3 m4 ha1 ha2 ha3 ha4 hb1 hb2 hb3 hb4 hp1 hp2 hp3 hp4
  unfold ptv
  go_enter Tryz.func28, Tryz.ntmps28
  go_upto_region 1 with (fail)
  obtain ⟨t1, t2, t3⟩ := three_new w (.int .i64 ax) (.int .i64 bx) (.int .i64 px) (.int .i64 ay) (.int .i64 b_y) (.int .i64 py) 32
  have hB := below_alloc (below_alloc (below_alloc (Below.refl _ w) (Obj.cells #[.int .i64 ax, .int .i64 ay] 32)) (Obj.cells #[.int .i64 bx, .int .i64 b_y] 32)) (Obj.cells #[.int .i64 px, .int .i64 py] 32)
  generalize (((w.alloc (Obj.cells #[.int .i64 ax, .int .i64 ay] 32)).alloc (Obj.cells #[.int .i64 bx, .int .i64 b_y] 32)).alloc (Obj.cells #[.int .i64 px, .int .i64 py] 32)) = W1 at *
  obtain ⟨c0, c1⟩ := cell_two t1
  obtain ⟨c2, c3⟩ := cell_two t2
  obtain ⟨c4, c5⟩ := cell_two t3
  have HB : Hid (Below w.heap.size w W1) := hB
  clear t1 t2 t3 hB
  go_wp2_with (first | (go_at_call 44; refine Calls.mono (C.out _ _ _) ?_; rintro e W2 ⟨rfl, rfl⟩) | fail)
  go_ret
  exact ⟨by rw [HR.out]; rfl, HB.out⟩
end Go.Proofs.YtnboonhlffkimaaGreatDoor

namespace Go.Proofs.YtnboonhlffkimaaGreatDoor
set_option maxRecDepth 8000
open Go.RowKit Go.Maps
attribute [local go_sem ↓] Go.wp_at_zero Go.wp_at_succ
set_option maxHeartbeats 4000000 in
theorem cross_call' {w : World} {a b p : Pt} (ha : BdP a) (hb : BdP b) (hp : BdP p) : Calls Tryz.prog 36 #[ptv a, ptv b, ptv p] w fun e w' => e = .returned (.int .i64 (crs a b p)) ∧ Below w.heap.size w w' := by
  obtain ⟨ax, ay⟩ := a
  obtain ⟨bx, b_y⟩ := b
  obtain ⟨px, py⟩ := p
  obtain ⟨⟨ha1, ha2⟩, ha3, ha4⟩ := ha
  obtain ⟨⟨hb1, hb2⟩, hb3, hb4⟩ := hb
  obtain ⟨⟨hp1, hp2⟩, hp3, hp4⟩ := hp
  simp only at ha1 ha2 ha3 ha4 hb1 hb2 hb3 hb4 hp1 hp2 hp3 hp4
  obtain ⟨m1, m2⟩ := mul_bd (u := bx - ax) (v := py - ay) (by omega) (by omega) (by omega) (by omega)
  obtain ⟨m3, m4⟩ := mul_bd (u := b_y - ay) (v := px - ax) (by omega) (by omega) (by omega) (by omega)
  have x1 : -9223372036854775808 ≤ bx - ax ∧ bx - ax < 9223372036854775808 := by omega
  have x2 : -9223372036854775808 ≤ py - ay ∧ py - ay < 9223372036854775808 := by omega
  have x3 : -9223372036854775808 ≤ b_y - ay ∧ b_y - ay < 9223372036854775808 := by omega
  have x4 : -9223372036854775808 ≤ px - ax ∧ px - ax < 9223372036854775808 := by omega
  obtain ⟨x1a, x1b⟩ := x1
  obtain ⟨x2a, x2b⟩ := x2
  obtain ⟨x3a, x3b⟩ := x3
  obtain ⟨x4a, x4b⟩ := x4
  have n1 : -9223372036854775808 ≤ (bx - ax) * (py - ay) := by omega
  have n2 : (bx - ax) * (py - ay) < 9223372036854775808 := by omega
  have n3 : -9223372036854775808 ≤ (b_y - ay) * (px - ax) := by omega
  have n4 : (b_y - ay) * (px - ax) < 9223372036854775808 := by omega
  have n5 : -9223372036854775808 ≤ (bx - ax) * (py - ay) - (b_y - ay) * (px - ax) := by omega
  have n6 : (bx - ax) * (py - ay) - (b_y - ay) * (px - ax) < 9223372036854775808 := by omega
  have HR : Hid (crs (ax, ay) (bx, b_y) (px, py) = (bx - ax) * (py - ay) - (b_y - ay) * (px - ax)) := rfl
  clear m1 m2 m3 m4 ha1 ha2 ha3 ha4 hb1 hb2 hb3 hb4 hp1 hp2 hp3 hp4
  unfold ptv
  go_enter Tryz.func36, Tryz.ntmps36
  go_upto_region 1 with (fail)
  obtain ⟨t1, t2, t3⟩ := three_new w (.int .i64 ax) (.int .i64 bx) (.int .i64 px) (.int .i64 ay) (.int .i64 b_y) (.int .i64 py) 32
  have hB := below_alloc (below_alloc (below_alloc (Below.refl _ w) (Obj.cells #[.int .i64 ax, .int .i64 ay] 32)) (Obj.cells #[.int .i64 bx, .int .i64 b_y] 32)) (Obj.cells #[.int .i64 px, .int .i64 py] 32)
  generalize (((w.alloc (Obj.cells #[.int .i64 ax, .int .i64 ay] 32)).alloc (Obj.cells #[.int .i64 bx, .int .i64 b_y] 32)).alloc (Obj.cells #[.int .i64 px, .int .i64 py] 32)) = W1 at *
  obtain ⟨c0, c1⟩ := cell_two t1
  obtain ⟨c2, c3⟩ := cell_two t2
  obtain ⟨c4, c5⟩ := cell_two t3
  have HB : Hid (Below w.heap.size w W1) := hB
  clear t1 t2 t3 hB
  go_wp2
  go_ret
  exact ⟨by rw [HR.out]; rfl, HB.out⟩
set_option maxHeartbeats 4000000 in
theorem dots_call {w : World} {a b p : Pt} (ha : BdP a) (hb : BdP b) (hp : BdP p) : Calls Tryz.prog 37 #[ptv a, ptv b, ptv p] w fun e w' => e = .returned (.int .i64 (dots a b p)) ∧ Below w.heap.size w w' := by
  obtain ⟨ax, ay⟩ := a
  obtain ⟨bx, b_y⟩ := b
  obtain ⟨px, py⟩ := p
  obtain ⟨⟨ha1, ha2⟩, ha3, ha4⟩ := ha
  obtain ⟨⟨hb1, hb2⟩, hb3, hb4⟩ := hb
  obtain ⟨⟨hp1, hp2⟩, hp3, hp4⟩ := hp
  simp only at ha1 ha2 ha3 ha4 hb1 hb2 hb3 hb4 hp1 hp2 hp3 hp4
  obtain ⟨m1, m2⟩ := mul_bd (u := bx - ax) (v := px - ax) (by omega) (by omega) (by omega) (by omega)
  obtain ⟨m3, m4⟩ := mul_bd (u := b_y - ay) (v := py - ay) (by omega) (by omega) (by omega) (by omega)
  have x1 : -9223372036854775808 ≤ bx - ax ∧ bx - ax < 9223372036854775808 := by omega
  have x2 : -9223372036854775808 ≤ py - ay ∧ py - ay < 9223372036854775808 := by omega
  have x3 : -9223372036854775808 ≤ b_y - ay ∧ b_y - ay < 9223372036854775808 := by omega
  have x4 : -9223372036854775808 ≤ px - ax ∧ px - ax < 9223372036854775808 := by omega
  obtain ⟨x1a, x1b⟩ := x1
  obtain ⟨x2a, x2b⟩ := x2
  obtain ⟨x3a, x3b⟩ := x3
  obtain ⟨x4a, x4b⟩ := x4
  have n1 : -9223372036854775808 ≤ (bx - ax) * (px - ax) := by omega
  have n2 : (bx - ax) * (px - ax) < 9223372036854775808 := by omega
  have n3 : -9223372036854775808 ≤ (b_y - ay) * (py - ay) := by omega
  have n4 : (b_y - ay) * (py - ay) < 9223372036854775808 := by omega
  have n5 : -9223372036854775808 ≤ (bx - ax) * (px - ax) + (b_y - ay) * (py - ay) := by omega
  have n6 : (bx - ax) * (px - ax) + (b_y - ay) * (py - ay) < 9223372036854775808 := by omega
  have HR : Hid (dots (ax, ay) (bx, b_y) (px, py) = (bx - ax) * (px - ax) + (b_y - ay) * (py - ay)) := rfl
  clear m1 m2 m3 m4 ha1 ha2 ha3 ha4 hb1 hb2 hb3 hb4 hp1 hp2 hp3 hp4
  unfold ptv
  go_enter Tryz.func37, Tryz.ntmps37
  go_upto_region 1 with (fail)
  obtain ⟨t1, t2, t3⟩ := three_new w (.int .i64 ax) (.int .i64 bx) (.int .i64 px) (.int .i64 ay) (.int .i64 b_y) (.int .i64 py) 32
  have hB := below_alloc (below_alloc (below_alloc (Below.refl _ w) (Obj.cells #[.int .i64 ax, .int .i64 ay] 32)) (Obj.cells #[.int .i64 bx, .int .i64 b_y] 32)) (Obj.cells #[.int .i64 px, .int .i64 py] 32)
  generalize (((w.alloc (Obj.cells #[.int .i64 ax, .int .i64 ay] 32)).alloc (Obj.cells #[.int .i64 bx, .int .i64 b_y] 32)).alloc (Obj.cells #[.int .i64 px, .int .i64 py] 32)) = W1 at *
  obtain ⟨c0, c1⟩ := cell_two t1
  obtain ⟨c2, c3⟩ := cell_two t2
  obtain ⟨c4, c5⟩ := cell_two t3
  have HB : Hid (Below w.heap.size w W1) := hB
  clear t1 t2 t3 hB
  go_wp2
  go_ret
  exact ⟨by rw [HR.out]; rfl, HB.out⟩
def valB (x : Int) : Bool := decide (-1000000 ≤ x ∧ x ≤ 1000000)
theorem value_call {w : World} (x : Int) : Calls Tryz.prog 13 #[.int .i64 x] w fun e w' => e = .returned (.bool (valB x)) ∧ w = w' := by
  by_cases h1 : -1000000 ≤ x
  · have k1 : decide (-1000000 ≤ x) = true := by simpa using h1
    by_cases h2 : x ≤ 1000000
    · have k2 : decide (x ≤ 1000000) = true := by simpa using h2
      have HR : Hid (valB x = true) := by show valB x = true; unfold valB; simp [h1, h2]
      go_enter Tryz.func13, Tryz.ntmps13
      go_wp2
      go_ret
      exact ⟨by rw [HR.out]; rfl, rfl⟩
    · have k2 : decide (x ≤ 1000000) = false := by simpa using h2
      have HR : Hid (valB x = false) := by show valB x = false; unfold valB; simp; omega
      go_enter Tryz.func13, Tryz.ntmps13
      go_wp2
      go_ret
      exact ⟨by rw [HR.out]; rfl, rfl⟩
  · have k1 : decide (-1000000 ≤ x) = false := by simpa using h1
    have HR : Hid (valB x = false) := by show valB x = false; unfold valB; simp; omega
    go_enter Tryz.func13, Tryz.ntmps13
    go_wp2
    go_ret
    exact ⟨by rw [HR.out]; rfl, rfl⟩
theorem end_call {w : World} (a b v : Int) : Calls Tryz.prog 24 #[.agg #[.int .i64 a, .int .i64 b], .int .i64 v] w fun e w' => e = .returned (.bool (decide (a = v ∨ b = v))) ∧ Below w.heap.size w w' := by
  by_cases h1 : a = v
  · have k1 : (a == v) = true := by simpa using h1
    have HR : Hid (decide (a = v ∨ b = v) = true) := by show decide _ = true; simp [h1]
    clear h1
    go_enter Tryz.func24, Tryz.ntmps24
    go_wp2
    go_ret
    exact ⟨by rw [HR.out]; rfl, below_alloc (Below.refl _ w) _⟩
  · have k1 : (a == v) = false := by simpa using h1
    by_cases h2 : b = v
    · have k2 : (b == v) = true := by simpa using h2
      have HR : Hid (decide (a = v ∨ b = v) = true) := by show decide _ = true; simp [h2]
      clear h1 h2
      go_enter Tryz.func24, Tryz.ntmps24
      go_wp2
      go_ret
      exact ⟨by rw [HR.out]; rfl, below_alloc (Below.refl _ w) _⟩
    · have k2 : (b == v) = false := by simpa using h2
      have HR : Hid (decide (a = v ∨ b = v) = false) := by show decide _ = false; simp [h1, h2]
      clear h1 h2
      go_enter Tryz.func24, Tryz.ntmps24
      go_wp2
      go_ret
      exact ⟨by rw [HR.out]; rfl, below_alloc (Below.refl _ w) _⟩
def btwB (x a b : Int) : Bool := decide (min a b ≤ x ∧ x ≤ max a b)
theorem between_call {w : World} (x a b : Int) : Calls Tryz.prog 42 #[.int .i64 x, .int .i64 a, .int .i64 b] w fun e w' => e = .returned (.bool (btwB x a b)) ∧ w = w' := by
  by_cases h1 : min a b ≤ x
  · have k1 : decide (min a b ≤ x) = true := by simpa using h1
    by_cases h2 : x ≤ max a b
    · have k2 : decide (x ≤ max a b) = true := by simpa using h2
      have HR : Hid (btwB x a b = true) := by show btwB x a b = true; unfold btwB; simp [h1, h2]
      go_enter Tryz.func42, Tryz.ntmps42
      go_wp2
      go_ret
      exact ⟨by rw [HR.out]; rfl, rfl⟩
    · have k2 : decide (x ≤ max a b) = false := by simpa using h2
      have HR : Hid (btwB x a b = false) := by show btwB x a b = false; unfold btwB; simp [h2]
      go_enter Tryz.func42, Tryz.ntmps42
      go_wp2
      go_ret
      exact ⟨by rw [HR.out]; rfl, rfl⟩
  · have k1 : decide (min a b ≤ x) = false := by simpa using h1
    have HR : Hid (btwB x a b = false) := by show btwB x a b = false; unfold btwB; simp [h1]
    go_enter Tryz.func42, Tryz.ntmps42
    go_wp2
    go_ret
    exact ⟨by rw [HR.out]; rfl, rfl⟩
/-- Is p on the line from a to b? -/
def onB (a b p : Pt) : Bool := decide (crs a b p = 0) && decide (dots p a b ≤ 0)
theorem onB_iff {a b p : Pt} : onB a b p = true ↔ OnL a b p := by unfold onB OnL; simp
theorem onB_side {a b p : Pt} : onB a b p = (decide (sideZ a b p = 0) && (btwB p.1 a.1 b.1 && btwB p.2 a.2 b.2)) := by
  rw [Bool.eq_iff_iff, onB_iff, ← isOn_iff]
  unfold IsOn Btw btwB
  simp
set_option maxHeartbeats 4000000 in
theorem on_call {w : World} {p a b : Pt} (hp : BdP p) (ha : BdP a) (hb : BdP b) : Calls Tryz.prog 25 #[ptv p, ptv a, ptv b] w fun e w' => e = .returned (.bool (onB a b p)) ∧ Below w.heap.size w w' := by
  have C28 : Hid (∀ A : World, Calls Tryz.prog 28 #[ptv a, ptv b, ptv p] A fun e w' => e = .returned (.int .i64 (sideZ a b p)) ∧ Below A.heap.size A w') := fun A => side_call ha hb hp
  have C42 : Hid (∀ (A : World) x y z, Calls Tryz.prog 42 #[.int .i64 x, .int .i64 y, .int .i64 z] A fun e w' => e = .returned (.bool (btwB x y z)) ∧ A = w') := fun A x y z => between_call x y z
  have HR : Hid (onB a b p = (decide (sideZ a b p = 0) && (btwB p.1 a.1 b.1 && btwB p.2 a.2 b.2))) := onB_side
  clear ha hb hp
  generalize onB a b p = R at *
  generalize sideZ a b p = sd at *
  obtain ⟨ax, ay⟩ := a
  obtain ⟨bx, b_y⟩ := b
  obtain ⟨px, py⟩ := p
  unfold ptv at C28 ⊢
  simp only at C28 HR ⊢
  obtain ⟨B1, hB1⟩ : ∃ B, B = btwB px ax bx := ⟨_, rfl⟩
  obtain ⟨B2, hB2⟩ : ∃ B, B = btwB py ay b_y := ⟨_, rfl⟩
  rw [← hB1, ← hB2] at HR
  have D1 : Hid (∀ A : World, Calls Tryz.prog 42 #[.int .i64 px, .int .i64 ax, .int .i64 bx] A fun e w' => e = .returned (.bool B1) ∧ A = w') := fun A => by rw [hB1]; exact C42.out A _ _ _
  have D2 : Hid (∀ A : World, Calls Tryz.prog 42 #[.int .i64 py, .int .i64 ay, .int .i64 b_y] A fun e w' => e = .returned (.bool B2) ∧ A = w') := fun A => by rw [hB2]; exact C42.out A _ _ _
  clear hB1 hB2 C42
  have key : ∀ (P : Prop), (sd = 0 ∧ B1 = true → P) → (sd = 0 ∧ B1 = false → P) → (sd ≠ 0 → P) → P := fun P h1 h2 h3 => by
    by_cases h : sd = 0
    · cases B1 with
      | true => exact h1 ⟨h, rfl⟩
      | false => exact h2 ⟨h, rfl⟩
    · exact h3 h
  go_enter Tryz.func25, Tryz.ntmps25
  go_upto_region 1 with (fail)
  obtain ⟨t1, t2, t3⟩ := three_new w (.int .i64 px) (.int .i64 ax) (.int .i64 bx) (.int .i64 py) (.int .i64 ay) (.int .i64 b_y) 32
  have hB := below_alloc (below_alloc (below_alloc (Below.refl _ w) (Obj.cells #[.int .i64 px, .int .i64 py] 32)) (Obj.cells #[.int .i64 ax, .int .i64 ay] 32)) (Obj.cells #[.int .i64 bx, .int .i64 b_y] 32)
  generalize (((w.alloc (Obj.cells #[.int .i64 px, .int .i64 py] 32)).alloc (Obj.cells #[.int .i64 ax, .int .i64 ay] 32)).alloc (Obj.cells #[.int .i64 bx, .int .i64 b_y] 32)) = W1 at *
  have HT : Hid (∀ A, Below W1.heap.size W1 A → Two A w.heap.size (.int .i64 px) (.int .i64 py) 32 ∧ Two A (w.heap.size + 1) (.int .i64 ax) (.int .i64 ay) 32 ∧ Two A (w.heap.size + 1 + 1) (.int .i64 bx) (.int .i64 b_y) 32) := fun A hA => ⟨two_next t1 hA, two_next t2 hA, two_next t3 hA⟩
  obtain ⟨c0, c1⟩ := cell_two t1
  obtain ⟨c2, c3⟩ := cell_two t2
  obtain ⟨c4, c5⟩ := cell_two t3
  have HB : Hid (Below w.heap.size w W1) := hB
  clear t1 t2 t3 hB
  refine key _ ?_ ?_ ?_
  · rintro ⟨h1, h2⟩
    have k1 : (sd == 0) = true := by simpa using h1
    subst h2
    have HR2 : Hid (R = B2) := by show R = B2; rw [HR.out, h1]; simp
    clear HR key h1
    go_wp2_with (first | (go_at_call 28; refine Calls.mono (C28.out _) ?_; rintro e W2 ⟨rfl, g2⟩; obtain ⟨t1, t2, t3⟩ := HT.out _ g2; obtain ⟨d0, d1⟩ := cell_two t1; obtain ⟨d2, d3⟩ := cell_two t2; obtain ⟨d4, d5⟩ := cell_two t3; have HB2 : Hid (Below w.heap.size w W2) := below_next HB.out g2; clear g2 t1 t2 t3) | (go_at_call 42; (have hh := HQ1; clear hh); refine Calls.mono (D2.out _) ?_; rintro e W4 ⟨rfl, rfl⟩) | (go_at_call 42; refine Calls.mono (D1.out _) ?_; rintro e W3 ⟨rfl, rfl⟩; have HQ1 : Hid True := trivial) | fail)
    go_ret
    exact ⟨by rw [HR2.out]; rfl, HB2.out⟩
  · rintro ⟨h1, h2⟩
    have k1 : (sd == 0) = true := by simpa using h1
    subst h2
    have HR2 : Hid (R = false) := by show R = false; rw [HR.out, h1]; simp
    clear HR key h1
    go_wp2_with (first | (go_at_call 28; refine Calls.mono (C28.out _) ?_; rintro e W2 ⟨rfl, g2⟩; obtain ⟨t1, t2, t3⟩ := HT.out _ g2; obtain ⟨d0, d1⟩ := cell_two t1; obtain ⟨d2, d3⟩ := cell_two t2; obtain ⟨d4, d5⟩ := cell_two t3; have HB2 : Hid (Below w.heap.size w W2) := below_next HB.out g2; clear g2 t1 t2 t3) | (go_at_call 42; refine Calls.mono (D1.out _) ?_; rintro e W3 ⟨rfl, rfl⟩) | fail)
    go_ret
    exact ⟨by rw [HR2.out]; rfl, HB2.out⟩
  · intro h1
    have k1 : (sd == 0) = false := by simpa using h1
    have HR2 : Hid (R = false) := by show R = false; rw [HR.out]; simp [h1]
    clear HR key h1
    go_wp2_with (first | (go_at_call 28; refine Calls.mono (C28.out _) ?_; rintro e W2 ⟨rfl, g2⟩; have HB2 : Hid (Below w.heap.size w W2) := below_next HB.out g2; clear g2) | fail)
    go_ret
    exact ⟨by rw [HR2.out]; rfl, HB2.out⟩
set_option maxHeartbeats 4000000 in
theorem line_call {w : World} {a b p : Pt} (ha : BdP a) (hb : BdP b) (hp : BdP p) : Calls Tryz.prog 19 #[ptv a, ptv b, ptv p] w fun e w' => e = .returned (.bool (onB a b p)) ∧ Below w.heap.size w w' := by
  have C36 : Hid (∀ A : World, Calls Tryz.prog 36 #[ptv a, ptv b, ptv p] A fun e w' => e = .returned (.int .i64 (crs a b p)) ∧ Below A.heap.size A w') := fun A => cross_call' ha hb hp
  have C37 : Hid (∀ A : World, Calls Tryz.prog 37 #[ptv p, ptv a, ptv b] A fun e w' => e = .returned (.int .i64 (dots p a b)) ∧ Below A.heap.size A w') := fun A => dots_call hp ha hb
  have HR : Hid (onB a b p = (decide (crs a b p = 0) && decide (dots p a b ≤ 0))) := rfl
  clear ha hb hp
  generalize onB a b p = R at *
  generalize crs a b p = cr at *
  generalize dots p a b = dt at *
  obtain ⟨ax, ay⟩ := a
  obtain ⟨bx, b_y⟩ := b
  obtain ⟨px, py⟩ := p
  unfold ptv at C36 C37 ⊢
  simp only at C36 C37 HR ⊢
  go_enter Tryz.func19, Tryz.ntmps19
  go_upto_region 1 with (fail)
  obtain ⟨t1, t2, t3⟩ := three_new w (.int .i64 ax) (.int .i64 bx) (.int .i64 px) (.int .i64 ay) (.int .i64 b_y) (.int .i64 py) 32
  have hB := below_alloc (below_alloc (below_alloc (Below.refl _ w) (Obj.cells #[.int .i64 ax, .int .i64 ay] 32)) (Obj.cells #[.int .i64 bx, .int .i64 b_y] 32)) (Obj.cells #[.int .i64 px, .int .i64 py] 32)
  generalize (((w.alloc (Obj.cells #[.int .i64 ax, .int .i64 ay] 32)).alloc (Obj.cells #[.int .i64 bx, .int .i64 b_y] 32)).alloc (Obj.cells #[.int .i64 px, .int .i64 py] 32)) = W1 at *
  have HT : Hid (∀ A, Below W1.heap.size W1 A → Two A w.heap.size (.int .i64 ax) (.int .i64 ay) 32 ∧ Two A (w.heap.size + 1) (.int .i64 bx) (.int .i64 b_y) 32 ∧ Two A (w.heap.size + 1 + 1) (.int .i64 px) (.int .i64 py) 32) := fun A hA => ⟨two_next t1 hA, two_next t2 hA, two_next t3 hA⟩
  obtain ⟨c0, c1⟩ := cell_two t1
  obtain ⟨c2, c3⟩ := cell_two t2
  obtain ⟨c4, c5⟩ := cell_two t3
  have HB : Hid (Below w.heap.size w W1) := hB
  clear t1 t2 t3 hB
  by_cases h1 : cr = 0
  · have k1 : (cr == 0) = true := by simpa using h1
    have HR2 : Hid (R = decide (dt ≤ 0)) := by show R = decide (dt ≤ 0); rw [HR.out, h1]; simp
    clear HR h1
    go_wp2_with (first | (go_at_call 36; refine Calls.mono (C36.out _) ?_; rintro e W2 ⟨rfl, g2⟩; obtain ⟨t1, t2, t3⟩ := HT.out _ g2; obtain ⟨d0, d1⟩ := cell_two t1; obtain ⟨d2, d3⟩ := cell_two t2; obtain ⟨d4, d5⟩ := cell_two t3; have HB2 : Hid (Below w.heap.size w W2) := below_next HB.out g2; clear g2 t1 t2 t3) | (go_at_call 37; refine Calls.mono (C37.out _) ?_; rintro e W3 ⟨rfl, g3⟩; have HB3 : Hid (Below w.heap.size w W3) := below_next HB2.out g3; clear g3) | fail)
    go_ret
    exact ⟨by rw [HR2.out]; rfl, HB3.out⟩
  · have k1 : (cr == 0) = false := by simpa using h1
    have HR2 : Hid (R = false) := by show R = false; rw [HR.out]; simp [h1]
    clear HR h1
    go_wp2_with (first | (go_at_call 36; refine Calls.mono (C36.out _) ?_; rintro e W2 ⟨rfl, g2⟩; have HB2 : Hid (Below w.heap.size w W2) := below_next HB.out g2; clear g2) | fail)
    go_ret
    exact ⟨by rw [HR2.out]; rfl, HB2.out⟩
end Go.Proofs.YtnboonhlffkimaaGreatDoor
