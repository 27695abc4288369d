/- The document's CutOf and LeastCut. -/
import Derived.Test.YtkakmaalmhofmaaCutTree
namespace Go.Proofs.Ytkakmaalmhofmaa
open Go.RowKit Go.Maps
attribute [local go_sem ↓] Go.wp_at_zero Go.wp_at_succ

theorem and1 (n : Int) : bits .and .i64 n 1 = n % 2 := by
  have h1 : (BitVec.ofInt 64 1).toNat = 2 ^ 1 - 1 := by decide
  have key : (BitVec.ofInt 64 n &&& BitVec.ofInt 64 1).toNat = (n % ((2 ^ 64 : Nat) : Int)).toNat % 2 ^ 1 := by
    rw [BitVec.toNat_and, BitVec.toNat_ofInt, h1, Nat.and_two_pow_sub_one_eq_mod]
  show IntKind.i64.wrap ((BitVec.ofInt 64 n &&& BitVec.ofInt 64 1).toNat : Nat) = n % 2
  rw [key, IntKind.wrap_i64]
  omega
theorem bit_at (S k : Nat) : bits .and .i64 ((S : Int) / 2 ^ k) 1 = if S.testBit k = true then 1 else 0 := by
  rw [and1]
  have e : (S : Int) / 2 ^ k % 2 = ((S / 2 ^ k % 2 : Nat) : Int) := by push_cast; rfl
  rw [e, Nat.testBit_eq_decide_div_mod_eq]
  rcases Nat.mod_two_eq_zero_or_one (S / 2 ^ k) with h | h <;> simp [h]

theorem dcut_succ (m : Nat) (A B : Nat → Nat) (wt : Nat → Int) (X : Nat → Bool) : dcut (m + 1) A B wt X = dcut m A B wt X + (if X (A m) = X (B m) then 0 else wt m) := rfl
theorem dcut_le {A B : Nat → Nat} {wt : Nat → Int} {M : Nat} (h : ∀ a, a < M → 0 ≤ wt a ∧ wt a ≤ 1000000) (X : Nat → Bool) : ∀ m : Nat, m ≤ M → 0 ≤ dcut m A B wt X ∧ dcut m A B wt X ≤ 1000000 * (m : Int)
  | 0, _ => by simp [dcut, sumN]
  | m + 1, hm => by
    have h1 := dcut_le (A := A) (B := B) h X m (by omega)
    have h2 := h m (by omega)
    rw [dcut_succ]
    split <;> omega

set_option maxRecDepth 4000 in
set_option maxHeartbeats 4000000 in
theorem cutOf_call {N S : Nat} {ev : Value} {es : List Pair} {wo : Option Addr} {wc0 : Nat} {ws : List Int} {w : World} (hE : EdgesAt w ev es) (hW : NumsZ w wo ws) (hN : N ≤ 9) (hl : es.length ≤ 1000) (hwl : ws.length = es.length) (hg : ∀ e ∈ es, 0 ≤ e.1 ∧ e.1 < N ∧ 0 ≤ e.2 ∧ e.2 < N) (hws : ∀ x ∈ ws, 0 ≤ x ∧ x ≤ 1000000) :
    Calls Try.prog 50 #[.agg #[.int .i64 (N : Int), ev], .slice wo es.length wc0, .int .i64 (S : Int)] w fun r w' => r = .returned (.int .i64 (dcut es.length (endA es) (endB es) (wtE ws) S.testBit)) ∧ Below w.heap.size w w' := by
  obtain ⟨ao, cap, rfl⟩ := hE.form
  have hwt : ∀ a, a < es.length → 0 ≤ wtE ws a ∧ wtE ws a ≤ 1000000 := fun a ha => by
    unfold wtE
    rw [getD_lt (by omega : a < ws.length)]
    exact hws _ (List.getElem_mem _)
  have HE : Hid _ := hE
  have HW : Hid _ := hW
  have HG : Hid _ := hg
  have HWT : Hid _ := hwt
  have HWL : Hid _ := hwl
  clear hE hW hg hws hwt hwl
  go_enter Try.func50, Try.ntmps50
  go_upto_region 1 with (fail)
  have t0 := two_new w (.int .i64 (N : Int)) (.slice ao es.length cap) 40
  have hB0 := below_alloc (Below.refl _ w) (Obj.cells #[.int .i64 (N : Int), .slice ao es.length cap] 40)
  generalize w.alloc (Obj.cells #[.int .i64 (N : Int), .slice ao es.length cap] 40) = W0 at t0 hB0 ⊢
  go_wp2
  go_loopw [7, 8] (fun nv i wr => ∃ k : Nat, i = .int .i64 (k : Int) ∧ k ≤ es.length ∧ nv = .int .i64 (dcut k (endA es) (endB es) (wtE ws) S.testBit) ∧ Two wr w.heap.size (.int .i64 (N : Int)) (.slice ao es.length cap) 40 ∧ Below w.heap.size w wr) (fun _ i _ => es.length - (numOf i).toNat)
  case atStart => exact ⟨0, rfl, Nat.zero_le _, rfl, t0, hB0⟩
  case round =>
    clear t0 hB0
    obtain ⟨k, rfl, hk, rfl, t0, hB⟩ := hrel
    obtain ⟨q0, q1⟩ := cell_two t0
    have hwl := HWL.out
    by_cases hlt : k < es.length
    · obtain ⟨_, _, e, hl2, hI, hcells⟩ := EdgesAt.below HE.out hB
      cases e
      obtain ⟨b, off, rfl, cx, cy⟩ := hcells k hlt
      have hg := HG.out es[k] (List.getElem_mem hlt)
      obtain ⟨x, y, hxy⟩ : ∃ x y, es[k] = (x, y) := ⟨es[k].1, es[k].2, rfl⟩
      rw [hxy] at cx cy hg
      simp only at hg
      obtain ⟨x', rfl⟩ : ∃ x' : Nat, x = x' := ⟨x.toNat, by omega⟩
      obtain ⟨y', rfl⟩ : ∃ y' : Nat, y = y' := ⟨y.toNat, by omega⟩
      obtain ⟨z, hz?⟩ : ∃ z, ws[k]? = some z := ⟨ws[k]'(by omega), List.getElem?_eq_getElem (by omega)⟩
      obtain ⟨bw, ow, rfl, cw⟩ := (NumsZ.below HW.out hB rfl) k z hz?
      have hzw : wtE ws k = z := by unfold wtE; simp [List.getD, hz?]
      have hzb := HWT.out k hlt
      rw [hzw] at hzb
      have hd := dcut_le (A := endA es) (B := endB es) HWT.out S.testBit k hk
      have hs := dcut_succ k (endA es) (endB es) (wtE ws) S.testBit
      have e1 : endA es k = x' := by unfold endA; rw [getD_lt hlt, hxy]; simp
      have e2 : endB es k = y' := by unfold endB; rw [getD_lt hlt, hxy]; simp
      rw [e1, e2, hzw] at hs
      have HS : Hid _ := hs
      have hb1 := bit_at S x'
      have hb2 := bit_at S y'
      have i1 : (0 : Int) ≤ (k : Int) := by omega
      have i2 : (k : Int) < (es.length : Int) := by omega
      have i3 : ¬ (x' : Int) < 0 := by omega
      have i4 : ¬ (y' : Int) < 0 := by omega
      have i5 : min x' 64 = x' := by omega
      have i6 : min y' 64 = y' := by omega
      clear hcells hI hxy hg hz? hzw hs e1 e2
      go_upto_region 5 with (fail)
      cases hX : S.testBit x' <;> cases hY : S.testBit y'
      all_goals
        rw [hX] at hb1 HS
        rw [hY] at hb2 HS
        first | rw [if_pos rfl] at hb1 | rw [if_neg (by decide)] at hb1
        first | rw [if_pos rfl] at hb2 | rw [if_neg (by decide)] at hb2
        first | rw [if_pos rfl] at HS | rw [if_neg (by decide)] at HS
        clear hX hY
        go_quiet (fail)
        go_wp2
        go_roundw
        case rel => exact ⟨k + 1, by go_num, by omega, by rw [HS.out]; try rw [Int.add_zero], two_turns t0 (Turns.of_below (below_drewN (Below.refl _ wr) nq) (fun _ => False)) (fun h => h), below_drewN hB nq⟩
        case measure => simp [numOf]; omega
    · have i2 : ¬ (k : Int) < (es.length : Int) := by omega
      have hke : k = es.length := by omega
      subst hke
      go_wp2
      go_ret
      exact ⟨rfl, hB⟩

/-- The least of the cuts that sets below k make. -/
def LeastTo (es : List Pair) (ws : List Int) (a b k : Nat) (c : Int) : Prop :=
  (c = -1 ∧ ∀ S, S < k → ¬ (S.testBit a = true ∧ S.testBit b = false)) ∨ ((∃ S, S < k ∧ S.testBit a = true ∧ S.testBit b = false ∧ dcut es.length (endA es) (endB es) (wtE ws) S.testBit = c) ∧ ∀ S, S < k → S.testBit a = true → S.testBit b = false → c ≤ dcut es.length (endA es) (endB es) (wtE ws) S.testBit)
theorem dcut_congr {m : Nat} {A B : Nat → Nat} {wt : Nat → Int} {N : Nat} {X Y : Nat → Bool} (h : ∀ v, v < N → X v = Y v) (hA : ∀ a, a < m → A a < N ∧ B a < N) : dcut m A B wt X = dcut m A B wt Y := sumN_congr (fun a ha => by rw [h _ (hA a ha).1, h _ (hA a ha).2])
/-- Each set of nodes below N has a number. -/
theorem set_num : ∀ (N : Nat) (X : Nat → Bool), ∃ S, S < 2 ^ N ∧ ∀ v, v < N → S.testBit v = X v
  | 0, _ => ⟨0, by simp, fun v h => by omega⟩
  | N + 1, X => by
    obtain ⟨S, h1, h2⟩ := set_num N X
    by_cases e : X N = true
    · refine ⟨2 ^ N + S, by rw [Nat.pow_succ]; omega, fun v hv => ?_⟩
      by_cases hvN : v = N
      · subst hvN
        rw [Nat.testBit_two_pow_add_eq, Nat.testBit_lt_two_pow h1, e]
        rfl
      · rw [Nat.testBit_two_pow_add_gt (by omega), h2 v (by omega)]
    · refine ⟨S, by rw [Nat.pow_succ]; omega, fun v hv => ?_⟩
      by_cases hvN : v = N
      · subst hvN
        rw [Nat.testBit_lt_two_pow h1]
        simpa using e
      · exact h2 v (by omega)
theorem least_is {N a b : Nat} {es : List Pair} {ws : List Int} {c : Int} {f : Nat → Nat → Int} (hf : AllF es.length (endA es) (endB es) (wtE ws) f) (hg : ∀ e ∈ es, 0 ≤ e.1 ∧ e.1 < N ∧ 0 ≤ e.2 ∧ e.2 < N) (ha : a < N) (hb : b < N) (hab : a ≠ b) (h : LeastTo es ws a b (2 ^ N) c) : c = f a b := by
  have hA : ∀ k, k < es.length → endA es k < N ∧ endB es k < N := fun k hk => by
    have h5 := hg es[k] (List.getElem_mem hk)
    unfold endA endB
    rw [getD_lt hk]
    omega
  obtain ⟨X, x1, x2, x3⟩ := (hf a b hab).1
  obtain ⟨S, s1, s2⟩ := set_num N X
  have e1 := dcut_congr (wt := wtE ws) s2 hA
  rcases h with ⟨_, h⟩ | ⟨⟨S', g1, g2, g3, g4⟩, h⟩
  · exact absurd ⟨(s2 a ha).trans x1, (s2 b hb).trans x2⟩ (h S s1)
  · have k1 := h S s1 ((s2 a ha).trans x1) ((s2 b hb).trans x2)
    have k2 := (hf a b hab).2 S'.testBit g2 g3
    omega

theorem LeastTo.start (es : List Pair) (ws : List Int) (a b : Nat) : LeastTo es ws a b 0 (-1) := Or.inl ⟨rfl, fun _ h => absurd h (Nat.not_lt_zero _)⟩
theorem LeastTo.skip {es : List Pair} {ws : List Int} {a b k : Nat} {c : Int} (h : LeastTo es ws a b k c) (hk : ¬ (k.testBit a = true ∧ k.testBit b = false)) : LeastTo es ws a b (k + 1) c := by
  rcases h with ⟨h1, h2⟩ | ⟨⟨S, g1, g2⟩, h2⟩
  · exact Or.inl ⟨h1, fun S hS => by
      by_cases e : S = k
      · subst e; exact hk
      · exact h2 S (by omega)⟩
  · exact Or.inr ⟨⟨S, by omega, g2⟩, fun S' hS ha hb => by
      by_cases e : S' = k
      · subst e; exact absurd ⟨ha, hb⟩ hk
      · exact h2 S' (by omega) ha hb⟩
theorem LeastTo.put {es : List Pair} {ws : List Int} {a b k : Nat} {c d : Int} (h : LeastTo es ws a b k c) (ha : k.testBit a = true) (hb : k.testBit b = false) (hd : d = dcut es.length (endA es) (endB es) (wtE ws) k.testBit) (hn : ∀ S : Nat, 0 ≤ dcut es.length (endA es) (endB es) (wtE ws) S.testBit) : LeastTo es ws a b (k + 1) (if c < 0 then d else if d < c then d else c) := by
  rcases h with ⟨h1, h2⟩ | ⟨⟨S, g1, g2, g3, g4⟩, h2⟩
  · rw [if_pos (by omega)]
    exact Or.inr ⟨⟨k, by omega, ha, hb, hd.symm⟩, fun S hS sa sb => by
      by_cases e : S = k
      · subst e; omega
      · exact absurd ⟨sa, sb⟩ (h2 S (by omega))⟩
  · by_cases hc : c < 0
    · have := hn S; omega
    · rw [if_neg hc]
      by_cases hdc : d < c
      · rw [if_pos hdc]
        exact Or.inr ⟨⟨k, by omega, ha, hb, hd.symm⟩, fun S' hS sa sb => by
          by_cases e : S' = k
          · subst e; omega
          · have := h2 S' (by omega) sa sb
            omega⟩
      · rw [if_neg hdc]
        exact Or.inr ⟨⟨S, by omega, g2, g3, g4⟩, fun S' hS sa sb => by
          by_cases e : S' = k
          · subst e; omega
          · exact h2 S' (by omega) sa sb⟩

set_option maxRecDepth 4000 in
set_option maxHeartbeats 4000000 in
theorem leastCut_call {N a b : Nat} {ev : Value} {es : List Pair} {wo : Option Addr} {wc0 : Nat} {ws : List Int} {w : World} (hE : EdgesAt w ev es) (hW : NumsZ w wo ws) (hN : N ≤ 9) (hl : es.length ≤ 1000) (hwl : ws.length = es.length) (hg : ∀ e ∈ es, 0 ≤ e.1 ∧ e.1 < N ∧ 0 ≤ e.2 ∧ e.2 < N) (hws : ∀ x ∈ ws, 0 ≤ x ∧ x ≤ 1000000) (ha : a < N) (hb : b < N) :
    Calls Try.prog 26 #[.agg #[.int .i64 (N : Int), ev], .slice wo es.length wc0, .int .i64 (a : Int), .int .i64 (b : Int)] w fun r w' => ∃ c, r = .returned (.int .i64 c) ∧ LeastTo es ws a b (2 ^ N) c ∧ Below w.heap.size w w' := by
  obtain ⟨ao, cap, rfl⟩ := hE.form
  have hwt : ∀ a, a < es.length → 0 ≤ wtE ws a ∧ wtE ws a ≤ 1000000 := fun a ha => by
    unfold wtE
    rw [getD_lt (by omega : a < ws.length)]
    exact hws _ (List.getElem_mem _)
  have hn : ∀ S : Nat, 0 ≤ dcut es.length (endA es) (endB es) (wtE ws) S.testBit := fun S => dcut_pos (fun a ha => (hwt a ha).1) _
  have hP : 2 ^ N ≤ 512 := by
    have : 2 ^ N ≤ 2 ^ 9 := Nat.pow_le_pow_right (by omega) hN
    simpa using this
  have hwp : wrap64 ((2 : Int) ^ N) = ((2 ^ N : Nat) : Int) := by
    have e : (2 : Int) ^ N = ((2 ^ N : Nat) : Int) := by push_cast; rfl
    rw [e]
    unfold wrap64
    generalize 2 ^ N = P at hP ⊢
    omega
  obtain ⟨P, hPe⟩ : ∃ P, P = 2 ^ N := ⟨_, rfl⟩
  rw [← hPe] at hP hwp ⊢
  have hco : ∀ (S : Nat) (W : World), Below w.heap.size w W → Calls Try.prog 50 #[.agg #[.int .i64 (N : Int), .slice ao es.length cap], .slice wo es.length wc0, .int .i64 (S : Int)] W fun r w' => r = .returned (.int .i64 (dcut es.length (endA es) (endB es) (wtE ws) S.testBit)) ∧ Below W.heap.size W w' := fun S W hb => cutOf_call (hE.below hb) (hW.below hb rfl) hN hl hwl hg hws
  have hdl : ∀ S : Nat, dcut es.length (endA es) (endB es) (wtE ws) S.testBit ≤ 1000000000 := fun S => by
    have := dcut_le (A := endA es) (B := endB es) hwt S.testBit es.length (Nat.le_refl _)
    omega
  have HCO : Hid _ := hco
  have HNN : Hid _ := hn
  have HDL : Hid _ := hdl
  clear hE hW hg hws hwt hn hco hdl hPe hwl hl
  have i7 : min N 64 = N := by omega
  have i5 : min a 64 = a := by omega
  have i6 : min b 64 = b := by omega
  go_enter Try.func26, Try.ntmps26
  go_upto_region 1 with (fail)
  have t0 := two_new w (.int .i64 (N : Int)) (.slice ao es.length cap) 40
  have hB0 := below_alloc (Below.refl _ w) (Obj.cells #[.int .i64 (N : Int), .slice ao es.length cap] 40)
  generalize w.alloc (Obj.cells #[.int .i64 (N : Int), .slice ao es.length cap] 40) = W0 at t0 hB0 ⊢
  go_wp2
  go_loopw [9, 10] (fun bv i wr => ∃ (k : Nat) (c : Int), i = .int .i64 (k : Int) ∧ k ≤ P ∧ bv = .int .i64 c ∧ LeastTo es ws a b k c ∧ Two wr w.heap.size (.int .i64 (N : Int)) (.slice ao es.length cap) 40 ∧ Below w.heap.size w wr) (fun _ i _ => P - (numOf i).toNat)
  case atStart => exact ⟨0, -1, rfl, Nat.zero_le _, rfl, LeastTo.start es ws a b, t0, hB0⟩
  case round =>
    clear t0 hB0
    obtain ⟨k, c, rfl, hk, rfl, hle, t0, hB⟩ := hrel
    obtain ⟨q0, q1⟩ := cell_two t0
    have HLE : Hid _ := hle
    clear hle
    by_cases hlt : k < P
    · have i2 : (k : Int) < (P : Int) := by omega
      have hb1 := bit_at k a
      have hb2 := bit_at k b
      have i3 : ¬ (a : Int) < 0 := by omega
      have i4 : ¬ (b : Int) < 0 := by omega
      cases hX : k.testBit a
      · rw [hX, if_neg (by decide)] at hb1
        have HX : Hid _ := hX
        clear hX hb2
        go_wp2
        go_roundw
        case rel => exact ⟨k + 1, c, by go_num, by omega, rfl, LeastTo.skip HLE.out (fun h => by rw [HX.out] at h; simp at h), t0, hB⟩
        case measure => simp [numOf]; omega
      · cases hY : k.testBit b
        · rw [hX, if_pos rfl] at hb1
          rw [hY, if_neg (by decide)] at hb2
          have hc := HCO.out k wr hB
          obtain ⟨d, hd⟩ : ∃ d, d = dcut es.length (endA es) (endB es) (wtE ws) k.testBit := ⟨_, rfl⟩
          rw [← hd] at hc
          have hput := LeastTo.put HLE.out hX hY hd HNN.out
          have hd0 : 0 ≤ d := by rw [hd]; exact HNN.out k
          have HPT : Hid _ := hput
          have HC : Hid _ := hc
          clear hput hc hX hY hd
          by_cases hc0 : c < 0
          · rw [if_pos hc0] at HPT
            go_wp2_with (first | (go_at_call 50; refine Calls.mono HC.out ?_; rintro r W2 ⟨rfl, hb2⟩; have t2 := two_next t0 hb2) | go_in)
            go_roundw
            case rel => exact ⟨k + 1, d, by go_num, by omega, rfl, HPT.out, t2, below_next hB hb2⟩
            case measure => simp [numOf]; omega
          · rw [if_neg hc0] at HPT
            by_cases hdc : d < c
            · rw [if_pos hdc] at HPT
              go_wp2_with (first | (go_at_call 50; refine Calls.mono HC.out ?_; rintro r W2 ⟨rfl, hb2⟩; have t2 := two_next t0 hb2) | go_in)
              go_roundw
              case rel => exact ⟨k + 1, d, by go_num, by omega, rfl, HPT.out, t2, below_next hB hb2⟩
              case measure => simp [numOf]; omega
            · rw [if_neg hdc] at HPT
              go_wp2_with (first | (go_at_call 50; refine Calls.mono HC.out ?_; rintro r W2 ⟨rfl, hb2⟩; have t2 := two_next t0 hb2) | go_in)
              go_roundw
              case rel => exact ⟨k + 1, c, by go_num, by omega, rfl, HPT.out, t2, below_next hB hb2⟩
              case measure => simp [numOf]; omega
        · rw [hX, if_pos rfl] at hb1
          rw [hY, if_pos rfl] at hb2
          have HY : Hid _ := hY
          clear hX hY
          go_wp2
          go_roundw
          case rel => exact ⟨k + 1, c, by go_num, by omega, rfl, LeastTo.skip HLE.out (fun h => by rw [HY.out] at h; simp at h), t0, hB⟩
          case measure => simp [numOf]; omega
    · have i2 : ¬ (k : Int) < (P : Int) := by omega
      have hke : k = P := by omega
      have HKE : Hid _ := hke
      clear hke
      go_wp2
      go_ret
      exact ⟨c, rfl, by have h := HLE.out; rw [HKE.out] at h; exact h, hB⟩
end Go.Proofs.Ytkakmaalmhofmaa
