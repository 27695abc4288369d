/- Strong, told of arcs that are out of form: its fault. -/
import Derived.Test.YtgepibidhebbiabStrongMath
namespace Go.Proofs.Ytgepibidhebbiab
open Go.RowKit Go.Maps
attribute [local go_sem ↓] Go.wp_at_zero Go.wp_at_succ

set_option maxHeartbeats 2000000 in
theorem strong_many (n : Int) (ao : Option Addr) (len cap : Nat) (w : World) (h : n < 0 ∨ 100 < n ∨ 1000 < len) :
    Calls Try.prog 28 #[.int .i64 n, .slice ao len cap] w fun r w' => r = .returned (.tuple #[.slice none 0 0, .agg #[.int .i64 2, .int .i64 0]]) ∧ Below w.heap.size w w' := by
  have hor : n < 0 ∨ (¬ n < 0 ∧ 100 < n) ∨ (¬ n < 0 ∧ ¬ 100 < n ∧ (1000 : Int) < (len : Int)) := by omega
  clear h
  rcases hor with h0 | ⟨h0, h1⟩ | ⟨h0, h1, h2⟩
  all_goals
    go_enter Try.func28, Try.ntmps28
    go_wp2
    refine bodyPost_ret (v := .tuple #[.slice none 0 0, .agg #[.int .i64 2, .int .i64 0]]) ?_ rfl ⟨rfl, ?_⟩
    · simp [results, Try.results28, go_sem]
    · first | exact below_alloc (Below.refl _ _) _ | exact below_set4 (below_alloc (Below.refl _ _) _) (by simp) (by simp) (by simp) (by simp)

set_option maxHeartbeats 2000000 in
theorem strong_range (n : Int) (ao : Option Addr) (cap : Nat) (es : List Pair) (w : World) (hE : EdgesAt w (.slice ao es.length cap) es) (hn0 : 0 ≤ n) (hn1 : n ≤ 100) (hl : es.length ≤ 1000) {K : Nat} {e : Pair} (hK : es[K]? = some e) (hbad : ¬ ArcIn n e) (hgood : ∀ (j : Nat) (e : Pair), j < K → es[j]? = some e → ArcIn n e) :
    Calls Try.prog 28 #[.int .i64 n, .slice ao es.length cap] w fun r w' => r = .returned (.tuple #[.slice none 0 0, .agg #[.int .i64 3, .int .i64 (K : Int)]]) ∧ Below w.heap.size w w' := by
  have hl3 : ¬ (1000 : Int) < (es.length : Int) := by omega
  have hn2 : ¬ n < 0 := by omega
  have hn3 : ¬ 100 < n := by omega
  have hKl : K < es.length := (List.getElem?_eq_some_iff.1 hK).1
  have HE : Hid _ := hE
  have HK : Hid _ := hK
  have HBD : Hid _ := hbad
  have HGD : Hid _ := hgood
  clear hE hK hbad hgood
  go_enter Try.func28, Try.ntmps28
  go_upto_region 3 with (fail)
  have t5 := two_new w (.int .i64 0) (.int .i64 0) 27
  have hB := below_alloc (Below.refl _ w) (Obj.cells #[.int .i64 0, .int .i64 0] 27)
  generalize w.alloc (Obj.cells #[.int .i64 0, .int .i64 0] 27) = W at t5 hB ⊢
  go_wp2
  go_loopw [28] (fun i wr => ∃ k : Nat, k ≤ K ∧ i = .int .i64 (k : Int) ∧ Below W.heap.size W wr) (fun i _ => es.length - (numOf i).toNat)
  case atStart => exact ⟨0, Nat.zero_le _, rfl, Below.refl _ _⟩
  case round =>
    obtain ⟨k, hk, rfl, hBr⟩ := hrel
    have hkl : k < es.length := by omega
    obtain ⟨yo, yc, ey, _, _, hcells⟩ := EdgesAt.below HE.out (below_next hB hBr)
    cases ey
    obtain ⟨b, off, rfl, c1, c2⟩ := hcells k hkl
    obtain ⟨x, y, hxy⟩ : ∃ x y, es[k] = (x, y) := ⟨es[k].1, es[k].2, rfl⟩
    have hget : es[k]? = some (x, y) := by rw [List.getElem?_eq_getElem hkl, hxy]
    rw [hxy] at c1 c2
    have HGT : Hid _ := hget
    clear hcells hxy hget
    have j1 : (0 : Int) ≤ (k : Int) := by omega
    have j2 : (k : Int) < (es.length : Int) := by omega
    go_upto_region 6 with (fail)
    have t5' := two_alloc (two_next t5 hBr) (Obj.cells #[.int .i64 x, .int .i64 y] 63)
    have t7 := two_new wr (.int .i64 x) (.int .i64 y) 63
    have hBx := below_alloc hBr (Obj.cells #[.int .i64 x, .int .i64 y] 63)
    generalize wr.heap.size = b7 at t7 ⊢
    generalize wr.alloc (Obj.cells #[.int .i64 x, .int .i64 y] 63) = wx at t5' t7 hBx ⊢
    obtain ⟨z1, z2⟩ := cell_two t7
    clear c1 c2
    have l1 := isNode_call n x wx
    have l2 := fun (w' : World) => isNode_call n y w'
    by_cases hin : ArcIn n (x, y)
    · have hkK : k < K := by
        rcases Nat.lt_or_ge k K with h | h
        · exact h
        · have : k = K := by omega
          subst this
          have h1 := HGT.out
          rw [HK.out] at h1
          cases h1
          exact absurd hin HBD.out
      have e1 : (decide (0 ≤ x) && decide (x < n)) = true := by simpa using ⟨hin.1, hin.2.2.1⟩
      have e2 : (decide (0 ≤ y) && decide (y < n)) = true := by simpa using ⟨hin.2.1, hin.2.2.2⟩
      simp only [e1] at l1
      simp only [e2] at l2
      have H1 : Hid _ := l1
      have H2 : Hid _ := l2
      clear l1 l2 e1 e2 hin
      go_wp2_with (first
        | (go_at_call 50; (fail_if_success (have hh := hbA)); refine Calls.mono H1.out ?_; rintro r wa ⟨rfl, hbA⟩; obtain ⟨s1, s2⟩ := cell_two (two_next t7 hbA))
        | (go_at_call 50; refine (H2.out _).mono ?_; rintro r wb ⟨rfl, hbB⟩)
        | go_in)
      go_roundw
      case rel => exact ⟨k + 1, by omega, by go_num, below_next hBx (below_next hbA hbB)⟩
      case measure => simp [numOf]; omega
    · have hkK : k = K := by
        rcases Nat.lt_or_ge k K with h | h
        · exact absurd (HGD.out k _ h HGT.out) hin
        · omega
      subst hkK
      by_cases e1 : (decide (0 ≤ x) && decide (x < n)) = true
      · have e2 : (decide (0 ≤ y) && decide (y < n)) = false := by
          cases hh : (decide (0 ≤ y) && decide (y < n))
          · rfl
          · simp only [Bool.and_eq_true, decide_eq_true_eq] at e1 hh
            exact absurd ⟨e1.1, hh.1, e1.2, hh.2⟩ hin
        simp only [e1] at l1
        simp only [e2] at l2
        have H1 : Hid _ := l1
        have H2 : Hid _ := l2
        clear l1 l2 e1 e2 hin
        go_wp2_with (first
          | (go_at_call 50; (fail_if_success (have hh := hbA)); refine Calls.mono H1.out ?_; rintro r wa ⟨rfl, hbA⟩; obtain ⟨s1, s2⟩ := cell_two (two_next t7 hbA))
          | (go_at_call 50; refine (H2.out _).mono ?_; rintro r wb ⟨rfl, hbB⟩; obtain ⟨f1, f2⟩ := cell_two (two_next t5' (below_next hbA hbB)); have g1 := free_two (two_next t5' (below_next hbA hbB)) 0; have g2 := free_two (two_next t5' (below_next hbA hbB)) 1)
          | go_in)
        refine bodyPost_ret (v := .tuple #[.slice none 0 0, .agg #[.int .i64 3, .int .i64 (k : Int)]]) ?_ rfl ⟨rfl, ?_⟩
        · simp [results, Try.results28, go_sem, f1, f2]
        · exact ((below_next hB (below_next hBx (below_next hbA hbB))).setCell (by simp) _).setCell (by simp) _
      · have e1' : (decide (0 ≤ x) && decide (x < n)) = false := by simpa using e1
        simp only [e1'] at l1
        have H1 : Hid _ := l1
        clear l1 l2 e1 e1' hin
        go_wp2_with (first
          | (go_at_call 50; refine Calls.mono H1.out ?_; rintro r wa ⟨rfl, hbA⟩; obtain ⟨f1, f2⟩ := cell_two (two_next t5' hbA); have g1 := free_two (two_next t5' hbA) 0; have g2 := free_two (two_next t5' hbA) 1)
          | go_in)
        refine bodyPost_ret (v := .tuple #[.slice none 0 0, .agg #[.int .i64 3, .int .i64 (k : Int)]]) ?_ rfl ⟨rfl, ?_⟩
        · simp [results, Try.results28, go_sem, f1, f2]
        · exact ((below_next hB (below_next hBx hbA)).setCell (by simp) _).setCell (by simp) _
end Go.Proofs.Ytgepibidhebbiab
