/- The document's own coefficients of (x - 1)^p: R.Power. -/
import Derived.Test.YtmeodnkmhakidaaLessW
namespace Go.Proofs.Ytmeodnkmhakidaa
set_option maxRecDepth 8000
open Go.RowKit Go.Maps
attribute [local go_sem ↓] Go.wp_at_zero Go.wp_at_succ
/-- What stands in the next row when t of the old one have been put in. -/
def pw (k t x : Nat) : Int := if x < t then co (k + 1) x else if x = t then (match t with | 0 => 0 | t + 1 => co k t) else 0
theorem pw_step1 (k t : Nat) : pw k t t - co k t = co (k + 1) t := by
  unfold pw
  rw [if_neg (by omega), if_pos rfl]
  cases t with
  | zero => simp [co]
  | succ t => rfl
theorem pw_zero {k t x : Nat} (h : t < x) : pw k t x = 0 := by
  unfold pw
  rw [if_neg (by omega), if_neg (by omega)]
theorem pw_next {k t x : Nat} : pw k (t + 1) x = if x = t + 1 then co k t else if x = t then co (k + 1) t else pw k t x := by
  unfold pw
  by_cases h1 : x = t + 1
  · subst h1; rw [if_neg (by omega), if_pos rfl, if_pos rfl]
  · by_cases h2 : x = t
    · subst h2; simp
    · by_cases h3 : x < t
      · simp [h1, h2, h3]
        intro h4
        omega
      · simp [h1, h2, h3]
        intro h4
        omega
theorem pw_end {k x : Nat} (h : x < k + 2) : pw k (k + 1) x = co (k + 1) x := by
  unfold pw
  by_cases h1 : x < k + 1
  · rw [if_pos h1]
  · obtain rfl : x = k + 1 := by omega
    rw [if_neg h1, if_pos rfl, co, co_out (Nat.lt_succ_self k)]
    simp
theorem pw_small {k : Nat} (hk : k ≤ 12) (t x : Nat) : -8192 ≤ pw k t x ∧ pw k t x ≤ 8192 := by
  unfold pw
  split
  · exact co_small (by omega) _
  · split
    · cases t with
      | zero => simp
      | succ t => exact co_small (by omega) _
    · simp
set_option maxHeartbeats 4000000 in
theorem power_call {w : World} {p : Nat} (hp : p ≤ 12) :
    Calls Try.prog 22 #[.int .i64 (p : Int)] w fun e w' => ∃ g cap, e = .returned (.slice (some ⟨g, 0, none⟩) (p + 1) cap) ∧ OwF w' w.heap.size g 3 cap (p + 1) (coV p) ∧ Below w.heap.size w w' := by
  go_enter Try.func22, Try.ntmps22
  go_upto_region 3 with (fail)
  have o0 := owF_one w w.heap.size (.int .i64 1) 3 (Nat.le_refl _)
  have hB0 := below_alloc (Below.refl _ w) (Obj.cells #[.int .i64 1] 3)
  obtain ⟨g0, hg0⟩ : ∃ g, g = w.heap.size := ⟨_, rfl⟩
  rw [← hg0] at o0 ⊢
  generalize w.alloc (Obj.cells #[.int .i64 1] 3) = W0 at *
  have HO : Hid (OwF W0 w.heap.size g0 3 1 1 (fun _ => .int .i64 1) ∧ Below w.heap.size w W0) := ⟨hg0 ▸ o0, hB0⟩
  clear o0 hB0 hg0
  go_loopw [3, 4, 5, 6] (fun s3 s4 _ _ wz => ∃ (k g cap : Nat), k ≤ p ∧ s4 = .int .i64 (k : Int) ∧ s3 = .slice (some ⟨g, 0, none⟩) (k + 1) cap ∧ Hid (OwF wz w.heap.size g 3 cap (k + 1) (coV k) ∧ Below w.heap.size w wz)) (fun _ s4 _ _ _ => p - (numOf s4).toNat)
  case atStart => exact ⟨0, g0, 1, Nat.zero_le _, rfl, rfl, HO.out.1.congr (fun j hj => by
    have e : j = 0 := by omega
    subst e
    rfl), HO.out.2⟩
  case round =>
    obtain ⟨k, g, cap, hk, rfl, rfl, hJ⟩ := hrel
    clear HO
    by_cases hlt : k < p
    · have k1 : decide ((k : Int) < (p : Int)) = true := by simp; omega
      have hmk : ∀ W : World, (Instr.makeSlice 45 (.int .i64 ((k : Int) + 1 + 1)) (.int .i64 ((k : Int) + 1 + 1))).run Try.prog W = .ok (.slice (some ⟨W.heap.size, 0, none⟩) (k + 2) (k + 2)) (W.alloc (.cells (rep (k + 2) (.int .i64 0)) 3)) := fun W => by
        have h := make45 (k + 2) (by omega) W
        rw [show ((k + 2 : Nat) : Int) = (k : Int) + 1 + 1 by omega] at h
        exact h
      go_upto_region 6 with (fail)
      have o2 : OwF (wr.alloc (.cells (rep (k + 2) (.int .i64 0)) 3)) w.heap.size wr.heap.size 3 (k + 2) (k + 2) (fun j => .int .i64 (pw k 0 j)) := by
        refine ⟨hJ.out.2.size, Nat.le_refl _, by unfold maxLen; omega, _, heap_alloc_new _ _, rep_size _ _, fun j hj => ?_⟩
        rw [rep_at _ hj]
        cases j with
        | zero => rfl
        | succ j =>
          show _ = some (Value.int .i64 (pw k 0 (j + 1)))
          rw [pw_zero (by omega)]
      have hB2 := below_alloc (Below.refl _ wr) (Obj.cells (rep (k + 2) (.int .i64 0)) 3)
      obtain ⟨g2, hg2⟩ : ∃ g, g = wr.heap.size := ⟨_, rfl⟩
      rw [← hg2] at o2 ⊢
      generalize wr.alloc (.cells (rep (k + 2) (.int .i64 0)) 3) = W2 at *
      have hne : g2 ≠ g := by have := hJ.out.1.lt; omega
      have HO : Hid (OwF W2 w.heap.size g 3 cap (k + 1) (coV k) ∧ OwF W2 w.heap.size g2 3 (k + 2) (k + 2) (fun j => .int .i64 (pw k 0 j)) ∧ Below w.heap.size w W2) := ⟨hJ.out.1.below hB2, o2, below_next hJ.out.2 hB2⟩
      clear o2 hB2 hg2 hmk hJ
      go_wp2_with (fail)
      go_loopw [6] (fun s6 wz => ∃ t : Nat, t ≤ k + 1 ∧ s6 = .int .i64 (t : Int) ∧ Hid (OwF wz w.heap.size g 3 cap (k + 1) (coV k) ∧ OwF wz w.heap.size g2 3 (k + 2) (k + 2) (fun j => .int .i64 (pw k t j)) ∧ Below w.heap.size w wz)) (fun s6 _ => k + 1 - (numOf s6).toNat)
      case atStart => exact ⟨0, Nat.zero_le _, rfl, HO⟩
      case round =>
        obtain ⟨t, ht, rfl, hJ⟩ := hrel
        clear HO
        by_cases htk : t < k + 1
        · have k2 : decide ((t : Int) < ((k + 1 : Nat) : Int)) = true := by simp; omega
          have c0 : wr.cell? ⟨g2, t, none⟩ = some (.int .i64 (pw k t t)) := hJ.out.2.1.cell (j := t) (by omega)
          have c1 : wr.cell? ⟨g, t, none⟩ = some (.int .i64 (co k t)) := hJ.out.1.cell (j := t) (by omega)
          have b0 := pw_small (k := k) (by omega) t t
          have b1 := co_small (k := k) (by omega) t
          have b2 : -9223372036854775808 ≤ pw k t t - co k t := by omega
          have b3 : pw k t t - co k t < 9223372036854775808 := by omega
          have t0 : (0 : Int) ≤ (t : Int) := by omega
          have t1 : (t : Int) < ((k + 2 : Nat) : Int) := by omega
          have t2 : (t : Int) < ((k + 1 : Nat) : Int) := by omega
          clear b0 b1
          go_upto_region 9 with (fail)
          have d0 := cell_growD c0
          have d1 := cell_growD c1
          clear c0 c1
          refine wp_region_tailT 10 (by kernel_rfl) (by kernel_rfl) (by kernel_rfl) (by decide) ?_
          simp only [List.take_succ_cons, List.take_zero, List.drop_succ_cons, List.drop_zero]
          repeat (go_big_quiet_step (fail))
          refine wpQuiet_nil ?_
          rintro _ ⟨gp, rfl⟩
          have hB8 := growD_below wr gp
          clear d0 d1
          generalize growD wr gp = w8 at *
          have hO8 := hJ.out.2.1.below hB8
          have c8 := hO8.cell (j := t) (by omega)
          have f8 := hO8.free t
          have HO8 : Hid _ := And.intro (hJ.out.1.below hB8) (And.intro hO8 (below_next hJ.out.2.2 hB8))
          clear hO8 hB8 hJ
          go_upto_region 10 with (fail)
          have HO9 : Hid (OwF (w8.setCell ⟨g2, t, none⟩ (.int .i64 (pw k t t - co k t))) w.heap.size g 3 cap (k + 1) (coV k) ∧ OwF (w8.setCell ⟨g2, t, none⟩ (.int .i64 (pw k t t - co k t))) w.heap.size g2 3 (k + 2) (k + 2) (fun j => if j = t then .int .i64 (pw k t t - co k t) else .int .i64 (pw k t j)) ∧ Below w.heap.size w (w8.setCell ⟨g2, t, none⟩ (.int .i64 (pw k t t - co k t)))) := ⟨HO8.out.1.turns (setCell_turns _ _ _ _) (fun e => hne e.symm), HO8.out.2.1.set t _, HO8.out.2.2.setCell HO8.out.2.1.1 _⟩
          clear HO8 c8 f8 b2 b3
          generalize w8.setCell ⟨g2, t, none⟩ (.int .i64 (pw k t t - co k t)) = w9 at *
          have c0 : w9.cell? ⟨g2, t + 1, none⟩ = some (.int .i64 0) := by
            have := HO9.out.2.1.cell (j := t + 1) (by omega)
            rw [if_neg (by omega), pw_zero (Nat.lt_succ_self t)] at this
            exact this
          have c1 : w9.cell? ⟨g, t, none⟩ = some (.int .i64 (co k t)) := HO9.out.1.cell (j := t) (by omega)
          have b1 := co_small (k := k) (by omega) t
          have b2 : -9223372036854775808 ≤ co k t := by omega
          have b3 : co k t < 9223372036854775808 := by omega
          have s0 : (0 : Int) ≤ (t : Int) + 1 := by omega
          have s1 : (t : Int) + 1 < (k : Int) + 2 := by omega
          clear b1
          have d0 := cell_growD c0
          have d1 := cell_growD c1
          clear c0 c1
          refine wp_region_tailT 11 (by kernel_rfl) (by kernel_rfl) (by kernel_rfl) (by decide) ?_
          simp only [List.take_succ_cons, List.take_zero, List.drop_succ_cons, List.drop_zero]
          repeat (go_big_quiet_step (fail))
          refine wpQuiet_nil ?_
          rintro _ ⟨gp, rfl⟩
          have hB8 := growD_below w9 gp
          clear d0 d1
          generalize growD w9 gp = w10 at *
          have hO8 := HO9.out.2.1.below hB8
          have c8 := hO8.cell (j := t + 1) (by omega)
          have f8 := hO8.free (t + 1)
          have HO8 : Hid _ := And.intro (HO9.out.1.below hB8) (And.intro hO8 (below_next HO9.out.2.2 hB8))
          clear hO8 hB8 HO9
          go_wp2
          go_roundw
          case rel =>
            refine ⟨t + 1, by omega, by go_num, HO8.out.1.turns (setCell_turns _ _ _ _) (fun e => hne e.symm), (HO8.out.2.1.set (t + 1) (.int .i64 (co k t))).congr (fun j hj => ?_), HO8.out.2.2.setCell HO8.out.2.1.1 _⟩
            rw [pw_next]
            by_cases e : j = t + 1
            · rw [if_pos e, if_pos e]
            · rw [if_neg e, if_neg e]
              by_cases e2 : j = t
              · rw [if_pos e2, if_pos e2, pw_step1]
              · rw [if_neg e2, if_neg e2]
          case measure => simp [numOf]; omega
        · obtain rfl : t = k + 1 := by omega
          have k2 : decide (((k + 1 : Nat) : Int) < ((k + 1 : Nat) : Int)) = false := by simp
          go_wp2
          go_roundw
          case rel => exact ⟨k + 1, g2, k + 2, by omega, by go_num, rfl, hJ.out.2.1.congr (fun j hj => by rw [pw_end hj]; rfl), hJ.out.2.2⟩
          case measure => simp [numOf]; omega
    · obtain rfl : k = p := by omega
      have k1 : decide ((k : Int) < (k : Int)) = false := by simp
      go_wp2
      go_ret
      exact ⟨g, cap, rfl, hJ.out⟩
end Go.Proofs.Ytmeodnkmhakidaa
