/- Weights and bags that are checked: checkWeights, checkSmall. -/
import Derived.Test.YtdalconphfgepaaDoorSpX
namespace Go.Proofs.YtdalconphfgepaaDoor
set_option maxRecDepth 8000
open Go.RowKit Go.Maps
attribute [local go_sem ↓] Go.wp_at_zero Go.wp_at_succ
/-- The first weight that may not stand there, from k on. -/
def wtF (g : Nat → Int) : Nat → Nat → Int × Int
  | 0, _ => (0, 0)
  | c + 1, k => if g k < -1000000 ∨ 1000000 < g k then (3, (k : Int)) else wtF g c (k + 1)
/-- checkWeights, and what the document says of weights. -/
def wtR (n : Int) (g : Nat → Int) (l : Nat) : Int × Int := if (l : Int) ≠ n then (6, 1) else wtF g l 0
theorem wtF_ok {g : Nat → Int} : ∀ {c k : Nat}, (wtF g c k).1 = 0 → wtF g c k = (0, 0) ∧ ∀ j, k ≤ j → j < k + c → -1000000 ≤ g j ∧ g j ≤ 1000000
  | 0, k, _ => ⟨rfl, fun j h1 h2 => by omega⟩
  | c + 1, k, h => by
    unfold wtF at h ⊢
    split at h
    · cases h
    · next hc =>
      rw [if_neg hc]
      obtain ⟨h1, h2⟩ := wtF_ok h
      refine ⟨h1, fun j h3 h4 => ?_⟩
      by_cases e : j = k
      · subst e; omega
      · exact h2 j (by omega) (by omega)
set_option maxHeartbeats 2000000 in
theorem checkW_call {w : World} {vo : Option Addr} {l vc : Nat} {n : Int} {g : Nat → Int} (hF : NumF w vo l g) (hl : l ≤ 4611686018427387904) :
    Calls Tryd.prog 39 #[.int .i64 n, .slice vo l vc] w fun e w' => e = .returned (.agg #[.int .i64 (wtR n g l).1, .int .i64 (wtR n g l).2]) ∧ Below w.heap.size w w' := by
  have HR : Hid (wtR n g l = if (l : Int) ≠ n then (6, 1) else wtF g l 0) := rfl
  generalize wtR n g l = RR at *
  obtain ⟨rc, rd⟩ := RR
  have HF : Hid (NumF w vo l g) := hF
  clear hF
  go_enter Tryd.func39, Tryd.ntmps39
  go_upto_region 1 with (fail)
  have x4 := two_new w (.int .i64 0) (.int .i64 0) 27
  have hB0 := below_alloc (Below.refl _ w) (Obj.cells #[.int .i64 0, .int .i64 0] 27)
  have HB4 : Hid (w.heap.size ≤ w.heap.size) := Nat.le_refl _
  generalize w.alloc (Obj.cells #[.int .i64 0, .int .i64 0] 27) = W0 at *
  obtain ⟨b4, hb4⟩ : ∃ b, b = w.heap.size := ⟨_, rfl⟩
  rw [← hb4] at x4 ⊢
  have HW0 : Hid (Two W0 b4 (.int .i64 0) (.int .i64 0) 27 ∧ Below w.heap.size w W0 ∧ w.heap.size ≤ b4) := ⟨x4, hB0, Nat.le_of_eq hb4.symm⟩
  clear x4 hB0 hb4
  by_cases hne : (l : Int) = n
  · have kc : ((l : Int) != n) = false := by simpa using hne
    have HE : Hid ((rc, rd) = wtF g l 0) := HR.out.trans (if_neg (by simpa using hne))
    clear HR hne
    go_upto_region 4 with (fail)
    go_loopw [5, 6, 14] (fun _ _ s14 wz => ∃ k : Nat, k ≤ l ∧ s14 = .int .i64 (k : Int) ∧ wz = W0 ∧ Hid ((rc, rd) = wtF g (l - k) k)) (fun _ _ s14 _ => l - (numOf s14).toNat)
    case atStart => exact ⟨0, Nat.zero_le _, rfl, rfl, HE⟩
    case round =>
      clear HE
      obtain ⟨k, hk, rfl, rfl, hE⟩ := hrel
      by_cases hlt : k < l
      · obtain ⟨vb, voff, rfl, cv⟩ := (HF.out.below HW0.out.2.1) k hlt
        have i1 : (0 : Int) ≤ (k : Int) := by omega
        have i2 : (k : Int) < (l : Int) := by omega
        have hE' := hE.out
        rw [show l - k = (l - (k + 1)) + 1 by omega, wtF] at hE'
        by_cases h1 : g k < -1000000
        · have k1 : decide (g k < -1000000) = true := by simpa using h1
          rw [if_pos (Or.inl h1)] at hE'
          obtain ⟨rfl, rfl⟩ := Prod.mk.inj hE'
          obtain ⟨q1, q2, q3, q4, q5, q6⟩ := store_two' HW0.out.1 (.int .i64 3) (.int .i64 (k : Int))
          clear hE hE'
          go_wp2
          refine bodyPost_ret (v := .agg #[.int .i64 3, .int .i64 (k : Int)]) ?_ rfl ⟨rfl, (HW0.out.2.1.setCell HW0.out.2.2 _).setCell HW0.out.2.2 _⟩
          simp [results, Tryd.results39, go_sem, q5, q6]
        · have k1 : decide (g k < -1000000) = false := by simpa using h1
          by_cases h2 : 1000000 < g k
          · have k2 : decide (1000000 < g k) = true := by simpa using h2
            rw [if_pos (Or.inr h2)] at hE'
            obtain ⟨rfl, rfl⟩ := Prod.mk.inj hE'
            obtain ⟨q1, q2, q3, q4, q5, q6⟩ := store_two' HW0.out.1 (.int .i64 3) (.int .i64 (k : Int))
            clear hE hE'
            go_wp2
            refine bodyPost_ret (v := .agg #[.int .i64 3, .int .i64 (k : Int)]) ?_ rfl ⟨rfl, (HW0.out.2.1.setCell HW0.out.2.2 _).setCell HW0.out.2.2 _⟩
            simp [results, Tryd.results39, go_sem, q5, q6]
          · have k2 : decide (1000000 < g k) = false := by simpa using h2
            rw [if_neg (by omega)] at hE'
            have HN : Hid ((rc, rd) = wtF g (l - (k + 1)) (k + 1)) := hE'
            clear hE hE' h1 h2
            go_wp2
            go_roundw
            case rel => exact ⟨k + 1, by omega, by go_num, trivial, HN⟩
            case measure => simp [numOf]; omega
      · obtain rfl : k = l := by omega
        have hE' := hE.out
        rw [Nat.sub_self, wtF] at hE'
        obtain ⟨rfl, rfl⟩ := Prod.mk.inj hE'
        obtain ⟨q1, q2, q3, q4, q5, q6⟩ := store_two' HW0.out.1 (.int .i64 0) (.int .i64 0)
        clear hE hE'
        go_wp2
        refine bodyPost_ret (v := .agg #[.int .i64 0, .int .i64 0]) ?_ rfl ⟨rfl, (HW0.out.2.1.setCell HW0.out.2.2 _).setCell HW0.out.2.2 _⟩
        simp [results, Tryd.results39, go_sem, q5, q6]
  · have kc : ((l : Int) != n) = true := by simpa using hne
    have hE : (rc, rd) = (6, 1) := HR.out.trans (if_pos hne)
    obtain ⟨rfl, rfl⟩ := Prod.mk.inj hE
    obtain ⟨q1, q2, q3, q4, q5, q6⟩ := store_two' HW0.out.1 (.int .i64 6) (.int .i64 1)
    clear HR hne hE
    go_wp2
    refine bodyPost_ret (v := .agg #[.int .i64 6, .int .i64 1]) ?_ rfl ⟨rfl, (HW0.out.2.1.setCell HW0.out.2.2 _).setCell HW0.out.2.2 _⟩
    simp [results, Tryd.results39, go_sem, q5, q6]
/-- The first bag that has too many nodes, from k on. -/
def smF (g : Nat → Nat) : Nat → Nat → Int × Int
  | 0, _ => (0, 0)
  | c + 1, k => if 12 < g k then (2, (k : Int)) else smF g c (k + 1)
theorem smF_ok {g : Nat → Nat} : ∀ {c k : Nat}, (smF g c k).1 = 0 → smF g c k = (0, 0) ∧ ∀ j, k ≤ j → j < k + c → g j ≤ 12
  | 0, k, _ => ⟨rfl, fun j h1 h2 => by omega⟩
  | c + 1, k, h => by
    unfold smF at h ⊢
    split at h
    · cases h
    · next hc =>
      rw [if_neg hc]
      obtain ⟨h1, h2⟩ := smF_ok h
      refine ⟨h1, fun j h3 h4 => ?_⟩
      by_cases e : j = k
      · subst e; omega
      · exact h2 j (by omega) (by omega)
set_option maxHeartbeats 2000000 in
theorem checkS_call {w : World} {bb m : Nat} {bags : List Nat} (hS : SetsAt w bb bags) (hl : bags.length = m) (hm : m ≤ 1000) :
    Calls Tryd.prog 40 #[sl bb m] w fun e w' => e = .returned (.agg #[.int .i64 (smF (fun i => countS (at' bags i)) m 0).1, .int .i64 (smF (fun i => countS (at' bags i)) m 0).2]) ∧ Below w.heap.size w w' := by
  obtain ⟨g, hg⟩ : ∃ g : Nat → Nat, g = fun i => countS (at' bags i) := ⟨_, rfl⟩
  rw [← hg]
  have HG : Hid (∀ i s, bags[i]? = some s → g i = countS s) := fun i s hs => by rw [hg]; simp [at', hs]
  have HR : Hid (smF g m 0 = smF g m 0) := rfl
  obtain ⟨rc, rd, hrr⟩ : ∃ rc rd, (rc, rd) = smF g m 0 := ⟨_, _, rfl⟩
  have HE0 : Hid ((rc, rd) = smF g m 0) := hrr
  rw [← hrr]
  have HS : Hid (SetsAt w bb bags ∧ bags.length = m) := ⟨hS, hl⟩
  simp only
  clear hS hl hrr HR hg
  go_enter Tryd.func40, Tryd.ntmps40
  go_upto_region 2 with (fail)
  have x2 := two_new w (.int .i64 0) (.int .i64 0) 27
  have hB0 := below_alloc (Below.refl _ w) (Obj.cells #[.int .i64 0, .int .i64 0] 27)
  obtain ⟨b2, hb2⟩ : ∃ b, b = w.heap.size := ⟨_, rfl⟩
  rw [← hb2] at x2 ⊢
  generalize w.alloc (Obj.cells #[.int .i64 0, .int .i64 0] 27) = W0 at *
  have HW0 : Hid (Two W0 b2 (.int .i64 0) (.int .i64 0) 27 ∧ Below w.heap.size w W0 ∧ w.heap.size ≤ b2) := ⟨x2, hB0, Nat.le_of_eq hb2.symm⟩
  clear x2 hB0 hb2
  go_loopw [3, 4, 7] (fun _ _ s7 wz => ∃ k : Nat, k ≤ m ∧ s7 = .int .i64 (k : Int) ∧ Hid ((rc, rd) = smF g (m - k) k ∧ Below W0.heap.size W0 wz)) (fun _ _ s7 _ => m - (numOf s7).toNat)
  case atStart => exact ⟨0, Nat.zero_le _, rfl, ⟨HE0.out, Below.refl _ _⟩⟩
  case round =>
    clear HE0
    obtain ⟨k, hk, rfl, hE⟩ := hrel
    have t2 := two_next HW0.out.1 hE.out.2
    have hBw := below_next HW0.out.2.1 hE.out.2
    by_cases hlt : k < m
    · obtain ⟨s, hs⟩ : ∃ s, bags[k]? = some s := ⟨_, List.getElem?_eq_getElem (show k < bags.length by rw [HS.out.2]; exact hlt)⟩
      have hSw := HS.out.1.under hBw
      obtain ⟨c0, c1⟩ := hSw.cell hs
      have hs128 := hSw.bound hs
      have hgk := HG.out k s hs
      have C50 : Hid (∀ A, Calls Tryd.prog 50 #[sv s] A fun e w' => e = .returned (.int .i64 (g k : Int)) ∧ Below A.heap.size A w') := fun A => by rw [hgk]; exact count_call hs128
      have i1 : (0 : Int) ≤ (k : Int) := by omega
      have i2 : (k : Int) < (m : Int) := by omega
      have HT : Hid (Two wr b2 (.int .i64 0) (.int .i64 0) 27 ∧ Below w.heap.size w wr ∧ Below W0.heap.size W0 wr) := ⟨t2, hBw, hE.out.2⟩
      have hE' := hE.out.1
      rw [show m - k = (m - (k + 1)) + 1 by omega, smF] at hE'
      have HE' : Hid _ := hE'
      clear hs hSw hs128 hE hE' t2 hBw hgk
      go_upto_region 4 with (fail)
      have y4 := two_new wr (.int .u64 (lo64 s : Int)) (.int .u64 (hi64 s : Int)) 76
      have hB4 := below_alloc (Below.refl _ wr) (Obj.cells #[.int .u64 (lo64 s : Int), .int .u64 (hi64 s : Int)] 76)
      generalize wr.alloc (Obj.cells #[.int .u64 (lo64 s : Int), .int .u64 (hi64 s : Int)] 76) = W4 at *
      have HW4 : Hid (Below wr.heap.size wr W4) := hB4
      obtain ⟨a0, a1⟩ := cell_two y4
      clear y4 hB4 c0 c1
      generalize wr.heap.size = b4 at a0 a1 ⊢
      by_cases h12 : 12 < g k
      · have kd : decide ((12 : Int) < (g k : Int)) = true := by simp; omega
        have hE' := HE'.out
        rw [if_pos h12] at hE'
        obtain ⟨rfl, rfl⟩ := Prod.mk.inj hE'
        clear hE' HE' h12
        go_upto_region 5 with (first | (go_at_call 50; refine Calls.mono (C50.out _) ?_; rintro e w5 ⟨rfl, h5⟩) | fail)
        have hB5 := below_next HW4.out h5
        obtain ⟨q1, q2, q3, q4, q5, q6⟩ := store_two' (two_next HT.out.1 hB5) (.int .i64 2) (.int .i64 (k : Int))
        have HB5 : Hid _ := below_next HT.out.2.1 hB5
        clear hB5 h5
        go_wp2
        refine bodyPost_ret (v := .agg #[.int .i64 2, .int .i64 (k : Int)]) ?_ rfl ⟨rfl, (HB5.out.setCell HW0.out.2.2 _).setCell HW0.out.2.2 _⟩
        simp [results, Tryd.results40, go_sem, q5, q6]
      · have kd : decide ((12 : Int) < (g k : Int)) = false := by simp; omega
        have hE' := HE'.out
        rw [if_neg h12] at hE'
        have HN : Hid _ := hE'
        clear hE' HE' h12
        go_wp2_with (first | (go_at_call 50; refine Calls.mono (C50.out _) ?_; rintro e w5 ⟨rfl, h5⟩) | go_in)
        go_roundw
        case rel => exact ⟨k + 1, by omega, by go_num, ⟨HN.out, below_next HT.out.2.2 (below_next HW4.out h5)⟩⟩
        case measure => simp [numOf]; omega
    · obtain rfl : k = m := by omega
      have hE' := hE.out.1
      rw [Nat.sub_self, smF] at hE'
      obtain ⟨rfl, rfl⟩ := Prod.mk.inj hE'
      obtain ⟨q1, q2, q3, q4, q5, q6⟩ := store_two' t2 (.int .i64 0) (.int .i64 0)
      have HBw : Hid _ := hBw
      clear hE hE' t2 hBw
      go_wp2
      refine bodyPost_ret (v := .agg #[.int .i64 0, .int .i64 0]) ?_ rfl ⟨rfl, (HBw.out.setCell HW0.out.2.2 _).setCell HW0.out.2.2 _⟩
      simp [results, Tryd.results40, go_sem, q5, q6]
end Go.Proofs.YtdalconphfgepaaDoor
