/- The ways up from bag to bag. -/
import Derived.Test.YtdalconphfgepaaDoorRowsP
namespace Go.Proofs.YtdalconphfgepaaDoor
set_option maxRecDepth 8000
open Go.RowKit Go.Maps
attribute [local go_sem ↓] Go.wp_at_zero Go.wp_at_succ
/-- One step up; outside of the list one stays. -/
def hop (n : Nat) (f : Nat → Int) (x : Int) : Int := if 0 ≤ x ∧ x < n then f x.toNat else x
def hops (n : Nat) (f : Nat → Int) : Nat → Int → Int
  | 0, x => x
  | k + 1, x => hops n f k (hop n f x)
theorem hops_out {n : Nat} {f : Nat → Int} {x : Int} (h : ¬ (0 ≤ x ∧ x < n)) : ∀ k, hops n f k x = x
  | 0 => rfl
  | k + 1 => by
    show hops n f k (hop n f x) = x
    rw [show hop n f x = x from if_neg h]
    exact hops_out h k
set_option maxHeartbeats 600000 in
theorem comes_call {w : World} {vo : Option Addr} {n vc : Nat} {f : Nat → Int} (h : NumF w vo n f) (hn : n ≤ 100000) (x : Int) :
    Calls Tryd.prog 72 #[.slice vo n vc, .int .i64 x] w fun e w' => e = .returned (.bool (hops n f n x == -1)) ∧ w' = w := by
  have H : Hid (NumF w vo n f) := h
  clear h
  obtain ⟨R, hR⟩ : ∃ R, R = hops n f n x := ⟨_, rfl⟩
  rw [← hR]
  have HR : Hid (R = hops n f n x) := hR
  clear hR
  go_enter Tryd.func72, Tryd.ntmps72
  go_wp2
  go_loopw [1, 7] (fun s i wr => ∃ (k : Nat) (y : Int), k ≤ n ∧ s = .int .i64 y ∧ i = .int .i64 (k : Int) ∧ hops n f (n - k) y = R ∧ wr = w) (fun _ i _ => n - (numOf i).toNat)
  case atStart => exact ⟨0, x, Nat.zero_le _, rfl, rfl, HR.out.symm, rfl⟩
  case round =>
    obtain ⟨k, y, hk, rfl, rfl, hy, hwr⟩ := hrel
    have hwr' := hwr.symm
    clear hwr
    subst hwr'
    have HY : Hid (hops n f (n - k) y = R) := hy
    clear hy
    by_cases hlt : k < n
    · have i2 : (k : Int) < (n : Int) := by omega
      by_cases hin : 0 ≤ y ∧ y < n
      · obtain ⟨j, rfl⟩ := Int.eq_ofNat_of_zero_le hin.1
        have hj : j < n := by omega
        obtain ⟨b, off, rfl, ck⟩ := H.out j hj
        have HS : Hid (hops n f (n - (k + 1)) (f j) = R) := by
          show _ = _
          rw [← HY.out, show n - k = (n - (k + 1)) + 1 by omega]
          show _ = hops n f (n - (k + 1)) (hop n f j)
          rw [show hop n f (j : Int) = f j from (if_pos hin).trans (by simp)]
        have i3 : (0 : Int) ≤ (j : Int) := by omega
        have i4 : (j : Int) < (n : Int) := by omega
        have i5 : ¬ (j : Int) < 0 := by omega
        have k1 : decide ((j : Int) < 0) = false := by simp
        have k2 : decide ((n : Int) ≤ (j : Int)) = false := by simp; omega
        have k3 : ¬ (n : Int) ≤ (j : Int) := by omega
        clear hin hj
        go_wp2
        go_roundw
        case rel => exact ⟨k + 1, f j, by omega, rfl, by go_num, HS.out, trivial⟩
        case measure => simp [numOf]; omega
      · have HO : Hid (y = R) := by
          show _ = _
          rw [← HY.out, hops_out hin]
        by_cases h0 : y < 0
        · have k1 : decide (y < 0) = true := by simp; omega
          clear hin
          go_wp2
          go_ret
          exact ⟨by rw [HO.out]; rfl, rfl⟩
        · have k1 : decide (y < 0) = false := by simp; omega
          have k2 : decide ((n : Int) ≤ y) = true := by simp; omega
          have k3 : (n : Int) ≤ y := by omega
          clear hin
          go_wp2
          go_ret
          exact ⟨by rw [HO.out]; rfl, rfl⟩
    · have i2 : ¬ (k : Int) < (n : Int) := by omega
      have HO : Hid (y = R) := by
        show _ = _
        rw [← HY.out, show n - k = 0 by omega]
        rfl
      go_wp2
      go_ret
      exact ⟨by rw [HO.out]; rfl, rfl⟩
/-- How many of the first k have none above. -/
def roots (f : Nat → Int) (k : Nat) : Nat := ((List.range k).filter fun j => f j == -1).length
theorem roots_succ (f : Nat → Int) (k : Nat) : roots f (k + 1) = roots f k + if f k = -1 then 1 else 0 := by
  unfold roots
  rw [List.range_succ, List.filter_append, List.length_append]
  by_cases h : f k = -1 <;> simp [h]
theorem roots_le (f : Nat → Int) : ∀ k, roots f k ≤ k
  | 0 => by simp [roots]
  | k + 1 => by have := roots_le f k; rw [roots_succ]; split <;> omega
def treeB (n : Nat) (f : Nat → Int) : Bool := ((List.range n).all fun j => hops n f n (j : Int) == -1) && roots f n == 1
set_option maxHeartbeats 800000 in
theorem isTree_call {w : World} {vo : Option Addr} {n vc : Nat} {f : Nat → Int} (h : NumF w vo n f) (hn : n ≤ 100000) :
    Calls Tryd.prog 58 #[.slice vo n vc] w fun e w' => e = .returned (.bool (treeB n f)) ∧ w' = w := by
  have H : Hid (NumF w vo n f) := h
  clear h
  go_enter Tryd.func58, Tryd.ntmps58
  go_wp2
  go_loopw [3, 4, 5, 8] (fun r _ _ i wr => ∃ k : Nat, k ≤ n ∧ r = .int .i64 (roots f k : Int) ∧ i = .int .i64 (k : Int) ∧ (∀ j, j < k → hops n f n (j : Int) = -1) ∧ wr = w) (fun _ _ _ i _ => n - (numOf i).toNat)
  case atStart => exact ⟨0, Nat.zero_le _, rfl, rfl, fun j hj => by omega, rfl⟩
  case round =>
    obtain ⟨k, hk, rfl, rfl, hall, hwr⟩ := hrel
    have hwr' := hwr.symm
    clear hwr
    subst hwr'
    have HA : Hid (∀ j, j < k → hops n f n (j : Int) = -1) := hall
    clear hall
    have hrk := roots_le f k
    by_cases hlt : k < n
    · obtain ⟨b, off, he, ck⟩ := H.out k hlt
      have CC : Hid (Calls Tryd.prog 72 #[.slice vo n vc, .int .i64 (k : Int)] w fun e w' => e = .returned (.bool (hops n f n k == -1)) ∧ w' = w) := comes_call H.out hn k
      have i1 : (0 : Int) ≤ (k : Int) := by omega
      have i2 : (k : Int) < (n : Int) := by omega
      have hrs := roots_succ f k
      subst he
      by_cases hc : hops n f n (k : Int) = -1
      · rw [show (hops n f n (k : Int) == -1) = true by rw [beq_iff_eq]; exact hc] at CC
        have HC : Hid (hops n f n (k : Int) = -1) := hc
        have HN : Hid (∀ j, j < k + 1 → hops n f n (j : Int) = -1) := fun j hj => by
          by_cases e : j = k
          · subst e; exact HC.out
          · exact HA.out j (by omega)
        clear hc
        by_cases hf : f k = -1
        · rw [if_pos hf] at hrs
          have HRS : Hid (roots f (k + 1) = roots f k + 1) := hrs
          have k1 : (f k == -1) = true := by rw [beq_iff_eq]; exact hf
          clear hrs hf
          generalize hrr : roots f k = r at *
          clear hrr
          go_wp2_with (first | (go_at_call 72; refine Calls.mono CC.out ?_; rintro e w' ⟨rfl, rfl⟩) | go_in)
          go_roundw
          case rel => exact ⟨k + 1, by omega, by rw [HRS.out]; go_num, by go_num, HN.out, trivial⟩
          case measure => simp [numOf]; omega
        · rw [if_neg hf] at hrs
          have HRS : Hid (roots f (k + 1) = roots f k) := hrs
          have k1 : (f k == -1) = false := by rw [beq_eq_false_iff_ne]; exact hf
          clear hrs hf
          generalize hrr : roots f k = r at *
          clear hrr
          go_wp2_with (first | (go_at_call 72; refine Calls.mono CC.out ?_; rintro e w' ⟨rfl, rfl⟩) | go_in)
          go_roundw
          case rel => exact ⟨k + 1, by omega, by rw [HRS.out], by go_num, HN.out, trivial⟩
          case measure => simp [numOf]; omega
      · rw [show (hops n f n (k : Int) == -1) = false by rw [beq_eq_false_iff_ne]; exact hc] at CC
        have HT : Hid (treeB n f = false) := by
          show _ = _
          unfold treeB
          rw [Bool.and_eq_false_iff]
          refine Or.inl ?_
          rw [List.all_eq_false]
          exact ⟨k, List.mem_range.2 hlt, by simpa using hc⟩
        clear hc hrs
        by_cases hf : f k = -1
        · have k1 : (f k == -1) = true := by rw [beq_iff_eq]; exact hf
          clear hf
          generalize hrr : roots f k = r at *
          clear hrr
          go_wp2_with (first | (go_at_call 72; refine Calls.mono CC.out ?_; rintro e w' ⟨rfl, rfl⟩) | go_in)
          go_ret
          exact ⟨by rw [HT.out]; rfl, rfl⟩
        · have k1 : (f k == -1) = false := by rw [beq_eq_false_iff_ne]; exact hf
          clear hf
          go_wp2_with (first | (go_at_call 72; refine Calls.mono CC.out ?_; rintro e w' ⟨rfl, rfl⟩) | go_in)
          go_ret
          exact ⟨by rw [HT.out]; rfl, rfl⟩
    · have i2 : ¬ (k : Int) < (n : Int) := by omega
      have HT : Hid (treeB n f = ((roots f k : Int) == 1)) := by
        show _ = _
        unfold treeB
        have e : k = n := by omega
        rw [show ((List.range n).all fun j => hops n f n (j : Int) == -1) = true from List.all_eq_true.2 fun j hj => by rw [beq_iff_eq]; exact HA.out j (by rw [e]; exact List.mem_range.1 hj), e, Bool.true_and]
        by_cases h : roots f n = 1
        · rw [h]; rfl
        · rw [show (roots f n == 1) = false by rw [beq_eq_false_iff_ne]; exact h, show ((roots f n : Int) == 1) = false by rw [beq_eq_false_iff_ne]; omega]
      go_wp2
      go_ret
      exact ⟨by rw [HT.out]; rfl, rfl⟩
end Go.Proofs.YtdalconphfgepaaDoor
