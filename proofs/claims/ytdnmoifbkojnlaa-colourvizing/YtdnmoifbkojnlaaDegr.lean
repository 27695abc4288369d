/- The document's Degree: the greatest number of edges of a node. -/
import Derived.Test.YtdnmoifbkojnlaaSparse
namespace Go.Proofs.Ytdnmoifbkojnlaa
open Go.RowKit Go.Maps
attribute [local go_sem ↓] Go.wp_at_zero Go.wp_at_succ

/-- How many of the first m nodes have an edge with v. -/
def dgr (q : Nat → Nat → Bool) (v m : Nat) : Nat := ((List.range m).filter (q v)).length
theorem dgr_succ (q : Nat → Nat → Bool) (v m : Nat) : dgr q v (m + 1) = dgr q v m + if q v m then 1 else 0 := by
  unfold dgr
  rw [List.range_succ, List.filter_append, List.length_append]
  cases h : q v m <;> simp [h]
theorem dgr_le (q : Nat → Nat → Bool) (v m : Nat) : dgr q v m ≤ m := by
  unfold dgr
  exact Nat.le_trans (List.length_filter_le _ _) (by simp)
/-- The greatest of the first m nodes. -/
def dgM (q : Nat → Nat → Bool) (n : Nat) : Nat → Nat
  | 0 => 0
  | m + 1 => if dgr q m n > dgM q n m then dgr q m n else dgM q n m
theorem dgM_le (q : Nat → Nat → Bool) (n : Nat) : ∀ m, dgM q n m ≤ n
  | 0 => Nat.zero_le _
  | m + 1 => by
    unfold dgM
    split
    · exact dgr_le q m n
    · exact dgM_le q n m
theorem dgM_ge (q : Nat → Nat → Bool) (n : Nat) : ∀ m v, v < m → dgr q v n ≤ dgM q n m
  | 0, v, h => absurd h (Nat.not_lt_zero _)
  | m + 1, v, h => by
    unfold dgM
    by_cases e : v = m
    · subst e
      split <;> omega
    · have := dgM_ge q n m v (by omega)
      split <;> omega
set_option maxRecDepth 4000 in
set_option maxHeartbeats 2000000 in
theorem degree_call {W : World} {tv : Value} {n : Nat} {p : Int → Int → Bool} (hn : n ≤ 100) (hG : GridAt W tv n p) :
    Calls Try.prog 21 #[tv] W fun e w' => e = .returned (.int .i64 (dgM (fun v z => p (v : Int) (z : Int)) n n : Nat)) ∧ w' = W := by
  have HG : Hid (GridAt W tv n p) := hG
  obtain ⟨tao, tcap, e, _⟩ := id hG
  subst e
  obtain ⟨q, hq⟩ : ∃ q : Nat → Nat → Bool, q = fun (v z : Nat) => p (v : Int) (z : Int) := ⟨_, rfl⟩
  rw [← hq]
  have HQ : Hid (∀ v z : Nat, q v z = p (v : Int) (z : Int)) := fun v z => by rw [hq]
  clear hG hq
  go_enter Try.func21, Try.ntmps21
  go_wp2
  go_loopw [3, 4, 5, 6] (fun mv' iv' _ _ wr => ∃ d : Nat, d ≤ n ∧ mv' = .int .i64 (dgM q n d : Nat) ∧ iv' = .int .i64 (d : Int) ∧ wr = W) (fun _ iv' _ _ _ => n - (numOf iv').toNat)
  case atStart => exact ⟨0, Nat.zero_le _, rfl, rfl, rfl⟩
  case round =>
    obtain ⟨d, hd, rfl, rfl, rfl⟩ := hrel
    obtain ⟨M, hM⟩ : ∃ M, M = dgM q n d := ⟨_, rfl⟩
    have hM1 := dgM_le q n d
    by_cases hdn : d < n
    · have i1 : (d : Int) < (n : Int) := by omega
      have i0 : (0 : Int) ≤ (d : Int) := by omega
      have hnx : dgM q n (d + 1) = if dgr q d n > dgM q n d then dgr q d n else dgM q n d := rfl
      rw [← hM] at hM1 hnx ⊢
      have HNX : Hid (dgM q n (d + 1) = if dgr q d n > M then dgr q d n else M) := hnx
      clear hM hnx
      obtain ⟨tao', _, e3, hg⟩ := HG.out
      cases e3
      obtain ⟨gt, bt, rfl, g0, g1⟩ := hg d hdn
      have HC : Hid (∀ j, j < n → wr.cell? ⟨bt, j, none⟩ = some (.bool (q d j))) := fun j hj => by
        rw [HQ.out]; exact g1 j hj
      clear hg g1
      go_wp2
      generalize hwo : wr = WO at HC g0 ⊢
      have HWO : Hid (WO = wr) := hwo.symm
      clear hwo
      go_loopw [5, 6] (fun cv iv' wr => ∃ z : Nat, z ≤ n ∧ cv = .int .i64 (dgr q d z : Nat) ∧ iv' = .int .i64 (z : Int) ∧ wr = WO) (fun _ iv' _ => n - (numOf iv').toNat)
      case atStart => exact ⟨0, Nat.zero_le _, rfl, rfl, rfl⟩
      case round =>
        obtain ⟨z, hz, rfl, rfl, hwr⟩ := hrel
        have hwr' := hwr.symm
        clear hwr
        subst hwr'
        obtain ⟨C, hC⟩ : ∃ C, C = dgr q d z := ⟨_, rfl⟩
        have hC1 := dgr_le q d z
        by_cases hzn : z < n
        · have j1 : (z : Int) < (n : Int) := by omega
          have j0 : (0 : Int) ≤ (z : Int) := by omega
          have cz := HC.out z hzn
          have hs := dgr_succ q d z
          rw [← hC] at hC1 hs ⊢
          cases hqz : q d z with
          | true =>
            rw [hqz] at cz hs
            have HS : Hid (dgr q d (z + 1) = C + 1) := hs
            clear hs hqz hC
            go_wp2
            go_roundw
            case rel => exact ⟨z + 1, by omega, by rw [HS.out]; go_num, by go_num, trivial⟩
            case measure => simp [numOf]; omega
          | false =>
            rw [hqz] at cz hs
            have HS : Hid (dgr q d (z + 1) = C) := hs
            clear hs hqz hC
            go_wp2
            go_roundw
            case rel => exact ⟨z + 1, by omega, by rw [HS.out], by go_num, trivial⟩
            case measure => simp [numOf]; omega
        · have j1 : ¬ (z : Int) < (n : Int) := by omega
          have hzn' : z = n := by omega
          have hCn : C = dgr q d n := by rw [hC, hzn']
          rw [← hCn] at HNX
          rw [← hC] at hC1 ⊢
          clear hC hCn hzn'
          by_cases hgt : C > M
          · have k1 : (C : Int) > (M : Int) := by omega
            have HS : Hid (dgM q n (d + 1) = C) := by show dgM q n (d + 1) = C; rw [HNX.out, if_pos hgt]
            go_wp2
            go_roundw
            case rel => exact ⟨d + 1, by omega, by rw [HS.out], by go_num, HWO.out⟩
            case measure => simp [numOf]; omega
          · have k1 : ¬ (C : Int) > (M : Int) := by omega
            have HS : Hid (dgM q n (d + 1) = M) := by show dgM q n (d + 1) = M; rw [HNX.out, if_neg hgt]
            go_wp2
            go_roundw
            case rel => exact ⟨d + 1, by omega, by rw [HS.out], by go_num, HWO.out⟩
            case measure => simp [numOf]; omega
    · have i1 : ¬ (d : Int) < (n : Int) := by omega
      have hde : d = n := by omega
      subst hde
      go_wp2
      go_ret
      exact ⟨rfl, rfl⟩
end Go.Proofs.Ytdnmoifbkojnlaa
