/- slices.Index of a row of numbers: the first place, or -1. -/
import Derived.Test.YtdnmoifbkojnlaaDegr
import Derived.Test.YtdnmoifbkojnlaaVizS
namespace Go.Proofs.Ytdnmoifbkojnlaa
open Go.RowKit Go.Maps
attribute [local go_sem ↓] Go.wp_at_zero Go.wp_at_succ

set_option maxHeartbeats 600000 in
theorem index_call {w : World} {vo : Option Addr} {n vc : Nat} {f : Nat → Int} (h : NumF w vo n f) (hn : n ≤ 1000000000000000) (x : Int) :
    Calls Try.prog 56 #[.slice vo n vc, .int .i64 x] w fun e w' => (∃ m : Int, e = .returned (.int .i64 m) ∧ ((m = -1 ∧ ∀ j, j < n → f j ≠ x) ∨ (∃ j : Nat, m = j ∧ j < n ∧ f j = x ∧ ∀ i, i < j → f i ≠ x))) ∧ w' = w := by
  have H : Hid (NumF w vo n f) := h
  clear h
  go_enter Try.func56, Try.ntmps56
  go_wp2
  go_loopw [8] (fun i wr => ∃ k : Nat, k ≤ n ∧ i = .int .i64 (k : Int) ∧ (∀ j, j < k → f j ≠ x) ∧ wr = w) (fun i _ => n - (numOf i).toNat)
  case atStart => exact ⟨0, Nat.zero_le _, rfl, fun j hj => by omega, rfl⟩
  case round =>
    obtain ⟨k, hk, rfl, hne, hwr⟩ := hrel
    have hwr' := hwr.symm
    clear hwr
    subst hwr'
    have HNE : Hid (∀ j, j < k → f j ≠ x) := hne
    clear hne
    by_cases hlt : k < n
    · obtain ⟨b, off, rfl, ck⟩ := H.out k hlt
      have i1 : (0 : Int) ≤ (k : Int) := by omega
      have i2 : (k : Int) < (n : Int) := by omega
      by_cases he : f k = x
      · have k1 : (x == f k) = true := by rw [beq_iff_eq]; exact he.symm
        have HE : Hid (f k = x) := he
        clear he
        go_wp2
        go_ret
        exact ⟨⟨(k : Int), rfl, Or.inr ⟨k, rfl, hlt, HE.out, HNE.out⟩⟩, rfl⟩
      · have k1 : (x == f k) = false := by rw [beq_eq_false_iff_ne]; exact fun e => he e.symm
        have HE : Hid (f k ≠ x) := he
        clear he
        go_wp2
        go_roundw
        case rel => exact ⟨k + 1, by omega, by go_num, fun j hj => by
          by_cases e : j = k
          · subst e; exact HE.out
          · exact HNE.out j (by omega), trivial⟩
        case measure => simp [numOf]; omega
    · have i2 : ¬ (k : Int) < (n : Int) := by omega
      have hkn : k = n := by omega
      subst hkn
      go_wp2
      go_ret
      exact ⟨⟨-1, rfl, Or.inl ⟨rfl, HNE.out⟩⟩, rfl⟩
end Go.Proofs.Ytdnmoifbkojnlaa
