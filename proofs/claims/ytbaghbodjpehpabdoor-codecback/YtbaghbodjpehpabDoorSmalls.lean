/- The small functions of package codec. -/
import Derived.Test.YtbaghbodjpehpabDoorParts
import Derived.Test.YtbaghbodjpehpabDoorBits
import Derived.Laws.BytesArg
import Derived.Laws.OwnMore
namespace Go.Proofs.YtbaghbodjpehpabDoor
open Go.RowKit Go.Maps
attribute [local go_sem ↓] Go.wp_at_zero Go.wp_at_succ

theorem ret_i64 {a b : Int} (h : a = b) : Ending.returned (.int .i64 a) = .returned (.int .i64 b) := by rw [h]
theorem ret_u8 {a b : Int} (h : a = b) : Ending.returned (.int .u8 a) = .returned (.int .u8 b) := by rw [h]

set_option maxHeartbeats 400000 in
theorem pairs_any (n : Nat) (w : World) (hn : n ≤ 1000) : Calls Tryd.prog 33 #[.int .i64 n] w fun e w' => e = .returned (.int .i64 (prs n)) ∧ w' = w := by
  have h1 : (0 : Int) ≤ (n : Int) * ((n : Int) - 1) := by rw [← mul_pred]; omega
  have h2 : (n : Int) * ((n : Int) - 1) ≤ 1000000 := by rw [← mul_pred]; have := sq_le n hn; omega
  go_enter Tryd.func33, Tryd.ntmps33
  go_wp2
  go_ret
  exact ⟨ret_i64 (by unfold prs; rw [← mul_pred]; omega), rfl⟩

set_option maxHeartbeats 400000 in
theorem bytesFor_any (n : Nat) (w : World) (hn : n ≤ 1000) : Calls Tryd.prog 25 #[.int .i64 n] w fun e w' => e = .returned (.int .i64 (nby n)) ∧ w' = w := by
  have h2 := prs_le n hn
  go_enter Tryd.func25, Tryd.ntmps25
  go_wp2_with (go_at_call 33; refine (pairs_any n _ hn).mono ?_; rintro e w' ⟨rfl, rfl⟩)
  go_ret
  exact ⟨ret_i64 (by unfold nby; omega), rfl⟩

set_option maxHeartbeats 400000 in
theorem place_any (i j : Nat) (w : World) (hi : i ≤ 1000) (hj : j ≤ 1000) : Calls Tryd.prog 26 #[.int .i64 i, .int .i64 j] w fun e w' => e = .returned (.int .i64 (plc i j)) ∧ w' = w := by
  have h2 := prs_le j hj
  go_enter Tryd.func26, Tryd.ntmps26
  go_wp2_with (go_at_call 33; refine (pairs_any j _ hj).mono ?_; rintro e w' ⟨rfl, rfl⟩)
  go_ret
  exact ⟨ret_i64 (by unfold plc; omega), rfl⟩

theorem bitv_lt (p : Nat) : bitv p % 256 = bitv p := by
  unfold bitv
  have h : p % 6 < 6 := Nat.mod_lt _ (by omega)
  generalize p % 6 = r at h
  match r, h with
  | 0, _ => rfl
  | 1, _ => rfl
  | 2, _ => rfl
  | 3, _ => rfl
  | 4, _ => rfl
  | 5, _ => rfl

set_option maxHeartbeats 400000 in
theorem bit_any (p : Nat) (w : World) (hp : p ≤ 1000000) : Calls Tryd.prog 27 #[.int .i64 p] w fun e w' => e = .returned (.int .u8 (bitv p)) ∧ w' = w := by
  go_enter Tryd.func27, Tryd.ntmps27
  go_wp2
  go_ret
  exact ⟨ret_u8 (by rw [← bitv_lt p, Int.natCast_emod]; unfold bitv; rw [Int.natCast_pow]; rfl), rfl⟩
end Go.Proofs.YtbaghbodjpehpabDoor
