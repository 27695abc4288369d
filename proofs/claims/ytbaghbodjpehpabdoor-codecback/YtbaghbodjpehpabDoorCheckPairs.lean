/- checkPairs of package codec. -/
import Derived.Test.YtbaghbodjpehpabDoorUnpackSize
import Derived.BigQuiet
import Derived.Deep.QuietTactic
namespace Go.Proofs.YtbaghbodjpehpabDoor
open Go.RowKit Go.Maps
attribute [local go_sem ↓] Go.wp_at_zero Go.wp_at_succ

theorem nby_le (n : Nat) (hn : n ≤ 100) : nby n ≤ 1000 := by have := prs_le100 n hn; unfold nby; omega

set_option maxHeartbeats 400000 in
theorem checkPairs_few (s : ByteArray) (n f : Nat) (w : World) (hn : n ≤ 100) (hf : f ≤ 4) (hl : s.size < f + nby n) : Calls Tryd.prog 19 #[.string s, .int .i64 n, .int .i64 f] w fun e w' => e = gaveUp 1 s.size ∧ w' = w := by
  have hb := nby_le n hn
  have h1 : (s.size : Int) < (f : Int) + (nby n : Int) := by omega
  go_enter Tryd.func19, Tryd.ntmps19
  go_wp2_with (first | (go_at_call 25; refine (bytesFor_any n _ (by omega)).mono ?_; rintro e w' ⟨rfl, rfl⟩) | (go_at_call 32; refine (giveUp_any _ _ _).mono ?_; rintro e w' ⟨rfl, rfl⟩))
  exact ⟨rfl, rfl, rfl⟩
set_option maxHeartbeats 400000 in
theorem checkPairs_more (s : ByteArray) (n f : Nat) (w : World) (hn : n ≤ 100) (hf : f ≤ 4) (hl : f + nby n < s.size) : Calls Tryd.prog 19 #[.string s, .int .i64 n, .int .i64 f] w fun e w' => e = gaveUp 1 (f + nby n : Nat) ∧ w' = w := by
  have hb := nby_le n hn
  have h1 : ¬ (s.size : Int) < (f : Int) + (nby n : Int) := by omega
  have h2 : (f : Int) + (nby n : Int) < (s.size : Int) := by omega
  go_enter Tryd.func19, Tryd.ntmps19
  go_wp2_with (first | (go_at_call 25; refine (bytesFor_any n _ (by omega)).mono ?_; rintro e w' ⟨rfl, rfl⟩) | (go_at_call 32; refine (giveUp_any _ _ _).mono ?_; rintro e w' ⟨rfl, rfl⟩))
  refine ⟨rfl, ?_, rfl⟩
  simp

theorem and_low_dec : ∀ x : Nat, x < 64 → ∀ D : Nat, D < 6 → bits .and .u8 (x : Int) ((2 ^ D - 1) % 256) = ((x % 2 ^ D : Nat) : Int) := by decide
theorem and_low {x D : Nat} (hx : x < 64) (hD : D < 6) : bits .and .u8 (x : Int) ((2 ^ D - 1) % 256) = ((x % 2 ^ D : Nat) : Int) := and_low_dec x hx D hD

set_option maxHeartbeats 1000000 in
theorem checkPairs_just (s : ByteArray) (n f : Nat) (w : World) (hn : n ≤ 100) (hf : f ≤ 4) (hf1 : 1 ≤ f) (hl : s.size = f + nby n) {K X : Nat} (hK : K + 1 = f + nby n) (hlt : K < s.size) (hX : s[K].toNat = X) (hx : 63 ≤ X ∧ X ≤ 126) {D : Nat} (hD : D + prs n = 6 * nby n) {E : Ending} (hE : ((X - 63) % 2 ^ D ≠ 0 ∧ E = gaveUp 7 K) ∨ ((X - 63) % 2 ^ D = 0 ∧ E = .returned (.tuple #[]))) :
    Calls Tryd.prog 19 #[.string s, .int .i64 n, .int .i64 f] w fun e w' => e = E ∧ Below w.heap.size w w' := by
  have hb := nby_le n hn
  have hp := prs_le100 n hn
  have hsp : prs n ≤ 6 * nby n ∧ 6 * nby n ≤ prs n + 5 := by unfold nby; omega
  obtain ⟨s1, s2⟩ := hsp
  have h1 : ¬ (s.size : Int) < (f : Int) + (nby n : Int) := by omega
  have h2 : ¬ (f : Int) + (nby n : Int) < (s.size : Int) := by omega
  have hand := and_low (x := X - 63) (D := D) (by omega) (by omega)
  have hX3 : ((X - 63 : Nat) : Int) = (X : Int) - 63 := by omega
  rw [hX3] at hand
  have HAND : Hid _ := hand
  have HE : Hid _ := hE
  have HL : Hid _ := hl
  clear hl hE hand hX3
  go_enter Tryd.func19, Tryd.ntmps19
  go_upto_region 6 with (first | (go_at_call 25; refine (bytesFor_any n _ (by omega)).mono ?_; rintro e w' ⟨rfl, rfl⟩) | (go_at_call 33; refine (pairs_any n _ (by omega)).mono ?_; rintro e w' ⟨rfl, rfl⟩))
  have i0 : (f : Int) + (nby n : Int) = (K : Int) + 1 := by omega
  have i3 : 6 * (nby n : Int) - (prs n : Int) = (D : Int) := by omega
  rw [i3, i0]
  have i1 : (K : Int) < (s.size : Int) := by omega
  have i4 : IntKind.i64.wrap ((K : Int) + 1 - 1) = (K : Int) := by rw [IntKind.wrap_i64]; omega
  have i5 : D ≤ 5 := by omega
  clear i0 i3
  rcases HE.out with ⟨e1, rfl⟩ | ⟨e1, rfl⟩
  · have ht : (bits .and .u8 ((X : Int) - 63) ((2 ^ D - 1) % 256) != 0) = true := by
      rw [HAND.out]
      clear HAND
      generalize (X - 63) % 2 ^ D = r at e1 ⊢
      simpa using e1
    go_region
    all_goals
      go_wp2_with (go_at_call 32; refine (giveUp_any _ _ _).mono ?_; rintro e w2 ⟨rfl, rfl⟩)
      refine ⟨rfl, ?_, (Below.refl _ _).drew⟩
      rfl
  · have ht : (bits .and .u8 ((X : Int) - 63) ((2 ^ D - 1) % 256) != 0) = false := by
      rw [HAND.out]
      clear HAND
      generalize (X - 63) % 2 ^ D = r at e1 ⊢
      simpa using e1
    go_region
    all_goals
      go_wp2
      go_end0
      exact ⟨rfl, (Below.refl _ _).drew⟩
end Go.Proofs.YtbaghbodjpehpabDoor
