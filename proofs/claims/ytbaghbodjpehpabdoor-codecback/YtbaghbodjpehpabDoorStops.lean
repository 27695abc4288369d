/- How the readers of package codec give up. -/
import Derived.Test.YtbaghbodjpehpabDoorBegun
import Derived.Recover
import Derived.Defers
namespace Go.Proofs.YtbaghbodjpehpabDoor
open Go.RowKit Go.Maps
attribute [local go_sem ↓] Go.wp_at_zero Go.wp_at_succ

/-- The panic by which a reader gives up. -/
abbrev gaveUp (c d : Int) : Ending := .panicked [{ v := .iface 65 (.agg #[.int .i64 c, .int .i64 d]), recovered := false }]

set_option maxHeartbeats 400000 in
theorem giveUp_any (c d : Int) (w : World) : Calls Tryd.prog 32 #[.int .i64 c, .int .i64 d] w fun e w' => e = gaveUp c d ∧ w' = w := by
  go_enter Tryd.func32, Tryd.ntmps32
  go_wp2
  exact ⟨rfl, rfl, rfl⟩

set_option maxHeartbeats 400000 in
theorem checkLength_ok (s : ByteArray) (w : World) (h : s.size ≤ 20000) : Calls Tryd.prog 16 #[.string s] w fun e w' => e = .returned (.tuple #[]) ∧ w' = w := by
  have h' : ¬ (20000 : Int) < (s.size : Int) := by omega
  go_enter Tryd.func16, Tryd.ntmps16
  go_wp2
  go_end0
  exact ⟨rfl, rfl⟩
set_option maxHeartbeats 400000 in
theorem checkLength_no (s : ByteArray) (w : World) (h : 20000 < s.size) : Calls Tryd.prog 16 #[.string s] w fun e w' => e = gaveUp 2 0 ∧ w' = w := by
  have h' : (20000 : Int) < (s.size : Int) := by omega
  go_enter Tryd.func16, Tryd.ntmps16
  go_wp2_with (go_at_call 32; refine (giveUp_any _ _ _).mono ?_; rintro e w' ⟨rfl, rfl⟩)
  exact ⟨rfl, rfl, rfl⟩

def goodB (x : UInt8) : Bool := decide (63 ≤ x.toNat ∧ x.toNat ≤ 126)
theorem goodB_iff (x : UInt8) : goodB x = true ↔ 63 ≤ x.toNat ∧ x.toNat ≤ 126 := by simp [goodB]

set_option maxHeartbeats 400000 in
theorem checkBytes_any (s : ByteArray) (w : World) (hs : s.size ≤ 20000) (K : Nat) (hK : ∀ i (h : i < s.size), i < K → goodB s[i] = true) (hend : K = s.size ∨ ∃ h : K < s.size, goodB s[K] = false) :
    Calls Tryd.prog 17 #[.string s] w fun e w' => e = (if K = s.size then .returned (.tuple #[]) else gaveUp 1 K) ∧ w' = w := by
  have hKs : K ≤ s.size := by rcases hend with h | ⟨h, _⟩ <;> omega
  have HK : Hid _ := hK
  have HE : Hid _ := hend
  clear hK hend
  go_enter Tryd.func17, Tryd.ntmps17
  go_wp2
  go_loop [5] (fun i => ∃ k : Nat, k ≤ K ∧ i = .int .i64 k) (fun i => s.size - (intOf i).toNat)
  case atStart => exact ⟨0, Nat.zero_le _, rfl⟩
  case round =>
    obtain ⟨k, hk, rfl⟩ := hrel
    by_cases hlt : k < s.size
    · by_cases hkK : k < K
      · have hg := (goodB_iff _).1 (HK.out k hlt hkK)
        obtain ⟨g1, g2⟩ := hg
        have g3 : ¬ (s[k].toNat : Int) < 63 := by omega
        have g4 : ¬ (126 : Int) < (s[k].toNat : Int) := by omega
        go_wp2
        go_round
        case rel => exact ⟨k + 1, by omega, by go_num⟩
        case measure => simp [intOf]; omega
      · have hkk : k = K := by omega
        subst hkk
        have hbad : goodB s[k] = false := by
          rcases HE.out with h | ⟨_, h⟩
          · omega
          · exact h
        have hne : ¬ k = s.size := by omega
        have hb : s[k].toNat < 63 ∨ 126 < s[k].toNat := by
          by_cases h : 63 ≤ s[k].toNat ∧ s[k].toNat ≤ 126
          · rw [(goodB_iff _).2 h] at hbad; cases hbad
          · omega
        rcases hb with h1 | h1
        · have g3 : (s[k].toNat : Int) < 63 := by omega
          go_wp2_with (go_at_call 32; refine (giveUp_any _ _ _).mono ?_; rintro e w' ⟨rfl, rfl⟩)
          exact ⟨rfl, rfl, rfl⟩
        · have g3 : ¬ (s[k].toNat : Int) < 63 := by omega
          have g4 : (126 : Int) < (s[k].toNat : Int) := by omega
          go_wp2_with (go_at_call 32; refine (giveUp_any _ _ _).mono ?_; rintro e w' ⟨rfl, rfl⟩)
          exact ⟨rfl, rfl, rfl⟩
    · have : K = s.size := by omega
      go_wp2
      go_end0
      exact ⟨rfl, rfl⟩
end Go.Proofs.YtbaghbodjpehpabDoor
