/- The reader of package codec: its small methods. -/
import Derived.Test.YtbaghbodjpehpabDoorUnpack
import Derived.Maps.AppendAt
namespace Go.Proofs.YtbaghbodjpehpabDoor
open Go.RowKit Go.Maps
attribute [local go_sem ↓] Go.wp_at_zero Go.wp_at_succ

def digB (x : Nat) : Bool := decide (48 ≤ x ∧ x ≤ 57)
theorem digB_true {x : Nat} (h : 48 ≤ x ∧ x ≤ 57) : digB x = true := by simp [digB, h]
theorem digB_iff {x : Nat} : digB x = true ↔ 48 ≤ x ∧ x ≤ 57 := by simp [digB]

set_option maxHeartbeats 400000 in
theorem isDigit_any (x : Nat) (w : World) : Calls Tryd.prog 42 #[.int .u8 x] w fun e w' => e = .returned (.bool (digB x)) ∧ w' = w := by
  by_cases h1 : 48 ≤ x
  · have h1' : (48 : Int) ≤ (x : Int) := by omega
    by_cases h2 : x ≤ 57
    · have h2' : (x : Int) ≤ 57 := by omega
      go_enter Tryd.func42, Tryd.ntmps42
      go_wp2
      go_ret
      exact ⟨ret_bool (by simp [digB]; omega), rfl⟩
    · have h2' : ¬ (x : Int) ≤ 57 := by omega
      go_enter Tryd.func42, Tryd.ntmps42
      go_wp2
      go_ret
      exact ⟨ret_bool (by simp [digB]; omega), rfl⟩
  · have h1' : ¬ (48 : Int) ≤ (x : Int) := by omega
    go_enter Tryd.func42, Tryd.ntmps42
    go_wp2
    go_ret
    exact ⟨ret_bool (by simp [digB]; omega), rfl⟩

/-- The reader in block B stands at k; nothing else has turned. -/
structure RdAt (w w' : World) (B : Nat) (s : ByteArray) (k : Nat) : Prop where
  box : Two w' B (.string s) (.int .i64 k) 45
  kept : w.grownBy w' (some B)

theorem rd_drew {w : World} {B k : Nat} {s : ByteArray} (h : Two w B (.string s) (.int .i64 k) 45) (n : Nat) : RdAt w (w.drewN n) B s k := ⟨h, ⟨rfl, rfl, rfl, Nat.le_refl _, fun _ _ _ => rfl⟩⟩
theorem rd_put {w : World} {B k : Nat} {s : ByteArray} (h : Two w B (.string s) (.int .i64 k) 45) (k' : Nat) : RdAt w (w.setCell ⟨B, 1, none⟩ (.int .i64 k')) B s k' := by
  refine ⟨?_, ⟨rfl, rfl, rfl, by simp [World.setCell], fun j _ hj => Below.heap_setCell _ _ _ _ (by simpa using hj)⟩⟩
  simp [Two, World.setCell, Array.getElem?_modify, h]
theorem RdAt.trans {a b c : World} {B k k' : Nat} {s : ByteArray} (h : RdAt a b B s k) (h' : RdAt b c B s k') : RdAt a c B s k' := ⟨h'.box, h.kept.trans h'.kept⟩
theorem rd_refl {w : World} {B k : Nat} {s : ByteArray} (h : Two w B (.string s) (.int .i64 k) 45) : RdAt w w B s k := ⟨h, World.grownBy.refl _ _⟩

set_option maxRecDepth 100000 in
set_option maxHeartbeats 1000000 in
theorem goesOn_end (s : ByteArray) (B k : Nat) (b : Int) (w : World) (hB : Two w B (.string s) (.int .i64 k) 45) (hk : k = s.size) :
    Calls Tryd.prog 36 #[.pointer (some ⟨B, 0, none⟩), .int .u8 b] w fun e w' => e = .returned (.bool false) ∧ RdAt w w' B s k := by
  obtain ⟨a0, a1, a2⟩ := kk hB
  have he : ((k : Int) == (s.size : Int)) = true := by simp [hk]
  go_enter Tryd.func36, Tryd.ntmps36
  go_wp2
  go_quiet (fail)
  go_wp2
  go_ret
  exact ⟨rfl, rd_drew hB _⟩

set_option maxRecDepth 100000 in
set_option maxHeartbeats 1000000 in
theorem goesOn_no (s : ByteArray) (B k : Nat) (b : Nat) (w : World) (hB : Two w B (.string s) (.int .i64 k) 45) (hk : k < s.size) {X : Nat} (hX : s[k].toNat = X) (hne : X ≠ b) :
    Calls Tryd.prog 36 #[.pointer (some ⟨B, 0, none⟩), .int .u8 b] w fun e w' => e = .returned (.bool false) ∧ RdAt w w' B s k := by
  obtain ⟨a0, a1, a2⟩ := kk hB
  have he : ((k : Int) == (s.size : Int)) = false := by simp; omega
  have he2 : ((X : Int) != (b : Int)) = true := by simp; omega
  have k1 : (0 : Int) ≤ (k : Int) := by omega
  have k2 : (k : Int) < (s.size : Int) := by omega
  go_enter Tryd.func36, Tryd.ntmps36
  go_wp2
  go_quiet (fail)
  go_wp2
  go_ret
  exact ⟨rfl, rd_drew hB _⟩

set_option maxRecDepth 100000 in
set_option maxHeartbeats 1000000 in
theorem goesOn_yes (s : ByteArray) (B k : Nat) (b : Nat) (w : World) (hB : Two w B (.string s) (.int .i64 k) 45) (hk : k < s.size) (hs : s.size ≤ 20000) (hX : s[k].toNat = b) :
    Calls Tryd.prog 36 #[.pointer (some ⟨B, 0, none⟩), .int .u8 b] w fun e w' => e = .returned (.bool true) ∧ RdAt w w' B s (k + 1) := by
  obtain ⟨a0, a1, a2⟩ := kk hB
  have he : ((k : Int) == (s.size : Int)) = false := by simp; omega
  have he2 : ((b : Int) != (b : Int)) = false := by simp
  have k1 : (0 : Int) ≤ (k : Int) := by omega
  have k2 : (k : Int) < (s.size : Int) := by omega
  go_enter Tryd.func36, Tryd.ntmps36
  go_wp2
  go_quiet (fail)
  have hr := (rd_drew hB nq).trans (rd_put (rd_drew hB nq).box (k + 1))
  obtain ⟨c0, c1, c2⟩ := kk (rd_drew hB nq).box
  generalize w.drewN nq = V at hr c0 c1 c2 ⊢
  have hc : ((k + 1 : Nat) : Int) = (k : Int) + 1 := by omega
  rw [hc] at hr
  go_wp2
  go_ret
  exact ⟨rfl, ⟨by have := hr.box; rw [hc]; exact this, hr.kept⟩⟩

set_option maxHeartbeats 1000000 in
theorem must_yes (s : ByteArray) (B k : Nat) (b : Nat) (w : World) (hB : Two w B (.string s) (.int .i64 k) 45) (hk : k < s.size) (hs : s.size ≤ 20000) (hX : s[k].toNat = b) :
    Calls Tryd.prog 35 #[.pointer (some ⟨B, 0, none⟩), .int .u8 b] w fun e w' => e = .returned (.tuple #[]) ∧ RdAt w w' B s (k + 1) := by
  go_enter Tryd.func35, Tryd.ntmps35
  go_wp2_with (go_at_call 36; refine (goesOn_yes s B k b _ hB hk hs hX).mono ?_; rintro e w1 ⟨rfl, hr⟩)
  go_end0
  exact ⟨rfl, hr⟩

theorem goesOn_not (s : ByteArray) (B k : Nat) (b : Nat) (w : World) (hB : Two w B (.string s) (.int .i64 k) 45) (hX : k = s.size ∨ ∃ h : k < s.size, s[k].toNat ≠ b) :
    Calls Tryd.prog 36 #[.pointer (some ⟨B, 0, none⟩), .int .u8 b] w fun e w' => e = .returned (.bool false) ∧ RdAt w w' B s k := by
  rcases hX with h | ⟨h, h'⟩
  · exact goesOn_end s B k b w hB h
  · exact goesOn_no s B k b w hB h rfl h'

set_option maxHeartbeats 1000000 in
theorem must_no (s : ByteArray) (B k : Nat) (b : Nat) (w : World) (hB : Two w B (.string s) (.int .i64 k) 45) (hX : k = s.size ∨ ∃ h : k < s.size, s[k].toNat ≠ b) :
    Calls Tryd.prog 35 #[.pointer (some ⟨B, 0, none⟩), .int .u8 b] w fun e w' => e = gaveUp 1 k ∧ w.grownBy w' (some B) := by
  have HX : Hid _ := hX
  clear hX
  go_enter Tryd.func35, Tryd.ntmps35
  go_wp2_with (first | (go_at_call 36; refine (goesOn_not s B k b _ hB HX.out).mono ?_; rintro e w1 ⟨rfl, hr⟩; obtain ⟨a0, a1, a2⟩ := kk hr.box) | (go_at_call 32; refine (giveUp_any _ _ _).mono ?_; rintro e w2 ⟨rfl, rfl⟩))
  exact ⟨rfl, rfl, hr.kept⟩
end Go.Proofs.YtbaghbodjpehpabDoor
