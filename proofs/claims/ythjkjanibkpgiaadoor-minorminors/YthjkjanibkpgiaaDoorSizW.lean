/- set.size. -/
import Derived.Test.YthjkjanibkpgiaaDoorBitsP
namespace Go.Proofs.YthjkjanibkpgiaaDoor
open Go.RowKit Go.Maps
attribute [local go_sem ↓] Go.wp_at_zero Go.wp_at_succ
theorem idx_pop (i : Nat) (hi : i < 256) (w : World) : (Instr.index 9 (.string Lib.pop8tab) (.int .u32 (i : Int))).run Tryd.prog w = .ok (.int .u8 (Lib.onesCount i : Nat)) w := by
  rw [Lib.run_index_pop8tab w 9 .u32 (i : Int) Tryd.underlying9 (by omega) (by omega)]
  have := Lib.pop8_eq ⟨i, hi⟩
  simp only at this
  rw [this]
theorem and255 (y : Nat) (hy : y < 4294967296) : bits BinOp.and IntKind.u32 (y : Int) 255 = ((y % 256 : Nat) : Int) := by
  have h1 := u32_and_nat y 255 hy (by omega)
  have h2 : y &&& 255 = y % 256 := Nat.and_two_pow_sub_one_eq_mod y 8
  rw [h2] at h1
  exact h1
set_option maxRecDepth 10000 in
set_option maxHeartbeats 2000000 in
theorem ones_call (x : Nat) (hx : x < 4294967296) (w : World) : Calls Tryd.prog 48 #[.int .u32 (x : Int)] w fun e w' => e = .returned (.int .i64 ((Lib.onesCount (x / 16777216) + Lib.onesCount (x / 65536 % 256) + Lib.onesCount (x / 256 % 256) + Lib.onesCount (x % 256) : Nat) : Int)) ∧ ∃ m, w' = w.drewN m := by
  have l3 := Lib.onesCount_le8 ⟨x / 16777216, by omega⟩
  have l2 := Lib.onesCount_le8 ⟨x / 65536 % 256, by omega⟩
  have l1 := Lib.onesCount_le8 ⟨x / 256 % 256, by omega⟩
  have l0 := Lib.onesCount_le8 ⟨x % 256, by omega⟩
  simp only at l0 l1 l2 l3
  have r3 := idx_pop (x / 16777216) (by omega)
  have r2 := idx_pop (x / 65536 % 256) (by omega)
  have r1 := idx_pop (x / 256 % 256) (by omega)
  have r0 := idx_pop (x % 256) (by omega)
  generalize Lib.onesCount (x / 16777216) = o3 at *
  generalize Lib.onesCount (x / 65536 % 256) = o2 at *
  generalize Lib.onesCount (x / 256 % 256) = o1 at *
  generalize Lib.onesCount (x % 256) = o0 at *
  have a2 : bits BinOp.and IntKind.u32 ((x : Int) / 65536) 255 = (x : Int) / 65536 % 256 := by
    have := and255 (x / 65536) (by omega)
    rw [show ((x / 65536 : Nat) : Int) = (x : Int) / 65536 by omega] at this
    rw [this]; omega
  have a1 : bits BinOp.and IntKind.u32 ((x : Int) / 256) 255 = (x : Int) / 256 % 256 := by
    have := and255 (x / 256) (by omega)
    rw [show ((x / 256 : Nat) : Int) = (x : Int) / 256 by omega] at this
    rw [this]; omega
  have a0 : bits BinOp.and IntKind.u32 (x : Int) 255 = (x : Int) % 256 := by
    rw [and255 x hx]; omega
  have e3 : ((x / 16777216 : Nat) : Int) = (x : Int) / 16777216 := by omega
  have e2 : ((x / 65536 % 256 : Nat) : Int) = (x : Int) / 65536 % 256 := by omega
  have e1 : ((x / 256 % 256 : Nat) : Int) = (x : Int) / 256 % 256 := by omega
  have e0 : ((x % 256 : Nat) : Int) = (x : Int) % 256 := by omega
  rw [e3] at r3
  rw [e2] at r2
  rw [e1] at r1
  rw [e0] at r0
  clear e0 e1 e2 e3
  go_enter Tryd.func48, Tryd.ntmps48
  generalize hX : (ByteArray.mk (List.toArray (List.append _ _))) = X
  have hX' : X = Lib.pop8tab := by
    rw [← hX]
    decide +kernel
  clear hX
  subst hX'
  go_upto_region 1 with (fail)
  go_quiet (fail)
  all_goals
    go_wp2
    go_ret
    exact ⟨by push_cast; rfl, nq, rfl⟩
/-- The nodes of a set, rising. -/
def bl (O : Nat) : List Nat := (List.range 32).filter O.testBit
theorem ones8 : ∀ b : Fin 256, Lib.onesCount b.val = ((List.range 8).filter b.val.testBit).length := by decide +kernel
theorem len_split (f : Nat → Bool) (a b : Nat) : ((List.range (a + b)).filter f).length = ((List.range a).filter f).length + ((List.range b).filter (fun i => f (a + i))).length := by
  rw [List.range_add, List.filter_append, List.length_append, List.filter_map, List.length_map]
  rfl
theorem byte_len (x k : Nat) : ((List.range 8).filter (fun i => x.testBit (k + i))).length = Lib.onesCount (x / 2 ^ k % 256) := by
  obtain ⟨y, hy⟩ : ∃ y, y = x / 2 ^ k % 256 := ⟨_, rfl⟩
  have hy2 : y < 256 := by rw [hy]; exact Nat.mod_lt _ (by omega)
  have h : Lib.onesCount y = ((List.range 8).filter y.testBit).length := ones8 ⟨y, hy2⟩
  have h2 : (List.range 8).filter (fun i => x.testBit (k + i)) = (List.range 8).filter y.testBit := by
    refine List.filter_congr fun i hi => ?_
    have hi8 : i < 8 := List.mem_range.1 hi
    have e : (256 : Nat) = 2 ^ 8 := rfl
    rw [hy, e, Nat.testBit_mod_two_pow, Nat.testBit_div_two_pow]
    simp [hi8, Nat.add_comm]
  rw [← hy, h, h2]
theorem bl_len (x : Nat) (hx : x < 4294967296) : Lib.onesCount (x / 16777216) + Lib.onesCount (x / 65536 % 256) + Lib.onesCount (x / 256 % 256) + Lib.onesCount (x % 256) = (bl x).length := by
  have h1 : ((List.range 32).filter x.testBit).length = ((List.range 24).filter x.testBit).length + ((List.range 8).filter (fun i => x.testBit (24 + i))).length := len_split x.testBit 24 8
  have h2 : ((List.range 24).filter x.testBit).length = ((List.range 16).filter x.testBit).length + ((List.range 8).filter (fun i => x.testBit (16 + i))).length := len_split x.testBit 16 8
  have h3 : ((List.range 16).filter x.testBit).length = ((List.range 8).filter x.testBit).length + ((List.range 8).filter (fun i => x.testBit (8 + i))).length := len_split x.testBit 8 8
  have h4 := byte_len x 0
  simp only [Nat.zero_add] at h4
  rw [byte_len] at h1 h2 h3
  have h4' : ((List.range 8).filter x.testBit).length = Lib.onesCount (x / 2 ^ 0 % 256) := h4
  have e0 : x / 2 ^ 0 % 256 = x % 256 := by simp
  have e1 : x / 2 ^ 8 % 256 = x / 256 % 256 := rfl
  have e2 : x / 2 ^ 16 % 256 = x / 65536 % 256 := rfl
  have e3 : x / 2 ^ 24 % 256 = x / 16777216 := by
    show x / 16777216 % 256 = x / 16777216
    omega
  rw [e0] at h4'
  rw [e1] at h3
  rw [e2] at h2
  rw [e3] at h1
  unfold bl
  omega
theorem size_call (x : Nat) (hx : x < 4294967296) (w : World) : Calls Tryd.prog 38 #[.int .u32 (x : Int)] w fun e w' => e = .returned (.int .i64 ((bl x).length : Int)) ∧ ∃ m, w' = w.drewN m := by
  have h := ones_call x hx w
  rw [bl_len x hx] at h
  have H : Hid (Calls Tryd.prog 48 #[.int .u32 (x : Int)] w fun e w' => e = .returned (.int .i64 ((bl x).length : Int)) ∧ ∃ m, w' = w.drewN m) := h
  clear h
  generalize (bl x).length = N at H ⊢
  go_enter Tryd.func38, Tryd.ntmps38
  go_wp2_with (first | (go_at_call 48; refine Calls.mono H.out ?_; rintro e w' ⟨rfl, m, rfl⟩) | go_in)
  go_ret
  exact ⟨rfl, m, rfl⟩
end Go.Proofs.YthjkjanibkpgiaaDoor
