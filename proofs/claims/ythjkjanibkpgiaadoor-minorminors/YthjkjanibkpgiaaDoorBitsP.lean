/- Sets of a few nodes as uint32: least, only, below, has. -/
import Derived.Lib.Tables
import Derived.Lib.BitFns
import Derived.BigQuiet
import Derived.Shelf.Lays7
import Derived.Shelf.Spec.TrailingZeros
import Derived.Test.YthjkjanibkpgiaaDoorKitC
namespace Go.Proofs
open Go.Shelf
def Tryd.lays7_28_ren : Go.Shelf.Ren := ⟨fun | 28 => 49 | n => n, fun | 25 => 84 | 27 => 52 | 53 => 85 | n => n, fun | 0 => 0 | n => n⟩
theorem Tryd.lays7_28 : Go.Proofs.Lays7.n28 Tryd.prog Tryd.lays7_28_ren := {
  mixed := by kernel_rfl
  f28 := Tryd.func49.trans (congrArg some (by kernel_rfl))
  t0 := Tryd.underlying0
  a0 := Tryd.isAgg0
  z0 := Tryd.sizeOf0
  v0 := Tryd.zeroValue0
  i0 := by kernel_rfl
  t3 := Tryd.underlying3
  a3 := Tryd.isAgg3
  z3 := Tryd.sizeOf3
  v3 := Tryd.zeroValue3
  i3 := by kernel_rfl
  t4 := Tryd.underlying4
  a4 := Tryd.isAgg4
  z4 := Tryd.sizeOf4
  v4 := Tryd.zeroValue4
  i4 := by kernel_rfl
  t5 := Tryd.underlying5
  a5 := Tryd.isAgg5
  z5 := Tryd.sizeOf5
  v5 := Tryd.zeroValue5
  i5 := by kernel_rfl
  t25 := Tryd.underlying84
  a25 := Tryd.isAgg84
  z25 := Tryd.sizeOf84
  v25 := Tryd.zeroValue84
  i25 := by kernel_rfl
  t27 := Tryd.underlying52
  a27 := Tryd.isAgg52
  z27 := Tryd.sizeOf52
  v27 := Tryd.zeroValue52
  i27 := by kernel_rfl
  t53 := Tryd.underlying85
  a53 := Tryd.isAgg85
  z53 := Tryd.sizeOf85
  v53 := Tryd.zeroValue85
  i53 := by kernel_rfl
  g0 := by kernel_rfl }
end Go.Proofs
namespace Go.Proofs.YthjkjanibkpgiaaDoor
set_option maxRecDepth 8000
open Go.RowKit Go.Maps
attribute [local go_sem ↓] Go.wp_at_zero Go.wp_at_succ
abbrev T32 (w : World) : Prop := TabAt 0 Lib.deBruijn32tab w
theorem T32.below {w w' : World} (h : T32 w) (hb : Below w.heap.size w w') : T32 w' := fun j hj => (hb.cell (by exact World.block_lt_of_cell? w _ (h j hj))).trans (h j hj)
theorem least_call (x : Nat) (hx : x < 4294967296) {w : World} (ht : T32 w) : Calls Tryd.prog 39 #[.int .u32 (x : Int)] w fun e w' => e = .returned (.int .i64 (Lib.ctz 32 x : Nat)) ∧ w' = w := by
  have H : Hid (Calls Tryd.prog 49 #[.int .u32 (x : Int)] w fun e w' => e = .returned (.int .i64 (Lib.ctz 32 x : Nat)) ∧ w' = w) := Any7.bits_TrailingZeros32 Tryd.lays7_28 x hx w (fun _ => ht)
  generalize Lib.ctz 32 x = N at H ⊢
  clear ht
  go_enter Tryd.func39, Tryd.ntmps39
  go_wp2_with (first | (go_at_call 49; refine Calls.mono H.out ?_; rintro e w' ⟨rfl, rfl⟩) | go_in)
  go_ret
  exact ⟨rfl, rfl⟩
theorem pow_u32 {v : Nat} (hv : v < 32) : IntKind.u32.wrap ((2 : Int) ^ v) = ((2 ^ v : Nat) : Int) := by
  have h1 : (2 : Nat) ^ v < 2 ^ 32 := Nat.pow_lt_pow_right (by decide) hv
  obtain ⟨q, hq⟩ : ∃ q, q = (2 : Nat) ^ v := ⟨_, rfl⟩
  have e : (2 : Int) ^ v = (q : Int) := by rw [hq]; simp
  rw [e, ← hq]
  rw [← hq] at h1
  show (q : Int) % 4294967296 = _
  omega
theorem only_call {w : World} {v : Nat} (hv : v < 32) : Calls Tryd.prog 34 #[.int .i64 (v : Int)] w fun e w' => e = .returned (.int .u32 ((2 ^ v : Nat) : Int)) ∧ w' = w := by
  have h1 := pow_u32 hv
  have h2 : (v : Int) < 32 := by omega
  have h3 : (0 : Int) ≤ (v : Int) := by omega
  have HQ : Hid ((2 : Int) ^ v = ((2 ^ v : Nat) : Int)) := by show _ = _; simp
  go_enter Tryd.func34, Tryd.ntmps34
  go_wp2
  go_ret
  refine ⟨?_, rfl⟩
  show Ending.returned (Value.int .u32 ((2 : Int) ^ v)) = _
  rw [HQ.out]
theorem below_call {w : World} {n : Nat} (hn : n ≤ 24) : Calls Tryd.prog 35 #[.int .i64 (n : Int)] w fun e w' => e = .returned (.int .u32 ((2 ^ n - 1 : Nat) : Int)) ∧ w' = w := by
  obtain ⟨q, hq⟩ : ∃ q, q = 2 ^ n := ⟨_, rfl⟩
  have h1 : q ≤ 2 ^ 24 := by rw [hq]; exact Nat.pow_le_pow_right (by decide) hn
  have h2 : 0 < q := by rw [hq]; exact Nat.two_pow_pos n
  have C34 : Hid (Calls Tryd.prog 34 #[.int .i64 (n : Int)] w fun e w' => e = .returned (.int .u32 (q : Int)) ∧ w' = w) := by rw [hq]; exact only_call (by omega)
  rw [← hq]
  clear hq
  have e1 : (q : Int) - 1 = ((q - 1 : Nat) : Int) := by omega
  have HE : Hid ((q : Int) - 1 = ((q - 1 : Nat) : Int)) := e1
  have b1 : (0 : Int) ≤ (q : Int) - 1 := by omega
  have b2 : (q : Int) - 1 < 4294967296 := by omega
  clear e1
  go_enter Tryd.func35, Tryd.ntmps35
  go_wp2_with (first | (go_at_call 34; refine Calls.mono C34.out ?_; rintro e w' ⟨rfl, rfl⟩) | go_in)
  go_ret
  refine ⟨?_, rfl⟩
  show Ending.returned (Value.int .u32 ((q : Int) - 1)) = _
  rw [HE.out]
theorem ofInt_32 {n : Nat} (h : n < 4294967296) : (BitVec.ofInt 32 (n : Int)).toNat = n := by simp; omega
theorem and_u32 {a b : Nat} (ha : a < 4294967296) (hb : b < 4294967296) : bits BinOp.and IntKind.u32 (a : Int) (b : Int) = ((a &&& b : Nat) : Int) := by
  show IntKind.u32.wrap ((BitVec.ofInt 32 (a : Int) &&& BitVec.ofInt 32 (b : Int)).toNat : Nat) = _
  rw [BitVec.toNat_and, ofInt_32 ha, ofInt_32 hb]
  have : a &&& b < 4294967296 := Nat.lt_of_le_of_lt Nat.and_le_left ha
  show ((a &&& b : Nat) : Int) % 4294967296 = _
  omega
theorem or_u32 {a b : Nat} (ha : a < 4294967296) (hb : b < 4294967296) : bits BinOp.or IntKind.u32 (a : Int) (b : Int) = ((a ||| b : Nat) : Int) := by
  show IntKind.u32.wrap ((BitVec.ofInt 32 (a : Int) ||| BitVec.ofInt 32 (b : Int)).toNat : Nat) = _
  rw [BitVec.toNat_or, ofInt_32 ha, ofInt_32 hb]
  have : a ||| b < 2 ^ 32 := Nat.or_lt_two_pow ha hb
  show ((a ||| b : Nat) : Int) % 4294967296 = _
  omega
end Go.Proofs.YthjkjanibkpgiaaDoor
