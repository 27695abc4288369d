/- The sets of package plane: their small functions. Sets of package plane: what two sets have in common, have together, and the one without the other. Sets of package plane: whether one is empty, its first node, how many nodes it has. -/
import Derived.Test.YtekokjechbibdaaDoorSetM
import Derived.Test.YtekokjechbibdaaDoorKitC
import Derived.Lib.Tables
import Derived.Lib.BitFns
import Derived.BigQuiet
import Derived.Shelf.Lays7
import Derived.Shelf.Spec.TrailingZeros
namespace Go.Proofs.YtekokjechbibdaaDoor
set_option maxRecDepth 8000
open Go.RowKit Go.Maps
attribute [local go_sem ↓] Go.wp_at_zero Go.wp_at_succ
theorem ofInt_nat {a : Nat} (h : a < 2 ^ 64) : (BitVec.ofInt 64 (a : Int)).toNat = a := by rw [BitVec.toNat_ofInt]; omega
theorem wrap_nat {a : Nat} (h : a < 2 ^ 64) : IntKind.u64.wrap (a : Int) = (a : Int) := by
  simp [IntKind.wrap, IntKind.bits, IntKind.signed]
  omega
theorem and_u64 {a b : Nat} (ha : a < 2 ^ 64) (hb : b < 2 ^ 64) : bits .and .u64 (a : Int) (b : Int) = ((a &&& b : Nat) : Int) := by
  show IntKind.u64.wrap ((BitVec.ofInt 64 (a : Int) &&& BitVec.ofInt 64 (b : Int)).toNat : Nat) = _
  rw [BitVec.toNat_and, ofInt_nat ha, ofInt_nat hb, wrap_nat (Nat.and_lt_two_pow _ hb)]
theorem or_u64 {a b : Nat} (ha : a < 2 ^ 64) (hb : b < 2 ^ 64) : bits .or .u64 (a : Int) (b : Int) = ((a ||| b : Nat) : Int) := by
  show IntKind.u64.wrap ((BitVec.ofInt 64 (a : Int) ||| BitVec.ofInt 64 (b : Int)).toNat : Nat) = _
  rw [BitVec.toNat_or, ofInt_nat ha, ofInt_nat hb, wrap_nat (Nat.or_lt_two_pow ha hb)]
/-- One bit of a word. -/
theorem bit_u64 {x v : Nat} (hx : x < 2 ^ 64) : (bits .and .u64 ((x : Int) / 2 ^ v) 1 == 1) = x.testBit v := by
  have e : (x : Int) / 2 ^ v = ((x / 2 ^ v : Nat) : Int) := by push_cast; rfl
  have hl : x / 2 ^ v < 2 ^ 64 := Nat.lt_of_le_of_lt (Nat.div_le_self _ _) hx
  rw [e, show (1 : Int) = ((1 : Nat) : Int) from rfl, and_u64 hl (by decide), Nat.and_one_is_mod, Nat.testBit_eq_decide_div_mod_eq]
  rcases Nat.mod_two_eq_zero_or_one (x / 2 ^ v) with h | h <;> simp [h]
set_option maxHeartbeats 1000000 in
theorem has_call {w : World} {s v : Nat} (hs : s < 2 ^ 128) (hv : v < 128) :
    Calls Tryd.prog 40 #[.agg #[.int .u64 (lo64 s : Int), .int .u64 (hi64 s : Int)], .int .i64 (v : Int)] w fun e w' => e = .returned (.bool (s.testBit v)) ∧ Below w.heap.size w w' := by
  have hl := lo_lt s
  have hh := hi_lt hs
  have HL : Hid (lo64 s < 2 ^ 64 ∧ hi64 s < 2 ^ 64) := ⟨hl, hh⟩
  clear hl hh hs
  have t1 := two_new w (.int .u64 (lo64 s : Int)) (.int .u64 (hi64 s : Int)) 76
  obtain ⟨q0, q1⟩ := cell_two t1
  have hB0 := below_alloc (Below.refl _ w) (Obj.cells #[.int .u64 (lo64 s : Int), .int .u64 (hi64 s : Int)] 76)
  by_cases h64 : v < 64
  · have e1 : Int.tdiv (v : Int) 64 = 0 := by rw [Int.tdiv_eq_ediv_of_nonneg (by omega)]; omega
    have e2 : Int.tmod (v : Int) 64 = (v : Int) := by rw [Int.tmod_eq_emod_of_nonneg (by omega)]; omega
    have m1 : min v 64 = v := by omega
    have HF : Hid ((bits .and .u64 ((lo64 s : Int) / 2 ^ v) 1 == 1) = s.testBit v) := by
      show _ = _
      rw [bit_u64 HL.out.1, bit_lo]; simp [h64]
    go_enter Tryd.func40, Tryd.ntmps40
    go_wp2
    go_ret
    exact ⟨by rw [HF.out]; rfl, hB0⟩
  · obtain ⟨u, rfl⟩ : ∃ u, v = u + 64 := ⟨v - 64, by omega⟩
    have e1 : Int.tdiv ((u + 64 : Nat) : Int) 64 = 1 := by rw [Int.tdiv_eq_ediv_of_nonneg (by omega)]; omega
    have e2 : Int.tmod ((u + 64 : Nat) : Int) 64 = (u : Int) := by rw [Int.tmod_eq_emod_of_nonneg (by omega)]; omega
    have m1 : min u 64 = u := by omega
    have HF : Hid ((bits .and .u64 ((hi64 s : Int) / 2 ^ u) 1 == 1) = s.testBit (u + 64)) := by
      show _ = _
      rw [bit_u64 HL.out.2, bit_hi]
    obtain ⟨v', hv'⟩ : ∃ v' : Nat, v' = u + 64 := ⟨_, rfl⟩
    rw [← hv'] at e1 e2 HF ⊢
    clear hv' h64 hv
    go_enter Tryd.func40, Tryd.ntmps40
    go_wp2
    go_ret
    exact ⟨by rw [HF.out]; rfl, hB0⟩
theorem pow_u64 {v : Nat} (hv : v < 64) : IntKind.u64.wrap (2 ^ v) = ((2 ^ v : Nat) : Int) := by
  have h : (2 : Nat) ^ v < 2 ^ 64 := Nat.pow_lt_pow_right (by omega) hv
  rw [show ((2 : Int) ^ v) = ((2 ^ v : Nat) : Int) by push_cast; rfl]
  exact wrap_nat h
theorem add_u64 {x v : Nat} (hx : x < 2 ^ 64) (hv : v < 64) : bits .or .u64 (x : Int) (IntKind.u64.wrap (2 ^ v)) = ((sAdd x v : Nat) : Int) := by
  rw [pow_u64 hv, or_u64 hx (Nat.pow_lt_pow_right (by omega) hv)]
  unfold sAdd
  rw [Nat.shiftLeft_eq, Nat.one_mul]
/-- add of a node of the first word: one cell is written. -/
theorem add_lo {w : World} {s v b off : Nat} (hv : v < 64) (h0 : w.cell? ⟨b, off, none⟩ = some (.int .u64 (lo64 s : Int))) (f0 : w.frozen? ⟨b, off, none⟩ = false) :
    Calls Tryd.prog 48 #[.pointer (some ⟨b, off, none⟩), .int .i64 (v : Int)] w fun e w' => e = .returned (.tuple #[]) ∧ w' = (w.setCell ⟨b, off, none⟩ (.int .u64 (lo64 (sAdd s v) : Int))).drew := by
  have e1 : Int.tdiv (v : Int) 64 = 0 := by rw [Int.tdiv_eq_ediv_of_nonneg (by omega)]; omega
  have e2 : Int.tmod (v : Int) 64 = (v : Int) := by rw [Int.tmod_eq_emod_of_nonneg (by omega)]; omega
  have m1 : min v 64 = v := by omega
  have HF : Hid (bits .or .u64 (lo64 s : Int) (IntKind.u64.wrap (2 ^ v)) = (lo64 (sAdd s v) : Int)) := by
    show _ = _
    rw [add_u64 (lo_lt s) hv, (lo_add s hv).1]
  go_enter Tryd.func48, Tryd.ntmps48
  go_region
  all_goals
    go_wp2
    rw [HF.out]
    go_end0
    exact ⟨rfl, rfl⟩
theorem add_hi {w : World} {s v b off : Nat} (hs : s < 2 ^ 128) (h64 : 64 ≤ v) (hv : v < 128) (h0 : w.cell? ⟨b, off + 1, none⟩ = some (.int .u64 (hi64 s : Int))) (f0 : w.frozen? ⟨b, off + 1, none⟩ = false) :
    Calls Tryd.prog 48 #[.pointer (some ⟨b, off, none⟩), .int .i64 (v : Int)] w fun e w' => e = .returned (.tuple #[]) ∧ w' = (w.setCell ⟨b, off + 1, none⟩ (.int .u64 (hi64 (sAdd s v) : Int))).drew := by
  obtain ⟨u, hu⟩ : ∃ u, u = v - 64 := ⟨_, rfl⟩
  have e1 : Int.tdiv (v : Int) 64 = 1 := by rw [Int.tdiv_eq_ediv_of_nonneg (by omega)]; omega
  have e2 : Int.tmod (v : Int) 64 = (u : Int) := by rw [Int.tmod_eq_emod_of_nonneg (by omega)]; omega
  have m1 : min u 64 = u := by omega
  have HF : Hid (bits .or .u64 (hi64 s : Int) (IntKind.u64.wrap (2 ^ u)) = (hi64 (sAdd s v) : Int)) := by
    show _ = _
    rw [add_u64 (hi_lt hs) (by omega), (hi_add s h64).2, hu]
  clear hu hs h64 hv
  go_enter Tryd.func48, Tryd.ntmps48
  go_region
  all_goals
    go_wp2
    rw [HF.out]
    go_end0
    exact ⟨rfl, rfl⟩
theorem andNot_u64 {a b : Nat} (ha : a < 2 ^ 64) (hb : b < 2 ^ 64) : bits .andNot .u64 (a : Int) (b : Int) = ((sLess a b : Nat) : Int) := by
  show IntKind.u64.wrap ((BitVec.ofInt 64 (a : Int) &&& ~~~ BitVec.ofInt 64 (b : Int)).toNat : Nat) = _
  have e : (BitVec.ofInt 64 (a : Int) &&& ~~~ BitVec.ofInt 64 (b : Int)).toNat = sLess a b := Nat.eq_of_testBit_eq fun i => by
    rw [BitVec.testBit_toNat, BitVec.getLsbD_and, BitVec.getLsbD_not, ← BitVec.testBit_toNat, ← BitVec.testBit_toNat, ofInt_nat ha, ofInt_nat hb, bit_less]
    by_cases h : i < 64
    · simp [h]
    · rw [Nat.testBit_lt_two_pow (Nat.lt_of_lt_of_le ha (Nat.pow_le_pow_right (by omega) (by omega)))]; simp
  rw [e]
  refine wrap_nat ?_
  rw [← e]
  exact BitVec.isLt _
theorem drop_u64 {x v : Nat} (hx : x < 2 ^ 64) (hv : v < 64) : bits .andNot .u64 (x : Int) (IntKind.u64.wrap (2 ^ v)) = ((sDrop x v : Nat) : Int) := by
  rw [pow_u64 hv, andNot_u64 hx (Nat.pow_lt_pow_right (by omega) hv)]
  unfold sDrop
  rw [Nat.shiftLeft_eq, Nat.one_mul]
/-- drop of a node of the first word: one cell is written. -/
theorem drop_lo {w : World} {s v b off : Nat} (hv : v < 64) (h0 : w.cell? ⟨b, off, none⟩ = some (.int .u64 (lo64 s : Int))) (f0 : w.frozen? ⟨b, off, none⟩ = false) :
    Calls Tryd.prog 66 #[.pointer (some ⟨b, off, none⟩), .int .i64 (v : Int)] w fun e w' => e = .returned (.tuple #[]) ∧ w' = (w.setCell ⟨b, off, none⟩ (.int .u64 (lo64 (sDrop s v) : Int))).drew := by
  have e1 : Int.tdiv (v : Int) 64 = 0 := by rw [Int.tdiv_eq_ediv_of_nonneg (by omega)]; omega
  have e2 : Int.tmod (v : Int) 64 = (v : Int) := by rw [Int.tmod_eq_emod_of_nonneg (by omega)]; omega
  have m1 : min v 64 = v := by omega
  have HF : Hid (bits .andNot .u64 (lo64 s : Int) (IntKind.u64.wrap (2 ^ v)) = (lo64 (sDrop s v) : Int)) := by
    show _ = _
    rw [drop_u64 (lo_lt s) hv, (lo_drop s hv).1]
  go_enter Tryd.func66, Tryd.ntmps66
  go_region
  all_goals
    go_wp2
    rw [HF.out]
    go_end0
    exact ⟨rfl, rfl⟩
theorem drop_hi {w : World} {s v b off : Nat} (hs : s < 2 ^ 128) (h64 : 64 ≤ v) (hv : v < 128) (h0 : w.cell? ⟨b, off + 1, none⟩ = some (.int .u64 (hi64 s : Int))) (f0 : w.frozen? ⟨b, off + 1, none⟩ = false) :
    Calls Tryd.prog 66 #[.pointer (some ⟨b, off, none⟩), .int .i64 (v : Int)] w fun e w' => e = .returned (.tuple #[]) ∧ w' = (w.setCell ⟨b, off + 1, none⟩ (.int .u64 (hi64 (sDrop s v) : Int))).drew := by
  obtain ⟨u, hu⟩ : ∃ u, u = v - 64 := ⟨_, rfl⟩
  have e1 : Int.tdiv (v : Int) 64 = 1 := by rw [Int.tdiv_eq_ediv_of_nonneg (by omega)]; omega
  have e2 : Int.tmod (v : Int) 64 = (u : Int) := by rw [Int.tmod_eq_emod_of_nonneg (by omega)]; omega
  have m1 : min u 64 = u := by omega
  have HF : Hid (bits .andNot .u64 (hi64 s : Int) (IntKind.u64.wrap (2 ^ u)) = (hi64 (sDrop s v) : Int)) := by
    show _ = _
    rw [drop_u64 (hi_lt hs) (by omega), (hi_drop s h64).2, hu]
  clear hu hs h64 hv
  go_enter Tryd.func66, Tryd.ntmps66
  go_region
  all_goals
    go_wp2
    rw [HF.out]
    go_end0
    exact ⟨rfl, rfl⟩
end Go.Proofs.YtekokjechbibdaaDoor

namespace Go.Proofs.YtekokjechbibdaaDoor
set_option maxRecDepth 8000
open Go.RowKit Go.Maps
attribute [local go_sem ↓] Go.wp_at_zero Go.wp_at_succ
/-- How far the loop over the two words has come. -/
def SetI (b : Nat) (s0 s1 r0 r1 : Int) (k : Nat) (w : World) : Prop := (k = 0 ∧ Two w b (.int .u64 s0) (.int .u64 s1) 76) ∨ (k = 1 ∧ Two w b (.int .u64 r0) (.int .u64 s1) 76) ∨ (k = 2 ∧ Two w b (.int .u64 r0) (.int .u64 r1) 76)
set_option maxHeartbeats 4000000 in
theorem both_call {w : World} {s t : Nat} (hs : s < 2 ^ 128) (ht : t < 2 ^ 128) :
    Calls Tryd.prog 67 #[.agg #[.int .u64 (lo64 s : Int), .int .u64 (hi64 s : Int)], .agg #[.int .u64 (lo64 t : Int), .int .u64 (hi64 t : Int)]] w fun e w' => e = .returned (.agg #[.int .u64 (lo64 (s &&& t) : Int), .int .u64 (hi64 (s &&& t) : Int)]) ∧ Below w.heap.size w w' := by
  have HF0 : Hid (bits .and .u64 (lo64 s : Int) (lo64 t : Int) = (lo64 (s &&& t) : Int)) := by
    show _ = _
    rw [and_u64 (lo_lt s) (lo_lt t), lo_and]
  have HF1 : Hid (bits .and .u64 (hi64 s : Int) (hi64 t : Int) = (hi64 (s &&& t) : Int)) := by
    show _ = _
    rw [and_u64 (hi_lt hs) (hi_lt ht), hi_and]
  clear hs ht
  obtain ⟨s0, hs0⟩ : ∃ x : Int, x = (lo64 s : Int) := ⟨_, rfl⟩
  obtain ⟨s1, hs1⟩ : ∃ x : Int, x = (hi64 s : Int) := ⟨_, rfl⟩
  obtain ⟨t0, ht0⟩ : ∃ x : Int, x = (lo64 t : Int) := ⟨_, rfl⟩
  obtain ⟨t1, ht1⟩ : ∃ x : Int, x = (hi64 t : Int) := ⟨_, rfl⟩
  obtain ⟨r0, hr0⟩ : ∃ x : Int, x = (lo64 (s &&& t) : Int) := ⟨_, rfl⟩
  obtain ⟨r1, hr1⟩ : ∃ x : Int, x = (hi64 (s &&& t) : Int) := ⟨_, rfl⟩
  rw [← hs0, ← ht0, ← hr0] at HF0
  rw [← hs1, ← ht1, ← hr1] at HF1
  rw [← hs0, ← hs1, ← ht0, ← ht1, ← hr0, ← hr1]
  clear hs0 hs1 ht0 ht1 hr0 hr1
  go_enter Tryd.func67, Tryd.ntmps67
  go_upto_region 2 with (fail)
  have a2 := two_alloc (two_alloc (two_new w (.int .u64 s0) (.int .u64 s1) 76) (Obj.cells #[.int .u64 t0, .int .u64 t1] 76)) (Obj.cells #[.int .u64 0, .int .u64 0] 76)
  have a3 := two_alloc (two_nxt w (Obj.cells #[.int .u64 s0, .int .u64 s1] 76) (.int .u64 t0) (.int .u64 t1) 76) (Obj.cells #[.int .u64 0, .int .u64 0] 76)
  have a4 : Two (((w.alloc (Obj.cells #[.int .u64 s0, .int .u64 s1] 76)).alloc (Obj.cells #[.int .u64 t0, .int .u64 t1] 76)).alloc (Obj.cells #[.int .u64 0, .int .u64 0] 76)) (w.heap.size + 1 + 1) (.int .u64 0) (.int .u64 0) 76 := by
    have := two_nxt (w.alloc (Obj.cells #[.int .u64 s0, .int .u64 s1] 76)) (Obj.cells #[.int .u64 t0, .int .u64 t1] 76) (.int .u64 0) (.int .u64 0) 76
    simpa using this
  have hB0 := below_alloc (below_alloc (below_alloc (Below.refl _ w) (Obj.cells #[.int .u64 s0, .int .u64 s1] 76)) (Obj.cells #[.int .u64 t0, .int .u64 t1] 76)) (Obj.cells #[.int .u64 0, .int .u64 0] 76)
  obtain ⟨b4, hb4⟩ : ∃ b, b = w.heap.size + 1 + 1 := ⟨_, rfl⟩
  obtain ⟨b3, hb3⟩ : ∃ b, b = w.heap.size + 1 := ⟨_, rfl⟩
  obtain ⟨b2, hb2⟩ : ∃ b, b = w.heap.size := ⟨_, rfl⟩
  have HNE : Hid (b3 ≠ b2 ∧ b4 ≠ b2 ∧ w.heap.size ≤ b2 ∧ w.heap.size ≤ b4) := ⟨by omega, by omega, by omega, by omega⟩
  rw [← hb4] at a4 ⊢
  rw [← hb3] at a3 ⊢
  rw [← hb2] at a2 ⊢
  generalize ((w.alloc (Obj.cells #[.int .u64 s0, .int .u64 s1] 76)).alloc (Obj.cells #[.int .u64 t0, .int .u64 t1] 76)).alloc (Obj.cells #[.int .u64 0, .int .u64 0] 76) = W0 at a2 a3 a4 hB0 ⊢
  clear hb2 hb3 hb4
  go_loopw [6] (fun s6 wz => ∃ k : Nat, s6 = .int .i64 (k : Int) ∧ SetI b2 s0 s1 r0 r1 k wz ∧ Two wz b3 (.int .u64 t0) (.int .u64 t1) 76 ∧ Two wz b4 (.int .u64 0) (.int .u64 0) 76 ∧ Below w.heap.size w wz) (fun s6 _ => 2 - (numOf s6).toNat)
  case atStart => exact ⟨0, rfl, Or.inl ⟨rfl, a2⟩, a3, a4, hB0⟩
  case round =>
    obtain ⟨k, rfl, hI, h3, h4, hB⟩ := hrel
    clear a2 a3 a4 hB0
    have H3 : Hid (Two wr b3 (.int .u64 t0) (.int .u64 t1) 76) := h3
    have H4 : Hid (Two wr b4 (.int .u64 0) (.int .u64 0) 76) := h4
    obtain ⟨p0, p1⟩ := cell_two h3
    rcases hI with ⟨rfl, h2⟩ | ⟨rfl, h2⟩ | ⟨rfl, h2⟩
    · obtain ⟨q0, q1⟩ := cell_two h2
      have f0 := free_two h2 0
      have H2 : Hid (Two wr b2 (.int .u64 s0) (.int .u64 s1) 76) := h2
      clear h2 h3 h4
      go_upto_region 4 with (fail)
      go_region
      all_goals
        rw [HF0.out]
        have tt := setCell_turns wr b2 0 (.int .u64 r0)
        have u3 := two_turns H3.out tt HNE.out.1
        have u4 := two_turns H4.out tt HNE.out.2.1
        go_wp2
        go_roundw
        case rel => exact ⟨1, rfl, Or.inr (Or.inl ⟨rfl, box_set H2.out 0 (.int .u64 r0)⟩), u3, u4, (hB.setCell HNE.out.2.2.1 _).drew⟩
        case measure => simp [numOf]
    · obtain ⟨q0, q1⟩ := cell_two h2
      have f1 := free_two h2 1
      have H2 : Hid (Two wr b2 (.int .u64 r0) (.int .u64 s1) 76) := h2
      clear h2 h3 h4
      go_upto_region 4 with (fail)
      go_region
      all_goals
        rw [HF1.out]
        have tt := setCell_turns wr b2 1 (.int .u64 r1)
        have u3 := two_turns H3.out tt HNE.out.1
        have u4 := two_turns H4.out tt HNE.out.2.1
        go_wp2
        go_roundw
        case rel => exact ⟨2, rfl, Or.inr (Or.inr ⟨rfl, box_set H2.out 1 (.int .u64 r1)⟩), u3, u4, (hB.setCell HNE.out.2.2.1 _).drew⟩
        case measure => simp [numOf]
    · obtain ⟨q0, q1⟩ := cell_two h2
      obtain ⟨z0, z1⟩ := cell_two h4
      have f0 := free_two h4 0
      have f1 := free_two h4 1
      have y0 : (wr.setCell ⟨b4, 0, none⟩ (.int .u64 r0)).cell? ⟨b4, 1, none⟩ = some (.int .u64 0) := box_cell (box_set h4 0 (.int .u64 r0)) rfl
      have y1 : (wr.setCell ⟨b4, 0, none⟩ (.int .u64 r0)).frozen? ⟨b4, 1, none⟩ = false := box_free (box_set h4 0 (.int .u64 r0)) 1
      obtain ⟨x0, x1⟩ := cell_two (two_setN h4 (x' := .int .u64 r0) (y' := .int .u64 r1))
      go_wp2
      refine bodyPost_ret (v := .agg #[.int .u64 r0, .int .u64 r1]) ?_ rfl ⟨rfl, (hB.setCell HNE.out.2.2.2 _).setCell HNE.out.2.2.2 _⟩
      simp [results, Tryd.results67, go_sem, x0, x1]
set_option maxHeartbeats 4000000 in
theorem either_call {w : World} {s t : Nat} (hs : s < 2 ^ 128) (ht : t < 2 ^ 128) :
    Calls Tryd.prog 63 #[.agg #[.int .u64 (lo64 s : Int), .int .u64 (hi64 s : Int)], .agg #[.int .u64 (lo64 t : Int), .int .u64 (hi64 t : Int)]] w fun e w' => e = .returned (.agg #[.int .u64 (lo64 (s ||| t) : Int), .int .u64 (hi64 (s ||| t) : Int)]) ∧ Below w.heap.size w w' := by
  have HF0 : Hid (bits .or .u64 (lo64 s : Int) (lo64 t : Int) = (lo64 (s ||| t) : Int)) := by
    show _ = _
    rw [or_u64 (lo_lt s) (lo_lt t), lo_or]
  have HF1 : Hid (bits .or .u64 (hi64 s : Int) (hi64 t : Int) = (hi64 (s ||| t) : Int)) := by
    show _ = _
    rw [or_u64 (hi_lt hs) (hi_lt ht), hi_or]
  clear hs ht
  obtain ⟨s0, hs0⟩ : ∃ x : Int, x = (lo64 s : Int) := ⟨_, rfl⟩
  obtain ⟨s1, hs1⟩ : ∃ x : Int, x = (hi64 s : Int) := ⟨_, rfl⟩
  obtain ⟨t0, ht0⟩ : ∃ x : Int, x = (lo64 t : Int) := ⟨_, rfl⟩
  obtain ⟨t1, ht1⟩ : ∃ x : Int, x = (hi64 t : Int) := ⟨_, rfl⟩
  obtain ⟨r0, hr0⟩ : ∃ x : Int, x = (lo64 (s ||| t) : Int) := ⟨_, rfl⟩
  obtain ⟨r1, hr1⟩ : ∃ x : Int, x = (hi64 (s ||| t) : Int) := ⟨_, rfl⟩
  rw [← hs0, ← ht0, ← hr0] at HF0
  rw [← hs1, ← ht1, ← hr1] at HF1
  rw [← hs0, ← hs1, ← ht0, ← ht1, ← hr0, ← hr1]
  clear hs0 hs1 ht0 ht1 hr0 hr1
  go_enter Tryd.func63, Tryd.ntmps63
  go_upto_region 2 with (fail)
  have a2 := two_alloc (two_alloc (two_new w (.int .u64 s0) (.int .u64 s1) 76) (Obj.cells #[.int .u64 t0, .int .u64 t1] 76)) (Obj.cells #[.int .u64 0, .int .u64 0] 76)
  have a3 := two_alloc (two_nxt w (Obj.cells #[.int .u64 s0, .int .u64 s1] 76) (.int .u64 t0) (.int .u64 t1) 76) (Obj.cells #[.int .u64 0, .int .u64 0] 76)
  have a4 : Two (((w.alloc (Obj.cells #[.int .u64 s0, .int .u64 s1] 76)).alloc (Obj.cells #[.int .u64 t0, .int .u64 t1] 76)).alloc (Obj.cells #[.int .u64 0, .int .u64 0] 76)) (w.heap.size + 1 + 1) (.int .u64 0) (.int .u64 0) 76 := by
    have := two_nxt (w.alloc (Obj.cells #[.int .u64 s0, .int .u64 s1] 76)) (Obj.cells #[.int .u64 t0, .int .u64 t1] 76) (.int .u64 0) (.int .u64 0) 76
    simpa using this
  have hB0 := below_alloc (below_alloc (below_alloc (Below.refl _ w) (Obj.cells #[.int .u64 s0, .int .u64 s1] 76)) (Obj.cells #[.int .u64 t0, .int .u64 t1] 76)) (Obj.cells #[.int .u64 0, .int .u64 0] 76)
  obtain ⟨b4, hb4⟩ : ∃ b, b = w.heap.size + 1 + 1 := ⟨_, rfl⟩
  obtain ⟨b3, hb3⟩ : ∃ b, b = w.heap.size + 1 := ⟨_, rfl⟩
  obtain ⟨b2, hb2⟩ : ∃ b, b = w.heap.size := ⟨_, rfl⟩
  have HNE : Hid (b3 ≠ b2 ∧ b4 ≠ b2 ∧ w.heap.size ≤ b2 ∧ w.heap.size ≤ b4) := ⟨by omega, by omega, by omega, by omega⟩
  rw [← hb4] at a4 ⊢
  rw [← hb3] at a3 ⊢
  rw [← hb2] at a2 ⊢
  generalize ((w.alloc (Obj.cells #[.int .u64 s0, .int .u64 s1] 76)).alloc (Obj.cells #[.int .u64 t0, .int .u64 t1] 76)).alloc (Obj.cells #[.int .u64 0, .int .u64 0] 76) = W0 at a2 a3 a4 hB0 ⊢
  clear hb2 hb3 hb4
  go_loopw [6] (fun s6 wz => ∃ k : Nat, s6 = .int .i64 (k : Int) ∧ SetI b2 s0 s1 r0 r1 k wz ∧ Two wz b3 (.int .u64 t0) (.int .u64 t1) 76 ∧ Two wz b4 (.int .u64 0) (.int .u64 0) 76 ∧ Below w.heap.size w wz) (fun s6 _ => 2 - (numOf s6).toNat)
  case atStart => exact ⟨0, rfl, Or.inl ⟨rfl, a2⟩, a3, a4, hB0⟩
  case round =>
    obtain ⟨k, rfl, hI, h3, h4, hB⟩ := hrel
    clear a2 a3 a4 hB0
    have H3 : Hid (Two wr b3 (.int .u64 t0) (.int .u64 t1) 76) := h3
    have H4 : Hid (Two wr b4 (.int .u64 0) (.int .u64 0) 76) := h4
    obtain ⟨p0, p1⟩ := cell_two h3
    rcases hI with ⟨rfl, h2⟩ | ⟨rfl, h2⟩ | ⟨rfl, h2⟩
    · obtain ⟨q0, q1⟩ := cell_two h2
      have f0 := free_two h2 0
      have H2 : Hid (Two wr b2 (.int .u64 s0) (.int .u64 s1) 76) := h2
      clear h2 h3 h4
      go_upto_region 4 with (fail)
      go_region
      all_goals
        rw [HF0.out]
        have tt := setCell_turns wr b2 0 (.int .u64 r0)
        have u3 := two_turns H3.out tt HNE.out.1
        have u4 := two_turns H4.out tt HNE.out.2.1
        go_wp2
        go_roundw
        case rel => exact ⟨1, rfl, Or.inr (Or.inl ⟨rfl, box_set H2.out 0 (.int .u64 r0)⟩), u3, u4, (hB.setCell HNE.out.2.2.1 _).drew⟩
        case measure => simp [numOf]
    · obtain ⟨q0, q1⟩ := cell_two h2
      have f1 := free_two h2 1
      have H2 : Hid (Two wr b2 (.int .u64 r0) (.int .u64 s1) 76) := h2
      clear h2 h3 h4
      go_upto_region 4 with (fail)
      go_region
      all_goals
        rw [HF1.out]
        have tt := setCell_turns wr b2 1 (.int .u64 r1)
        have u3 := two_turns H3.out tt HNE.out.1
        have u4 := two_turns H4.out tt HNE.out.2.1
        go_wp2
        go_roundw
        case rel => exact ⟨2, rfl, Or.inr (Or.inr ⟨rfl, box_set H2.out 1 (.int .u64 r1)⟩), u3, u4, (hB.setCell HNE.out.2.2.1 _).drew⟩
        case measure => simp [numOf]
    · obtain ⟨q0, q1⟩ := cell_two h2
      obtain ⟨z0, z1⟩ := cell_two h4
      have f0 := free_two h4 0
      have f1 := free_two h4 1
      have y0 : (wr.setCell ⟨b4, 0, none⟩ (.int .u64 r0)).cell? ⟨b4, 1, none⟩ = some (.int .u64 0) := box_cell (box_set h4 0 (.int .u64 r0)) rfl
      have y1 : (wr.setCell ⟨b4, 0, none⟩ (.int .u64 r0)).frozen? ⟨b4, 1, none⟩ = false := box_free (box_set h4 0 (.int .u64 r0)) 1
      obtain ⟨x0, x1⟩ := cell_two (two_setN h4 (x' := .int .u64 r0) (y' := .int .u64 r1))
      go_wp2
      refine bodyPost_ret (v := .agg #[.int .u64 r0, .int .u64 r1]) ?_ rfl ⟨rfl, (hB.setCell HNE.out.2.2.2 _).setCell HNE.out.2.2.2 _⟩
      simp [results, Tryd.results63, go_sem, x0, x1]
set_option maxHeartbeats 4000000 in
theorem less_call {w : World} {s t : Nat} (hs : s < 2 ^ 128) (ht : t < 2 ^ 128) :
    Calls Tryd.prog 62 #[.agg #[.int .u64 (lo64 s : Int), .int .u64 (hi64 s : Int)], .agg #[.int .u64 (lo64 t : Int), .int .u64 (hi64 t : Int)]] w fun e w' => e = .returned (.agg #[.int .u64 (lo64 (sLess s t) : Int), .int .u64 (hi64 (sLess s t) : Int)]) ∧ Below w.heap.size w w' := by
  have HF0 : Hid (bits .andNot .u64 (lo64 s : Int) (lo64 t : Int) = (lo64 (sLess s t) : Int)) := by
    show _ = _
    rw [andNot_u64 (lo_lt s) (lo_lt t), lo_less]
  have HF1 : Hid (bits .andNot .u64 (hi64 s : Int) (hi64 t : Int) = (hi64 (sLess s t) : Int)) := by
    show _ = _
    rw [andNot_u64 (hi_lt hs) (hi_lt ht), hi_less]
  clear hs ht
  obtain ⟨s0, hs0⟩ : ∃ x : Int, x = (lo64 s : Int) := ⟨_, rfl⟩
  obtain ⟨s1, hs1⟩ : ∃ x : Int, x = (hi64 s : Int) := ⟨_, rfl⟩
  obtain ⟨t0, ht0⟩ : ∃ x : Int, x = (lo64 t : Int) := ⟨_, rfl⟩
  obtain ⟨t1, ht1⟩ : ∃ x : Int, x = (hi64 t : Int) := ⟨_, rfl⟩
  obtain ⟨r0, hr0⟩ : ∃ x : Int, x = (lo64 (sLess s t) : Int) := ⟨_, rfl⟩
  obtain ⟨r1, hr1⟩ : ∃ x : Int, x = (hi64 (sLess s t) : Int) := ⟨_, rfl⟩
  rw [← hs0, ← ht0, ← hr0] at HF0
  rw [← hs1, ← ht1, ← hr1] at HF1
  rw [← hs0, ← hs1, ← ht0, ← ht1, ← hr0, ← hr1]
  clear hs0 hs1 ht0 ht1 hr0 hr1
  go_enter Tryd.func62, Tryd.ntmps62
  go_upto_region 2 with (fail)
  have a2 := two_alloc (two_alloc (two_new w (.int .u64 s0) (.int .u64 s1) 76) (Obj.cells #[.int .u64 t0, .int .u64 t1] 76)) (Obj.cells #[.int .u64 0, .int .u64 0] 76)
  have a3 := two_alloc (two_nxt w (Obj.cells #[.int .u64 s0, .int .u64 s1] 76) (.int .u64 t0) (.int .u64 t1) 76) (Obj.cells #[.int .u64 0, .int .u64 0] 76)
  have a4 : Two (((w.alloc (Obj.cells #[.int .u64 s0, .int .u64 s1] 76)).alloc (Obj.cells #[.int .u64 t0, .int .u64 t1] 76)).alloc (Obj.cells #[.int .u64 0, .int .u64 0] 76)) (w.heap.size + 1 + 1) (.int .u64 0) (.int .u64 0) 76 := by
    have := two_nxt (w.alloc (Obj.cells #[.int .u64 s0, .int .u64 s1] 76)) (Obj.cells #[.int .u64 t0, .int .u64 t1] 76) (.int .u64 0) (.int .u64 0) 76
    simpa using this
  have hB0 := below_alloc (below_alloc (below_alloc (Below.refl _ w) (Obj.cells #[.int .u64 s0, .int .u64 s1] 76)) (Obj.cells #[.int .u64 t0, .int .u64 t1] 76)) (Obj.cells #[.int .u64 0, .int .u64 0] 76)
  obtain ⟨b4, hb4⟩ : ∃ b, b = w.heap.size + 1 + 1 := ⟨_, rfl⟩
  obtain ⟨b3, hb3⟩ : ∃ b, b = w.heap.size + 1 := ⟨_, rfl⟩
  obtain ⟨b2, hb2⟩ : ∃ b, b = w.heap.size := ⟨_, rfl⟩
  have HNE : Hid (b3 ≠ b2 ∧ b4 ≠ b2 ∧ w.heap.size ≤ b2 ∧ w.heap.size ≤ b4) := ⟨by omega, by omega, by omega, by omega⟩
  rw [← hb4] at a4 ⊢
  rw [← hb3] at a3 ⊢
  rw [← hb2] at a2 ⊢
  generalize ((w.alloc (Obj.cells #[.int .u64 s0, .int .u64 s1] 76)).alloc (Obj.cells #[.int .u64 t0, .int .u64 t1] 76)).alloc (Obj.cells #[.int .u64 0, .int .u64 0] 76) = W0 at a2 a3 a4 hB0 ⊢
  clear hb2 hb3 hb4
  go_loopw [6] (fun s6 wz => ∃ k : Nat, s6 = .int .i64 (k : Int) ∧ SetI b2 s0 s1 r0 r1 k wz ∧ Two wz b3 (.int .u64 t0) (.int .u64 t1) 76 ∧ Two wz b4 (.int .u64 0) (.int .u64 0) 76 ∧ Below w.heap.size w wz) (fun s6 _ => 2 - (numOf s6).toNat)
  case atStart => exact ⟨0, rfl, Or.inl ⟨rfl, a2⟩, a3, a4, hB0⟩
  case round =>
    obtain ⟨k, rfl, hI, h3, h4, hB⟩ := hrel
    clear a2 a3 a4 hB0
    have H3 : Hid (Two wr b3 (.int .u64 t0) (.int .u64 t1) 76) := h3
    have H4 : Hid (Two wr b4 (.int .u64 0) (.int .u64 0) 76) := h4
    obtain ⟨p0, p1⟩ := cell_two h3
    rcases hI with ⟨rfl, h2⟩ | ⟨rfl, h2⟩ | ⟨rfl, h2⟩
    · obtain ⟨q0, q1⟩ := cell_two h2
      have f0 := free_two h2 0
      have H2 : Hid (Two wr b2 (.int .u64 s0) (.int .u64 s1) 76) := h2
      clear h2 h3 h4
      go_upto_region 4 with (fail)
      go_region
      all_goals
        rw [HF0.out]
        have tt := setCell_turns wr b2 0 (.int .u64 r0)
        have u3 := two_turns H3.out tt HNE.out.1
        have u4 := two_turns H4.out tt HNE.out.2.1
        go_wp2
        go_roundw
        case rel => exact ⟨1, rfl, Or.inr (Or.inl ⟨rfl, box_set H2.out 0 (.int .u64 r0)⟩), u3, u4, (hB.setCell HNE.out.2.2.1 _).drew⟩
        case measure => simp [numOf]
    · obtain ⟨q0, q1⟩ := cell_two h2
      have f1 := free_two h2 1
      have H2 : Hid (Two wr b2 (.int .u64 r0) (.int .u64 s1) 76) := h2
      clear h2 h3 h4
      go_upto_region 4 with (fail)
      go_region
      all_goals
        rw [HF1.out]
        have tt := setCell_turns wr b2 1 (.int .u64 r1)
        have u3 := two_turns H3.out tt HNE.out.1
        have u4 := two_turns H4.out tt HNE.out.2.1
        go_wp2
        go_roundw
        case rel => exact ⟨2, rfl, Or.inr (Or.inr ⟨rfl, box_set H2.out 1 (.int .u64 r1)⟩), u3, u4, (hB.setCell HNE.out.2.2.1 _).drew⟩
        case measure => simp [numOf]
    · obtain ⟨q0, q1⟩ := cell_two h2
      obtain ⟨z0, z1⟩ := cell_two h4
      have f0 := free_two h4 0
      have f1 := free_two h4 1
      have y0 : (wr.setCell ⟨b4, 0, none⟩ (.int .u64 r0)).cell? ⟨b4, 1, none⟩ = some (.int .u64 0) := box_cell (box_set h4 0 (.int .u64 r0)) rfl
      have y1 : (wr.setCell ⟨b4, 0, none⟩ (.int .u64 r0)).frozen? ⟨b4, 1, none⟩ = false := box_free (box_set h4 0 (.int .u64 r0)) 1
      obtain ⟨x0, x1⟩ := cell_two (two_setN h4 (x' := .int .u64 r0) (y' := .int .u64 r1))
      go_wp2
      refine bodyPost_ret (v := .agg #[.int .u64 r0, .int .u64 r1]) ?_ rfl ⟨rfl, (hB.setCell HNE.out.2.2.2 _).setCell HNE.out.2.2.2 _⟩
      simp [results, Tryd.results62, go_sem, x0, x1]
end Go.Proofs.YtekokjechbibdaaDoor

namespace Go.Proofs
open Go.Shelf
def Tryd.lays7_29_ren : Go.Shelf.Ren := ⟨fun | 29 => 76 | n => n, fun | 22 => 74 | 25 => 108 | 54 => 120 | n => n, fun | 1 => 0 | n => n⟩
theorem Tryd.lays7_29 : Go.Proofs.Lays7.n29 Tryd.prog Tryd.lays7_29_ren := {
  mixed := by kernel_rfl
  f29 := Tryd.func76.trans (congrArg some (by kernel_rfl))
  t0 := Tryd.underlying0
  a0 := Tryd.isAgg0
  z0 := Tryd.sizeOf0
  v0 := Tryd.zeroValue0
  i0 := by kernel_rfl
  t3 := Tryd.underlying3
  a3 := Tryd.isAgg3
  z3 := Tryd.sizeOf3
  v3 := Tryd.zeroValue3
  i3 := by kernel_rfl
  t4 := Tryd.underlying4
  a4 := Tryd.isAgg4
  z4 := Tryd.sizeOf4
  v4 := Tryd.zeroValue4
  i4 := by kernel_rfl
  t5 := Tryd.underlying5
  a5 := Tryd.isAgg5
  z5 := Tryd.sizeOf5
  v5 := Tryd.zeroValue5
  i5 := by kernel_rfl
  t22 := Tryd.underlying74
  a22 := Tryd.isAgg74
  z22 := Tryd.sizeOf74
  v22 := Tryd.zeroValue74
  i22 := by kernel_rfl
  t25 := Tryd.underlying108
  a25 := Tryd.isAgg108
  z25 := Tryd.sizeOf108
  v25 := Tryd.zeroValue108
  i25 := by kernel_rfl
  t54 := Tryd.underlying120
  a54 := Tryd.isAgg120
  z54 := Tryd.sizeOf120
  g1 := by kernel_rfl }
end Go.Proofs
namespace Go.Proofs.YtekokjechbibdaaDoor
set_option maxRecDepth 8000
open Go.RowKit Go.Maps
attribute [local go_sem ↓] Go.wp_at_zero Go.wp_at_succ
/-- A set, as a value. -/
abbrev sv (s : Nat) : Value := .agg #[.int .u64 (lo64 s : Int), .int .u64 (hi64 s : Int)]
abbrev T64 (w : World) : Prop := TabAt 0 Lib.deBruijn64tab w
theorem T64.block {w w' : World} (h : T64 w) (hb : w'.heap[0]? = w.heap[0]?) : T64 w' := fun j hj => by
  rw [World.cell?_of_block (w := w) hb]; exact h j hj
theorem T64.pos {w : World} (h : T64 w) : 0 < w.heap.size := World.block_lt_of_cell? w ⟨0, 0, none⟩ (h 0 (by decide))
theorem T64.below {w w' : World} {B : Nat} (h : T64 w) (hb : Below B w w') (hB : 0 < B) : T64 w' := h.block (hb.block 0 hB)
theorem T64.under {w w' : World} (h : T64 w) (hb : Below w.heap.size w w') : T64 w' := h.below hb h.pos
theorem T64.turns {M : Nat → Prop} {w w' : World} (h : T64 w) (hb : Turns M w w') (hm : ¬ M 0) : T64 w' := h.block (hb.block 0 h.pos hm)
theorem ctz64 {O : Nat} (h0 : O ≠ 0) (h : O < 2 ^ 64) : O.testBit (Lib.ctz 64 O) = true ∧ (∀ z, z < Lib.ctz 64 O → O.testBit z = false) ∧ Lib.ctz 64 O < 64 := by
  obtain ⟨m, hm, hl⟩ := Lib.ctzFrom_spec 64 O (by omega) h
  have e : Lib.ctz 64 O = Lib.ctzFrom 64 O := by unfold Lib.ctz; rw [if_neg h0]
  rw [e]
  generalize Lib.ctzFrom 64 O = k at hm hl ⊢
  subst hm
  refine ⟨?_, fun z hz => ?_, hl⟩
  · rw [Nat.testBit_two_pow_mul]; simp
  · rw [Nat.testBit_two_pow_mul]; simp; omega
theorem tz_call (x : Nat) (hx : x < 2 ^ 64) {w : World} (ht : T64 w) : Calls Tryd.prog 76 #[.int .u64 (x : Int)] w fun e w' => e = .returned (.int .i64 (Lib.ctz 64 x : Nat)) ∧ w' = w := Any7.bits_TrailingZeros64 Tryd.lays7_29 x hx w (fun _ => ht)
def U64 (u : Int) : Prop := 0 ≤ u ∧ u < 18446744073709551616
theorem U64.nat {s : Nat} (h : s < 2 ^ 64) : U64 (s : Int) := ⟨by omega, by omega⟩
theorem lits_u64 (m : Nat) {u : Int} (hu : U64 u) : Tryd.prog.keyLits (m + 1) 74 [.int .u64 u] = some [.int .u64 u] := by
  have : (Lit.int .u64 u).wf = true := by
    obtain ⟨h1, h2⟩ := hu
    simp [Lit.wf, IntKind.min, IntKind.max, IntKind.signed, IntKind.bits]
    omega
  simp [Program.keyLits, Tryd.underlying74, this]
theorem Tryd.cells76 : Tryd.prog.cellsOf 76 = 2 := by kernel_rfl
theorem Tryd.cells74 : Tryd.prog.cellsOf 74 = 1 := by kernel_rfl
theorem lits_two (m : Nat) {u v : Int} (hu : U64 u) (hv : U64 v) : Tryd.prog.keyLits (m + 2) 76 [.int .u64 u, .int .u64 v] = some [.int .u64 u, .int .u64 v] := by
  have e : Tryd.prog.keyLits (m + 2) 76 [.int .u64 u, .int .u64 v] = (if [Value.int .u64 u, Value.int .u64 v].length = Tryd.prog.cellsOf 76 then ((List.range 2).mapM fun i => Tryd.prog.keyLits (m + 1) 74 (([Value.int .u64 u, Value.int .u64 v].drop (i * Tryd.prog.cellsOf 74)).take (Tryd.prog.cellsOf 74))).map List.flatten else none) := by
    rw [Program.keyLits.eq_def]
    simp only [Tryd.underlying76]
  rw [e, Tryd.cells76, Tryd.cells74]
  simp [show List.range 2 = [0, 1] from rfl, lits_u64 m hu, lits_u64 m hv]
theorem Tryd.keyType76 : Tryd.prog.keyType 76 = true := by kernel_rfl
theorem Tryd.law76 : Keyed Tryd.prog 76 := Keyed.of_law (deep_law_laid Tryd.laidOut (m := Tryd.prog.types.size + 1) (of_decide_eq_true (by kernel_rfl)) (of_decide_eq_true (by kernel_rfl)) (by kernel_rfl) (by kernel_rfl))
def ku (u v : Int) : Lit := .string (keyBytes [.int .u64 u, .int .u64 v])
theorem key76 {u v : Int} (hu : U64 u) (hv : U64 v) : keyOf Tryd.prog 76 (.agg #[.int .u64 u, .int .u64 v]) = some (ku u v) := by
  have hl := lits_two 137 hu hv
  simp [keyOf, Tryd.underlying76, Tryd.keyType76, Value.formed, ku, Value.cells, Tryd.cells76, hl]
theorem equal76 {s t : Nat} (hs : s < 2 ^ 128) (ht : t < 2 ^ 128) (w : World) : (Op.equal 76 (sv s) (sv t)).run Tryd.prog w = .ok (s == t) w := by
  have k1 := key76 (U64.nat (lo_lt s)) (U64.nat (hi_lt hs))
  have k2 := key76 (U64.nat (lo_lt t)) (U64.nat (hi_lt ht))
  obtain ⟨r, h1, h2⟩ := run_equal_deep (P := Tryd.prog) w (m := Tryd.prog.types.size + 1) (of_decide_eq_true (by kernel_rfl)) (k := 76) (by kernel_rfl) (by kernel_rfl) k1 k2
  rw [h1]
  have : r = (s == t) := by
    rw [Bool.eq_iff_iff, h2, beq_iff_eq]
    refine ⟨fun h => ?_, fun h => by rw [h]⟩
    rw [← h] at k2
    have := Tryd.law76.inj k1 k2
    simp at this
    exact ext2 (by omega) (by omega)
  rw [this]
theorem eql76 {s t : Nat} (hs : s < 2 ^ 128) (ht : t < 2 ^ 128) (w : World) : (binOp .eql 76 (sv s) (sv t)).run Tryd.prog w = .ok (.bool (s == t)) w := by
  simp only [binOp]
  simp [equal76 hs ht w, Result.andThen]
set_option maxHeartbeats 1000000 in
theorem isEmpty_call {w : World} {s : Nat} (hs : s < 2 ^ 128) : Calls Tryd.prog 64 #[sv s] w fun e w' => e = .returned (.bool (s == 0)) ∧ Below w.heap.size w w' := by
  have t1 := two_new w (.int .u64 (lo64 s : Int)) (.int .u64 (hi64 s : Int)) 76
  obtain ⟨q0, q1⟩ := cell_two t1
  have hB0 := below_alloc (Below.refl _ w) (Obj.cells #[.int .u64 (lo64 s : Int), .int .u64 (hi64 s : Int)] 76)
  have he : ∀ w, (binOp .eql 76 (.agg #[.int .u64 (lo64 s : Int), .int .u64 (hi64 s : Int)]) (.agg #[.int .u64 0, .int .u64 0])).run Tryd.prog w = .ok (.bool (s == 0)) w := fun w => eql76 (t := 0) hs (by decide) w
  clear hs
  go_enter Tryd.func64, Tryd.ntmps64
  go_wp2
  go_ret
  exact ⟨rfl, hB0⟩
theorem first_lo {s : Nat} (h : lo64 s ≠ 0) : firstS s = Lib.ctz 64 (lo64 s) := by
  obtain ⟨h1, h2, h3⟩ := ctz64 h (lo_lt s)
  generalize Lib.ctz 64 (lo64 s) = k at h1 h2 h3 ⊢
  rw [bit_lo] at h1
  have hb : s.testBit k = true := (Bool.and_eq_true_iff.1 h1).2
  unfold firstS elems
  rw [show (128 : Nat) = k + (128 - k) by omega, List.range_add, List.filter_append, show (List.range k).filter s.testBit = [] from ?_, List.nil_append, show 128 - k = 1 + (127 - k) by omega, List.range_add, List.map_append, List.filter_append]
  · simp [hb]
  · rw [List.filter_eq_nil_iff]
    intro i hi
    have hi := List.mem_range.1 hi
    have := h2 i hi
    rw [bit_lo] at this
    simp at this
    have h9 := this (by omega)
    simp [h9]
theorem first_hi {s : Nat} (hs : s < 2 ^ 128) (h0 : lo64 s = 0) (h : hi64 s ≠ 0) : firstS s = 64 + Lib.ctz 64 (hi64 s) := by
  obtain ⟨h1, h2, h3⟩ := ctz64 h (hi_lt hs)
  generalize Lib.ctz 64 (hi64 s) = k at h1 h2 h3 ⊢
  rw [bit_hi, Nat.add_comm] at h1
  unfold firstS elems
  rw [show (128 : Nat) = (64 + k) + (64 - k) by omega, List.range_add, List.filter_append, show (List.range (64 + k)).filter s.testBit = [] from ?_, List.nil_append, show 64 - k = 1 + (63 - k) by omega, List.range_add, List.map_append, List.filter_append]
  · simp [h1]
  · rw [List.filter_eq_nil_iff]
    intro i hi
    have hi := List.mem_range.1 hi
    by_cases h64 : i < 64
    · have := bit_lo s i
      rw [h0, Nat.zero_testBit] at this
      simp [h64] at this
      simp [this]
    · have := h2 (i - 64) (by omega)
      rw [bit_hi, show i - 64 + 64 = i by omega] at this
      simp [this]
set_option maxHeartbeats 1000000 in
theorem first_gen0 {w : World} {x0 x1 : Int} {k : Nat} (hx : ¬ x0 = 0) (hk : k < 64) (HC : ∀ W, T64 W → Calls Tryd.prog 76 #[.int .u64 x0] W fun e w' => e = .returned (.int .i64 (k : Int)) ∧ w' = W) (ht : T64 w) :
    Calls Tryd.prog 65 #[.agg #[.int .u64 x0, .int .u64 x1]] w fun e w' => e = .returned (.int .i64 (k : Int)) ∧ Below w.heap.size w w' := by
  obtain ⟨q0, q1⟩ := cell_two (two_new w (.int .u64 x0) (.int .u64 x1) 76)
  have HB0 : Hid (Below w.heap.size w (w.alloc (Obj.cells #[.int .u64 x0, .int .u64 x1] 76))) := below_alloc (Below.refl _ w) _
  have HC' : Hid (Calls Tryd.prog 76 #[.int .u64 x0] (w.alloc (Obj.cells #[.int .u64 x0, .int .u64 x1] 76)) fun e w' => e = .returned (.int .i64 (k : Int)) ∧ w' = w.alloc (Obj.cells #[.int .u64 x0, .int .u64 x1] 76)) := HC _ (ht.under HB0.out)
  have z1 : (x0 == 0) = false := by simp [hx]
  clear HC ht
  go_enter Tryd.func65, Tryd.ntmps65
  go_upto_region 2 with (fail)
  generalize w.alloc (Obj.cells #[.int .u64 x0, .int .u64 x1] 76) = W at *
  go_loopw [3] (fun s3 wz => s3 = .int .i64 0 ∧ wz = W) (fun _ _ => 0)
  case atStart => exact ⟨rfl, rfl⟩
  case round =>
    obtain ⟨rfl, rfl⟩ := hrel
    go_wp2_with (first | (go_at_call 76; refine Calls.mono HC'.out ?_; rintro e w' ⟨rfl, rfl⟩) | go_in)
    go_ret
    exact ⟨by simp, HB0.out⟩
set_option maxHeartbeats 1000000 in
theorem first_gen1 {w : World} {x1 : Int} {k : Nat} (hx : ¬ x1 = 0) (hk : k < 64) (HC : ∀ W, T64 W → Calls Tryd.prog 76 #[.int .u64 x1] W fun e w' => e = .returned (.int .i64 (k : Int)) ∧ w' = W) (ht : T64 w) :
    Calls Tryd.prog 65 #[.agg #[.int .u64 0, .int .u64 x1]] w fun e w' => e = .returned (.int .i64 (64 + (k : Int))) ∧ Below w.heap.size w w' := by
  obtain ⟨q0, q1⟩ := cell_two (two_new w (.int .u64 0) (.int .u64 x1) 76)
  have HB0 : Hid (Below w.heap.size w (w.alloc (Obj.cells #[.int .u64 0, .int .u64 x1] 76))) := below_alloc (Below.refl _ w) _
  have HC' : Hid (Calls Tryd.prog 76 #[.int .u64 x1] (w.alloc (Obj.cells #[.int .u64 0, .int .u64 x1] 76)) fun e w' => e = .returned (.int .i64 (k : Int)) ∧ w' = w.alloc (Obj.cells #[.int .u64 0, .int .u64 x1] 76)) := HC _ (ht.under HB0.out)
  have z1 : (x1 == 0) = false := by simp [hx]
  clear HC ht
  go_enter Tryd.func65, Tryd.ntmps65
  go_upto_region 2 with (fail)
  generalize w.alloc (Obj.cells #[.int .u64 0, .int .u64 x1] 76) = W at *
  go_loopw [3] (fun s3 wz => (s3 = .int .i64 0 ∨ s3 = .int .i64 1) ∧ wz = W) (fun s _ => 1 - (numOf s).toNat)
  case atStart => exact ⟨Or.inl rfl, rfl⟩
  case round =>
    obtain ⟨rfl | rfl, rfl⟩ := hrel
    · go_wp2
      go_roundw
      case rel => simp
      case measure => simp [numOf]
    · go_wp2_with (first | (go_at_call 76; refine Calls.mono HC'.out ?_; rintro e w' ⟨rfl, rfl⟩) | go_in)
      go_ret
      exact ⟨by simp, HB0.out⟩
theorem first_call {w : World} {s : Nat} (hs : s < 2 ^ 128) (h0 : s ≠ 0) (ht : T64 w) : Calls Tryd.prog 65 #[sv s] w fun e w' => e = .returned (.int .i64 (firstS s : Int)) ∧ Below w.heap.size w w' := by
  by_cases hl : lo64 s = 0
  · have hh : hi64 s ≠ 0 := fun h => h0 (zero2.2 ⟨hl, h⟩)
    have := first_gen1 (w := w) (x1 := (hi64 s : Int)) (k := Lib.ctz 64 (hi64 s)) (by omega) (ctz64 hh (hi_lt hs)).2.2 (fun W hW => tz_call (hi64 s) (hi_lt hs) hW) ht
    rw [first_hi hs hl hh]
    simp only [sv, hl]
    simpa using this
  · rw [first_lo hl]
    exact first_gen0 (by omega) (ctz64 hl (lo_lt s)).2.2 (fun W hW => tz_call (lo64 s) (lo_lt s) hW) ht
theorem u64_s1 {x : Nat} (hx : x < 2 ^ 64) : IntKind.u64.wrap (bits .and .u64 ((x : Int) / 2) 6148914691236517205 + bits .and .u64 (x : Int) 6148914691236517205) = ((s1 (maskN 85 8) x : Nat) : Int) := by
  have e1 := and_u64 (a := x / 2) (b := 6148914691236517205) (by omega) (by decide)
  have e2 := and_u64 (a := x) (b := 6148914691236517205) hx (by decide)
  rw [show ((x : Int) / 2) = ((x / 2 : Nat) : Int) by omega]
  rw [show (6148914691236517205 : Int) = ((6148914691236517205 : Nat) : Int) from rfl, e1, e2]
  have := wrap_nat (s1_lt x)
  rw [← this]
  congr 1
theorem u64_s2 {x : Nat} (hx : x < 2 ^ 64) : IntKind.u64.wrap (bits .and .u64 ((x : Int) / 4) 3689348814741910323 + bits .and .u64 (x : Int) 3689348814741910323) = ((s2 (maskN 51 8) x : Nat) : Int) := by
  have e1 := and_u64 (a := x / 4) (b := 3689348814741910323) (by omega) (by decide)
  have e2 := and_u64 (a := x) (b := 3689348814741910323) hx (by decide)
  rw [show ((x : Int) / 4) = ((x / 4 : Nat) : Int) by omega]
  rw [show (3689348814741910323 : Int) = ((3689348814741910323 : Nat) : Int) from rfl, e1, e2]
  have := wrap_nat (a := s2 (maskN 51 8) x) (by have := s2_lt x; omega)
  rw [← this]
  congr 1
theorem u64_s3 {x : Nat} (hx : x ≤ 7378697629483820646) : bits .and .u64 (IntKind.u64.wrap ((x : Int) / 16 + (x : Int))) 1085102592571150095 = ((s3 (maskN 15 8) x : Nat) : Int) := by
  rw [show ((x : Int) / 16 + (x : Int)) = ((x / 16 + x : Nat) : Int) by omega, wrap_nat (by omega)]
  exact and_u64 (a := x / 16 + x) (b := 1085102592571150095) (by omega) (by decide)
theorem i64_127 {x : Nat} (hx : x < 2 ^ 63) : bits .and .i64 (x : Int) 127 = ((x % 128 : Nat) : Int) := by
  have e1 : (BitVec.ofInt 64 (x : Int)).toNat = x := ofInt_nat (by omega)
  have e2 : (BitVec.ofInt 64 (127 : Int)).toNat = 127 := by decide
  show IntKind.i64.wrap ((BitVec.ofInt 64 (x : Int) &&& BitVec.ofInt 64 127).toNat : Nat) = _
  rw [BitVec.toNat_and, e1, e2, show (127 : Nat) = 2 ^ 7 - 1 from rfl, Nat.and_two_pow_sub_one_eq_mod]
  have : x % 2 ^ 7 < 128 := Nat.mod_lt _ (by decide)
  simp [IntKind.wrap, IntKind.bits, IntKind.signed]
  omega
set_option maxHeartbeats 2000000 in
theorem ones_call (x : Nat) (hx : x < 2 ^ 64) (w : World) : Calls Tryd.prog 77 #[.int .u64 (x : Int)] w fun e w' => e = .returned (.int .i64 (cntB x 64 : Int)) ∧ w' = w := by
  rw [← popW_eq hx]
  unfold popW
  dsimp only
  have E1 : Hid _ := u64_s1 hx
  have b1 := s1_lt x
  have b2 := s2_lt (s1 (maskN 85 8) x)
  have b3 := s3_lt (s2 (maskN 51 8) (s1 (maskN 85 8) x))
  have E2 : Hid _ := u64_s2 b1
  have E3 : Hid _ := u64_s3 b2
  generalize s3 (maskN 15 8) (s2 (maskN 51 8) (s1 (maskN 85 8) x)) = y3 at *
  generalize s2 (maskN 51 8) (s1 (maskN 85 8) x) = y2 at *
  generalize s1 (maskN 85 8) x = y1 at *
  have E4 : Hid (IntKind.u64.wrap ((y3 : Int) + (y3 : Int) / 256) = ((y3 + y3 / 256 : Nat) : Int)) := by
    show _ = _
    rw [show ((y3 : Int) + (y3 : Int) / 256) = ((y3 + y3 / 256 : Nat) : Int) by omega, wrap_nat (by omega)]
  obtain ⟨y4, hy4⟩ : ∃ y, y = y3 + y3 / 256 := ⟨_, rfl⟩
  rw [← hy4] at E4 ⊢
  have b4 : y4 ≤ 1200000000000000000 := by omega
  have E5 : Hid (IntKind.u64.wrap ((y4 : Int) + (y4 : Int) / 65536) = ((y4 + y4 / 65536 : Nat) : Int)) := by
    show _ = _
    rw [show ((y4 : Int) + (y4 : Int) / 65536) = ((y4 + y4 / 65536 : Nat) : Int) by omega, wrap_nat (by omega)]
  obtain ⟨y5, hy5⟩ : ∃ y, y = y4 + y4 / 65536 := ⟨_, rfl⟩
  rw [← hy5] at E5 ⊢
  have b5 : y5 ≤ 1300000000000000000 := by omega
  have E6 : Hid (IntKind.u64.wrap ((y5 : Int) + (y5 : Int) / 4294967296) = ((y5 + y5 / 4294967296 : Nat) : Int)) := by
    show _ = _
    rw [show ((y5 : Int) + (y5 : Int) / 4294967296) = ((y5 + y5 / 4294967296 : Nat) : Int) by omega, wrap_nat (by omega)]
  obtain ⟨y6, hy6⟩ : ∃ y, y = y5 + y5 / 4294967296 := ⟨_, rfl⟩
  rw [← hy6] at E6 ⊢
  have b6 : y6 ≤ 1400000000000000000 := by omega
  have E7 : Hid _ := i64_127 (x := y6) (by omega)
  have e8 : IntKind.i64.wrap (y6 : Int) = (y6 : Int) := by
    simp [IntKind.wrap, IntKind.bits, IntKind.signed]
    omega
  clear hy4 hy5 hy6 b1 b2 b3 b4 b5 hx
  go_enter Tryd.func77, Tryd.ntmps77
  go_upto_region 2 with (fail)
  rw [E1.out]
  go_upto_region 3 with (fail)
  rw [E2.out]
  go_upto_region 4 with (fail)
  rw [E3.out]
  go_upto_region 5 with (fail)
  rw [E4.out]
  go_upto_region 6 with (fail)
  rw [E5.out]
  go_upto_region 7 with (fail)
  rw [E6.out]
  go_wp2
  go_ret
  exact ⟨by rw [E7.out]; rfl, rfl⟩
set_option maxHeartbeats 2000000 in
theorem count_call {w : World} {s : Nat} (hs : s < 2 ^ 128) : Calls Tryd.prog 69 #[sv s] w fun e w' => e = .returned (.int .i64 (countS s : Int)) ∧ Below w.heap.size w w' := by
  have C0 : Hid _ := fun W => ones_call (lo64 s) (lo_lt s) W
  have C1 : Hid _ := fun W => ones_call (hi64 s) (hi_lt hs) W
  have hle : ∀ x n, cntB x n ≤ n := fun x n => by
    unfold cntB
    refine Nat.le_trans (List.length_filter_le _ _) (by simp)
  have l0 := hle (lo64 s) 64
  have l1 := hle (hi64 s) 64
  rw [count_two]
  show Calls Tryd.prog 69 #[.agg #[.int .u64 (lo64 s : Int), .int .u64 (hi64 s : Int)]] w _
  generalize cntB (lo64 s) 64 = c0 at *
  generalize cntB (hi64 s) 64 = c1 at *
  clear hs hle
  generalize (lo64 s : Int) = x0 at *
  generalize (hi64 s : Int) = x1 at *
  obtain ⟨q0, q1⟩ := cell_two (two_new w (.int .u64 x0) (.int .u64 x1) 76)
  have HB0 : Hid (Below w.heap.size w (w.alloc (Obj.cells #[.int .u64 x0, .int .u64 x1] 76))) := below_alloc (Below.refl _ w) _
  have i0 : ∀ w, (Instr.index 76 (.agg #[.int .u64 x0, .int .u64 x1]) (.int .i64 0)).run Tryd.prog w = .ok (.int .u64 x0) w := fun w => by kernel_rfl
  have i1 : ∀ w, (Instr.index 76 (.agg #[.int .u64 x0, .int .u64 x1]) (.int .i64 1)).run Tryd.prog w = .ok (.int .u64 x1) w := fun w => by kernel_rfl
  go_enter Tryd.func69, Tryd.ntmps69
  go_upto_region 3 with (fail)
  generalize w.alloc (Obj.cells #[.int .u64 x0, .int .u64 x1] 76) = W at *
  go_loopw [3, 7] (fun s3 s7 wz => ((s7 = .int .i64 0 ∧ s3 = .int .i64 0) ∨ (s7 = .int .i64 1 ∧ s3 = .int .i64 (c0 : Int)) ∨ (s7 = .int .i64 2 ∧ s3 = .int .i64 ((c0 + c1 : Nat) : Int))) ∧ wz = W) (fun _ s _ => 2 - (numOf s).toNat)
  case atStart => exact ⟨Or.inl ⟨rfl, rfl⟩, rfl⟩
  case round =>
    obtain ⟨⟨rfl, rfl⟩ | ⟨rfl, rfl⟩ | ⟨rfl, rfl⟩, rfl⟩ := hrel
    · go_wp2_with (first | (go_at_call 77; refine Calls.mono (C0.out _) ?_; rintro e w' ⟨rfl, rfl⟩) | go_in)
      go_roundw
      case rel => simp
      case measure => simp [numOf]
    · go_wp2_with (first | (go_at_call 77; refine Calls.mono (C1.out _) ?_; rintro e w' ⟨rfl, rfl⟩) | go_in)
      go_roundw
      case rel => simp
      case measure => simp [numOf]
    · go_wp2
      go_ret
      exact ⟨rfl, HB0.out⟩
end Go.Proofs.YtekokjechbibdaaDoor
