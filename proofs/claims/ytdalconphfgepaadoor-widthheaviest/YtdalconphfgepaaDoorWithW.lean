/- Sets with a number more, with one less, of all numbers below one. -/
import Derived.Test.YtdalconphfgepaaDoorRiseW
namespace Go.Proofs.YtdalconphfgepaaDoor
set_option maxRecDepth 8000
open Go.RowKit Go.Maps
attribute [local go_sem ↓] Go.wp_at_zero Go.wp_at_succ
set_option maxHeartbeats 1000000 in
theorem with_call {w : World} {s v : Nat} (hs : s < 2 ^ 128) (hv : v < 128) : Calls Tryd.prog 53 #[sv s, .int .i64 (v : Int)] w fun e w' => e = .returned (sv (sAdd s v)) ∧ Below w.heap.size w w' := by
  have HC : Hid (∀ W b, SBox W b s → Calls Tryd.prog 46 #[.pointer (some ⟨b, 0, none⟩), .int .i64 (v : Int)] W fun e w' => e = .returned (.tuple #[]) ∧ SBox w' b (sAdd s v) ∧ Turns (fun k => k = b) W w') := fun W b h => add_sbox hs hv h
  show Calls Tryd.prog 53 #[.agg #[.int .u64 (lo64 s : Int), .int .u64 (hi64 s : Int)], .int .i64 (v : Int)] w _
  generalize sAdd s v = S at HC ⊢
  go_enter Tryd.func53, Tryd.ntmps53
  go_upto_region 1 with (fail)
  have a3 := two_nxt w (Obj.cells #[.int .u64 (lo64 s : Int), .int .u64 (hi64 s : Int)] 76) (.int .u64 0) (.int .u64 0) 76
  have a2 : SBox _ w.heap.size s := two_alloc (two_new w (.int .u64 (lo64 s : Int)) (.int .u64 (hi64 s : Int)) 76) (Obj.cells #[.int .u64 0, .int .u64 0] 76)
  have hB0 := below_alloc (below_alloc (Below.refl _ w) (Obj.cells #[.int .u64 (lo64 s : Int), .int .u64 (hi64 s : Int)] 76)) (Obj.cells #[.int .u64 0, .int .u64 0] 76)
  obtain ⟨b3, hb3⟩ : ∃ b, b = w.heap.size + 1 := ⟨_, rfl⟩
  obtain ⟨b2, hb2⟩ : ∃ b, b = w.heap.size := ⟨_, rfl⟩
  have HNE : Hid (b3 ≠ b2 ∧ w.heap.size ≤ b3 ∧ w.heap.size ≤ b2) := ⟨by omega, by omega, by omega⟩
  rw [← hb3] at a3 ⊢
  rw [← hb2] at a2 ⊢
  generalize (w.alloc (Obj.cells #[.int .u64 (lo64 s : Int), .int .u64 (hi64 s : Int)] 76)).alloc (Obj.cells #[.int .u64 0, .int .u64 0] 76) = W0 at a2 a3 hB0 ⊢
  have CA : Hid _ := HC.out W0 b2 a2
  have H3 : Hid (Two W0 b3 (.int .u64 0) (.int .u64 0) 76) := a3
  clear hb2 hb3 a2 a3 HC
  go_upto_region 2 with (first | (go_at_call 46; refine Calls.mono CA.out ?_; rintro e w1 ⟨rfl, h1, t1⟩) | go_in)
  have h2 := two_turns H3.out t1 HNE.out.1
  have hB : Below w.heap.size w w1 := t1.below hB0 hB0.size (fun k h => by subst h; exact HNE.out.2.2)
  have f0 := free_two h2 0
  have f1 := free_two h2 1
  obtain ⟨c0, c1⟩ := cell_two h1
  have y1 : (w1.setCell ⟨b3, 0, none⟩ (.int .u64 (lo64 S : Int))).frozen? ⟨b3, 1, none⟩ = false := box_free (box_set h2 0 (.int .u64 (lo64 S : Int))) 1
  have y0 : (w1.setCell ⟨b3, 0, none⟩ (.int .u64 (lo64 S : Int))).cell? ⟨b3, 1, none⟩ = some (.int .u64 0) := box_cell (box_set h2 0 (.int .u64 (lo64 S : Int))) rfl
  obtain ⟨z0, z1⟩ := cell_two h2
  obtain ⟨x0, x1⟩ := cell_two (two_setN h2 (x' := .int .u64 (lo64 S : Int)) (y' := .int .u64 (hi64 S : Int)))
  clear h2 h1 t1
  go_wp2
  refine bodyPost_ret (v := sv S) ?_ rfl ⟨rfl, (hB.setCell HNE.out.2.1 _).setCell HNE.out.2.1 _⟩
  simp [results, Tryd.results53, go_sem, x0, x1]
set_option maxHeartbeats 1000000 in
theorem without_call {w : World} {s v : Nat} (hs : s < 2 ^ 128) (hv : v < 128) : Calls Tryd.prog 48 #[sv s, .int .i64 (v : Int)] w fun e w' => e = .returned (sv (sDrop s v)) ∧ Below w.heap.size w w' := by
  have HC : Hid (∀ W b, SBox W b s → Calls Tryd.prog 52 #[.pointer (some ⟨b, 0, none⟩), .int .i64 (v : Int)] W fun e w' => e = .returned (.tuple #[]) ∧ SBox w' b (sDrop s v) ∧ Turns (fun k => k = b) W w') := fun W b h => drop_sbox hs hv h
  show Calls Tryd.prog 48 #[.agg #[.int .u64 (lo64 s : Int), .int .u64 (hi64 s : Int)], .int .i64 (v : Int)] w _
  generalize sDrop s v = S at HC ⊢
  go_enter Tryd.func48, Tryd.ntmps48
  go_upto_region 1 with (fail)
  have a3 := two_nxt w (Obj.cells #[.int .u64 (lo64 s : Int), .int .u64 (hi64 s : Int)] 76) (.int .u64 0) (.int .u64 0) 76
  have a2 : SBox _ w.heap.size s := two_alloc (two_new w (.int .u64 (lo64 s : Int)) (.int .u64 (hi64 s : Int)) 76) (Obj.cells #[.int .u64 0, .int .u64 0] 76)
  have hB0 := below_alloc (below_alloc (Below.refl _ w) (Obj.cells #[.int .u64 (lo64 s : Int), .int .u64 (hi64 s : Int)] 76)) (Obj.cells #[.int .u64 0, .int .u64 0] 76)
  obtain ⟨b3, hb3⟩ : ∃ b, b = w.heap.size + 1 := ⟨_, rfl⟩
  obtain ⟨b2, hb2⟩ : ∃ b, b = w.heap.size := ⟨_, rfl⟩
  have HNE : Hid (b3 ≠ b2 ∧ w.heap.size ≤ b3 ∧ w.heap.size ≤ b2) := ⟨by omega, by omega, by omega⟩
  rw [← hb3] at a3 ⊢
  rw [← hb2] at a2 ⊢
  generalize (w.alloc (Obj.cells #[.int .u64 (lo64 s : Int), .int .u64 (hi64 s : Int)] 76)).alloc (Obj.cells #[.int .u64 0, .int .u64 0] 76) = W0 at a2 a3 hB0 ⊢
  have CA : Hid _ := HC.out W0 b2 a2
  have H3 : Hid (Two W0 b3 (.int .u64 0) (.int .u64 0) 76) := a3
  clear hb2 hb3 a2 a3 HC
  go_upto_region 2 with (first | (go_at_call 52; refine Calls.mono CA.out ?_; rintro e w1 ⟨rfl, h1, t1⟩) | go_in)
  have h2 := two_turns H3.out t1 HNE.out.1
  have hB : Below w.heap.size w w1 := t1.below hB0 hB0.size (fun k h => by subst h; exact HNE.out.2.2)
  have f0 := free_two h2 0
  have f1 := free_two h2 1
  obtain ⟨c0, c1⟩ := cell_two h1
  have y1 : (w1.setCell ⟨b3, 0, none⟩ (.int .u64 (lo64 S : Int))).frozen? ⟨b3, 1, none⟩ = false := box_free (box_set h2 0 (.int .u64 (lo64 S : Int))) 1
  have y0 : (w1.setCell ⟨b3, 0, none⟩ (.int .u64 (lo64 S : Int))).cell? ⟨b3, 1, none⟩ = some (.int .u64 0) := box_cell (box_set h2 0 (.int .u64 (lo64 S : Int))) rfl
  obtain ⟨z0, z1⟩ := cell_two h2
  obtain ⟨x0, x1⟩ := cell_two (two_setN h2 (x' := .int .u64 (lo64 S : Int)) (y' := .int .u64 (hi64 S : Int)))
  clear h2 h1 t1
  go_wp2
  refine bodyPost_ret (v := sv S) ?_ rfl ⟨rfl, (hB.setCell HNE.out.2.1 _).setCell HNE.out.2.1 _⟩
  simp [results, Tryd.results48, go_sem, x0, x1]
set_option maxHeartbeats 1000000 in
theorem all_call {w : World} {n : Nat} (hn : n ≤ 100) : Calls Tryd.prog 51 #[.int .i64 (n : Int)] w fun e w' => e = .returned (sv (setOf (List.range n))) ∧ Below w.heap.size w w' := by
  obtain ⟨S, hS⟩ : ∃ S, S = setOf (List.range n) := ⟨_, rfl⟩
  rw [← hS]
  have HS : Hid (S = setOf (List.range n)) := hS
  clear hS
  go_enter Tryd.func51, Tryd.ntmps51
  go_upto_region 3 with (fail)
  have a3 := two_nxt w (Obj.cells #[.int .u64 0, .int .u64 0] 76) (.int .u64 0) (.int .u64 0) 76
  have a2 := two_alloc (two_new w (.int .u64 0) (.int .u64 0) 76) (Obj.cells #[.int .u64 0, .int .u64 0] 76)
  have hB0 := below_alloc (below_alloc (Below.refl _ w) (Obj.cells #[.int .u64 0, .int .u64 0] 76)) (Obj.cells #[.int .u64 0, .int .u64 0] 76)
  obtain ⟨b3, hb3⟩ : ∃ b, b = w.heap.size + 1 := ⟨_, rfl⟩
  obtain ⟨b2, hb2⟩ : ∃ b, b = w.heap.size := ⟨_, rfl⟩
  have HNE : Hid (b2 ≠ b3 ∧ w.heap.size ≤ b3 ∧ w.heap.size ≤ b2) := ⟨by omega, by omega, by omega⟩
  rw [← hb3] at a3 ⊢
  rw [← hb2] at a2 ⊢
  generalize (w.alloc (Obj.cells #[.int .u64 0, .int .u64 0] 76)).alloc (Obj.cells #[.int .u64 0, .int .u64 0] 76) = W0 at a2 a3 hB0 ⊢
  clear hb2 hb3
  go_loopw [6] (fun s6 wz => ∃ k : Nat, k ≤ n ∧ s6 = .int .i64 (k : Int) ∧ SBox wz b3 (setOf (List.range k)) ∧ Two wz b2 (.int .u64 0) (.int .u64 0) 76 ∧ Below w.heap.size w wz) (fun s6 _ => n - (numOf s6).toNat)
  case atStart => exact ⟨0, Nat.zero_le _, rfl, sbox_zero a3, a2, hB0⟩
  case round =>
    obtain ⟨k, hk, rfl, h3, h2, hB⟩ := hrel
    clear a2 a3 hB0
    by_cases hlt : k < n
    · have hs : setOf (List.range k) < 2 ^ 128 := setOf_lt (fun x hx => by have := List.mem_range.1 hx; omega)
      have CA : Hid _ := add_sbox hs (show k < 128 by omega) h3
      have HT : Hid (setOf (List.range (k + 1)) = sAdd (setOf (List.range k)) k) := by
        show _ = _
        rw [List.range_succ, setOf_snoc]
      have H2 : Hid (Two wr b2 (.int .u64 0) (.int .u64 0) 76) := h2
      have i1 : (0 : Int) ≤ (k : Int) := by omega
      have i2 : (k : Int) < (n : Int) := by omega
      clear h2 h3 hs
      go_wp2_with (first | (go_at_call 46; refine Calls.mono CA.out ?_; rintro e w1 ⟨rfl, h1, t1⟩) | go_in)
      go_roundw
      case rel => exact ⟨k + 1, by omega, by go_num, by rw [HT.out]; exact h1, two_turns H2.out t1 HNE.out.1, t1.below hB hB.size (fun k h => by subst h; exact HNE.out.2.1)⟩
      case measure => simp [numOf]; omega
    · obtain rfl : k = n := by omega
      have f0 := free_two h2 0
      have f1 := free_two h2 1
      rw [← HS.out] at h3
      obtain ⟨c0, c1⟩ := cell_two h3
      have y1 : (wr.setCell ⟨b2, 0, none⟩ (.int .u64 (lo64 S : Int))).frozen? ⟨b2, 1, none⟩ = false := box_free (box_set h2 0 (.int .u64 (lo64 S : Int))) 1
      have y0 : (wr.setCell ⟨b2, 0, none⟩ (.int .u64 (lo64 S : Int))).cell? ⟨b2, 1, none⟩ = some (.int .u64 0) := box_cell (box_set h2 0 (.int .u64 (lo64 S : Int))) rfl
      obtain ⟨z0, z1⟩ := cell_two h2
      obtain ⟨x0, x1⟩ := cell_two (two_setN h2 (x' := .int .u64 (lo64 S : Int)) (y' := .int .u64 (hi64 S : Int)))
      clear h2 h3
      go_wp2
      refine bodyPost_ret (v := sv S) ?_ rfl ⟨rfl, (hB.setCell HNE.out.2.2 _).setCell HNE.out.2.2 _⟩
      simp [results, Tryd.results51, go_sem, x0, x1]
end Go.Proofs.YtdalconphfgepaaDoor
