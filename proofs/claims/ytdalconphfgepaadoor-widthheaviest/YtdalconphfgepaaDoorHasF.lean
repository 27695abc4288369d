/- R.Has2: is a number in a list? Where the first one of some nodes stands: width.firstIn. -/
import Derived.Test.YtdalconphfgepaaDoorOpenWK
namespace Go.Proofs.YtdalconphfgepaaDoor
set_option maxRecDepth 8000
open Go.RowKit Go.Maps
attribute [local go_sem ↓] Go.wp_at_zero Go.wp_at_succ
def inB (n : Nat) (f : Nat → Int) (x : Int) : Bool := (List.range n).any fun j => f j == x
set_option maxHeartbeats 600000 in
theorem has2_call {w : World} {vo : Option Addr} {n vc : Nat} {f : Nat → Int} (h : NumF w vo n f) (hn : n ≤ 100000) (x : Int) :
    Calls Tryd.prog 33 #[.slice vo n vc, .int .i64 x] w fun e w' => e = .returned (.bool (inB n f x)) ∧ w' = w := by
  have C31 : Hid _ := rank_call (vc := vc) h hn x
  clear h
  go_enter Tryd.func33, Tryd.ntmps33
  go_wp2_with (first | (go_at_call 31; refine Calls.mono C31.out ?_; rintro e w' ⟨⟨m, rfl, hm, h1, h2⟩, rfl⟩) | go_in)
  go_ret
  refine ⟨?_, rfl⟩
  have key : decide (m < n) = inB n f x := by
    by_cases hlt : m < n
    · rw [show inB n f x = true from List.any_eq_true.2 ⟨m, List.mem_range.2 hlt, by rw [beq_iff_eq]; exact h2 hlt⟩]
      simpa using hlt
    · rw [show inB n f x = false from List.any_eq_false.2 fun j hj => by simpa using h1 j (by have := List.mem_range.1 hj; omega)]
      simpa using hlt
  rw [← key]
  rfl
end Go.Proofs.YtdalconphfgepaaDoor

namespace Go.Proofs.YtdalconphfgepaaDoor
set_option maxRecDepth 8000
open Go.RowKit Go.Maps
attribute [local go_sem ↓] Go.wp_at_zero Go.wp_at_succ
def firstIn (n : Nat) (g : Nat → Nat) (s fr : Nat) : Int := if fr = n then -1 else (((List.range' fr (n - fr)).find? fun j => s.testBit (g j)).getD fr : Nat)
theorem firstIn_at {n s fr k : Nat} {g : Nat → Nat} (hk : k < n) (hf : fr ≤ k) (h1 : s.testBit (g k) = true) (h2 : ∀ j, fr ≤ j → j < k → s.testBit (g j) = false) : firstIn n g s fr = k := by
  unfold firstIn
  rw [if_neg (by omega)]
  have : (List.range' fr (n - fr)).find? (fun j => s.testBit (g j)) = some k := by
    obtain ⟨a, ha⟩ : ∃ a, k = fr + a := ⟨k - fr, by omega⟩
    obtain ⟨r, hr⟩ : ∃ r, n - fr = a + (r + 1) := ⟨n - fr - a - 1, by omega⟩
    rw [hr, ← List.range'_append_1, List.find?_append, show (List.range' fr a).find? (fun j => s.testBit (g j)) = none from List.find?_eq_none.2 fun j hj => by
      obtain ⟨h3, h4⟩ := List.mem_range'_1.1 hj
      rw [h2 j h3 (by omega)]; simp]
    rw [List.range'_succ, ← ha, List.find?_cons, h1]
    rfl
  rw [this]
  rfl
theorem firstIn_none {n s fr : Nat} {g : Nat → Nat} (hf : fr < n) (h2 : ∀ j, fr ≤ j → j < n → s.testBit (g j) = false) : firstIn n g s fr = fr := by
  unfold firstIn
  rw [if_neg (by omega), show (List.range' fr (n - fr)).find? (fun j => s.testBit (g j)) = none from List.find?_eq_none.2 fun j hj => by
      obtain ⟨h3, h4⟩ := List.mem_range'_1.1 hj
      rw [h2 j h3 (by omega)]; simp]
  rfl
set_option maxHeartbeats 1000000 in
theorem firstIn_call {w : World} {vo : Option Addr} {n vc fr s : Nat} {g : Nat → Nat} (h : NumF w vo n (fun j => (g j : Int))) (hn : n ≤ 1000) (hg : ∀ j, j < n → g j < 128) (hs : s < 2 ^ 128) (hfr : fr ≤ n) :
    Calls Tryd.prog 54 #[.slice vo n vc, .int .i64 (fr : Int), sv s] w fun e w' => e = .returned (.int .i64 (firstIn n g s fr)) ∧ Below w.heap.size w w' := by
  have H : Hid (NumF w vo n (fun j => (g j : Int)) ∧ (∀ j, j < n → g j < 128)) := ⟨h, hg⟩
  have C71 : Hid (∀ j W, j < n → Calls Tryd.prog 71 #[.agg #[.int .u64 (lo64 s : Int), .int .u64 (hi64 s : Int)], .int .i64 (g j : Int)] W fun e w' => e = .returned (.bool (s.testBit (g j))) ∧ Below W.heap.size W w') := fun j W hj => has_call hs (hg j hj)
  clear h hg hs
  show Calls Tryd.prog 54 #[.slice vo n vc, .int .i64 (fr : Int), .agg #[.int .u64 (lo64 s : Int), .int .u64 (hi64 s : Int)]] w _
  go_enter Tryd.func54, Tryd.ntmps54
  go_upto_region 1 with (fail)
  have t5 := two_new w (.int .u64 (lo64 s : Int)) (.int .u64 (hi64 s : Int)) 76
  have hB0 := below_alloc (Below.refl _ w) (Obj.cells #[.int .u64 (lo64 s : Int), .int .u64 (hi64 s : Int)] 76)
  generalize w.heap.size = b5 at t5 ⊢
  generalize w.alloc (Obj.cells #[.int .u64 (lo64 s : Int), .int .u64 (hi64 s : Int)] 76) = W at *
  have HT : Hid (Two W b5 (.int .u64 (lo64 s : Int)) (.int .u64 (hi64 s : Int)) 76 ∧ Below w.heap.size w W) := ⟨t5, hB0⟩
  clear t5 hB0
  by_cases hne : fr = n
  · have k1 : ((fr : Int) == (n : Int)) = true := by simp; omega
    have HF : Hid (firstIn n g s fr = -1) := if_pos hne
    clear hne
    go_wp2
    go_ret
    exact ⟨by rw [HF.out]; rfl, HT.out.2⟩
  · have k1 : ((fr : Int) == (n : Int)) = false := by simp; omega
    have hlt0 : fr < n := by omega
    clear hne
    go_upto_region 4 with (fail)
    clear k1
    go_loopw [7] (fun s7 wz => ∃ k : Nat, k ≤ n ∧ fr ≤ k ∧ s7 = .int .i64 (k : Int) ∧ Hid ((∀ j, fr ≤ j → j < k → s.testBit (g j) = false) ∧ Below W.heap.size W wz)) (fun s7 _ => n - (numOf s7).toNat)
    case atStart => exact ⟨fr, by omega, Nat.le_refl _, rfl, ⟨fun j h1 h2 => by omega, Below.refl _ _⟩⟩
    case round =>
      obtain ⟨k, hk, hfk, rfl, hJ⟩ := hrel
      by_cases hlt : k < n
      · obtain ⟨vb, off, rfl, ck⟩ := H.out.1 k hlt
        have ck' : wr.cell? ⟨vb, off + k, none⟩ = some (.int .i64 (g k : Int)) := by
          rw [(below_next HT.out.2 hJ.out.2).cell (by exact World.block_lt_of_cell? w _ ck)]; exact ck
        obtain ⟨q0, q1⟩ := cell_two (two_next HT.out.1 hJ.out.2)
        have i1 : (0 : Int) ≤ (k : Int) := by omega
        have i2 : (k : Int) < (n : Int) := by omega
        clear ck
        go_upto_region 6 with (fail)
        have g0 := cell_growD q0
        have g1 := cell_growD q1
        have g2 := cell_growD ck'
        have HC : Hid (∀ W, Calls Tryd.prog 71 #[.agg #[.int .u64 (lo64 s : Int), .int .u64 (hi64 s : Int)], .int .i64 (g k : Int)] W fun e w' => e = .returned (.bool (s.testBit (g k))) ∧ Below W.heap.size W w') := fun W => C71.out k W hlt
        refine wp_region_tailT 6 (by kernel_rfl) (by kernel_rfl) (by kernel_rfl) (by decide) ?_
        simp only [List.take_succ_cons, List.take_zero, List.drop_succ_cons, List.drop_zero]
        repeat (quiet_step (first | (go_at_call 71; exact Calls.belowQ (fun W hW => HC.out W))))
        refine wpQuiet_nil ?_
        rintro _ ⟨gp, rfl⟩
        have hB8 := growD_below wr gp
        have HJ8 : Hid (Below W.heap.size W (growD wr gp)) := below_next hJ.out.2 hB8
        clear g0 g1 g2 q0 q1 ck' hB8
        generalize growD wr gp = w8 at *
        clear HC
        obtain ⟨bt, hbt⟩ : ∃ bt, bt = s.testBit (g k) := ⟨_, rfl⟩
        rw [← hbt]
        cases bt with
        | true =>
          have HF : Hid (firstIn n g s fr = k) := firstIn_at hlt hfk hbt.symm hJ.out.1
          clear hJ hbt
          go_wp2
          go_ret
          exact ⟨by rw [HF.out]; rfl, below_next HT.out.2 HJ8.out⟩
        | false =>
          have HN : Hid (∀ j, fr ≤ j → j < k + 1 → s.testBit (g j) = false) := fun j h1 h2 => by
            by_cases e : j = k
            · subst e; exact hbt.symm
            · exact hJ.out.1 j h1 (by omega)
          clear hJ hbt
          go_wp2
          go_roundw
          case rel => exact ⟨k + 1, by omega, by omega, by go_num, ⟨HN.out, HJ8.out⟩⟩
          case measure => simp [numOf]; omega
      · obtain rfl : k = n := by omega
        have HF : Hid (firstIn k g s fr = fr) := firstIn_none hlt0 hJ.out.1
        go_wp2
        go_ret
        exact ⟨by rw [HF.out]; rfl, below_next HT.out.2 hJ.out.2⟩
end Go.Proofs.YtdalconphfgepaaDoor
