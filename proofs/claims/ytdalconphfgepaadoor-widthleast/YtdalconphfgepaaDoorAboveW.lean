/- The bag above a bag. -/
import Derived.Test.YtdalconphfgepaaDoorBagW
namespace Go.Proofs.YtdalconphfgepaaDoor
set_option maxRecDepth 8000
open Go.RowKit Go.Maps
attribute [local go_sem ↓] Go.wp_at_zero Go.wp_at_succ
def aboveS (bags : List Nat) (f : Nat → Int) (k : Nat) : Nat := if f k = -1 then 0 else at' bags (f k).toNat
set_option maxHeartbeats 1000000 in
theorem above_call {w : World} {b n vc k : Nat} {vo : Option Addr} {bags : List Nat} {f : Nat → Int} (hS : SetsAt w b bags) (hl : bags.length = n) (hF : NumF w vo n f) (hk : k < n) (hf : f k = -1 ∨ (0 ≤ f k ∧ f k < n)) :
    Calls Tryd.prog 73 #[sl b n, .slice vo n vc, .int .i64 (k : Int)] w fun e w' => e = .returned (sv (aboveS bags f k)) ∧ Below w.heap.size w w' := by
  obtain ⟨vb, off, rfl, ck⟩ := hF k hk
  have HV : Hid (vb < w.heap.size) := World.block_lt_of_cell? w _ ck
  have HS : Hid (SetsAt w b bags ∧ bags.length = n) := ⟨hS, hl⟩
  have i1 : (0 : Int) ≤ (k : Int) := by omega
  have i2 : (k : Int) < (n : Int) := by omega
  clear hF hS hl
  go_enter Tryd.func73, Tryd.ntmps73
  go_upto_region 1 with (fail)
  have h4 := two_new w (.int .u64 0) (.int .u64 0) 76
  have hB := below_alloc (Below.refl _ w) (Obj.cells #[.int .u64 0, .int .u64 0] 76)
  obtain ⟨b4, hb4⟩ : ∃ b, b = w.heap.size := ⟨_, rfl⟩
  have HNE : Hid (w.heap.size ≤ b4) := Nat.le_of_eq hb4.symm
  rw [← hb4] at h4 ⊢
  generalize w.alloc (Obj.cells #[.int .u64 0, .int .u64 0] 76) = W at *
  have ck' : W.cell? ⟨vb, off + k, none⟩ = some (.int .i64 (f k)) := by rw [hB.cell (by exact HV.out)]; exact ck
  have HS' : Hid (SetsAt W b bags) := HS.out.1.under hB
  clear hb4 ck
  have f0 := free_two h4 0
  have f1 := free_two h4 1
  obtain ⟨z0, z1⟩ := cell_two h4
  rcases hf with hf | hf
  · have k1 : (f k == -1) = true := by rw [beq_iff_eq]; exact hf
    have HA : Hid (aboveS bags f k = 0) := if_pos hf
    have y1 : (W.setCell ⟨b4, 0, none⟩ (.int .u64 0)).frozen? ⟨b4, 1, none⟩ = false := box_free (box_set h4 0 (.int .u64 0)) 1
    have y0 : (W.setCell ⟨b4, 0, none⟩ (.int .u64 0)).cell? ⟨b4, 1, none⟩ = some (.int .u64 0) := box_cell (box_set h4 0 (.int .u64 0)) rfl
    obtain ⟨x0, x1⟩ := cell_two (two_setN h4 (x' := .int .u64 0) (y' := .int .u64 0))
    clear h4 hf
    go_wp2
    refine bodyPost_ret (v := sv 0) ?_ rfl ⟨by rw [HA.out], (hB.setCell HNE.out _).setCell HNE.out _⟩
    simp [results, Tryd.results73, go_sem, x0, x1]
    exact ⟨rfl, rfl⟩
  · have hne : f k ≠ -1 := by omega
    have k1 : (f k == -1) = false := by rw [beq_eq_false_iff_ne]; exact hne
    have HA : Hid (aboveS bags f k = at' bags (f k).toNat) := if_neg hne
    obtain ⟨u, hu⟩ := Int.eq_ofNat_of_zero_le hf.1
    have hun : u < n := by omega
    have HA2 : Hid (aboveS bags f k = at' bags u) := by
      show _ = _
      rw [HA.out, hu]
      rfl
    obtain ⟨c0, c1⟩ := HS'.out.cell (at_some (show u < bags.length by rw [HS.out.2]; exact hun))
    rw [hu] at ck' k1
    generalize at' bags u = S at *
    have y1 : (W.setCell ⟨b4, 0, none⟩ (.int .u64 (lo64 S : Int))).frozen? ⟨b4, 1, none⟩ = false := box_free (box_set h4 0 (.int .u64 (lo64 S : Int))) 1
    have y0 : (W.setCell ⟨b4, 0, none⟩ (.int .u64 (lo64 S : Int))).cell? ⟨b4, 1, none⟩ = some (.int .u64 0) := box_cell (box_set h4 0 (.int .u64 (lo64 S : Int))) rfl
    obtain ⟨x0, x1⟩ := cell_two (two_setN h4 (x' := .int .u64 (lo64 S : Int)) (y' := .int .u64 (hi64 S : Int)))
    have i3 : (0 : Int) ≤ (u : Int) := by omega
    have i4 : (u : Int) < (n : Int) := by omega
    clear h4 hf hne hu HA hun
    go_wp2
    refine bodyPost_ret (v := sv S) ?_ rfl ⟨by rw [HA2.out], (hB.setCell HNE.out _).setCell HNE.out _⟩
    simp [results, Tryd.results73, go_sem, x0, x1]
end Go.Proofs.YtdalconphfgepaaDoor
