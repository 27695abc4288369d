/- A bag as a set: width.setOf. The bag above a bag. -/
import Derived.Test.YtdalconphfgepaaDoorWithW
namespace Go.Proofs.YtdalconphfgepaaDoor
set_option maxRecDepth 8000
open Go.RowKit Go.Maps
attribute [local go_sem ↓] Go.wp_at_zero Go.wp_at_succ
/-- The set of a bag, or the code of the first thing that is wrong. -/
def bagS (n : Nat) : List Int → Nat → Nat × Int
  | [], s => (s, 0)
  | v :: l, s => if v < 0 ∨ (n : Int) ≤ v then (0, 3) else if s.testBit v.toNat = true then (0, 5) else bagS n l (sAdd s v.toNat)
theorem sAdd_lt' {s v : Nat} (hs : s < 2 ^ 128) (hv : v < 128) : sAdd s v < 2 ^ 128 := by
  unfold sAdd
  exact Nat.or_lt_two_pow hs (by rw [Nat.one_shiftLeft]; exact Nat.pow_lt_pow_right (by omega) hv)
/-- The answer: a set and a code. -/
def BagA (w w' : World) (e : Ending) (a : Nat × Int) : Prop := e = .returned (.tuple #[sv a.1, .int .i64 a.2]) ∧ Below w.heap.size w w'
set_option maxHeartbeats 2000000 in
theorem setOf_call {w : World} {vo : Option Addr} {m vc n : Nat} {l : List Int} (h : NumF w vo m (fun i => l.getD i 0)) (hm : l.length = m) (hm1 : m ≤ 100000000000000) (hn : n ≤ 100) :
    Calls Tryd.prog 57 #[.int .i64 (n : Int), .slice vo m vc] w fun e w' => BagA w w' e (bagS n l 0) := by
  have H : Hid (NumF w vo m (fun i => l.getD i 0)) := h
  obtain ⟨R, hR⟩ : ∃ R, R = bagS n l 0 := ⟨_, rfl⟩
  rw [← hR]
  have HR : Hid (R = bagS n l 0 ∧ l.length = m) := ⟨hR, hm⟩
  clear hR hm h
  go_enter Tryd.func57, Tryd.ntmps57
  go_upto_region 3 with (fail)
  have a6 := two_nxt w (Obj.cells #[.int .u64 0, .int .u64 0] 76) (.int .u64 0) (.int .u64 0) 76
  have a4 := two_alloc (two_new w (.int .u64 0) (.int .u64 0) 76) (Obj.cells #[.int .u64 0, .int .u64 0] 76)
  have hB0 := below_alloc (below_alloc (Below.refl _ w) (Obj.cells #[.int .u64 0, .int .u64 0] 76)) (Obj.cells #[.int .u64 0, .int .u64 0] 76)
  obtain ⟨b6, hb6⟩ : ∃ b, b = w.heap.size + 1 := ⟨_, rfl⟩
  obtain ⟨b4, hb4⟩ : ∃ b, b = w.heap.size := ⟨_, rfl⟩
  have HNE : Hid (b4 ≠ b6 ∧ w.heap.size ≤ b6 ∧ w.heap.size ≤ b4) := ⟨by omega, by omega, by omega⟩
  rw [← hb6] at a6 ⊢
  rw [← hb4] at a4 ⊢
  generalize (w.alloc (Obj.cells #[.int .u64 0, .int .u64 0] 76)).alloc (Obj.cells #[.int .u64 0, .int .u64 0] 76) = W0 at a4 a6 hB0 ⊢
  clear hb4 hb6
  go_loopw [11] (fun s11 wz => ∃ (k S : Nat), k ≤ m ∧ s11 = .int .i64 (k : Int) ∧ Hid (SBox wz b6 S ∧ Two wz b4 (.int .u64 0) (.int .u64 0) 76 ∧ Below w.heap.size w wz ∧ S < 2 ^ 128 ∧ R = bagS n (l.drop k) S)) (fun s11 _ => m - (numOf s11).toNat)
  case atStart => exact ⟨0, 0, Nat.zero_le _, rfl, ⟨sbox_zero a6, a4, hB0, by omega, HR.out.1⟩⟩
  case round =>
    obtain ⟨k, S, hk, rfl, hJ⟩ := hrel
    clear a4 a6 hB0
    have h4 := hJ.out.2.1
    have f0 := free_two h4 0
    have f1 := free_two h4 1
    obtain ⟨z0, z1⟩ := cell_two h4
    by_cases hlt : k < m
    · obtain ⟨b, off, he, ck⟩ := H.out k hlt
      have ck' : wr.cell? ⟨b, off + k, none⟩ = some (.int .i64 (l.getD k 0)) := by rw [hJ.out.2.2.1.cell (by exact World.block_lt_of_cell? w _ ck)]; exact ck
      subst he
      have hdr : l.drop k = l.getD k 0 :: l.drop (k + 1) := by
        have hkl : k < l.length := by rw [HR.out.2]; exact hlt
        rw [List.drop_eq_getElem_cons hkl, List.getD_eq_getElem?_getD, List.getElem?_eq_getElem hkl]
        rfl
      have hRR := hJ.out.2.2.2.2
      rw [hdr] at hRR
      generalize l.getD k 0 = v at ck' hRR
      clear hdr ck
      have i1 : (0 : Int) ≤ (k : Int) := by omega
      have i2 : (k : Int) < (m : Int) := by omega
      have hB := hJ.out.2.2.1
      by_cases hv0 : v < 0
      · have HRR : Hid (R = (0, 3)) := by
          show _ = _
          rw [hRR, bagS, if_pos (Or.inl hv0)]
        have k1 : decide (v < 0) = true := by simpa using hv0
        have y1 : (wr.setCell ⟨b4, 0, none⟩ (.int .u64 0)).frozen? ⟨b4, 1, none⟩ = false := box_free (box_set h4 0 (.int .u64 0)) 1
        have y0 : (wr.setCell ⟨b4, 0, none⟩ (.int .u64 0)).cell? ⟨b4, 1, none⟩ = some (.int .u64 0) := box_cell (box_set h4 0 (.int .u64 0)) rfl
        obtain ⟨x0, x1⟩ := cell_two (two_setN h4 (x' := .int .u64 0) (y' := .int .u64 0))
        clear hRR h4
        go_wp2
        refine bodyPost_ret (v := .tuple #[sv 0, .int .i64 3]) ?_ rfl ⟨by rw [HRR.out], (hB.setCell HNE.out.2.2 _).setCell HNE.out.2.2 _⟩
        simp [results, Tryd.results57, go_sem, x0, x1]
        exact ⟨rfl, rfl⟩
      · have k1 : decide (v < 0) = false := by simp; omega
        by_cases hvn : (n : Int) ≤ v
        · have HRR : Hid (R = (0, 3)) := by
            show _ = _
            rw [hRR, bagS, if_pos (Or.inr hvn)]
          have k2 : decide ((n : Int) ≤ v) = true := by simpa using hvn
          have y1 : (wr.setCell ⟨b4, 0, none⟩ (.int .u64 0)).frozen? ⟨b4, 1, none⟩ = false := box_free (box_set h4 0 (.int .u64 0)) 1
          have y0 : (wr.setCell ⟨b4, 0, none⟩ (.int .u64 0)).cell? ⟨b4, 1, none⟩ = some (.int .u64 0) := box_cell (box_set h4 0 (.int .u64 0)) rfl
          obtain ⟨x0, x1⟩ := cell_two (two_setN h4 (x' := .int .u64 0) (y' := .int .u64 0))
          clear hRR h4
          go_wp2
          refine bodyPost_ret (v := .tuple #[sv 0, .int .i64 3]) ?_ rfl ⟨by rw [HRR.out], (hB.setCell HNE.out.2.2 _).setCell HNE.out.2.2 _⟩
          simp [results, Tryd.results57, go_sem, x0, x1]
          exact ⟨rfl, rfl⟩
        · have k2 : decide ((n : Int) ≤ v) = false := by simp; omega
          obtain ⟨u, rfl⟩ := Int.eq_ofNat_of_zero_le (show 0 ≤ v by omega)
          have hu : u < 128 := by omega
          have hS := hJ.out.2.2.2.1
          have C71 : Hid (Calls Tryd.prog 71 #[sv S, .int .i64 (u : Int)] wr fun e w' => e = .returned (.bool (S.testBit u)) ∧ Below wr.heap.size wr w') := has_call hS hu
          obtain ⟨c0, c1⟩ := cell_two hJ.out.1
          rw [bagS, if_neg (by omega), show (u : Int).toNat = u from rfl] at hRR
          by_cases ht : S.testBit u = true
          · have HRR : Hid (R = (0, 5)) := by
              show _ = _
              rw [hRR, if_pos ht]
            rw [ht] at C71
            clear hRR f0 f1 z0 z1
            go_upto_region 8 with (first | (go_at_call 71; refine Calls.mono C71.out ?_; rintro e w1 ⟨rfl, hb1⟩) | go_in)
            have h5 := two_next h4 hb1
            have hB1 := below_next hB hb1
            have f0 := free_two h5 0
            have f1 := free_two h5 1
            obtain ⟨z0, z1⟩ := cell_two h5
            have y1 : (w1.setCell ⟨b4, 0, none⟩ (.int .u64 0)).frozen? ⟨b4, 1, none⟩ = false := box_free (box_set h5 0 (.int .u64 0)) 1
            have y0 : (w1.setCell ⟨b4, 0, none⟩ (.int .u64 0)).cell? ⟨b4, 1, none⟩ = some (.int .u64 0) := box_cell (box_set h5 0 (.int .u64 0)) rfl
            obtain ⟨x0, x1⟩ := cell_two (two_setN h5 (x' := .int .u64 0) (y' := .int .u64 0))
            clear h4 h5
            go_wp2
            refine bodyPost_ret (v := .tuple #[sv 0, .int .i64 5]) ?_ rfl ⟨by rw [HRR.out], (hB1.setCell HNE.out.2.2 _).setCell HNE.out.2.2 _⟩
            simp [results, Tryd.results57, go_sem, x0, x1]
            exact ⟨rfl, rfl⟩
          · have HRR : Hid (R = bagS n (l.drop (k + 1)) (sAdd S u)) := by
              show _ = _
              rw [hRR, if_neg ht]
            rw [show S.testBit u = false by simpa using ht] at C71
            have C46 : Hid (∀ W, Below wr.heap.size wr W → Calls Tryd.prog 46 #[.pointer (some ⟨b6, 0, none⟩), .int .i64 (u : Int)] W fun e w' => e = .returned (.tuple #[]) ∧ SBox w' b6 (sAdd S u) ∧ Turns (fun k => k = b6) W w') := fun W hW => add_sbox hS hu (two_next hJ.out.1 hW)
            have HA : Hid (sAdd S u < 2 ^ 128) := sAdd_lt' hS hu
            clear hRR f0 f1 z0 z1 ht hS
            go_wp2_with (first | (go_at_call 71; refine Calls.mono C71.out ?_; rintro e w1 ⟨rfl, hb1⟩) | (go_at_call 46; refine Calls.mono (C46.out _ hb1) ?_; rintro e w2 ⟨rfl, h2, t2⟩) | go_in)
            go_roundw
            case rel => exact ⟨k + 1, sAdd S u, by omega, by go_num, ⟨h2, two_turns (two_next h4 hb1) t2 HNE.out.1, t2.below (below_next hB hb1) (below_next hB hb1).size (fun k h => by subst h; exact HNE.out.2.1), HA.out, HRR.out⟩⟩
            case measure => simp [numOf]; omega
    · obtain rfl : k = m := by omega
      have HRR : Hid (R = (S, 0)) := by
        show _ = _
        rw [hJ.out.2.2.2.2, List.drop_of_length_le (by rw [HR.out.2]; exact Nat.le_refl _)]
        rfl
      have hB := hJ.out.2.2.1
      obtain ⟨c0, c1⟩ := cell_two hJ.out.1
      have y1 : (wr.setCell ⟨b4, 0, none⟩ (.int .u64 (lo64 S : Int))).frozen? ⟨b4, 1, none⟩ = false := box_free (box_set h4 0 (.int .u64 (lo64 S : Int))) 1
      have y0 : (wr.setCell ⟨b4, 0, none⟩ (.int .u64 (lo64 S : Int))).cell? ⟨b4, 1, none⟩ = some (.int .u64 0) := box_cell (box_set h4 0 (.int .u64 (lo64 S : Int))) rfl
      obtain ⟨x0, x1⟩ := cell_two (two_setN h4 (x' := .int .u64 (lo64 S : Int)) (y' := .int .u64 (hi64 S : Int)))
      clear h4 hJ
      go_wp2
      refine bodyPost_ret (v := .tuple #[sv S, .int .i64 0]) ?_ rfl ⟨by rw [HRR.out], (hB.setCell HNE.out.2.2 _).setCell HNE.out.2.2 _⟩
      simp [results, Tryd.results57, go_sem, x0, x1]
end Go.Proofs.YtdalconphfgepaaDoor

namespace Go.Proofs.YtdalconphfgepaaDoor
set_option maxRecDepth 8000
open Go.RowKit Go.Maps
attribute [local go_sem ↓] Go.wp_at_zero Go.wp_at_succ
def aboveS (bags : List Nat) (f : Nat → Int) (k : Nat) : Nat := if f k = -1 then 0 else at' bags (f k).toNat
set_option maxHeartbeats 1000000 in
theorem above_call {w : World} {b n vc k : Nat} {vo : Option Addr} {bags : List Nat} {f : Nat → Int} (hS : SetsAt w b bags) (hl : bags.length = n) (hF : NumF w vo n f) (hk : k < n) (hf : f k = -1 ∨ (0 ≤ f k ∧ f k < n)) :
    Calls Tryd.prog 73 #[sl b n, .slice vo n vc, .int .i64 (k : Int)] w fun e w' => e = .returned (sv (aboveS bags f k)) ∧ Below w.heap.size w w' := by
  obtain ⟨vb, off, rfl, ck⟩ := hF k hk
  have HV : Hid (vb < w.heap.size) := World.block_lt_of_cell? w _ ck
  have HS : Hid (SetsAt w b bags ∧ bags.length = n) := ⟨hS, hl⟩
  have i1 : (0 : Int) ≤ (k : Int) := by omega
  have i2 : (k : Int) < (n : Int) := by omega
  clear hF hS hl
  go_enter Tryd.func73, Tryd.ntmps73
  go_upto_region 1 with (fail)
  have h4 := two_new w (.int .u64 0) (.int .u64 0) 76
  have hB := below_alloc (Below.refl _ w) (Obj.cells #[.int .u64 0, .int .u64 0] 76)
  obtain ⟨b4, hb4⟩ : ∃ b, b = w.heap.size := ⟨_, rfl⟩
  have HNE : Hid (w.heap.size ≤ b4) := Nat.le_of_eq hb4.symm
  rw [← hb4] at h4 ⊢
  generalize w.alloc (Obj.cells #[.int .u64 0, .int .u64 0] 76) = W at *
  have ck' : W.cell? ⟨vb, off + k, none⟩ = some (.int .i64 (f k)) := by rw [hB.cell (by exact HV.out)]; exact ck
  have HS' : Hid (SetsAt W b bags) := HS.out.1.under hB
  clear hb4 ck
  have f0 := free_two h4 0
  have f1 := free_two h4 1
  obtain ⟨z0, z1⟩ := cell_two h4
  rcases hf with hf | hf
  · have k1 : (f k == -1) = true := by rw [beq_iff_eq]; exact hf
    have HA : Hid (aboveS bags f k = 0) := if_pos hf
    have y1 : (W.setCell ⟨b4, 0, none⟩ (.int .u64 0)).frozen? ⟨b4, 1, none⟩ = false := box_free (box_set h4 0 (.int .u64 0)) 1
    have y0 : (W.setCell ⟨b4, 0, none⟩ (.int .u64 0)).cell? ⟨b4, 1, none⟩ = some (.int .u64 0) := box_cell (box_set h4 0 (.int .u64 0)) rfl
    obtain ⟨x0, x1⟩ := cell_two (two_setN h4 (x' := .int .u64 0) (y' := .int .u64 0))
    clear h4 hf
    go_wp2
    refine bodyPost_ret (v := sv 0) ?_ rfl ⟨by rw [HA.out], (hB.setCell HNE.out _).setCell HNE.out _⟩
    simp [results, Tryd.results73, go_sem, x0, x1]
    exact ⟨rfl, rfl⟩
  · have hne : f k ≠ -1 := by omega
    have k1 : (f k == -1) = false := by rw [beq_eq_false_iff_ne]; exact hne
    have HA : Hid (aboveS bags f k = at' bags (f k).toNat) := if_neg hne
    obtain ⟨u, hu⟩ := Int.eq_ofNat_of_zero_le hf.1
    have hun : u < n := by omega
    have HA2 : Hid (aboveS bags f k = at' bags u) := by
      show _ = _
      rw [HA.out, hu]
      rfl
    obtain ⟨c0, c1⟩ := HS'.out.cell (at_some (show u < bags.length by rw [HS.out.2]; exact hun))
    rw [hu] at ck' k1
    generalize at' bags u = S at *
    have y1 : (W.setCell ⟨b4, 0, none⟩ (.int .u64 (lo64 S : Int))).frozen? ⟨b4, 1, none⟩ = false := box_free (box_set h4 0 (.int .u64 (lo64 S : Int))) 1
    have y0 : (W.setCell ⟨b4, 0, none⟩ (.int .u64 (lo64 S : Int))).cell? ⟨b4, 1, none⟩ = some (.int .u64 0) := box_cell (box_set h4 0 (.int .u64 (lo64 S : Int))) rfl
    obtain ⟨x0, x1⟩ := cell_two (two_setN h4 (x' := .int .u64 (lo64 S : Int)) (y' := .int .u64 (hi64 S : Int)))
    have i3 : (0 : Int) ≤ (u : Int) := by omega
    have i4 : (u : Int) < (n : Int) := by omega
    clear h4 hf hne hu HA hun
    go_wp2
    refine bodyPost_ret (v := sv S) ?_ rfl ⟨by rw [HA2.out], (hB.setCell HNE.out _).setCell HNE.out _⟩
    simp [results, Tryd.results73, go_sem, x0, x1]
end Go.Proofs.YtdalconphfgepaaDoor
