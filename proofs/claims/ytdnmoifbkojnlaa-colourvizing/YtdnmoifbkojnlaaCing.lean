/- The document's Colouring. -/
import Derived.Test.YtdnmoifbkojnlaaNum
namespace Go.Proofs.Ytdnmoifbkojnlaa
open Go.RowKit Go.Maps
attribute [local go_sem ↓] Go.wp_at_zero Go.wp_at_succ

/-- Numbers in memory. -/
def NumF (w : World) (vo : Option Addr) (n : Nat) (f : Nat → Int) : Prop := ∀ j, j < n → ∃ b off, vo = some ⟨b, off, none⟩ ∧ w.cell? ⟨b, off + j, none⟩ = some (.int .i64 (f j))
set_option maxRecDepth 4000 in
set_option maxHeartbeats 2000000 in
theorem colouring_true {w : World} {tv : Value} {n k vc : Nat} {vo : Option Addr} {p : Int → Int → Bool} {M : List Nat} (hn : n ≤ 100) (hG : GridAt w tv n p) (hM : NumF w vo n (fun i => (M.getD i 0 : Int))) (hl : M.length = n) (hP : Prop' k (fun v z => p (v : Int) (z : Int)) M) :
    Calls Try.prog 12 #[tv, .slice vo n vc, .int .i64 (k : Int)] w fun e w' => e = .returned (.bool true) ∧ Below w.heap.size w w' := by
  have HG : Hid (GridAt w tv n p) := hG
  have HM : Hid (NumF w vo n (fun i => (M.getD i 0 : Int))) := hM
  have HP : Hid (Prop' k (fun v z => p (v : Int) (z : Int)) M) := hP
  have HL : Hid (M.length = n) := hl
  obtain ⟨tao, tcap, e, _⟩ := id hG
  subst e
  have k1 : ((n : Int) != (n : Int)) = false := by simp
  clear hG hM hP hl
  go_enter Try.func12, Try.ntmps12
  go_wp2
  go_loopw [7, 8] (fun iv' _ wr => ∃ v : Nat, v ≤ n ∧ iv' = .int .i64 (v : Int) ∧ ∃ d, wr = w.drewN d) (fun iv' _ _ => n - (numOf iv').toNat)
  case atStart => exact ⟨0, Nat.zero_le _, rfl, 0, rfl⟩
  case round =>
    obtain ⟨v, hv, rfl, d, hd⟩ := hrel
    have HD : Hid (wr = w.drewN d) := hd
    by_cases hlt : v < n
    · have i1 : (0 : Int) ≤ (v : Int) := by omega
      have i2 : (v : Int) < (n : Int) := by omega
      obtain ⟨b, off, rfl, cx⟩ := HM.out v hlt
      simp only at cx
      have cx1 : wr.cell? ⟨b, off + v, none⟩ = some (.int .i64 (M.getD v 0 : Int)) := by rw [hd]; exact cx
      have hlt2 := HP.out.lt v (by rw [HL.out]; exact hlt)
      obtain ⟨x, hx⟩ : ∃ x, x = M.getD v 0 := ⟨_, rfl⟩
      rw [← hx] at cx1 hlt2
      have HX : Hid (x = M.getD v 0) := hx
      have i3 : ¬ (x : Int) < 0 := by omega
      have i4 : ¬ (x : Int) ≥ (k : Int) := by omega
      clear hd cx hx
      go_wp2
      clear cx1 i3 i4
      generalize hwo : wr = WO at HD ⊢
      clear hwo
      go_loopw [8] (fun iv' wr => ∃ z : Nat, z ≤ v ∧ iv' = .int .i64 (z : Int) ∧ ∃ d, wr = w.drewN d) (fun iv' _ => v - (numOf iv').toNat)
      case atStart => exact ⟨0, Nat.zero_le _, rfl, d, HD.out⟩
      case round =>
        clear HD
        obtain ⟨z, hz, rfl, d2, hd⟩ := hrel
        have HD : Hid (wr = w.drewN d2) := hd
        by_cases hltz : z < v
        · have j1 : (0 : Int) ≤ (z : Int) := by omega
          have j2 : (z : Int) < (v : Int) := by omega
          have j3 : (z : Int) < (n : Int) := by omega
          obtain ⟨b1, off1, e1, cx⟩ := HM.out v hlt
          cases e1
          obtain ⟨b2, off2, e2, cz⟩ := HM.out z (by omega)
          cases e2
          simp only at cx cz
          rw [← HX.out] at cx
          have cx1 : wr.cell? ⟨b, off + v, none⟩ = some (.int .i64 (x : Int)) := by rw [hd]; exact cx
          have cz1 : wr.cell? ⟨b, off + z, none⟩ = some (.int .i64 (M.getD z 0 : Int)) := by rw [hd]; exact cz
          obtain ⟨tao', _, e3, hg⟩ := HG.out
          cases e3
          obtain ⟨gt, bt, rfl, g0, g1⟩ := hg v hlt
          have g0' : wr.cell? ⟨gt, v, none⟩ = some (.slice (some ⟨bt, 0, none⟩) n n) := by rw [hd]; exact g0
          have g1' : wr.cell? ⟨bt, z, none⟩ = some (.bool (p (v : Int) (z : Int))) := by rw [hd]; exact g1 z (by omega)
          have hne := HP.out.ne v z (by rw [HL.out]; exact hlt) hltz
          obtain ⟨y, hy⟩ : ∃ y, y = M.getD z 0 := ⟨_, rfl⟩
          rw [← hy, ← HX.out] at hne
          rw [← hy] at cz1
          generalize p (v : Int) (z : Int) = a at g1' hne
          clear hd cx cz hg g0 g1 hy
          cases a with
          | true =>
            have h5 : x ≠ y := hne rfl
            have k5 : ((x : Int) == (y : Int)) = false := by rw [beq_eq_false_iff_ne]; omega
            clear hne
            go_upto_region 11 with (fail)
            go_quiet (fail)
            go_wp2
            go_roundw
            case rel => exact ⟨z + 1, by omega, by go_num, d2 + nq, by rw [HD.out]; exact World.drewN_drewN _ _ _⟩
            case measure => simp [numOf]; omega
          | false =>
            clear hne
            go_upto_region 11 with (fail)
            go_quiet (fail)
            go_wp2
            go_roundw
            case rel => exact ⟨z + 1, by omega, by go_num, d2 + nq, by rw [HD.out]; exact World.drewN_drewN _ _ _⟩
            case measure => simp [numOf]; omega
        · have j2 : ¬ (z : Int) < (v : Int) := by omega
          clear hd
          go_wp2
          go_roundw
          case rel => exact ⟨v + 1, by omega, by go_num, d2, HD.out⟩
          case measure => simp [numOf]; omega
    · have i2 : ¬ (v : Int) < (n : Int) := by omega
      clear hd
      go_wp2
      go_ret
      exact ⟨rfl, by rw [HD.out]; exact drewN_below _ _⟩
end Go.Proofs.Ytdnmoifbkojnlaa
