/- The document's Ring: it tells that a ring is one. -/
import Derived.BigQuiet
import Derived.Test.YtgepibidhebbiabRefSides
namespace Go.Proofs.Ytgepibidhebbiab
open Go.RowKit Go.Maps
attribute [local go_sem ↓] Go.wp_at_zero Go.wp_at_succ

set_option maxRecDepth 10000 in
set_option maxHeartbeats 4000000 in
theorem refRing_call (N : Nat) (ao : Option Addr) (cap : Nat) (p : Int → Int → Bool) (w : World) (hG : GridAt w (.slice ao N cap) N p) {g n c : Nat} {rg : Nat → Nat} (hrow : RowN w g n rg) (hn : n ≤ 3000) (hr : RingF N (pn p) n rg) :
    Calls Try.prog 26 #[.slice ao N cap, .slice (some ⟨g, 0, none⟩) n c] w fun r w' => r = .returned (.bool true) ∧ Below w.heap.size w w' := by
  obtain ⟨ao', cap', e0, hgrid⟩ := hG
  cases e0
  have HGR : Hid _ := hgrid
  have HR : Hid _ := hr
  have hn3 := hr.len
  have h3 : ¬ (n : Int) < 3 := by omega
  clear hgrid hr
  go_enter Try.func26, Try.ntmps26
  go_wp2
  go_loopw [5] (fun i wr => ∃ k : Nat, k ≤ n ∧ i = .int .i64 (k : Int) ∧ Below w.heap.size w wr) (fun i _ => n - (numOf i).toNat)
  case atStart => exact ⟨0, Nat.zero_le _, rfl, Below.refl _ _⟩
  case round =>
    obtain ⟨k, hk, rfl, hB⟩ := hrel
    by_cases hkn : k < n
    · have hrk := hrow.block (hB.block _ hrow.lt)
      have ck := hrk.cell hkn
      have hlt := HR.out.lt k hkn
      have i1 : (0 : Int) ≤ (k : Int) := by omega
      have i2 : (k : Int) < (n : Int) := by omega
      have z1 : ¬ (rg k : Int) < 0 := by omega
      have z2 : ¬ (N : Int) ≤ (rg k : Int) := by omega
      go_wp2
      clear ck
      go_loopw [6] (fun i wq => ∃ t : Nat, t ≤ k ∧ i = .int .i64 (t : Int) ∧ Below w.heap.size w wq) (fun i _ => k - (numOf i).toNat)
      case atStart => exact ⟨0, Nat.zero_le _, rfl, hB⟩
      case round =>
        obtain ⟨t, ht, rfl, hBq⟩ := hrel
        by_cases htk : t < k
        · have hrq := hrow.block (hBq.block _ hrow.lt)
          have ck := hrq.cell hkn
          have ct := hrq.cell (show t < n by omega)
          have hne := HR.out.ne k t hkn htk
          have hne' : ¬ (rg k : Int) = (rg t : Int) := by omega
          have j1 : (0 : Int) ≤ (t : Int) := by omega
          have j2 : (t : Int) < (n : Int) := by omega
          clear hne
          go_upto_region 11 with (fail)
          go_quiet (fail)
          all_goals
            go_wp2
            go_roundw
            case rel => exact ⟨t + 1, by omega, by go_num, below_drewN hBq _⟩
            case measure => simp [numOf]; omega
        · have hte : k = t := by omega
          subst hte
          go_wp2
          go_roundw
          case rel => exact ⟨k + 1, by omega, by go_num, hBq⟩
          case measure => simp [numOf]; omega
    · have hke : n = k := by omega
      subst hke
      go_wp2
      go_loopw [7] (fun i wr => ∃ k : Nat, k ≤ n ∧ i = .int .i64 (k : Int) ∧ Below w.heap.size w wr) (fun i _ => n - (numOf i).toNat)
      case atStart => exact ⟨0, Nat.zero_le _, rfl, hB⟩
      case round =>
        obtain ⟨k, hk, rfl, hBq⟩ := hrel
        clear hB
        by_cases hkn : k < n
        · have hrq := hrow.block (hBq.block _ hrow.lt)
          obtain ⟨k', hk'⟩ : ∃ k', k' = (k + 1) % n := ⟨_, rfl⟩
          have hkn' : k' < n := by rw [hk']; exact Nat.mod_lt _ (by omega)
          have hmod : ((k : Int) + 1).tmod (n : Int) = (k' : Int) := by
            rw [Int.tmod_eq_emod_of_nonneg (by omega), hk']
            simp
          have ck := hrq.cell hkn
          have ck' := hrq.cell hkn'
          have hed := HR.out.edge k hkn
          rw [← hk'] at hed
          have hl1 := HR.out.lt k hkn
          have hl2 := HR.out.lt k' hkn'
          obtain ⟨gg, b, rfl, g0, g1⟩ := HGR.out (rg k) hl1
          have g2 := g1 (rg k') hl2
          have hed' : p (rg k) (rg k') = true := hed
          rw [hed'] at g2
          have l0 := World.block_lt_of_cell? w _ g0
          have l2 := World.block_lt_of_cell? w _ g2
          rw [← hBq.cell (by exact l0)] at g0
          rw [← hBq.cell (by exact l2)] at g2
          clear g1 hed hed' hk'
          have i1 : (0 : Int) ≤ (k : Int) := by omega
          have i2 : (k : Int) < (n : Int) := by omega
          have j1 : (0 : Int) ≤ (k' : Int) := by omega
          have j2 : (k' : Int) < (n : Int) := by omega
          have m1 : (0 : Int) ≤ (rg k : Int) := by omega
          have m2 : (rg k : Int) < (N : Int) := by omega
          have m3 : (0 : Int) ≤ (rg k' : Int) := by omega
          have m4 : (rg k' : Int) < (N : Int) := by omega
          have hn0 : ¬ (n : Int) = 0 := by omega
          have hn1 : ¬ (n : Int) = -1 := by omega
          go_upto_region 16 with (fail)
          go_quiet (fail)
          all_goals
            go_wp2
            go_roundw
            case rel => exact ⟨k + 1, by omega, by go_num, below_drewN hBq _⟩
            case measure => simp [numOf]; omega
        · have hke : n = k := by omega
          subst hke
          go_wp2
          go_ret
          exact ⟨rfl, hBq⟩
end Go.Proofs.Ytgepibidhebbiab
