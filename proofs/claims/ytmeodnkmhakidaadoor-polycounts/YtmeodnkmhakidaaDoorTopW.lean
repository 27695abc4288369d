/- The node that stands for a node's component: top. -/
import Derived.Test.YtmeodnkmhakidaaDoorRegM
import Derived.Test.YtmeodnkmhakidaaDoorTutMN
import Derived.Deep.LoopGhost
namespace Go.Proofs.YtmeodnkmhakidaaDoor
set_option maxRecDepth 8000
open Go.RowKit Go.Maps
attribute [local go_sem ↓] Go.wp_at_zero Go.wp_at_succ
def upV (up : Nat → Nat) : Nat → Value := fun v => .int .i64 (up v : Int)
set_option maxHeartbeats 1000000 in
theorem top_call {w : World} {b N k v : Nat} {up : Nat → Nat} (hU : RowV w b 3 N (upV up)) (hR : Rt N up k) (hv : v < N) :
    Calls Tryd.prog 64 #[sl b N, .int .i64 (v : Int)] w fun e w' => e = .returned (.int .i64 (topF k up v : Int)) ∧ w' = w := by
  have HU : Hid (RowV w b 3 N (upV up)) := hU
  have HR : Hid (Rt N up k) := hR
  clear hU hR
  go_enter Tryd.func64, Tryd.ntmps64
  go_upto_region 1 with (fail)
  go_loopg [1] k (fun g s1 wz => ∃ x : Nat, x < N ∧ s1 = .int .i64 (x : Int) ∧ wz = w ∧ Hid (topF g up x = topF k up v ∧ up (topF g up x) = topF g up x))
  case atStart => exact ⟨v, hv, rfl, rfl, rfl, HR.out.top v hv⟩
  case round =>
    obtain ⟨x, hx, rfl, rfl, hJ⟩ := hrel
    have cx : wr.cell? ⟨b, x, none⟩ = some (.int .i64 (up x : Int)) := HU.out.cell hx
    have n0 : (0 : Int) ≤ (x : Int) := by omega
    have n1 : (x : Int) < (N : Int) := by omega
    by_cases hr : up x = x
    · have k1 : ((up x : Int) != (x : Int)) = false := by simp [hr]
      have hans : topF k up v = x := by rw [← hJ.out.1]; exact topF_root hr gk
      have HA : Hid (topF k up v = x) := hans
      rw [hr] at cx k1
      clear hans
      go_wp2
      go_ret
      exact ⟨by rw [HA.out]; rfl, rfl⟩
    · have k1 : ((up x : Int) != (x : Int)) = true := by simp; omega
      have hg : gk ≠ 0 := fun e => by
        subst e
        exact hr hJ.out.2
      obtain ⟨g, rfl⟩ : ∃ g, gk = g + 1 := ⟨gk - 1, by omega⟩
      have e : topF (g + 1) up x = topF g up (up x) := if_neg hr
      have HJ : Hid (topF g up (up x) = topF k up v ∧ up (topF g up (up x)) = topF g up (up x)) := by rw [← e]; exact hJ.out
      have hlt := HR.out.lt x hx
      clear hJ e
      go_wp2
      go_roundg g
      case measure => omega
      case rel => exact ⟨up x, hlt, rfl, rfl, HJ⟩
end Go.Proofs.YtmeodnkmhakidaaDoor
