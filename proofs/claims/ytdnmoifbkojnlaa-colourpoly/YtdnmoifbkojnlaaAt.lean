/- at: a polynomial's value; Poly of a graph with a fault. -/
import Derived.Test.YtdnmoifbkojnlaaPolyM
import Derived.Test.YtdnmoifbkojnlaaSparse
namespace Go.Proofs.Ytdnmoifbkojnlaa
open Go.RowKit Go.Maps
attribute [local go_sem ↓] Go.wp_at_zero Go.wp_at_succ

set_option maxRecDepth 4000 in
set_option maxHeartbeats 2000000 in
theorem at_call {w : World} {b m : Nat} {p : Nat → Int} {x : Int} (hr : RowV w b 3 m (iv p)) (hm : m ≤ 100) :
    Calls Try.prog 15 #[sl b m, .int .i64 x] w fun e w' => e = .returned (.int .i64 (hz p x m m)) ∧ w' = w := by
  have HR : Hid (RowV w b 3 m (iv p)) := hr
  clear hr
  go_enter Try.func15, Try.ntmps15
  go_wp2
  go_loopw [5, 6] (fun nv jv wr => ∃ d : Nat, d ≤ m ∧ nv = .int .i64 (hz p x m d) ∧ jv = .int .i64 ((m : Int) - 1 - d) ∧ wr = w) (fun _ jv _ => (numOf jv + 1).toNat)
  case atStart => exact ⟨0, Nat.zero_le _, rfl, by go_num, rfl⟩
  case round =>
    obtain ⟨d, hd, rfl, rfl, rfl⟩ := hrel
    by_cases hlt : d < m
    · obtain ⟨j, hj⟩ : ∃ j : Nat, (m : Int) - 1 - d = (j : Int) := ⟨m - 1 - d, by omega⟩
      have hjm : j < m := by omega
      have c0 : wr.cell? ⟨b, j, none⟩ = some (.int .i64 (p j)) := HR.out.cell hjm
      have j0 : (0 : Int) ≤ (j : Int) := by omega
      have j1 : (j : Int) < (m : Int) := by omega
      have hstep : hz p x m (d + 1) = Wr (Wr (hz p x m d * x) + p j) := by
        show Wr (Wr (hz p x m d * x) + p (m - 1 - d)) = _
        rw [show m - 1 - d = j by omega]
      have HS : Hid (hz p x m (d + 1) = Wr (Wr (hz p x m d * x) + p j)) := hstep
      rw [hj]
      clear hstep
      go_wp2
      go_roundw
      case rel => exact ⟨d + 1, by omega, by rw [HS.out]; simp only [Wr, wrap_eq], by congr 1; omega, trivial⟩
      case measure => simp [numOf]
    · have hdm : d = m := by omega
      subst hdm
      have j0 : ¬ (0 : Int) ≤ (d : Int) - 1 - d := by omega
      go_wp2
      go_ret
      exact ⟨rfl, rfl⟩
end Go.Proofs.Ytdnmoifbkojnlaa
