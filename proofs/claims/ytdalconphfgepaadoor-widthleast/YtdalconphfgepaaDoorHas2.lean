/- R.Has2: is a number in a list? -/
import Derived.Test.YtdalconphfgepaaDoorOpenWK
namespace Go.Proofs.YtdalconphfgepaaDoor
set_option maxRecDepth 8000
open Go.RowKit Go.Maps
attribute [local go_sem ↓] Go.wp_at_zero Go.wp_at_succ
def inB (n : Nat) (f : Nat → Int) (x : Int) : Bool := (List.range n).any fun j => f j == x
set_option maxHeartbeats 600000 in
theorem has2_call {w : World} {vo : Option Addr} {n vc : Nat} {f : Nat → Int} (h : NumF w vo n f) (hn : n ≤ 100000) (x : Int) :
    Calls Tryd.prog 33 #[.slice vo n vc, .int .i64 x] w fun e w' => e = .returned (.bool (inB n f x)) ∧ w' = w := by
  have C31 : Hid _ := rank_call (vc := vc) h hn x
  clear h
  go_enter Tryd.func33, Tryd.ntmps33
  go_wp2_with (first | (go_at_call 31; refine Calls.mono C31.out ?_; rintro e w' ⟨⟨m, rfl, hm, h1, h2⟩, rfl⟩) | go_in)
  go_ret
  refine ⟨?_, rfl⟩
  have key : decide (m < n) = inB n f x := by
    by_cases hlt : m < n
    · rw [show inB n f x = true from List.any_eq_true.2 ⟨m, List.mem_range.2 hlt, by rw [beq_iff_eq]; exact h2 hlt⟩]
      simpa using hlt
    · rw [show inB n f x = false from List.any_eq_false.2 fun j hj => by simpa using h1 j (by have := List.mem_range.1 hj; omega)]
      simpa using hlt
  rw [← key]
  rfl
end Go.Proofs.YtdalconphfgepaaDoor
