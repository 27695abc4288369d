/- What a reader that gave up is caught with; Unpack. -/
import Derived.Test.YtbaghbodjpehpabDoorUnpackPairs
import Derived.Recover
import Derived.Defers
namespace Go.Proofs.YtbaghbodjpehpabDoor
open Go.RowKit Go.Maps
attribute [local go_sem ↓] Go.wp_at_zero Go.wp_at_succ

theorem assert78 (c d : Int) (w : World) : (Instr.typeAssert (.iface 65 (.agg #[.int .i64 c, .int .i64 d])) 20 65 true).run Tryd.prog w = .ok (.tuple #[.agg #[.int .i64 c, .int .i64 d], .bool true]) w := by kernel_rfl
theorem neq_nil (c d : Int) (w : World) : (binOp .neq 20 (.iface 65 (.agg #[.int .i64 c, .int .i64 d])) .nilIface).run Tryd.prog w = .ok (.bool true) w := by kernel_rfl
theorem nil_nil (w : World) : (binOp .neq 20 .nilIface .nilIface).run Tryd.prog w = .ok (.bool false) w := by kernel_rfl

set_option maxRecDepth 100000 in
set_option maxHeartbeats 1000000 in
theorem faultOf_any (c d : Int) (w : World) : Calls Tryd.prog 15 #[.iface 65 (.agg #[.int .i64 c, .int .i64 d])] w fun e w' => e = .returned (.agg #[.int .i64 c, .int .i64 d]) ∧ Below w.heap.size w w' := by
  have hta := assert78
  go_enter Tryd.func15, Tryd.ntmps15
  go_wp2
  refine bodyPost_ret (v := .agg #[.int .i64 c, .int .i64 d]) ?_ rfl ⟨rfl, below2 _ _⟩
  simp [results, Tryd.results15, go_sem]

theorem kapart {w : World} {b c : Nat} {x y : Value} {t : TypeId} (h : Two w b x y t) (hne : c ≠ b) :
    (∀ u v, ((w.setCell ⟨c, 0, none⟩ u).setCell ⟨c, 1, none⟩ v).cell? ⟨b, 0, none⟩ = some x) ∧ (∀ u v, ((w.setCell ⟨c, 0, none⟩ u).setCell ⟨c, 1, none⟩ v).cell? ⟨b, 1, none⟩ = some y) ∧
    (∀ u v k, ((w.setCell ⟨c, 0, none⟩ u).setCell ⟨c, 1, none⟩ v).frozen? ⟨b, k, none⟩ = false) :=
  ⟨fun u v => (cell_two (two_far h hne u v)).1, fun u v => (cell_two (two_far h hne u v)).2, fun u v => free_two (two_far h hne u v)⟩

set_option maxRecDepth 100000 in
set_option maxHeartbeats 1000000 in
theorem catch_panicking (b2 b3 : Nat) (c d : Int) (x : Value) (n : Int) (y : Int) (z : Int) (older : List PanicEntry) (w : World) (t2 : Two w b2 (.int .i64 n) x 24) (t3 : Two w b3 (.int .i64 y) (.int .i64 z) 27) (hne : b2 ≠ b3) :
    CallsD Tryd.prog 14 #[.pointer (some ⟨b2, 0, none⟩), .pointer (some ⟨b3, 0, none⟩)] (.panicking ({ v := .iface 65 (.agg #[.int .i64 c, .int .i64 d]), recovered := false } :: older)) w fun e u' w' =>
      e = .returned (.tuple #[]) ∧ u' = .panicking ({ v := .iface 65 (.agg #[.int .i64 c, .int .i64 d]), recovered := true } :: older) ∧ ∃ w1, Below w.heap.size w w1 ∧ w' = (((w1.setCell ⟨b2, 0, none⟩ (.int .i64 0)).setCell ⟨b2, 1, none⟩ (.slice none 0 0)).setCell ⟨b3, 0, none⟩ (.int .i64 c)).setCell ⟨b3, 1, none⟩ (.int .i64 d) := by
  refine callsD_of_wpS Tryd.func14 rfl fun c₀ cs hu => ?_
  have hq := neq_nil
  apply wpS_seq
  apply wpS_region
  simp [wpOpsS, go_sem, recoverD, hu, Tryd.ntmps14, Exit.thenS]
  refine wpS_of_wp ?_
  go_wp2_with (go_at_call 15; refine (faultOf_any c d _).mono ?_; rintro e w1 ⟨rfl, hb1⟩; obtain ⟨g0, g1, g2⟩ := kk (two_next t2 hb1); obtain ⟨m0, m1, m2⟩ := kapart (two_next t3 hb1) hne)
  simp [bodyPostS, results, Tryd.results14]
  exact ⟨w1, hb1, rfl⟩

set_option maxRecDepth 100000 in
set_option maxHeartbeats 1000000 in
theorem catch_idle (b2 b3 : Nat) (w : World) :
    CallsD Tryd.prog 14 #[.pointer (some ⟨b2, 0, none⟩), .pointer (some ⟨b3, 0, none⟩)] .returning w fun e u' w' => e = .returned (.tuple #[]) ∧ u' = .returning ∧ w' = w := by
  refine callsD_of_wpS Tryd.func14 rfl fun c₀ cs hu => ?_
  have hq := nil_nil
  apply wpS_seq
  apply wpS_region
  simp [wpOpsS, go_sem, recoverD, hu, Tryd.ntmps14, Exit.thenS]
  refine wpS_of_wp ?_
  go_wp2
  cases c₀
  simp_all [bodyPostS, results, Tryd.results14]
end Go.Proofs.YtbaghbodjpehpabDoor
