/- The document's Same and Ints, where both sides are the same. -/
import Derived.Test.YtfdlndljpmamgaaSeen
import Derived.DeepKeys
namespace Go.Proofs.Ytfdlndljpmamgaa
open Go.RowKit Go.Maps
attribute [local go_sem ↓] Go.wp_at_zero Go.wp_at_succ

theorem equal59 {x y : Int} (hx : I64 x) (hy : I64 y) (w : World) : (Op.equal 59 (.agg #[.int .i64 x, .int .i64 y]) (.agg #[.int .i64 x, .int .i64 y])).run Try.prog w = .ok true w := by
  obtain ⟨r, h1, h2⟩ := run_equal_deep (P := Try.prog) w (m := Try.prog.types.size + 1) (of_decide_eq_true (by kernel_rfl)) (k := 59) (by kernel_rfl) (by kernel_rfl) (key_mk hx hy) (key_mk hx hy)
  rw [h2.2 rfl] at h1
  exact h1
theorem neq59 {x y : Int} (hx : I64 x) (hy : I64 y) (w : World) : (binOp .neq 59 (.agg #[.int .i64 x, .int .i64 y]) (.agg #[.int .i64 x, .int .i64 y])).run Try.prog w = .ok (.bool false) w := by
  simp only [binOp]
  simp [equal59 hx hy w, Result.andThen]

structure TwoB (w wr : World) (x y x' y' : Value) : Prop where
  b0 : wr.heap[w.heap.size]? = some (.cells #[x, y] 42 (0, 0))
  b1 : wr.heap[w.heap.size + 1]? = some (.cells #[x', y'] 42 (0, 0))
  below : Below w.heap.size w wr

theorem TwoB.start (w : World) (x y x' y' : Value) : TwoB w ((w.alloc (Obj.cells #[x, y] 42)).alloc (Obj.cells #[x', y'] 42)) x y x' y' :=
  ⟨by rw [Below.heap_alloc _ _ _ (by simp)]; exact heap_alloc_new _ _, by simpa using heap_alloc_new (w.alloc (Obj.cells #[x, y] 42)) (Obj.cells #[x', y'] 42), below2 _ _⟩
theorem TwoB.drewN {w wr : World} {x y x' y' : Value} (h : TwoB w wr x y x' y') (n : Nat) : TwoB w (wr.drewN n) x y x' y' :=
  ⟨h.b0, h.b1, below_drewN h.below n⟩

set_option maxHeartbeats 1000000 in
theorem same_true (n : Int) (va vb : Value) (es : List Pair) (w : World) (hA : EdgesAt w va es) (hB : EdgesAt w vb es) :
    Calls Try.prog 18 #[.agg #[.int .i64 n, va], .agg #[.int .i64 n, vb]] w fun e w' => e = .returned (.bool true) ∧ Below w.heap.size w w' := by
  obtain ⟨ao, cap, rfl, hl2, hI, hcells⟩ := hA
  obtain ⟨bo, bcap, rfl, _, _, hcells2⟩ := hB
  have hnn : (n != n) = false := by simp
  have hll : ((es.length : Int) != (es.length : Int)) = false := by simp
  go_enter Try.func18, Try.ntmps18
  go_wp2
  go_loopw [5] (fun i wr => ∃ k : Nat, k ≤ es.length ∧ i = .int .i64 k ∧ TwoB w wr (.int .i64 n) (.slice ao es.length cap) (.int .i64 n) (.slice bo es.length bcap)) (fun i _ => es.length - (intOf i).toNat)
  case atStart => exact ⟨0, Nat.zero_le _, rfl, TwoB.start _ _ _ _ _⟩
  case round =>
    obtain ⟨k, hk, rfl, ht⟩ := hrel
    have c0 := (cell_two ht.b0).2
    have c1 := (cell_two ht.b1).2
    by_cases hlt : k < es.length
    · obtain ⟨b, off, rfl, cx, cy⟩ := hcells k hlt
      obtain ⟨b', off', rfl, cx', cy'⟩ := hcells2 k hlt
      obtain ⟨x, y, hxy⟩ : ∃ x y, es[k] = (x, y) := ⟨es[k].1, es[k].2, rfl⟩
      rw [hxy] at cx cy cx' cy'
      have hb := World.block_lt_of_cell? w _ cx
      have hb' := World.block_lt_of_cell? w _ cx'
      rw [← ht.below.cell (by exact hb)] at cx cy
      rw [← ht.below.cell (by exact hb')] at cx' cy'
      have hne := fun w' => neq59 (x := x) (y := y) (by have := (hI es[k] (List.getElem_mem _)).1; rw [hxy] at this; exact this) (by have := (hI es[k] (List.getElem_mem _)).2; rw [hxy] at this; exact this) w'
      clear hxy hcells hcells2
      have hk1 : (0 : Int) ≤ (k : Int) := by omega
      have hk2 : (k : Int) < (es.length : Int) := by omega
      go_wp2
      go_quiet (fail)
      go_wp2
      go_roundw
      case rel => exact ⟨k + 1, by omega, by go_num, ht.drewN _⟩
      case measure => simp [intOf]; omega
    · have hke : k = es.length := by omega
      subst hke
      go_wp2
      go_ret
      exact ⟨rfl, ht.below⟩


end Go.Proofs.Ytfdlndljpmamgaa
