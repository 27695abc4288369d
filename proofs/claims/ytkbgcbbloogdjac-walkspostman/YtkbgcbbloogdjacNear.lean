/- The closure that knows the edges of a graph: what it answers; and nearIn where a graph is too great. -/
import Derived.Test.YtkbgcbbloogdjacBase
import Derived.Test.YtkbgcbbloogdjacMath
namespace Go.Proofs.Ytkbgcbbloogdjac
open Go.RowKit Go.Maps
attribute [local go_sem ↓] Go.wp_at_zero Go.wp_at_succ

theorem near_NS {Bx b n : Nat} {S : Int → Int → Bool} {w : World} (hx : w.heap[Bx]? = some (.cells #[.map (some b)] 113 (0, 0))) (hS : SetAt w b n S) {u v : Int} (hu : I64 u) (hv : I64 v) {w' : World} (h : Below w.heap.size w w') :
    Below w.heap.size w w' ∧ w'.cell? ⟨Bx, 0, none⟩ = some (.map (some b)) ∧ (Instr.lookup 113 (.map (some b)) (.agg #[.int .i64 (min u v), .int .i64 (max u v)]) true).run Try.prog w' = .ok (.tuple #[.agg #[], .bool (S (min u v) (max u v))]) w' := by
  refine ⟨h, ?_, (hS.below h hS.lt).look ?_ ?_⟩
  · rw [h.cell (lt_of_block hx)]; exact cell_of_one hx
  · unfold I64 at *; omega
  · unfold I64 at *; omega

theorem below_alloc {w w1 : World} (h : Below w.heap.size w w1) (o : Obj) : Below w.heap.size w (w1.alloc o) := h.alloc h.size o
theorem below_next {w w1 w2 : World} (h : Below w.heap.size w w1) (h2 : Below w1.heap.size w1 w2) : Below w.heap.size w w2 := h.trans (h2.mono h.size)

set_option maxHeartbeats 400000 in
theorem near_call {Bx b n : Nat} {S : Int → Int → Bool} {w : World} (hx : w.heap[Bx]? = some (.cells #[.map (some b)] 113 (0, 0))) (hS : SetAt w b n S) {u v : Int} (hu : I64 u) (hv : I64 v) :
    Calls Try.prog 70 #[.int .i64 u, .int .i64 v, .pointer (some ⟨Bx, 0, none⟩)] w fun e w' => e = .returned (.bool (S (min u v) (max u v))) ∧ Below w.heap.size w w' := by
  go_enter Try.func70, Try.ntmps70
  go_wp2_with fail
  go_region_held3 (fun w' => Below w.heap.size w w' ∧ w'.cell? ⟨Bx, 0, none⟩ = some (.map (some b)) ∧ (Instr.lookup 113 (.map (some b)) (.agg #[.int .i64 (min u v), .int .i64 (max u v)]) true).run Try.prog w' = .ok (.tuple #[.agg #[], .bool (S (min u v) (max u v))]) w')
    (first | assumption | exact near_NS hx hS hu hv (Below.refl _ _).drew | (go_split_ands; first | exact near_NS hx hS hu hv (below_alloc ‹_› _) | exact near_NS hx hS hu hv (below_next ‹_› hb)))
    ((go_at_call 71; refine (lesser_any _ _ _).mono ?_; rintro e w' ⟨rfl, hb⟩))
  all_goals
    go_split_ands
    go_wp2
    go_ret
    exact ⟨rfl, by assumption⟩

/-- The slice value v holds the edges es. -/
def EdgesAt (w : World) (v : Value) (es : List Pair) : Prop :=
  ∃ ao cap, v = .slice ao es.length cap ∧ es.length ≤ 8796093022208 ∧ (∀ e ∈ es, I64 e.1 ∧ I64 e.2) ∧
    ∀ k (h : k < es.length), ∃ b off, ao = some ⟨b, off, none⟩ ∧ w.cell? ⟨b, off + k * 2, none⟩ = some (.int .i64 es[k].1) ∧ w.cell? ⟨b, off + k * 2 + 1, none⟩ = some (.int .i64 es[k].2)

theorem EdgesAt.below {w w' : World} {v : Value} {es : List Pair} (h : EdgesAt w v es) (hb : Below w.heap.size w w') : EdgesAt w' v es := by
  obtain ⟨ao, cap, h1, h2, h3, h4⟩ := h
  refine ⟨ao, cap, h1, h2, h3, fun k hk => ?_⟩
  obtain ⟨b, off, e, c0, c1⟩ := h4 k hk
  have hl := World.block_lt_of_cell? w _ c0
  exact ⟨b, off, e, by rw [hb.cell (by exact hl)]; exact c0, by rw [hb.cell (by exact hl)]; exact c1⟩

/-- The function value that nearIn hands back, in the world w: it knows the edges es. -/
def NearAt (w : World) (Bx : Nat) (es : List Pair) : Prop :=
  ∃ b n, w.heap[Bx]? = some (.cells #[.map (some b)] 113 (0, 0)) ∧ SetAt w b n (setE es)

theorem NearAt.below {w w' : World} {Bx : Nat} {es : List Pair} (h : NearAt w Bx es) (hb : Below w.heap.size w w') : NearAt w' Bx es := by
  obtain ⟨b, n, h1, h2⟩ := h
  exact ⟨b, n, by rw [hb.block Bx (lt_of_block h1)]; exact h1, h2.below hb h2.lt⟩

theorem near_has {w : World} {Bx : Nat} {es : List Pair} (h : NearAt w Bx es) {u v : Int} (hu : I64 u) (hv : I64 v) :
    Calls Try.prog 70 #[.int .i64 u, .int .i64 v, .pointer (some ⟨Bx, 0, none⟩)] w fun e w' => e = .returned (.bool (hasB es u v)) ∧ Below w.heap.size w w' := by
  obtain ⟨b, n, h1, h2⟩ := h
  have := near_call h1 h2 hu hv
  rw [setE_has] at this
  exact this

set_option maxHeartbeats 400000 in
theorem isNode_any (n v : Int) (w : World) : Calls Try.prog 72 #[.int .i64 n, .int .i64 v] w fun e w' => e = .returned (.bool (isN n v)) ∧ w' = w := by
  go_enter Try.func72, Try.ntmps72
  go_wp2
  all_goals
    go_ret
    refine ⟨?_, rfl⟩
    simp [isN, *]
    try omega

set_option maxHeartbeats 400000 in
theorem nearIn_many (n : Int) (ao : Option Addr) (len cap : Nat) (w : World) (_hl : len ≤ 8796093022208) (h : many n len = true) :
    Calls Try.prog 59 #[.agg #[.int .i64 n, .slice ao len cap]] w fun e w' => e = .returned (.tuple #[.nilFunc, .agg #[.int .i64 2, .int .i64 0]]) ∧ Below w.heap.size w w' := by
  simp [many] at h
  rcases h with h | h | h
  · go_enter Try.func59, Try.ntmps59
    go_wp2
    refine bodyPost_ret (v := .tuple #[.nilFunc, .agg #[.int .i64 2, .int .i64 0]]) ?_ rfl ⟨rfl, below_alloc (below_alloc (Below.refl _ _) _) _⟩
    simp [results, Try.results59, go_sem]
  · have h0 : ¬ n < 0 := by omega
    go_enter Try.func59, Try.ntmps59
    go_wp2
    refine bodyPost_ret (v := .tuple #[.nilFunc, .agg #[.int .i64 2, .int .i64 0]]) ?_ rfl ⟨rfl, below_alloc (below_alloc (Below.refl _ _) _) _⟩
    simp [results, Try.results59, go_sem]
  · have hl2 : (1000 : Int) < (len : Int) := by omega
    by_cases h0 : n < 0
    · go_enter Try.func59, Try.ntmps59
      go_wp2
      refine bodyPost_ret (v := .tuple #[.nilFunc, .agg #[.int .i64 2, .int .i64 0]]) ?_ rfl ⟨rfl, below_alloc (below_alloc (Below.refl _ _) _) _⟩
      simp [results, Try.results59, go_sem]
    · by_cases h1 : 100 < n
      · go_enter Try.func59, Try.ntmps59
        go_wp2
        refine bodyPost_ret (v := .tuple #[.nilFunc, .agg #[.int .i64 2, .int .i64 0]]) ?_ rfl ⟨rfl, below_alloc (below_alloc (Below.refl _ _) _) _⟩
        simp [results, Try.results59, go_sem]
      · go_enter Try.func59, Try.ntmps59
        go_wp2
        refine bodyPost_ret (v := .tuple #[.nilFunc, .agg #[.int .i64 2, .int .i64 0]]) ?_ rfl ⟨rfl, below_alloc (below_alloc (Below.refl _ _) _) _⟩
        simp [results, Try.results59, go_sem]

end Go.Proofs.Ytkbgcbbloogdjac
