/- The closure that knows the edges of a graph: what it answers; and nearIn where a graph is too great. nearIn: it tells the first fault of a graph, or hands back a function that knows its edges. build: the graph of the pairs that a function value tells, or ErrMany. Form: the graph in form, or its first fault. -/
import Derived.Test.YtfdlndljpmamgaaBase
import Derived.Test.YtfdlndljpmamgaaMath
import Derived.BigQuiet
import Derived.Deep.Light
import Derived.Deep.QuietTactic
import Derived.Deep.AppendLies
namespace Go.Proofs.Ytfdlndljpmamgaa
open Go.RowKit Go.Maps
attribute [local go_sem ↓] Go.wp_at_zero Go.wp_at_succ

theorem near_NS {Bx b n : Nat} {S : Int → Int → Bool} {w : World} (hx : w.heap[Bx]? = some (.cells #[.map (some b)] 62 (0, 0))) (hS : SetAt w b n S) {u v : Int} (hu : I64 u) (hv : I64 v) {w' : World} (h : Below w.heap.size w w') :
    Below w.heap.size w w' ∧ w'.cell? ⟨Bx, 0, none⟩ = some (.map (some b)) ∧ (Instr.lookup 62 (.map (some b)) (.agg #[.int .i64 (min u v), .int .i64 (max u v)]) true).run Try.prog w' = .ok (.tuple #[.agg #[], .bool (S (min u v) (max u v))]) w' := by
  refine ⟨h, ?_, (hS.below h hS.lt).look ?_ ?_⟩
  · rw [h.cell (lt_of_block hx)]; exact cell_of_one hx
  · unfold I64 at *; omega
  · unfold I64 at *; omega

theorem below_alloc {w w1 : World} (h : Below w.heap.size w w1) (o : Obj) : Below w.heap.size w (w1.alloc o) := h.alloc h.size o
theorem below_next {w w1 w2 : World} (h : Below w.heap.size w w1) (h2 : Below w1.heap.size w1 w2) : Below w.heap.size w w2 := h.trans (h2.mono h.size)

/-- The slice value v holds the edges es. -/
def EdgesAt (w : World) (v : Value) (es : List Pair) : Prop :=
  ∃ ao cap, v = .slice ao es.length cap ∧ es.length ≤ 8796093022208 ∧ (∀ e ∈ es, I64 e.1 ∧ I64 e.2) ∧
    ∀ k (h : k < es.length), ∃ b off, ao = some ⟨b, off, none⟩ ∧ w.cell? ⟨b, off + k * 2, none⟩ = some (.int .i64 es[k].1) ∧ w.cell? ⟨b, off + k * 2 + 1, none⟩ = some (.int .i64 es[k].2)

theorem EdgesAt.below {w w' : World} {v : Value} {es : List Pair} (h : EdgesAt w v es) (hb : Below w.heap.size w w') : EdgesAt w' v es := by
  obtain ⟨ao, cap, h1, h2, h3, h4⟩ := h
  refine ⟨ao, cap, h1, h2, h3, fun k hk => ?_⟩
  obtain ⟨b, off, e, c0, c1⟩ := h4 k hk
  have hl := World.block_lt_of_cell? w _ c0
  exact ⟨b, off, e, by rw [hb.cell (by exact hl)]; exact c0, by rw [hb.cell (by exact hl)]; exact c1⟩

/-- The function value that nearIn hands back, in the world w: it knows the edges es. -/
def NearAt (w : World) (Bx : Nat) (es : List Pair) : Prop :=
  ∃ b n, w.heap[Bx]? = some (.cells #[.map (some b)] 62 (0, 0)) ∧ SetAt w b n (setE es)

theorem NearAt.below {w w' : World} {Bx : Nat} {es : List Pair} (h : NearAt w Bx es) (hb : Below w.heap.size w w') : NearAt w' Bx es := by
  obtain ⟨b, n, h1, h2⟩ := h
  exact ⟨b, n, by rw [hb.block Bx (lt_of_block h1)]; exact h1, h2.below hb h2.lt⟩

end Go.Proofs.Ytfdlndljpmamgaa

namespace Go.Proofs.Ytfdlndljpmamgaa
open Go.RowKit Go.Maps
attribute [local go_sem ↓] Go.wp_at_zero Go.wp_at_succ


theorem cell_two {w : World} {b : Nat} {x y : Value} {t : TypeId} (h : w.heap[b]? = some (.cells #[x, y] t (0, 0))) : w.cell? ⟨b, 0, none⟩ = some x ∧ w.cell? ⟨b, 1, none⟩ = some y := by
  constructor <;> simp [World.cell?, h]
theorem free_two {w : World} {b : Nat} {x y : Value} {t : TypeId} (h : w.heap[b]? = some (.cells #[x, y] t (0, 0))) (o : Nat) : w.frozen? ⟨b, o, none⟩ = false := by
  simp [World.frozen?, h]

theorem all_alloc {w : World} {a : Addr} {v : Value} (h : w.cell? a = some v) : ∀ o, (w.alloc o).cell? a = some v := fun o => by
  rw [World.cell?_alloc_some _ _ _ (by rw [h]; rfl)]; exact h
theorem all_free {w : World} {a : Addr} (ha : a.block < w.heap.size) (h : w.frozen? a = false) : ∀ o, (w.alloc o).frozen? a = false := fun o => by
  rw [((Below.refl _ _).alloc (Nat.le_refl _) o : Below w.heap.size w (w.alloc o)).frozen ha]; exact h

structure NI (w wr : World) (n : Int) (ao : Option Addr) (cap : Nat) (es : List Pair) (k : Nat) : Prop where
  b0 : wr.heap[w.heap.size]? = some (.cells #[.int .i64 n, .slice ao es.length cap] 42 (0, 0))
  b1 : wr.heap[w.heap.size + 1]? = some (.cells #[.int .i64 0, .int .i64 0] 31 (0, 0))
  b3 : wr.heap[w.heap.size + 1 + 1 + 1]? = some (.cells #[.map (some (w.heap.size + 1 + 1))] 62 (0, 0))
  set : SetAt wr (w.heap.size + 1 + 1) k (setE (es.take k))
  below : Below w.heap.size w wr
  hc : chkFrom n [] es = chkFrom n (es.take k) (es.drop k)

theorem NI.step {w wr wr' : World} {n : Int} {ao : Option Addr} {cap : Nat} {es : List Pair} {k : Nat} (h : NI w wr n ao cap es k) (hb : Below wr.heap.size wr wr') : NI w wr' n ao cap es k :=
  ⟨(hb.block _ (lt_of_block h.b0)).trans h.b0, (hb.block _ (lt_of_block h.b1)).trans h.b1, (hb.block _ (lt_of_block h.b3)).trans h.b3, h.set.below hb h.set.lt, below_next h.below hb, h.hc⟩

theorem NI.near {w wr : World} {n : Int} {ao : Option Addr} {cap : Nat} {es : List Pair} {k : Nat} (h : NI w wr n ao cap es k) : NearAt wr (w.heap.size + 1 + 1 + 1) (es.take k) :=
  ⟨_, k, h.b3, h.set⟩

theorem NI.start (w : World) (n : Int) (ao : Option Addr) (cap : Nat) (es : List Pair) : NI w ((((w.alloc (Obj.cells #[Value.int IntKind.i64 n, Value.slice ao es.length cap] 42)).alloc (Obj.cells #[Value.int IntKind.i64 0, Value.int IntKind.i64 0] 31)).alloc (Obj.map #[] 0)).alloc (Obj.cells #[Value.map (some (w.heap.size + 1 + 1))] 62)) n ao cap es 0 := by
  refine ⟨?_, ?_, ?_, ?_, below_alloc (below_alloc (below_alloc (below_alloc (Below.refl _ _) _) _) _) _, rfl⟩
  · rw [Below.heap_alloc _ _ _ (by simp; omega), Below.heap_alloc _ _ _ (by simp <;> omega), Below.heap_alloc _ _ _ (by simp <;> omega)]; exact heap_alloc_new _ _
  · rw [Below.heap_alloc _ _ _ (by simp <;> omega), Below.heap_alloc _ _ _ (by simp <;> omega)]; simpa using heap_alloc_new (w.alloc (Obj.cells #[Value.int IntKind.i64 n, Value.slice ao es.length cap] 42)) (Obj.cells #[Value.int IntKind.i64 0, Value.int IntKind.i64 0] 31)
  · simpa using heap_alloc_new (((w.alloc (Obj.cells #[Value.int IntKind.i64 n, Value.slice ao es.length cap] 42)).alloc (Obj.cells #[Value.int IntKind.i64 0, Value.int IntKind.i64 0] 31)).alloc (Obj.map #[] 0)) (Obj.cells #[Value.map (some (w.heap.size + 1 + 1))] 62)
  · have := setAt_made ((w.alloc (Obj.cells #[Value.int IntKind.i64 n, Value.slice ao es.length cap] 42)).alloc (Obj.cells #[Value.int IntKind.i64 0, Value.int IntKind.i64 0] 31))
    have h2 := this.block (Below.heap_alloc _ (Obj.cells #[Value.map (some (w.heap.size + 1 + 1))] 62) _ this.lt)
    have e : (setE (es.take 0)) = fun _ _ => false := by funext x y; simp [setE]
    rw [e]
    simpa using h2


/-- upd tells the world behind the store of a pair into the set. -/
def IsUpd (b : Nat) (u v : Int) (upd : World → World) : Prop :=
  ∀ (w : World) (n : Nat) (S : Int → Int → Bool), SetAt w b n S → n < maxLen →
    (Instr.mapUpdate 62 (.map (some b)) (.agg #[.int .i64 u, .int .i64 v]) (.agg #[])).run Try.prog w = .ok () (upd w) ∧ SetAt (upd w) b (n + 1) (fun x y => (x == u && y == v) || S x y) ∧ w.mapTurned (upd w) b

theorem upd_exists (b : Nat) {u v : Int} (hu : I64 u) (hv : I64 v) : ∃ upd, IsUpd b u v upd := by
  refine ⟨fun w => match (Instr.mapUpdate 62 (.map (some b)) (.agg #[.int .i64 u, .int .i64 v]) (.agg #[])).run Try.prog w with
    | .ok _ w' => w'
    | _ => w, fun w n S h hn => ?_⟩
  obtain ⟨w', h1, h2, h3⟩ := h.store hu hv hn
  simp only [h1]
  exact ⟨trivial, h2, h3⟩

theorem NI.upd {w wr : World} {n : Int} {ao : Option Addr} {cap : Nat} {es : List Pair} {k : Nat} (h : NI w wr n ao cap es k) {x y : Int} (hk : k < es.length) (hxy : es[k] = (x, y)) (hl : es.length ≤ 1000) (hb : bad n (es.take k) (x, y) = 0) {upd : World → World} (hU : IsUpd (w.heap.size + 1 + 1) (min x y) (max x y) upd) :
    NI w (upd wr) n ao cap es (k + 1) := by
  obtain ⟨_, h2, h3⟩ := hU _ _ _ h.set (by unfold maxLen; omega)
  have hg := h3.grown
  have q : ∀ j, j < wr.heap.size → j ≠ w.heap.size + 1 + 1 → (upd wr).heap[j]? = wr.heap[j]? := fun j hj hne => hg.block j hj (fun e => hne (by cases e; rfl))
  have l3 := lt_of_block h.b3
  refine ⟨(q _ (lt_of_block h.b0) (by omega)).trans h.b0, (q _ (lt_of_block h.b1) (by omega)).trans h.b1, (q _ l3 (by omega)).trans h.b3, ?_, h.below.grown hg h.below.size (fun j hj => by cases hj; omega), ?_⟩
  · have e : setE (es.take (k + 1)) = fun x_1 y_1 => (x_1 == min x y && y_1 == max x y) || setE (es.take k) x_1 y_1 := by
      funext p q
      rw [List.take_succ_eq_append_getElem hk, hxy, setE_snoc]
    rw [e]
    exact h2
  · rw [h.hc, chk_step hk, hxy, if_pos hb]

theorem NI.S15 {w wr : World} {n : Int} {ao : Option Addr} {cap : Nat} {es : List Pair} {k : Nat} (h : NI w wr n ao cap es k) {x y : Int} (hk : k ≤ 1001) {upd : World → World} (hU : IsUpd (w.heap.size + 1 + 1) (min x y) (max x y) upd) :
    wr.cell? ⟨w.heap.size + 1 + 1 + 1, 0, none⟩ = some (.map (some (w.heap.size + 1 + 1))) ∧
    (Instr.mapUpdate 62 (.map (some (w.heap.size + 1 + 1))) (.agg #[.int .i64 (min x y), .int .i64 (max x y)]) (.agg #[])).run Try.prog wr = .ok () (upd wr) :=
  ⟨cell_of_one h.b3, (hU _ _ _ h.set (by unfold maxLen; omega)).1⟩

theorem NI.near_set {w wr : World} {n : Int} {ao : Option Addr} {cap : Nat} {es : List Pair} (h : NI w wr n ao cap es es.length) (o o' : Nat) (u u' : Value) :
    NearAt ((wr.setCell ⟨w.heap.size + 1, o, none⟩ u).setCell ⟨w.heap.size + 1, o', none⟩ u') (w.heap.size + 1 + 1 + 1) es := by
  have q : ∀ j, j ≠ w.heap.size + 1 → ((wr.setCell ⟨w.heap.size + 1, o, none⟩ u).setCell ⟨w.heap.size + 1, o', none⟩ u').heap[j]? = wr.heap[j]? := fun j hj =>
    (Below.heap_setCell _ _ _ _ hj).trans (Below.heap_setCell _ _ _ _ hj)
  have hs := h.set
  rw [List.take_length] at hs
  exact ⟨w.heap.size + 1 + 1, es.length, (q _ (by omega)).trans h.b3, hs.block (q _ (by omega))⟩

theorem isN_out {n x : Int} (h : isN n x = false) : ¬ (0 ≤ x ∧ x < n) := by simpa [isN] using h
theorem isN_in {n x : Int} (h : isN n x = true) : 0 ≤ x ∧ x < n := by simpa [isN] using h

end Go.Proofs.Ytfdlndljpmamgaa

namespace Go.Proofs.Ytfdlndljpmamgaa
open Go.RowKit Go.Maps

theorem Try.info59 : (Try.prog.info? 59).map (fun i => (i.zero, i.size, i.bytes)) = some (some (.agg #[.int .i64 0, .int .i64 0]), 2, 16) := by kernel_rfl

def rowTo (p : Int → Int → Bool) (u v : Nat) : List Pair := ((List.range v).filter fun (j : Nat) => decide (u < j) && p u j).map fun (j : Nat) => ((u : Int), (j : Int))
def rowsTo (n : Nat) (p : Int → Int → Bool) (u : Nat) : List Pair := (List.range u).flatMap fun i => rowTo p i n
def allP (n : Nat) (p : Int → Int → Bool) : List Pair := rowsTo n p n
def flat (L : List Pair) : List Value := L.flatMap fun e => [Value.int .i64 e.1, Value.int .i64 e.2]


theorem rowTo_succ (p : Int → Int → Bool) (u v : Nat) : rowTo p u (v + 1) = rowTo p u v ++ (if u < v ∧ p u v = true then [((u : Int), (v : Int))] else []) := by
  unfold rowTo
  rw [List.range_succ, List.filter_append, List.map_append]
  congr 1
  by_cases h : u < v ∧ p u v = true
  · rw [if_pos h]; simp [h.1, h.2]
  · rw [if_neg h]
    have : (decide (u < v) && p u v) = false := by
      by_cases h1 : u < v
      · have : ¬ p u v = true := fun h2 => h ⟨h1, h2⟩
        simp [this]
      · simp [h1]
    simp [this]
theorem rowTo_low (p : Int → Int → Bool) (u : Nat) : ∀ v, v ≤ u + 1 → rowTo p u v = []
  | 0, _ => rfl
  | v + 1, h => by rw [rowTo_succ, rowTo_low p u v (by omega), if_neg (by omega)]; rfl
theorem rowsTo_succ (n : Nat) (p : Int → Int → Bool) (u : Nat) : rowsTo n p (u + 1) = rowsTo n p u ++ rowTo p u n := by
  simp [rowsTo, List.range_succ, List.flatMap_append]
theorem rowTo_mono (p : Int → Int → Bool) (u v n : Nat) (h : v ≤ n) : (rowTo p u v).length ≤ (rowTo p u n).length := by
  induction n with
  | zero => have : v = 0 := by omega
            subst this; exact Nat.le_refl _
  | succ n ih =>
    by_cases e : v = n + 1
    · subst e; exact Nat.le_refl _
    · rw [rowTo_succ p u n, List.length_append]
      have := ih (by omega)
      omega
theorem rowsTo_mono (n : Nat) (p : Int → Int → Bool) (u m : Nat) (h : u ≤ m) : (rowsTo n p u).length ≤ (rowsTo n p m).length := by
  induction m with
  | zero => have : u = 0 := by omega
            subst this; exact Nat.le_refl _
  | succ m ih =>
    by_cases e : u = m + 1
    · subst e; exact Nat.le_refl _
    · rw [rowsTo_succ n p m, List.length_append]
      have := ih (by omega)
      omega
theorem allP_more (n : Nat) (p : Int → Int → Bool) (u v : Nat) (hu : u < v) (hv : v < n) (hp : p u v = true) : (rowsTo n p u ++ rowTo p u v).length < (allP n p).length := by
  have h1 := rowsTo_mono n p (u + 1) n (by omega)
  rw [rowsTo_succ, List.length_append] at h1
  have h2 := rowTo_mono p u (v + 1) n (by omega)
  rw [rowTo_succ, if_pos ⟨hu, hp⟩, List.length_append] at h2
  simp at h2
  unfold allP
  rw [List.length_append]
  omega
theorem flat_length (L : List Pair) : (flat L).length = L.length * 2 := by
  induction L with
  | nil => rfl
  | cons e L ih => simp [flat] at ih ⊢; omega
theorem flat_snoc (L : List Pair) (x y : Int) : flat (L ++ [(x, y)]) = flat L ++ [.int .i64 x, .int .i64 y] := by simp [flat]

structure BI (w wr : World) (v : Value) (L : List Pair) : Prop where
  b0 : wr.heap[w.heap.size]? = some (.cells #[.int .i64 0, .slice none 0 0] 42 (0, 0))
  b1 : wr.heap[w.heap.size + 1]? = some (.cells #[.int .i64 0, .int .i64 0] 31 (0, 0))
  own : wr.ownsRow (w.heap.size + 2) 59 2 v L.length (flat L)
  below : Below w.heap.size w wr
  len : L.length ≤ 1000

theorem BI.step {w wr wr' : World} {v : Value} {L : List Pair} (h : BI w wr v L) (hb : Below wr.heap.size wr wr') : BI w wr' v L := by
  refine ⟨(hb.block _ (lt_of_block h.b0)).trans h.b0, (hb.block _ (lt_of_block h.b1)).trans h.b1, ?_, below_next h.below hb, h.len⟩
  exact h.own.kept (row := none) ⟨hb.os, hb.tape, hb.output, hb.size, fun k hk _ => hb.block k hk⟩ (by cases v.ownBlock <;> simp)

theorem BI.push {w wr w1 : World} {v v' : Value} {L : List Pair} {x y : Int} (h : BI w wr v L) (hL : L.length < 1000) (hown : w1.ownsRow (w.heap.size + 2) 59 2 v' (L.length + 1) (flat L ++ [.int .i64 x, .int .i64 y])) (hg : (wr.alloc (Obj.cells #[.int .i64 x, .int .i64 y] 59)).grownBy w1 v.ownBlock) : BI w w1 v' (L ++ [(x, y)]) := by
  have hn : ∀ k, v.ownBlock = some k → w.heap.size + 2 ≤ k := fun k hk => (h.own.lt k hk).1
  have l0 := lt_of_block h.b0
  have l1 := lt_of_block h.b1
  have q : ∀ j, j < w.heap.size + 2 → w1.heap[j]? = wr.heap[j]? := fun j hj => by
    rw [hg.block j (by simp; omega) (fun e => by have := hn j e.symm; omega), Below.heap_alloc _ _ _ (by omega)]
  refine ⟨(q _ (by omega)).trans h.b0, (q _ (by omega)).trans h.b1, ?_, ?_, by simp; omega⟩
  · rw [flat_snoc]; simpa using hown
  · exact (h.below.alloc h.below.size _).grown hg (by simp; omega) (fun k hk => by have := hn k hk; omega)

theorem BI.form {w wr : World} {v : Value} {L : List Pair} (h : BI w wr v L) : ∃ ao cap, v = .slice ao L.length cap := by
  rcases h.own.2 with ⟨rfl, e⟩ | ⟨g, cap, cur, rfl, _⟩
  · exact ⟨none, 0, by rw [e]⟩
  · exact ⟨_, cap, rfl⟩

theorem ownsRow_mono {w : World} {b b' : Nat} {e : TypeId} {size : Nat} {v : Value} {n : Nat} {xs : List Value} (h : w.ownsRow b e size v n xs) (hb : b' ≤ b) : w.ownsRow b' e size v n xs := by
  refine ⟨h.1, ?_⟩
  rcases h.2 with h2 | ⟨g, cap, cur, h1, h2, h3⟩
  · exact Or.inl h2
  · exact Or.inr ⟨g, cap, cur, h1, by omega, h3⟩

theorem BI.start (w : World) : BI w ((w.alloc (Obj.cells #[Value.int IntKind.i64 0, Value.slice none 0 0] 42)).alloc (Obj.cells #[Value.int IntKind.i64 0, Value.int IntKind.i64 0] 31)) (.slice none 0 0) [] := by
  refine ⟨?_, ?_, World.ownsRow_nil _ _ _ _, (((Below.refl _ _).alloc (Nat.le_refl _) _).alloc (by simp) _), by simp⟩
  · rw [Below.heap_alloc _ _ _ (by simp)]; exact heap_alloc_new _ _
  · simpa using heap_alloc_new (w.alloc (Obj.cells #[Value.int IntKind.i64 0, Value.slice none 0 0] 42)) (Obj.cells #[Value.int IntKind.i64 0, Value.int IntKind.i64 0] 31)

end Go.Proofs.Ytfdlndljpmamgaa

namespace Go.Proofs.Ytfdlndljpmamgaa
open Go.RowKit Go.Maps

theorem bcell {W w1 : World} (hb : Below W.heap.size W w1) :
    (∀ b o, b < W.heap.size → w1.cell? ⟨b, o, none⟩ = W.cell? ⟨b, o, none⟩) ∧ (∀ b o, b < W.heap.size → w1.frozen? ⟨b, o, none⟩ = W.frozen? ⟨b, o, none⟩) ∧
    (∀ b o ob, b < W.heap.size → (w1.alloc ob).cell? ⟨b, o, none⟩ = W.cell? ⟨b, o, none⟩) ∧ (∀ b o ob, b < W.heap.size → (w1.alloc ob).frozen? ⟨b, o, none⟩ = W.frozen? ⟨b, o, none⟩) ∧
    (∀ b o ob oc, b < W.heap.size → ((w1.alloc ob).alloc oc).cell? ⟨b, o, none⟩ = W.cell? ⟨b, o, none⟩) ∧ (∀ b o ob oc, b < W.heap.size → ((w1.alloc ob).alloc oc).frozen? ⟨b, o, none⟩ = W.frozen? ⟨b, o, none⟩) :=
  ⟨fun b o h => hb.cell (p := ⟨b, o, none⟩) h, fun b o h => hb.frozen (p := ⟨b, o, none⟩) h,
   fun b o _ h => (below_alloc hb _).cell (p := ⟨b, o, none⟩) h, fun b o _ h => (below_alloc hb _).frozen (p := ⟨b, o, none⟩) h,
   fun b o _ _ h => (below_alloc (below_alloc hb _) _).cell (p := ⟨b, o, none⟩) h, fun b o _ _ h => (below_alloc (below_alloc hb _) _).frozen (p := ⟨b, o, none⟩) h⟩

theorem below_set4 {w w1 : World} (h : Below w.heap.size w w1) {a b c d : Addr} (ha : w.heap.size ≤ a.block) (hb : w.heap.size ≤ b.block) (hc : w.heap.size ≤ c.block) (hd : w.heap.size ≤ d.block) {x y z u : Value} :
    Below w.heap.size w ((((w1.setCell a x).setCell b y).setCell c z).setCell d u) := (((h.setCell ha _).setCell hb _).setCell hc _).setCell hd _

/-- What a function that makes a graph answers. -/
structure Ans where
  n : Int
  es : List Pair
  c : Int
  pos : Int

def Tells (F : FuncId) (args : Array Value) (w : World) (a : Ans) : Prop :=
  Calls Try.prog F args w fun e w' => Below w.heap.size w w' ∧ ∃ ao cap, e = .returned (.tuple #[.agg #[.int .i64 a.n, .slice ao a.es.length cap], .agg #[.int .i64 a.c, .int .i64 a.pos]]) ∧ EdgesAt w' (.slice ao a.es.length cap) a.es ∧ ∀ x, ao = some x → w.heap.size ≤ x.block

theorem EdgesAt.setCell {w : World} {ao : Option Addr} {n cap : Nat} {es : List Pair} (h : EdgesAt w (.slice ao n cap) es) {p : Addr} (hp : ∀ x, ao = some x → x.block ≠ p.block) (u : Value) : EdgesAt (w.setCell p u) (.slice ao n cap) es := by
  obtain ⟨ao', cap', e, h2, h3, h4⟩ := h
  cases e
  refine ⟨ao, cap, rfl, h2, h3, fun k hk => ?_⟩
  obtain ⟨b, off, e, c0, c1⟩ := h4 k hk
  have hne : p.block ≠ b := fun e' => hp _ e e'.symm
  exact ⟨b, off, e, by rw [World.cell?_setCell_far _ _ _ _ hne]; exact c0, by rw [World.cell?_setCell_far _ _ _ _ hne]; exact c1⟩

theorem EdgesAt.form {w : World} {v : Value} {es : List Pair} (h : EdgesAt w v es) : ∃ ao cap, v = .slice ao es.length cap := by
  obtain ⟨ao, cap, rfl, _⟩ := h
  exact ⟨ao, cap, rfl⟩

theorem edgesAt_nil (w : World) : EdgesAt w (.slice none 0 0) [] := ⟨none, 0, rfl, by simp, by simp, fun k h => absurd h (by simp)⟩

theorem flat_get (L : List Pair) : ∀ k (h : k < L.length), (flat L)[k * 2]? = some (.int .i64 L[k].1) ∧ (flat L)[k * 2 + 1]? = some (.int .i64 L[k].2) := by
  induction L with
  | nil => intro k h; simp at h
  | cons e L ih =>
    intro k h
    cases k with
    | zero => simp [flat]
    | succ k =>
      have h2 := ih k (by simpa using h)
      have e1 : (k + 1) * 2 = k * 2 + 2 := by omega
      rw [e1]
      simpa [flat] using h2

theorem add_none (g j : Nat) : (⟨g, 0, none⟩ : Addr).add j = ⟨g, j, none⟩ := by unfold Addr.add; split <;> simp_all

theorem edgesAt_row {w : World} {base : Nat} {v : Value} {L : List Pair} (h : w.ownsRow base 59 2 v L.length (flat L)) (hI : ∀ e ∈ L, I64 e.1 ∧ I64 e.2) (hl : L.length ≤ 8796093022208) : EdgesAt w v L := by
  rcases h.2 with ⟨rfl, e⟩ | ⟨g, cap, cur, rfl, _⟩
  · exact ⟨none, 0, by rw [e], hl, hI, fun k hk => by omega⟩
  · refine ⟨_, cap, rfl, hl, hI, fun k hk => ⟨g, 0, rfl, ?_, ?_⟩⟩
    · have := h.cells (g := g) rfl _ _ (flat_get L k hk).1
      rw [add_none] at this
      simpa using this
    · have := h.cells (g := g) rfl _ _ (flat_get L k hk).2
      rw [add_none] at this
      simpa using this

theorem allP_mem {n : Nat} {p : Int → Int → Bool} {e : Pair} : e ∈ allP n p ↔ ∃ u v : Nat, u < v ∧ v < n ∧ p u v = true ∧ e = ((u : Int), (v : Int)) := by
  simp only [allP, rowsTo, List.mem_flatMap, List.mem_range, rowTo, List.mem_map, List.mem_filter, Bool.and_eq_true, decide_eq_true_eq]
  constructor
  · rintro ⟨u, hu, v, ⟨hv, huv, hp⟩, rfl⟩
    exact ⟨u, v, huv, hv, hp, rfl⟩
  · rintro ⟨u, v, huv, hv, hp, rfl⟩
    exact ⟨u, by omega, v, ⟨hv, huv, hp⟩, rfl⟩

def buildS (n : Nat) (p : Int → Int → Bool) : Ans := if 100 < n ∨ 1000 < (allP n p).length then ⟨0, [], 2, 0⟩ else ⟨n, allP n p, 0, 0⟩

theorem buildS_ok {n : Nat} {p : Int → Int → Bool} (hn : n ≤ 100) (hl : (allP n p).length ≤ 1000) : buildS n p = ⟨n, allP n p, 0, 0⟩ := by
  unfold buildS; rw [if_neg (by omega)]
theorem buildS_many {n : Nat} {p : Int → Int → Bool} (h : 100 < n ∨ 1000 < (allP n p).length) : buildS n p = ⟨0, [], 2, 0⟩ := by
  unfold buildS; rw [if_pos h]

def formS (n : Int) (es : List Pair) : Ans := if (chk n es).1 = 0 then buildS n.toNat (hasB es) else ⟨0, [], (chk n es).1, (chk n es).2⟩

end Go.Proofs.Ytfdlndljpmamgaa
