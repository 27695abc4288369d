/- Check and Near of package graph. The document's Has, and parts of the proof for its Check. -/
import Derived.Test.YtfdlndljpmamgaaEdges
namespace Go.Proofs.Ytfdlndljpmamgaa
open Go.RowKit Go.Maps

theorem below3 {w : World} (a b c : Obj) : Below w.heap.size w (((w.alloc a).alloc b).alloc c) := below_alloc (below_alloc (below_alloc (Below.refl _ _) _) _) _
theorem below2 {w : World} (a b : Obj) : Below w.heap.size w ((w.alloc a).alloc b) := below_alloc (below_alloc (Below.refl _ _) _) _

theorem Try.info3 : (Try.prog.info? 3).map (fun i => (i.zero, i.size, i.bytes)) = some (some (.int .i64 0), 1, 8) := by kernel_rfl

/-- The nodes below u that are near v. -/
def nearTo (es : List Pair) (v : Int) (u : Nat) : List Int := ((List.range u).filter fun (j : Nat) => hasB es j v).map fun (j : Nat) => (j : Int)
theorem nearTo_succ (es : List Pair) (v : Int) (u : Nat) : nearTo es v (u + 1) = nearTo es v u ++ (if hasB es u v = true then [(u : Int)] else []) := by
  unfold nearTo
  rw [List.range_succ, List.filter_append, List.map_append]
  congr 1
  by_cases h : hasB es u v = true
  · rw [if_pos h]; simp [h]
  · rw [if_neg h]; simp [h]
theorem nearTo_le (es : List Pair) (v : Int) (u : Nat) : (nearTo es v u).length ≤ u := by
  unfold nearTo
  rw [List.length_map]
  exact Nat.le_trans (List.length_filter_le _ _) (by simp)

/-- The slice value v holds the numbers l. -/
def IntsAt (w : World) (v : Value) (l : List Int) : Prop :=
  ∃ ao cap, v = .slice ao l.length cap ∧ l.length ≤ 17592186044416 ∧ (∀ x ∈ l, I64 x) ∧
    ∀ k (h : k < l.length), ∃ b off, ao = some ⟨b, off, none⟩ ∧ w.cell? ⟨b, off + k, none⟩ = some (.int .i64 l[k])

theorem IntsAt.below {w w' : World} {v : Value} {l : List Int} (h : IntsAt w v l) (hb : Below w.heap.size w w') : IntsAt w' v l := by
  obtain ⟨ao, cap, h1, h2, h3, h4⟩ := h
  refine ⟨ao, cap, h1, h2, h3, fun k hk => ?_⟩
  obtain ⟨b, off, e, c0⟩ := h4 k hk
  exact ⟨b, off, e, by rw [hb.cell (by exact World.block_lt_of_cell? w _ c0)]; exact c0⟩

theorem intsAt_nil (w : World) : IntsAt w (.slice none 0 0) [] := ⟨none, 0, rfl, by simp, by simp, fun k h => absurd h (by simp)⟩

theorem intsAt_row {w : World} {base : Nat} {v : Value} {l : List Int} (h : w.ownsRow base 3 1 v l.length (l.map (Value.int .i64))) (hI : ∀ x ∈ l, I64 x) (hl : l.length ≤ 17592186044416) : IntsAt w v l := by
  rcases h.2 with ⟨rfl, e⟩ | ⟨g, cap, cur, rfl, _⟩
  · exact ⟨none, 0, by rw [e], hl, hI, fun k hk => by omega⟩
  · refine ⟨_, cap, rfl, hl, hI, fun k hk => ⟨g, 0, rfl, ?_⟩⟩
    have := h.cells (g := g) rfl k (.int .i64 l[k]) (by simp [hk])
    rw [add_none] at this
    simpa using this

theorem IntsAt.setCell {w : World} {ao : Option Addr} {n cap : Nat} {l : List Int} (h : IntsAt w (.slice ao n cap) l) {p : Addr} (hp : ∀ x, ao = some x → x.block ≠ p.block) (u : Value) : IntsAt (w.setCell p u) (.slice ao n cap) l := by
  obtain ⟨ao', cap', e, h2, h3, h4⟩ := h
  cases e
  refine ⟨ao, cap, rfl, h2, h3, fun k hk => ?_⟩
  obtain ⟨b, off, e, c0⟩ := h4 k hk
  have hne : p.block ≠ b := fun e' => hp _ e e'.symm
  exact ⟨b, off, e, by rw [World.cell?_setCell_far _ _ _ _ hne]; exact c0⟩

theorem form_row {w : World} {base : Nat} {e : TypeId} {sz : Nat} {v : Value} {n : Nat} {xs : List Value} (h : w.ownsRow base e sz v n xs) : ∃ ao cap, v = .slice ao n cap := by
  rcases h.2 with ⟨rfl, e⟩ | ⟨g, cap, cur, rfl, _⟩
  · exact ⟨none, 0, by rw [e]⟩
  · exact ⟨_, cap, rfl⟩

structure NB (w wr : World) (m : Nat) (v0 : Value) (es : List Pair) (Bx : Nat) (v : Value) (l : List Int) : Prop where
  b0 : wr.heap[w.heap.size]? = some (.cells #[.int .i64 m, v0] 42 (0, 0))
  b1 : wr.heap[w.heap.size + 1]? = some (.cells #[.int .i64 0, .int .i64 0] 31 (0, 0))
  near : NearAt wr Bx es
  own : wr.ownsRow (w.heap.size + 2) 3 1 v l.length (l.map (Value.int .i64))
  below : Below w.heap.size w wr

theorem NB.step {w wr wr' : World} {m : Nat} {v0 : Value} {es : List Pair} {Bx : Nat} {v : Value} {l : List Int} (h : NB w wr m v0 es Bx v l) (hb : Below wr.heap.size wr wr') : NB w wr' m v0 es Bx v l := by
  refine ⟨(hb.block _ (lt_of_block h.b0)).trans h.b0, (hb.block _ (lt_of_block h.b1)).trans h.b1, h.near.below hb, ?_, below_next h.below hb⟩
  exact h.own.kept (row := none) ⟨hb.os, hb.tape, hb.output, hb.size, fun k hk _ => hb.block k hk⟩ (by cases v.ownBlock <;> simp)

theorem NearAt.grown {w w1 : World} {Bx : Nat} {es : List Pair} {row : Option Nat} (h : NearAt w Bx es) (hg : w.grownBy w1 row) {t : TypeId} (hr : ∀ g, row = some g → ∃ cur, w.heap[g]? = some (.cells cur t (0, 0))) (ht : t ≠ 62) : NearAt w1 Bx es := by
  obtain ⟨b, n, h1, h2⟩ := h
  refine ⟨b, n, ?_, h2.block ?_⟩
  · rw [hg.block Bx (lt_of_block h1) (fun e => ?_)]
    · exact h1
    · obtain ⟨c, hc⟩ := hr Bx e.symm
      rw [h1] at hc
      simp at hc
      exact ht hc.2.symm
  · refine hg.block b h2.lt (fun e => ?_)
    obtain ⟨c, hc⟩ := hr b e.symm
    obtain ⟨D, ⟨es', clock, h3, _⟩, _⟩ := h2
    rw [h3] at hc
    simp at hc

theorem row_block {w : World} {base : Nat} {e : TypeId} {sz : Nat} {v : Value} {n : Nat} {xs : List Value} (h : w.ownsRow base e sz v n xs) : ∀ g, v.ownBlock = some g → ∃ cur, w.heap[g]? = some (.cells cur e (0, 0)) := by
  intro g hg
  rcases h.2 with ⟨rfl, _⟩ | ⟨g', cap, cur, rfl, _, hh, _⟩
  · cases hg
  · cases hg; exact ⟨cur, hh⟩

theorem NB.push {w wr w1 : World} {m : Nat} {v0 : Value} {es : List Pair} {Bx : Nat} {v v' : Value} {l : List Int} {x : Int} (h : NB w wr m v0 es Bx v l) (hown : w1.ownsRow (w.heap.size + 2) 3 1 v' (l.length + 1) (l.map (Value.int .i64) ++ [.int .i64 x])) (hg : (wr.alloc (Obj.cells #[.int .i64 x] 3)).grownBy w1 v.ownBlock) : NB w w1 m v0 es Bx v' (l ++ [x]) := by
  have hn : ∀ k, v.ownBlock = some k → w.heap.size + 2 ≤ k := fun k hk => (h.own.lt k hk).1
  have l0 := lt_of_block h.b0
  have l1 := lt_of_block h.b1
  have q : ∀ j, j < w.heap.size + 2 → w1.heap[j]? = wr.heap[j]? := fun j hj => by
    rw [hg.block j (by simp; omega) (fun e => by have := hn j e.symm; omega), Below.heap_alloc _ _ _ (by omega)]
  refine ⟨(q _ (by omega)).trans h.b0, (q _ (by omega)).trans h.b1, ?_, ?_, ?_⟩
  · exact (h.near.below (below_alloc (Below.refl _ _) _)).grown hg (t := 3) (row_block (h.own.alloc _)) (by decide)
  · simpa using hown
  · exact (h.below.alloc h.below.size _).grown hg (by simp; omega) (fun k hk => by have := hn k hk; omega)

/-- What Near answers. -/
def nearS (n : Int) (es : List Pair) (v : Int) : List Int × Int × Int :=
  if (chk n es).1 = 0 then (if isN n v then (nearTo es v n.toNat, 0, 0) else ([], 3, 0)) else ([], (chk n es).1, (chk n es).2)

def NearTells (F : FuncId) (args : Array Value) (w : World) (a : List Int × Int × Int) : Prop :=
  Calls Try.prog F args w fun e w' => Below w.heap.size w w' ∧ ∃ ao cap, e = .returned (.tuple #[.slice ao a.1.length cap, .agg #[.int .i64 a.2.1, .int .i64 a.2.2]]) ∧ IntsAt w' (.slice ao a.1.length cap) a.1

end Go.Proofs.Ytfdlndljpmamgaa

namespace Go.Proofs.Ytfdlndljpmamgaa
open Go.RowKit Go.Maps
attribute [local go_sem ↓] Go.wp_at_zero Go.wp_at_succ

theorem ret_bool {a b : Bool} (h : a = b) : Ending.returned (.bool a) = .returned (.bool b) := by rw [h]

set_option maxHeartbeats 400000 in
theorem refF_any (a b : Int) (w : World) : Calls Try.prog 11 #[.int .i64 a, .int .i64 b] w fun e w' => e = .returned (.agg #[.int .i64 a, .int .i64 b]) ∧ Below w.heap.size w w' := by
  go_enter Try.func11, Try.ntmps11
  go_wp2
  refine bodyPost_ret (v := .agg #[.int .i64 a, .int .i64 b]) ?_ rfl ⟨rfl, below_alloc (Below.refl _ _) _⟩
  simp [results, Try.results11, go_sem]

structure HI (w wr : World) (n0 : Int) (ao : Option Addr) (len cap : Nat) : Prop where
  b0 : wr.heap[w.heap.size]? = some (.cells #[.int .i64 n0, .slice ao len cap] 42 (0, 0))
  below : Below w.heap.size w wr

theorem HI.step {w wr wr' : World} {n0 : Int} {ao : Option Addr} {len cap : Nat} (h : HI w wr n0 ao len cap) (hb : Below wr.heap.size wr wr') : HI w wr' n0 ao len cap :=
  ⟨(hb.block _ (lt_of_block h.b0)).trans h.b0, below_next h.below hb⟩

theorem has_take {es : List Pair} {k : Nat} {x y u v : Int} (hk : k < es.length) (hxy : es[k] = (x, y)) : hasB (es.take (k + 1)) u v = (hasB (es.take k) u v || ((x == u && y == v) || (x == v && y == u))) := by
  rw [List.take_succ_eq_append_getElem hk, hxy, hasB_snoc]

theorem has_of_take {es : List Pair} {k : Nat} {x y u v : Int} (hk : k < es.length) (hxy : es[k] = (x, y)) (h : ((x == u && y == v) || (x == v && y == u)) = true) : hasB es u v = true := by
  unfold hasB
  rw [List.any_eq_true]
  exact ⟨es[k], List.getElem_mem _, by rw [hxy]; exact h⟩

set_option maxHeartbeats 1000000 in
theorem refHas_any (n0 : Int) (v : Value) (es : List Pair) (a b : Int) (w : World) (hE : EdgesAt w v es) :
    Calls Try.prog 29 #[.agg #[.int .i64 n0, v], .int .i64 a, .int .i64 b] w fun e w' => e = .returned (.bool (hasB es a b)) ∧ Below w.heap.size w w' := by
  obtain ⟨ao, cap, rfl, hl2, hI, hcells⟩ := hE
  clear hI
  go_enter Try.func29, Try.ntmps29
  go_wp2
  go_loopw [7] (fun i wr => ∃ k : Nat, k ≤ es.length ∧ i = .int .i64 k ∧ HI w wr n0 ao es.length cap ∧ hasB (es.take k) a b = false) (fun i _ => es.length - (intOf i).toNat)
  case atStart => exact ⟨0, Nat.zero_le _, rfl, ⟨heap_alloc_new _ _, below_alloc (Below.refl _ _) _⟩, by simp [hasB]⟩
  case round =>
    obtain ⟨k, hk, rfl, hhi, hno⟩ := hrel
    have c1 := (cell_two hhi.b0).2
    by_cases hlt : k < es.length
    · obtain ⟨bb, off, rfl, cx, cy⟩ := hcells k hlt
      obtain ⟨x, y, hxy⟩ : ∃ x y, es[k] = (x, y) := ⟨es[k].1, es[k].2, rfl⟩
      rw [hxy] at cx cy
      have hb := World.block_lt_of_cell? w _ cx
      rw [← hhi.below.cell (by exact hb)] at cx cy
      have HXY : Hid _ := hxy
      have HNO : Hid _ := hno
      clear hxy hcells hno
      by_cases hyes : ((x == a && y == b) || (x == b && y == a)) = true
      · have hr : hasB es a b = true := has_of_take hlt HXY.out hyes
        have HR : Hid _ := hr
        clear hr
        by_cases e1 : (x == a) = true
        · by_cases e2 : (y == b) = true
          · go_wp2
            go_ret
            exact ⟨ret_bool (Hid.out HR).symm, below_alloc hhi.below _⟩
          · have e2' : (y == b) = false := by simpa using e2
            have e3 : (x == b) = true := by revert hyes; simp [e1, e2']; intro h _; exact h
            have e4 : (y == a) = true := by revert hyes; simp [e1, e2']
            go_wp2
            go_ret
            exact ⟨ret_bool (Hid.out HR).symm, below_alloc hhi.below _⟩
        · have e1' : (x == a) = false := by simpa using e1
          have e3 : (x == b) = true := by revert hyes; simp [e1']; intro h _; exact h
          have e4 : (y == a) = true := by revert hyes; simp [e1']
          go_wp2
          go_ret
          exact ⟨ret_bool (Hid.out HR).symm, below_alloc hhi.below _⟩
      · have hno' : hasB (es.take (k + 1)) a b = false := by rw [has_take hlt HXY.out, HNO.out]; simpa using hyes
        have HNO' : Hid _ := hno'
        clear hno'
        by_cases e1 : (x == a) = true
        · have e2 : (y == b) = false := by revert hyes; simp [e1]; intro h _; exact h
          by_cases e3 : (x == b) = true
          · have e4 : (y == a) = false := by revert hyes; simp [e1, e2, e3]
            go_wp2
            go_roundw
            case rel => exact ⟨k + 1, by omega, by go_num, hhi.step (below_alloc (Below.refl _ _) _), HNO'.out⟩
            case measure => simp [intOf]; omega
          · have e3' : (x == b) = false := by simpa using e3
            go_wp2
            go_roundw
            case rel => exact ⟨k + 1, by omega, by go_num, hhi.step (below_alloc (Below.refl _ _) _), HNO'.out⟩
            case measure => simp [intOf]; omega
        · have e1' : (x == a) = false := by simpa using e1
          by_cases e3 : (x == b) = true
          · have e4 : (y == a) = false := by revert hyes; simp [e1', e3]
            go_wp2
            go_roundw
            case rel => exact ⟨k + 1, by omega, by go_num, hhi.step (below_alloc (Below.refl _ _) _), HNO'.out⟩
            case measure => simp [intOf]; omega
          · have e3' : (x == b) = false := by simpa using e3
            go_wp2
            go_roundw
            case rel => exact ⟨k + 1, by omega, by go_num, hhi.step (below_alloc (Below.refl _ _) _), HNO'.out⟩
            case measure => simp [intOf]; omega
    · have hke : k = es.length := by omega
      subst hke
      rw [List.take_length] at hno
      have HR : Hid _ := hno
      clear hno
      go_wp2
      go_ret
      exact ⟨ret_bool (Hid.out HR).symm, hhi.below⟩

/-- The edges of a part of a list. -/
theorem EdgesAt.take {w : World} {ao : Option Addr} {n cap : Nat} {es : List Pair} (h : EdgesAt w (.slice ao n cap) es) (k : Nat) (hk : k ≤ es.length) (c : Nat) : EdgesAt w (.slice ao k c) (es.take k) := by
  obtain ⟨ao', cap', e, h2, h3, h4⟩ := h
  cases e
  have hl : (es.take k).length = k := by simp; omega
  refine ⟨ao, c, by rw [hl], by omega, fun e he => h3 e (List.mem_of_mem_take he), fun j hj => ?_⟩
  obtain ⟨b, off, e, c0, c1⟩ := h4 j (by omega)
  exact ⟨b, off, e, by simpa using c0, by simpa using c1⟩

structure RC (w wr : World) (n : Int) (ao : Option Addr) (cap : Nat) (es : List Pair) (k : Nat) : Prop where
  b0 : wr.heap[w.heap.size]? = some (.cells #[.int .i64 n, .slice ao es.length cap] 42 (0, 0))
  b1 : wr.heap[w.heap.size + 1]? = some (.cells #[.int .i64 0, .int .i64 0] 31 (0, 0))
  below : Below w.heap.size w wr
  hc : chkFrom n [] es = chkFrom n (es.take k) (es.drop k)

theorem RC.step {w wr wr' : World} {n : Int} {ao : Option Addr} {cap : Nat} {es : List Pair} {k : Nat} (h : RC w wr n ao cap es k) (hb : Below wr.heap.size wr wr') : RC w wr' n ao cap es k :=
  ⟨(hb.block _ (lt_of_block h.b0)).trans h.b0, (hb.block _ (lt_of_block h.b1)).trans h.b1, below_next h.below hb, h.hc⟩
theorem RC.next {w wr : World} {n : Int} {ao : Option Addr} {cap : Nat} {es : List Pair} {k : Nat} (h : RC w wr n ao cap es k) {x y : Int} (hk : k < es.length) (hxy : es[k] = (x, y)) (hb : bad n (es.take k) (x, y) = 0) : RC w wr n ao cap es (k + 1) :=
  ⟨h.b0, h.b1, h.below, by rw [h.hc, chk_step hk, hxy, if_pos hb]⟩
theorem RC.fault {w wr : World} {n : Int} {ao : Option Addr} {cap : Nat} {es : List Pair} {k : Nat} (h : RC w wr n ao cap es k) {x y : Int} (hk : k < es.length) (hxy : es[k] = (x, y)) {c : Int} (hc : c ≠ 0) (hb : bad n (es.take k) (x, y) = c) : chkFrom n [] es = (c, (k : Int)) := by
  rw [h.hc, chk_step hk, hxy, hb, if_neg hc]

theorem rc_keep {w wr : World} {n : Int} {ao : Option Addr} {cap : Nat} {es : List Pair} {k : Nat} (h : RC w wr n ao cap es k) {x y : Int} {w' : World} (hb : Below (wr.alloc (.cells #[.int .i64 x, .int .i64 y] 59)).heap.size (wr.alloc (.cells #[.int .i64 x, .int .i64 y] 59)) w') :
    Below (wr.alloc (.cells #[.int .i64 x, .int .i64 y] 59)).heap.size (wr.alloc (.cells #[.int .i64 x, .int .i64 y] 59)) w' ∧ w'.cell? ⟨w.heap.size, 1, none⟩ = some (.slice ao es.length cap) ∧ w'.cell? ⟨wr.heap.size, 0, none⟩ = some (.int .i64 x) ∧ w'.cell? ⟨wr.heap.size, 1, none⟩ = some (.int .i64 y) := by
  have hl := lt_of_block h.b0
  refine ⟨hb, ?_, ?_, ?_⟩
  · rw [hb.cell (by simp; omega)]; exact all_alloc (cell_two h.b0).2 _
  · rw [hb.cell (by simp)]; exact (cell_two (heap_alloc_new wr _)).1
  · rw [hb.cell (by simp)]; exact (cell_two (heap_alloc_new wr _)).2

theorem ret_fault {p : Int × Int} {c d : Int} (h : p = (c, d)) : Ending.returned (.agg #[.int .i64 c, .int .i64 d]) = .returned (.agg #[.int .i64 p.1, .int .i64 p.2]) := by rw [h]

end Go.Proofs.Ytfdlndljpmamgaa
