/- The document's graph of a table. The document's Own: a copy of the graph. The document's Same and Ints, where both sides are the same. A graph that came in, opened: its edges lie in memory as a list. The document's Check. Parts of the walk of GraphChecks. -/
import Derived.Test.YtekokjechbibdaaDoorGrid
import Derived.Test.YtekokjechbibdaaDoorSeen
import Derived.Deep.AppendLies
import Derived.DeepKeys
import Derived.ProofKit
import Derived.OpenShut
import Derived.ShutString
import Derived.ChangeOld
import Derived.SizedLaws
import Derived.Lib.SmallJoins
import Derived.Deep.Slices
import Derived.Deep.Light
namespace Go.Proofs.YtekokjechbibdaaDoor
open Go.RowKit Go.Maps

theorem rowTo_le (p : Int → Int → Bool) (u v : Nat) : (rowTo p u v).length ≤ v := by
  unfold rowTo
  rw [List.length_map]
  exact Nat.le_trans (List.length_filter_le _ _) (by simp)
theorem rowsTo_le (n : Nat) (p : Int → Int → Bool) : ∀ u, (rowsTo n p u).length ≤ u * n
  | 0 => by simp [rowsTo]
  | u + 1 => by
    rw [rowsTo_succ, List.length_append, Nat.succ_mul]
    have := rowsTo_le n p u
    have := rowTo_le p u n
    omega

structure OI (w wr : World) (m : Nat) (v : Value) (L : List Pair) : Prop where
  b0 : wr.heap[w.heap.size]? = some (.cells #[.int .i64 0, .slice none 0 0] 24 (0, 0))
  b1 : wr.heap[w.heap.size + 1]? = some (.cells #[.int .i64 m, v] 24 (0, 0))
  own : wr.ownsRow (w.heap.size + 2) 49 2 v L.length (flat L)
  below : Below w.heap.size w wr

theorem OI.push {w wr w1 : World} {m : Nat} {v v' : Value} {L : List Pair} {x y : Int} (h : OI w wr m v L) (hown : w1.ownsRow (w.heap.size + 2) 49 2 v' (L.length + 1) (flat L ++ [.int .i64 x, .int .i64 y])) (hg : (wr.alloc (Obj.cells #[.int .i64 x, .int .i64 y] 49)).grownBy w1 v.ownBlock) :
    w1.heap[w.heap.size + 1]? = some (.cells #[.int .i64 m, v] 24 (0, 0)) ∧ OI w (w1.setCell ⟨w.heap.size + 1, 1, none⟩ v') m v' (L ++ [(x, y)]) := by
  have hn : ∀ k, v.ownBlock = some k → w.heap.size + 2 ≤ k := fun k hk => (h.own.lt k hk).1
  have l0 := lt_of_block h.b0
  have l1 := lt_of_block h.b1
  have q : ∀ j, j < w.heap.size + 2 → w1.heap[j]? = wr.heap[j]? := fun j hj => by
    rw [hg.block j (by simp; omega) (fun e => by have := hn j e.symm; omega), Below.heap_alloc _ _ _ (by omega)]
  have hb1 := (q (w.heap.size + 1) (by omega)).trans h.b1
  refine ⟨hb1, ?_, ?_, ?_, ?_⟩
  · rw [Below.heap_setCell _ _ _ _ (by simp), q _ (by omega)]; exact h.b0
  · simp [World.setCell, Array.getElem?_modify, hb1]
  · have := ownsRow_setCell_below (a := ⟨w.heap.size + 1, 1, none⟩) hown (by simp) v'
    rw [flat_snoc]; simpa using this
  · exact ((h.below.alloc h.below.size _).grown hg (by simp; omega) (fun k hk => by have := hn k hk; omega)).setCell (by simp) _

end Go.Proofs.YtekokjechbibdaaDoor

namespace Go.Proofs.YtekokjechbibdaaDoor
open Go.RowKit Go.Maps
attribute [local go_sem ↓] Go.wp_at_zero Go.wp_at_succ

set_option maxHeartbeats 400000 in
theorem own_nil (n : Int) (ao : Option Addr) (cap : Nat) (w : World) :
    Calls Tryd.prog 6 #[.agg #[.int .i64 n, .slice ao 0 cap]] w fun e w' => e = .returned (.agg #[.int .i64 n, .slice none 0 0]) ∧ Below w.heap.size w w' := by
  go_enter Tryd.func6, Tryd.ntmps6
  go_wp2_with fail
  cases ao with
  | none =>
    go_region
    all_goals
      go_wp2
      refine bodyPost_ret (v := .agg #[.int .i64 n, .slice none 0 0]) ?_ rfl ⟨rfl, (below2 _ _).drew⟩
      simp [results, Tryd.results6, go_sem]
  | some a =>
    go_region
    all_goals
      go_wp2
      refine bodyPost_ret (v := .agg #[.int .i64 n, .slice none 0 0]) ?_ rfl ⟨rfl, (below2 _ _).drew⟩
      simp [results, Tryd.results6, go_sem]

theorem flat_one (L : List Pair) : ∀ u ∈ flat L, u.oneCell' = true := by
  intro u hu
  simp only [flat, List.mem_flatMap] at hu
  obtain ⟨e, _, he⟩ := hu
  simp at he
  rcases he with rfl | rfl <;> rfl

theorem flat_inv (L : List Pair) : ∀ j u, (flat L)[j]? = some u → ∃ k, ∃ h : k < L.length, (j = k * 2 ∧ u = .int .i64 L[k].1) ∨ (j = k * 2 + 1 ∧ u = .int .i64 L[k].2) := by
  intro j u hj
  have hl : j < (flat L).length := (List.getElem?_eq_some_iff.1 hj).1
  rw [flat_length] at hl
  have hk : j / 2 < L.length := by omega
  obtain ⟨g1, g2⟩ := flat_get L (j / 2) hk
  refine ⟨j / 2, hk, ?_⟩
  by_cases h : j % 2 = 0
  · left
    have e : j = j / 2 * 2 := by omega
    refine ⟨e, ?_⟩
    rw [← e, hj] at g1
    exact Option.some.inj g1
  · right
    have e : j = j / 2 * 2 + 1 := by omega
    refine ⟨e, ?_⟩
    rw [← e, hj] at g2
    exact Option.some.inj g2

theorem edges_news {w : World} {ad : Addr} {n cap : Nat} {es : List Pair} (hE : EdgesAt w (.slice (some ad) n cap) es) : ∀ j u, (flat es)[j]? = some u → w.cell? (ad.add j) = some u := by
  obtain ⟨ao', cap', e, _, _, hc⟩ := hE
  cases e
  intro j u hj
  obtain ⟨k, hk, ⟨rfl, rfl⟩ | ⟨rfl, rfl⟩⟩ := flat_inv es j u hj
  · obtain ⟨b, off, e, c0, _⟩ := hc k hk
    cases e
    rw [show (⟨b, off, none⟩ : Addr).add (k * 2) = ⟨b, off + k * 2, none⟩ from by unfold Addr.add; split <;> simp_all]
    exact c0
  · obtain ⟨b, off, e, _, c1⟩ := hc k hk
    cases e
    rw [show (⟨b, off, none⟩ : Addr).add (k * 2 + 1) = ⟨b, off + k * 2 + 1, none⟩ from by unfold Addr.add; split <;> simp_all [Nat.add_assoc]]
    exact c1

theorem own_kept {w w1 : World} {x y x' y' : Value} {t t' : TypeId} (hg : (((w.alloc (Obj.cells #[x, y] t)).alloc (Obj.cells #[x', y'] t')).drew).grownBy w1 none) :
    (w1.cell? ⟨w.heap.size, 0, none⟩ = some x ∧ w1.cell? ⟨w.heap.size, 1, none⟩ = some y) ∧ w1.heap[w.heap.size + 1]? = some (.cells #[x', y'] t' (0, 0)) := by
  have h0 : w1.heap[w.heap.size]? = some (.cells #[x, y] t (0, 0)) := by
    rw [hg.block _ (by show _ < ((w.alloc _).alloc _).heap.size; simp; omega) (by simp)]
    show ((w.alloc _).alloc _).heap[w.heap.size]? = _
    rw [Below.heap_alloc _ _ _ (by simp)]; exact heap_alloc_new _ _
  refine ⟨cell_two h0, ?_⟩
  rw [hg.block _ (by show _ < ((w.alloc _).alloc _).heap.size; simp) (by simp)]
  show ((w.alloc _).alloc _).heap[w.heap.size + 1]? = _
  simpa using heap_alloc_new (w.alloc (Obj.cells #[x, y] t)) (Obj.cells #[x', y'] t')

theorem below_grown {W w1 : World} (hg : W.grownBy w1 none) : Below W.heap.size W w1 := ⟨hg.os, hg.tape, hg.output, hg.size, fun k hk => hg.block k hk (by simp)⟩

set_option maxHeartbeats 1000000 in
theorem own_some (n : Int) (ad : Addr) (cap : Nat) (es : List Pair) (w : World) (hE : EdgesAt w (.slice (some ad) es.length cap) es) (hpos : 0 < es.length) :
    Calls Tryd.prog 6 #[.agg #[.int .i64 n, .slice (some ad) es.length cap]] w fun e w' => Below w.heap.size w w' ∧ ∃ ao c, e = .returned (.agg #[.int .i64 n, .slice ao es.length c]) ∧ EdgesAt w' (.slice ao es.length c) es ∧ es.length ≤ c := by
  obtain ⟨i0, hi, hz0, hz1, hz2⟩ := info_parts Tryd.info49
  have hlen : es.length ≤ 8796093022208 := by obtain ⟨_, _, _, h, _⟩ := hE; exact h
  have hI : ∀ e ∈ es, I64 e.1 ∧ I64 e.2 := by obtain ⟨_, _, _, _, h, _⟩ := hE; exact h
  have HI : Hid _ := hI
  clear hI
  go_enter Tryd.func6, Tryd.ntmps6
  go_wp2_with fail
  go_region_held3 (fun w' => w'.cell? ⟨w.heap.size, 0, none⟩ = some (.int .i64 n) ∧ w'.cell? ⟨w.heap.size, 1, none⟩ = some (.slice (some ad) es.length cap))
    (first | exact (own_kept hgrow).1 | go_keep)
    ((refine step_append_lies _ (by rfl) _ _ _ (by rfl) (w.heap.size + 2) 49 i0 _ 2 16 Tryd.underlying22 hi hz0 hz1 hz2 rfl (by omega) (.slice none 0 0) 0 [] (by rfl) (World.ownsRow_nil _ _ _ _) ad es.length cap (flat es) (by rfl) (flat_length es) (edges_news (hE.below (below2 _ _).drew)) (flat_one es) hpos (by unfold maxLen; omega) (by omega) (by simp) (w.heap.size + 2) (by simp) ?_; intro g c w1 hown hgrow hat hlt; have e0 := (cell_two (own_kept hgrow).2).1; have e1 := (cell_two (own_kept hgrow).2).2; have g0 := free_two (own_kept hgrow).2))
  all_goals
    go_split_ands
    go_wp2
    have hE1 := edgesAt_row (base := w.heap.size + 2) (L := es) (by simpa using hown) HI.out hlen
    have hcap : es.length ≤ c := by
      rcases hown.2 with ⟨h, _⟩ | ⟨_, _, _, h, _, _, hle, _⟩
      · cases h
      · cases h; simpa using hle
    have hgb : w.heap.size + 1 < g := by
      have := (hown.lt g rfl).1
      omega
    refine bodyPost_ret (v := .agg #[.int .i64 n, .slice (some ⟨g, 0, none⟩) es.length c]) ?_ rfl ⟨?_, some ⟨g, 0, none⟩, c, rfl, ?_, hcap⟩
    · simp [results, Tryd.results6, go_sem, e0, e1]
    · exact ((below_next (below2 _ _).drew (below_grown hgrow)).setCell (by simp) _).setCell (by simp) _
    · exact (hE1.setCell (fun x hx => by cases hx; simp; omega) _).setCell (fun x hx => by cases hx; simp; omega) _

theorem own_any (n : Int) (ao : Option Addr) (cap : Nat) (es : List Pair) (w : World) (hE : EdgesAt w (.slice ao es.length cap) es) :
    Calls Tryd.prog 6 #[.agg #[.int .i64 n, .slice ao es.length cap]] w fun e w' => Below w.heap.size w w' ∧ ∃ ao c, e = .returned (.agg #[.int .i64 n, .slice ao es.length c]) ∧ EdgesAt w' (.slice ao es.length c) es ∧ es.length ≤ c := by
  cases es with
  | nil =>
    refine (own_nil n ao cap w).mono ?_
    rintro e w' ⟨rfl, hb⟩
    exact ⟨hb, none, 0, rfl, edgesAt_nil _, Nat.le_refl _⟩
  | cons e r =>
    cases ao with
    | none =>
      obtain ⟨ao', cap', e', _, _, h⟩ := hE
      cases e'
      obtain ⟨b, off, h', _⟩ := h 0 (by simp)
      cases h'
    | some ad => exact own_some n ad cap (e :: r) w hE (by simp)

end Go.Proofs.YtekokjechbibdaaDoor

namespace Go.Proofs.YtekokjechbibdaaDoor
open Go.RowKit Go.Maps
attribute [local go_sem ↓] Go.wp_at_zero Go.wp_at_succ

theorem equal49 {x y : Int} (hx : I64 x) (hy : I64 y) (w : World) : (Op.equal 49 (.agg #[.int .i64 x, .int .i64 y]) (.agg #[.int .i64 x, .int .i64 y])).run Tryd.prog w = .ok true w := by
  obtain ⟨r, h1, h2⟩ := run_equal_deep (P := Tryd.prog) w (m := Tryd.prog.types.size + 1) (of_decide_eq_true (by kernel_rfl)) (k := 49) (by kernel_rfl) (by kernel_rfl) (key_mk hx hy) (key_mk hx hy)
  rw [h2.2 rfl] at h1
  exact h1
theorem neq49 {x y : Int} (hx : I64 x) (hy : I64 y) (w : World) : (binOp .neq 49 (.agg #[.int .i64 x, .int .i64 y]) (.agg #[.int .i64 x, .int .i64 y])).run Tryd.prog w = .ok (.bool false) w := by
  simp only [binOp]
  simp [equal49 hx hy w, Result.andThen]

structure TwoB (w wr : World) (x y x' y' : Value) : Prop where
  b0 : wr.heap[w.heap.size]? = some (.cells #[x, y] 24 (0, 0))
  b1 : wr.heap[w.heap.size + 1]? = some (.cells #[x', y'] 24 (0, 0))
  below : Below w.heap.size w wr

theorem TwoB.start (w : World) (x y x' y' : Value) : TwoB w ((w.alloc (Obj.cells #[x, y] 24)).alloc (Obj.cells #[x', y'] 24)) x y x' y' :=
  ⟨by rw [Below.heap_alloc _ _ _ (by simp)]; exact heap_alloc_new _ _, by simpa using heap_alloc_new (w.alloc (Obj.cells #[x, y] 24)) (Obj.cells #[x', y'] 24), below2 _ _⟩
theorem TwoB.drewN {w wr : World} {x y x' y' : Value} (h : TwoB w wr x y x' y') (n : Nat) : TwoB w (wr.drewN n) x y x' y' :=
  ⟨h.b0, h.b1, below_drewN h.below n⟩

set_option maxHeartbeats 1000000 in
theorem same_true (n : Int) (va vb : Value) (es : List Pair) (w : World) (hA : EdgesAt w va es) (hB : EdgesAt w vb es) :
    Calls Tryd.prog 28 #[.agg #[.int .i64 n, va], .agg #[.int .i64 n, vb]] w fun e w' => e = .returned (.bool true) ∧ Below w.heap.size w w' := by
  obtain ⟨ao, cap, rfl, hl2, hI, hcells⟩ := hA
  obtain ⟨bo, bcap, rfl, _, _, hcells2⟩ := hB
  have hnn : (n != n) = false := by simp
  have hll : ((es.length : Int) != (es.length : Int)) = false := by simp
  go_enter Tryd.func28, Tryd.ntmps28
  go_wp2
  go_loopw [5] (fun i wr => ∃ k : Nat, k ≤ es.length ∧ i = .int .i64 k ∧ TwoB w wr (.int .i64 n) (.slice ao es.length cap) (.int .i64 n) (.slice bo es.length bcap)) (fun i _ => es.length - (intOf i).toNat)
  case atStart => exact ⟨0, Nat.zero_le _, rfl, TwoB.start _ _ _ _ _⟩
  case round =>
    obtain ⟨k, hk, rfl, ht⟩ := hrel
    have c0 := (cell_two ht.b0).2
    have c1 := (cell_two ht.b1).2
    by_cases hlt : k < es.length
    · obtain ⟨b, off, rfl, cx, cy⟩ := hcells k hlt
      obtain ⟨b', off', rfl, cx', cy'⟩ := hcells2 k hlt
      obtain ⟨x, y, hxy⟩ : ∃ x y, es[k] = (x, y) := ⟨es[k].1, es[k].2, rfl⟩
      rw [hxy] at cx cy cx' cy'
      have hb := World.block_lt_of_cell? w _ cx
      have hb' := World.block_lt_of_cell? w _ cx'
      rw [← ht.below.cell (by exact hb)] at cx cy
      rw [← ht.below.cell (by exact hb')] at cx' cy'
      have hne := fun w' => neq49 (x := x) (y := y) (by have := (hI es[k] (List.getElem_mem _)).1; rw [hxy] at this; exact this) (by have := (hI es[k] (List.getElem_mem _)).2; rw [hxy] at this; exact this) w'
      clear hxy hcells hcells2
      have hk1 : (0 : Int) ≤ (k : Int) := by omega
      have hk2 : (k : Int) < (es.length : Int) := by omega
      go_wp2
      go_quiet (fail)
      go_wp2
      go_roundw
      case rel => exact ⟨k + 1, by omega, by go_num, ht.drewN _⟩
      case measure => simp [intOf]; omega
    · have hke : k = es.length := by omega
      subst hke
      go_wp2
      go_ret
      exact ⟨rfl, ht.below⟩


set_option maxHeartbeats 400000 in
theorem kept_true (n : Int) (va vb : Value) (es : List Pair) (w : World) (hA : EdgesAt w va es) (hB : EdgesAt w vb es) :
    Calls Tryd.prog 10 #[.agg #[.int .i64 n, va], .agg #[.int .i64 n, vb]] w fun e w' => e = .returned (.bool true) ∧ Below w.heap.size w w' := by
  go_enter Tryd.func10, Tryd.ntmps10
  go_wp2_with (go_at_call 28; refine (same_true n va vb es _ ?_ ?_).mono ?_; exact hA.below (below2 _ _); exact hB.below (below2 _ _); rintro e w1 ⟨rfl, hb⟩)
  go_ret
  exact ⟨rfl, below_next (below2 _ _) hb⟩

end Go.Proofs.YtekokjechbibdaaDoor

namespace Go.Proofs.YtekokjechbibdaaDoor
open Go.ChangeShapes Go.WideShapes Go.ChangeAt Go.RowKit Go.Joins Go.Deep

theorem Tryd.own : ownKnob Tryd.prog.godebug = none := by kernel_rfl
theorem Tryd.cells24 : Tryd.prog.cellsOf 24 = 2 := by kernel_rfl
theorem Tryd.bytes49 : Tryd.prog.bytesOf 49 = 16 := by kernel_rfl

theorem I64.of_wf {n : Int} (h : (Lit.int .i64 n).wf = true) : I64 n := by
  have := bounds_i64 h
  exact ⟨this.1, this.2⟩

section
variable {H : Type} {enc : TypeId × Value → H} {W : World} {sp : Nat → Bool} {held : Bool}

set_option maxRecDepth 100000 in
/-- Two numbers that were read as an array. -/
theorem open_pair {fuel : Nat} {cs : List Value} {x : DataW H × List MemPlace} (h : DataW.trod enc Tryd.prog W 0 sp held fuel 49 cs = some x) :
    ∃ a b : Int, cs = [.int .i64 a, .int .i64 b] ∧ I64 a ∧ I64 b := by
  obtain ⟨xs, m, rfl, _, hlen, hxl, hx⟩ := DataW.trod_array Tryd.underlying49 h
  rw [Tryd.cells49] at hlen
  rw [Tryd.cells3] at hx
  match cs, hlen with
  | [c0, c1], _ =>
    have h0 := hx 0 (by omega)
    have h1 := hx 1 (by omega)
    simp at h0 h1
    rw [List.getElem?_eq_getElem (by omega)] at h0 h1
    obtain ⟨a, e0, _, wa⟩ := DataW.trod_int Tryd.underlying3 h0
    obtain ⟨b, e1, _, wb⟩ := DataW.trod_int Tryd.underlying3 h1
    simp at e0 e1
    subst e0 e1
    exact ⟨a, b, rfl, I64.of_wf wa, I64.of_wf wb⟩

set_option maxRecDepth 100000 in
/-- A graph that came in. -/
theorem open_graph {r : Reach} {b0 : Nat} {v : Value} {d : DataW H} {p : List MemPlace} (hv : Value.okWide Tryd.prog W r b0 24 v) (h : DataW.Trod enc Tryd.prog W 0 sp held 24 v d p) (hw : ∀ k ∈ d.weights Tryd.prog 24, k ≤ reachBytes) :
    ∃ (n : Int) (ao : Option Addr) (cap : Nat) (es : List Pair), v = .agg #[.int .i64 n, .slice ao es.length cap] ∧ I64 n ∧ es.length ≤ cap ∧ EdgesAt W (.slice ao es.length cap) es := by
  obtain ⟨c0, c1, y0, y1, m, rfl, rfl, rfl, hy0, hy1⟩ := open_agg2 Tryd.underlying24 (by kernel_rfl) Tryd.cells24 hv h
  obtain ⟨n, e0, hn, wn⟩ := DataW.trod_int Tryd.underlying3 hy0
  simp at e0
  subst e0
  refine ⟨n, ?_⟩
  rcases open_slice Tryd.underlying22 hy1 with ⟨e1, hx⟩ | ⟨a, len, cap, m', nn, D, Pl, e1, _, hlc, hcm, hm', hx, hel⟩
  · simp at e1
    subst e1
    exact ⟨none, 0, [], rfl, I64.of_wf wn, Nat.le_refl _, edgesAt_nil _⟩
  · simp at e1
    subst e1
    have hml : len ≤ m' := by rw [hm']; split <;> omega
    rw [Tryd.cells49] at hel
    obtain ⟨X, hX⟩ := choose_lt (α := Int × Int) (n := len) (p := fun i q => W.cell? (a.add (i * 2)) = some (.int .i64 q.1) ∧ W.cell? (a.add (i * 2 + 1)) = some (.int .i64 q.2) ∧ I64 q.1 ∧ I64 q.2) (fun i hi => by
      obtain ⟨cs, h1, h2⟩ := hel i (by omega)
      obtain ⟨x, y, rfl, ix, iy⟩ := open_pair h2
      obtain ⟨_, _, hc⟩ := World.cells?_some h1
      have q0 := hc 0 (by omega)
      have q1 := hc 1 (by omega)
      rw [Deep.add_add] at q0 q1
      exact ⟨(x, y), by simpa using q0, by simpa using q1, ix, iy⟩)
    have hlen : len ≤ 8796093022208 := by
      have := hw ((len + (m' - len)) * Tryd.prog.bytesOf 49) (by
        rw [hx]
        simp [DataW.weights, DataW.weightsEach, Tryd.underlying24, Tryd.underlying22])
      rw [Tryd.bytes49] at this
      simp only [reachBytes] at this
      omega
    have hl : ((List.range len).map X).length = len := by simp
    refine ⟨some a, cap, (List.range len).map X, by rw [hl], I64.of_wf wn, by omega, some a, cap, by rw [hl], by rw [hl]; exact hlen, ?_, ?_⟩
    · intro e he
      simp at he
      obtain ⟨i, hi, rfl⟩ := he
      exact (hX i hi).2.2
    · intro k hk
      rw [hl] at hk
      obtain ⟨g0, g1, _⟩ := hX k hk
      have hs := World.cell?_spot (hX 0 (by omega)).1
      obtain ⟨b, off, spot⟩ := a
      have hspot : spot = none := by simpa [Addr.add] using hs
      subst hspot
      refine ⟨b, off, rfl, ?_, ?_⟩
      · have e : (⟨b, off, none⟩ : Addr).add (k * 2) = ⟨b, off + k * 2, none⟩ := by unfold Addr.add; split <;> simp_all
        rw [e] at g0
        simpa using g0
      · have e : (⟨b, off, none⟩ : Addr).add (k * 2 + 1) = ⟨b, off + k * 2 + 1, none⟩ := by unfold Addr.add; split <;> simp_all [Nat.add_assoc]
        rw [e] at g1
        simpa using g1
end
end Go.Proofs.YtekokjechbibdaaDoor

namespace Go.Proofs.YtekokjechbibdaaDoor
open Go.RowKit Go.Maps
attribute [local go_sem ↓] Go.wp_at_zero Go.wp_at_succ

set_option maxHeartbeats 2000000 in
theorem refCheck_go (n : Int) (ao : Option Addr) (cap : Nat) (es : List Pair) (w : World) (hE : EdgesAt w (.slice ao es.length cap) es) (hcap : es.length ≤ cap) (hn0 : 0 ≤ n) (hn1 : n ≤ 100) (hl : es.length ≤ 1000) :
    Calls Tryd.prog 7 #[.agg #[.int .i64 n, .slice ao es.length cap]] w fun e w' => e = .returned (.agg #[.int .i64 (chkFrom n [] es).1, .int .i64 (chkFrom n [] es).2]) ∧ Below w.heap.size w w' := by
  have hE0 := hE
  obtain ⟨ao', cap', e, hl2, hI, hcells⟩ := hE
  cases e
  have hl3 : ¬ (1000 : Int) < (es.length : Int) := by omega
  have hn2 : ¬ n < 0 := by omega
  have hn3 : ¬ 100 < n := by omega
  have HE : Hid _ := hE0
  clear hE0 hI
  go_enter Tryd.func7, Tryd.ntmps7
  go_wp2
  go_loopw [3] (fun i wr => ∃ k : Nat, k ≤ es.length ∧ i = .int .i64 k ∧ RC w wr n ao cap es k) (fun i _ => es.length - (intOf i).toNat)
  case atStart =>
    refine ⟨0, Nat.zero_le _, rfl, ?_, ?_, below2 _ _, rfl⟩
    · rw [Below.heap_alloc _ _ _ (by simp)]; exact heap_alloc_new _ _
    · simpa using heap_alloc_new (w.alloc (Obj.cells #[.int .i64 n, .slice ao es.length cap] 24)) (Obj.cells #[.int .i64 0, .int .i64 0] 27)
  case round =>
    obtain ⟨k, hk, rfl, hrc⟩ := hrel
    by_cases hlt : k < es.length
    · have c00 := (cell_two hrc.b0).2
      have c0 := all_alloc (cell_two hrc.b0).1
      have c01 := all_alloc (cell_two hrc.b0).2
      have c10 := all_alloc (cell_two hrc.b1).1
      have c11 := all_alloc (cell_two hrc.b1).2
      have f10 := all_free (a := ⟨w.heap.size + 1, 0, none⟩) (lt_of_block hrc.b1) (free_two hrc.b1 0)
      have f11 := all_free (a := ⟨w.heap.size + 1, 1, none⟩) (lt_of_block hrc.b1) (free_two hrc.b1 1)
      obtain ⟨b, off, rfl, cx, cy⟩ := hcells k hlt
      obtain ⟨x, y, hxy⟩ : ∃ x y, es[k] = (x, y) := ⟨es[k].1, es[k].2, rfl⟩
      rw [hxy] at cx cy
      have hb := World.block_lt_of_cell? w _ cx
      rw [← hrc.below.cell (by exact hb)] at cx cy
      have HXY : Hid _ := hxy
      clear hxy hcells
      by_cases h1 : x < 0
      · go_wp2_with (go_at_call 17; refine (refF_any _ _ _).mono ?_; rintro e w2 ⟨rfl, hb2⟩; have hrc2 := hrc.step (below_next (below_alloc (Below.refl _ _) _) hb2); have d10 := (cell_two hrc2.b1).1; have d11 := (cell_two hrc2.b1).2; have g10 := free_two hrc2.b1)
        refine bodyPost_ret (v := .agg #[.int .i64 3, .int .i64 k]) ?_ rfl ⟨ret_fault (hrc.fault hlt HXY.out (by decide) (bad_range (by omega))), (hrc2.below.setCell (by simp) _).setCell (by simp) _⟩
        simp [results, Tryd.results7, go_sem, d10, d11]
      · by_cases h2 : y < 0
        · go_wp2_with (go_at_call 17; refine (refF_any _ _ _).mono ?_; rintro e w2 ⟨rfl, hb2⟩; have hrc2 := hrc.step (below_next (below_alloc (Below.refl _ _) _) hb2); have d10 := (cell_two hrc2.b1).1; have d11 := (cell_two hrc2.b1).2; have g10 := free_two hrc2.b1)
          refine bodyPost_ret (v := .agg #[.int .i64 3, .int .i64 k]) ?_ rfl ⟨ret_fault (hrc.fault hlt HXY.out (by decide) (bad_range (by omega))), (hrc2.below.setCell (by simp) _).setCell (by simp) _⟩
          simp [results, Tryd.results7, go_sem, d10, d11]
        · by_cases h3 : n ≤ x
          · go_wp2_with (go_at_call 17; refine (refF_any _ _ _).mono ?_; rintro e w2 ⟨rfl, hb2⟩; have hrc2 := hrc.step (below_next (below_alloc (Below.refl _ _) _) hb2); have d10 := (cell_two hrc2.b1).1; have d11 := (cell_two hrc2.b1).2; have g10 := free_two hrc2.b1)
            refine bodyPost_ret (v := .agg #[.int .i64 3, .int .i64 k]) ?_ rfl ⟨ret_fault (hrc.fault hlt HXY.out (by decide) (bad_range (by omega))), (hrc2.below.setCell (by simp) _).setCell (by simp) _⟩
            simp [results, Tryd.results7, go_sem, d10, d11]
          · by_cases h4 : n ≤ y
            · go_wp2_with (go_at_call 17; refine (refF_any _ _ _).mono ?_; rintro e w2 ⟨rfl, hb2⟩; have hrc2 := hrc.step (below_next (below_alloc (Below.refl _ _) _) hb2); have d10 := (cell_two hrc2.b1).1; have d11 := (cell_two hrc2.b1).2; have g10 := free_two hrc2.b1)
              refine bodyPost_ret (v := .agg #[.int .i64 3, .int .i64 k]) ?_ rfl ⟨ret_fault (hrc.fault hlt HXY.out (by decide) (bad_range (by omega))), (hrc2.below.setCell (by simp) _).setCell (by simp) _⟩
              simp [results, Tryd.results7, go_sem, d10, d11]
            · by_cases h5 : x = y
              · go_wp2_with (go_at_call 17; refine (refF_any _ _ _).mono ?_; rintro e w2 ⟨rfl, hb2⟩; have hrc2 := hrc.step (below_next (below_alloc (Below.refl _ _) _) hb2); have d10 := (cell_two hrc2.b1).1; have d11 := (cell_two hrc2.b1).2; have g10 := free_two hrc2.b1)
                refine bodyPost_ret (v := .agg #[.int .i64 4, .int .i64 k]) ?_ rfl ⟨ret_fault (hrc.fault hlt HXY.out (by decide) (by rw [← h5]; exact bad_loop ⟨by omega, by omega⟩)), (hrc2.below.setCell (by simp) _).setCell (by simp) _⟩
                simp [results, Tryd.results7, go_sem, d10, d11]
              · have hl4 : (k : Int) ≤ (cap : Int) := by omega
                have hl5 : (0 : Int) ≤ (k : Int) := by omega
                have hl6 : (es.length : Int) ≤ (cap : Int) := by omega
                go_wp2_with fail
                go_region_held3 (fun w' => Below (wr.alloc (.cells #[.int .i64 x, .int .i64 y] 49)).heap.size (wr.alloc (.cells #[.int .i64 x, .int .i64 y] 49)) w' ∧ w'.cell? ⟨w.heap.size, 1, none⟩ = some (.slice (some ⟨b, off, none⟩) es.length cap) ∧ w'.cell? ⟨wr.heap.size, 0, none⟩ = some (.int .i64 x) ∧ w'.cell? ⟨wr.heap.size, 1, none⟩ = some (.int .i64 y))
                  (first | assumption | exact rc_keep hrc (Below.refl _ _).drew | exact rc_keep hrc ((Below.refl _ _).drew.trans hb3))
                  ((go_at_call 22; refine (refHas_any 0 _ (es.take k) x y _ ?_).mono ?_; exact ((EdgesAt.take HE.out k hk _).below hrc.below).below (below_alloc (Below.refl _ _) _).drew; rintro e w3 ⟨rfl, hb3⟩))
                all_goals
                  go_split_ands
                  have hrc3 := hrc.step (below_next (below_alloc (Below.refl _ _) _) ((Below.refl _ _).drew.trans hb3))
                  have d10 := (cell_two hrc3.b1).1
                  have d11 := (cell_two hrc3.b1).2
                  have g10 := free_two hrc3.b1
                  generalize hh : hasB (es.take k) x y = q
                  have HH : Hid _ := hh
                  clear hh
                  cases q
                  rotate_left
                  · go_wp2_with (go_at_call 17; refine (refF_any _ _ _).mono ?_; rintro e w2 ⟨rfl, hb2⟩; have hrc2 := hrc3.step hb2; have d10' := (cell_two hrc2.b1).1; have d11' := (cell_two hrc2.b1).2; have g10' := free_two hrc2.b1)
                    refine bodyPost_ret (v := .agg #[.int .i64 5, .int .i64 k]) ?_ rfl ⟨ret_fault (hrc.fault hlt HXY.out (by decide) (bad_twice ⟨by omega, by omega, by omega, by omega⟩ h5 HH.out)), (hrc2.below.setCell (by simp) _).setCell (by simp) _⟩
                    simp [results, Tryd.results7, go_sem, d10', d11']
                  · go_wp2
                    go_roundw
                    case rel => exact ⟨k + 1, by omega, by go_num, hrc3.next hlt HXY.out (bad_none ⟨by omega, by omega, by omega, by omega⟩ h5 HH.out)⟩
                    case measure => simp [intOf]; omega
    · have hke : k = es.length := by omega
      subst hke
      have c01 := (cell_two hrc.b0).2
      have d10 := (cell_two hrc.b1).1
      have d11 := (cell_two hrc.b1).2
      have g10 := free_two hrc.b1
      clear hcells
      go_wp2
      refine bodyPost_ret (v := .agg #[.int .i64 0, .int .i64 0]) ?_ rfl ⟨ret_fault (by rw [hrc.hc, chk_end]), (hrc.below.setCell (by simp) _).setCell (by simp) _⟩
      simp [results, Tryd.results7, go_sem, d10, d11]

set_option maxHeartbeats 1000000 in
theorem refCheck_many (n : Int) (ao : Option Addr) (len cap : Nat) (w : World) (_hl : len ≤ 8796093022208) (h : many n len = true) :
    Calls Tryd.prog 7 #[.agg #[.int .i64 n, .slice ao len cap]] w fun e w' => e = .returned (.agg #[.int .i64 2, .int .i64 0]) ∧ Below w.heap.size w w' := by
  simp [many] at h
  by_cases h0 : n < 0
  · go_enter Tryd.func7, Tryd.ntmps7
    go_wp2_with (go_at_call 17; refine (refF_any _ _ _).mono ?_; rintro e w2 ⟨rfl, hb2⟩; obtain ⟨bc, bf, bc1, bf1, bc2, bf2⟩ := bcell hb2)
    refine bodyPost_ret (v := .agg #[.int .i64 2, .int .i64 0]) ?_ rfl ⟨rfl, ((below_next (below2 _ _) hb2).setCell (by simp) _).setCell (by simp) _⟩
    simp [results, Tryd.results7, go_sem, bc]
  · by_cases h1 : 100 < n
    · go_enter Tryd.func7, Tryd.ntmps7
      go_wp2_with (go_at_call 17; refine (refF_any _ _ _).mono ?_; rintro e w2 ⟨rfl, hb2⟩; obtain ⟨bc, bf, bc1, bf1, bc2, bf2⟩ := bcell hb2)
      refine bodyPost_ret (v := .agg #[.int .i64 2, .int .i64 0]) ?_ rfl ⟨rfl, ((below_next (below2 _ _) hb2).setCell (by simp) _).setCell (by simp) _⟩
      simp [results, Tryd.results7, go_sem, bc]
    · have hl2 : (1000 : Int) < (len : Int) := by omega
      go_enter Tryd.func7, Tryd.ntmps7
      go_wp2_with (go_at_call 17; refine (refF_any _ _ _).mono ?_; rintro e w2 ⟨rfl, hb2⟩; obtain ⟨bc, bf, bc1, bf1, bc2, bf2⟩ := bcell hb2)
      refine bodyPost_ret (v := .agg #[.int .i64 2, .int .i64 0]) ?_ rfl ⟨rfl, ((below_next (below2 _ _) hb2).setCell (by simp) _).setCell (by simp) _⟩
      simp [results, Tryd.results7, go_sem, bc]

theorem refCheck_any (n : Int) (ao : Option Addr) (cap : Nat) (es : List Pair) (w : World) (hE : EdgesAt w (.slice ao es.length cap) es) (hcap : es.length ≤ cap) :
    Calls Tryd.prog 7 #[.agg #[.int .i64 n, .slice ao es.length cap]] w fun e w' => e = .returned (.agg #[.int .i64 (chk n es).1, .int .i64 (chk n es).2]) ∧ Below w.heap.size w w' := by
  by_cases hm : many n es.length = true
  · have e : chk n es = (2, 0) := by unfold chk; rw [if_pos hm]
    rw [e]
    obtain ⟨ao', cap', e', hl, _⟩ := hE
    exact refCheck_many n ao es.length cap w hl hm
  · have e : chk n es = chkFrom n [] es := by unfold chk; rw [if_neg hm]
    rw [e]
    simp [many] at hm
    exact refCheck_go n ao cap es w hE hcap hm.1 hm.2.1 hm.2.2

end Go.Proofs.YtekokjechbibdaaDoor

namespace Go.Proofs.YtekokjechbibdaaDoor
open Go.RowKit Go.Maps
attribute [local go_sem ↓] Go.wp_at_zero Go.wp_at_succ

/- how many pairs a list of edges can make -/
theorem nodup_len : ∀ (l m : List Pair), l.Nodup → (∀ e ∈ l, e ∈ m) → l.length ≤ m.length
  | [], _, _, _ => Nat.zero_le _
  | a :: l, m, hn, hs => by
    have hn' := List.nodup_cons.1 hn
    have ha := hs a (by simp)
    have h := nodup_len l (m.erase a) hn'.2 (fun e he => (List.mem_erase_of_ne (fun (h : e = a) => hn'.1 (h ▸ he))).2 (hs e (by simp [he])))
    rw [List.length_erase_of_mem ha] at h
    have : 0 < m.length := List.length_pos_of_mem ha
    simp
    omega

theorem rowTo_nodup (p : Int → Int → Bool) (u v : Nat) : (rowTo p u v).Nodup := by
  unfold rowTo
  refine List.Pairwise.map _ (R := fun a b => a ≠ b) (fun a b h e => h ?_) (List.nodup_range.filter _)
  simp at e
  omega
theorem allP_nodup (n : Nat) (p : Int → Int → Bool) : (allP n p).Nodup := by
  unfold allP rowsTo List.Nodup
  rw [List.pairwise_flatMap]
  refine ⟨fun u _ => rowTo_nodup p u n, ?_⟩
  refine List.Pairwise.imp (fun {a b} (hne : a ≠ b) => ?_) List.nodup_range
  intro e h1 e' h2 ee
  subst ee
  simp [rowTo] at h1 h2
  obtain ⟨_, _, rfl⟩ := h1
  obtain ⟨_, _, h⟩ := h2
  simp at h
  omega
theorem allP_has_le (n : Nat) (es : List Pair) : (allP n (hasB es)).length ≤ es.length := by
  have h := nodup_len (allP n (hasB es)) (es.map fun e => (min e.1 e.2, max e.1 e.2)) (allP_nodup n _) (fun e he => by
    obtain ⟨u, v, h1, h2, h3, rfl⟩ := allP_mem.1 he
    simp only [hasB, List.any_eq_true] at h3
    obtain ⟨e, he, hb⟩ := h3
    refine List.mem_map.2 ⟨e, he, ?_⟩
    simp at hb
    ext <;> simp <;> omega)
  simpa using h

theorem formS_good {m : Nat} {es : List Pair} (h : (chk m es).1 = 0) : formS m es = ⟨m, allP m (hasB es), 0, 0⟩ := by
  obtain ⟨_, h1, h2, h3, _⟩ := chk_good h
  unfold formS
  rw [if_pos h]
  have := allP_has_le m es
  exact buildS_ok (by omega) (by simpa using Nat.le_trans this h3)
abbrev Two (w : World) (b : Nat) (x y : Value) (t : TypeId) : Prop := w.heap[b]? = some (.cells #[x, y] t (0, 0))
theorem two_next {W w1 : World} {b : Nat} {x y : Value} {t : TypeId} (h : Two W b x y t) (hb : Below W.heap.size W w1) : Two w1 b x y t := (hb.block b (lt_of_block h)).trans h
theorem two_alloc {w : World} {b : Nat} {x y : Value} {t : TypeId} (h : Two w b x y t) (o : Obj) : Two (w.alloc o) b x y t := (Below.heap_alloc _ _ _ (lt_of_block h)).trans h
theorem two_new (w : World) (x y : Value) (t : TypeId) : Two (w.alloc (Obj.cells #[x, y] t)) w.heap.size x y t := heap_alloc_new _ _
theorem k2 {w : World} {b : Nat} {x y : Value} {t : TypeId} (h : Two w b x y t) :
    w.cell? ⟨b, 0, none⟩ = some x ∧ w.cell? ⟨b, 1, none⟩ = some y ∧ (∀ o, (w.alloc o).cell? ⟨b, 0, none⟩ = some x) ∧ (∀ o, (w.alloc o).cell? ⟨b, 1, none⟩ = some y) ∧
    (∀ o o', ((w.alloc o).alloc o').cell? ⟨b, 0, none⟩ = some x) ∧ (∀ o o', ((w.alloc o).alloc o').cell? ⟨b, 1, none⟩ = some y) :=
  ⟨(cell_two h).1, (cell_two h).2, all_alloc (cell_two h).1, all_alloc (cell_two h).2, fun o o' => all_alloc (all_alloc (cell_two h).1 o) o', fun o o' => all_alloc (all_alloc (cell_two h).2 o) o'⟩


theorem Tryd.fields27 : Tryd.prog.fieldsOf 27 = #[{ name := "Code", type := 3, offset := 0, embedded := false, tag := "", pkgPath := "", byteOffset := 0 }, { name := "At", type := 3, offset := 1, embedded := false, tag := "", pkgPath := "", byteOffset := 8 }] := by kernel_rfl
theorem Tryd.stood27 : Tryd.prog.stoodInHeld 27 = false := by kernel_rfl
theorem equal27 (c d : Int) (w : World) : (Op.equal 27 (.agg #[.int .i64 c, .int .i64 d]) (.agg #[.int .i64 c, .int .i64 d])).run Tryd.prog w = .ok true w := by
  have ht : Tryd.prog.underlying 27 = some (.struct (Tryd.prog.fieldsOf 27)) := by rw [Tryd.fields27]; exact Tryd.underlying27
  unfold Op.equal Op.maxDepth
  rw [run_equalIn_struct w 9999 27 _ _ ht Tryd.stood27, Tryd.fields27]
  simp [Op.eqFields, go_sem, Tryd.underlying3]
theorem neq27 (c d : Int) (w : World) : (binOp .neq 27 (.agg #[.int .i64 c, .int .i64 d]) (.agg #[.int .i64 c, .int .i64 d])).run Tryd.prog w = .ok (.bool false) w := by
  simp only [binOp]
  simp [equal27 c d w, Result.andThen]
theorem eql27 (c d : Int) (w : World) : (binOp .eql 27 (.agg #[.int .i64 c, .int .i64 d]) (.agg #[.int .i64 c, .int .i64 d])).run Tryd.prog w = .ok (.bool true) w := by
  simp only [binOp]
  simp [equal27 c d w, Result.andThen]

theorem refCheck_as {n : Int} {ao : Option Addr} {cap : Nat} {es : List Pair} {w : World} (hE : EdgesAt w (.slice ao es.length cap) es) (hcap : es.length ≤ cap) {c d : Int} (h : chk n es = (c, d)) :
    Calls Tryd.prog 7 #[.agg #[.int .i64 n, .slice ao es.length cap]] w fun e w' => e = .returned (.agg #[.int .i64 c, .int .i64 d]) ∧ Below w.heap.size w w' := by
  have := refCheck_any n ao cap es w hE hcap
  rw [h] at this
  exact this
theorem check_as {n : Int} {v : Value} {es : List Pair} {w : World} (hE : EdgesAt w v es) {c d : Int} (h : chk n es = (c, d)) :
    Calls Tryd.prog 31 #[.agg #[.int .i64 n, v]] w fun e w' => e = .returned (.agg #[.int .i64 c, .int .i64 d]) ∧ Below w.heap.size w w' := by
  have := check_any n v es w hE
  rw [h] at this
  exact this

theorem keep5 {W : World} {bg bo bw bf : Nat} {n c d : Int} {sg so : Value} (tg : Two W bg (.int .i64 n) sg 24) (to : Two W bo (.int .i64 n) so 24) (tw : Two W bw (.int .i64 c) (.int .i64 d) 27) (tf : Two W bf (.int .i64 c) (.int .i64 d) 27) {w' : World} (hb : Below W.heap.size W w') :
    Below W.heap.size W w' ∧ w'.cell? ⟨bg, 0, none⟩ = some (.int .i64 n) ∧ w'.cell? ⟨bg, 1, none⟩ = some sg ∧ w'.cell? ⟨bo, 0, none⟩ = some (.int .i64 n) ∧ w'.cell? ⟨bo, 1, none⟩ = some so ∧ w'.cell? ⟨bw, 0, none⟩ = some (.int .i64 c) ∧ w'.cell? ⟨bw, 1, none⟩ = some (.int .i64 d) ∧ w'.cell? ⟨bf, 0, none⟩ = some (.int .i64 c) ∧ w'.cell? ⟨bf, 1, none⟩ = some (.int .i64 d) :=
  ⟨hb, (cell_two (two_next tg hb)).1, (cell_two (two_next tg hb)).2, (cell_two (two_next to hb)).1, (cell_two (two_next to hb)).2, (cell_two (two_next tw hb)).1, (cell_two (two_next tw hb)).2, (cell_two (two_next tf hb)).1, (cell_two (two_next tf hb)).2⟩
end Go.Proofs.YtekokjechbibdaaDoor
