/- The document's table of a graph. -/
import Derived.Test.YtfdlndljpmamgaaSeen
namespace Go.Proofs.Ytfdlndljpmamgaa
open Go.RowKit Go.Maps
attribute [local go_sem ↓] Go.wp_at_zero Go.wp_at_succ

theorem Try.info4 : (Try.prog.info? 4).map (fun i => (i.zero, i.size, i.bytes)) = some (some (.bool false), 1, 1) := by kernel_rfl
theorem Try.info49 : (Try.prog.info? 49).map (fun i => (i.zero, i.size, i.bytes)) = some (some (.slice none 0 0), 1, 24) := by kernel_rfl

/-- The table v of m rows of m tells p. -/
def GridAt (w : World) (v : Value) (m : Nat) (p : Int → Int → Bool) : Prop :=
  ∃ ao cap, v = .slice ao m cap ∧ ∀ i : Nat, i < m → ∃ g b, ao = some ⟨g, 0, none⟩ ∧ w.cell? ⟨g, i, none⟩ = some (.slice (some ⟨b, 0, none⟩) m m) ∧ ∀ j : Nat, j < m → w.cell? ⟨b, j, none⟩ = some (.bool (p i j))

theorem GridAt.below {w w' : World} {v : Value} {m : Nat} {p : Int → Int → Bool} (h : GridAt w v m p) (hb : Below w.heap.size w w') : GridAt w' v m p := by
  obtain ⟨ao, cap, h1, h2⟩ := h
  refine ⟨ao, cap, h1, fun i hi => ?_⟩
  obtain ⟨g, b, e, c0, c1⟩ := h2 i hi
  exact ⟨g, b, e, by rw [hb.cell (by exact World.block_lt_of_cell? w _ c0)]; exact c0, fun j hj => by rw [hb.cell (by exact World.block_lt_of_cell? w _ (c1 j hj))]; exact c1 j hj⟩

/-- Block b is a row of m bools that tells q. -/
def RowB (w : World) (b m : Nat) (q : Nat → Bool) : Prop := ∃ cur, w.heap[b]? = some (.cells cur 4 (0, 0)) ∧ cur.size = m ∧ ∀ j, j < m → cur[j]? = some (.bool (q j))

theorem RowB.block {w w' : World} {b m : Nat} {q : Nat → Bool} (h : RowB w b m q) (hb : w'.heap[b]? = w.heap[b]?) : RowB w' b m q := by
  obtain ⟨cur, h1, h2⟩ := h
  exact ⟨cur, hb.trans h1, h2⟩
theorem RowB.lt {w : World} {b m : Nat} {q : Nat → Bool} (h : RowB w b m q) : b < w.heap.size := by
  obtain ⟨cur, h1, h2⟩ := h
  exact lt_of_block h1
theorem RowB.cell {w : World} {b m : Nat} {q : Nat → Bool} (h : RowB w b m q) {j : Nat} (hj : j < m) : w.cell? ⟨b, j, none⟩ = some (.bool (q j)) := by
  obtain ⟨cur, h1, _, h3⟩ := h
  rw [cell_of_row w b j cur 4 (0, 0) h1]
  exact h3 j hj
theorem RowB.free {w : World} {b m : Nat} {q : Nat → Bool} (h : RowB w b m q) (j : Nat) : w.frozen? ⟨b, j, none⟩ = false := by
  obtain ⟨cur, h1, _, h3⟩ := h
  simp [World.frozen?, h1]
theorem RowB.set {w : World} {b m : Nat} {q : Nat → Bool} (h : RowB w b m q) (y : Nat) : RowB (w.setCell ⟨b, y, none⟩ (.bool true)) b m (fun j => j == y || q j) := by
  obtain ⟨cur, h1, h2, h3⟩ := h
  refine ⟨cur.setIfInBounds y (.bool true), ?_, by simp [h2], fun j hj => ?_⟩
  · have hl := lt_of_block h1
    simp [World.setCell, Array.getElem?_modify, h1]
  · by_cases e : j = y
    · subst e
      rw [Array.getElem?_setIfInBounds_self_of_lt (by omega)]
      simp
    · rw [Array.getElem?_setIfInBounds_ne (by omega), h3 j hj]
      simp [e]

theorem rowB_made {w : World} {base b m : Nat} (h : w.ownsRow base 4 1 (.slice (some ⟨b, 0, none⟩) m m) m (madeCells (Value.bool false).cells (m * 1)).toList) : RowB w b m (fun _ => false) := by
  rcases h.2 with ⟨h1, _⟩ | ⟨g, cap, cur, h1, _, h2, _, _, h3, h4⟩
  · cases h1
  · cases h1
    refine ⟨cur, h2, by omega, fun j hj => ?_⟩
    have : (cur.toList.take (m * 1))[j]? = some (.bool false) := by
      rw [h4]
      simp [madeCells, Value.cells, hj]
      rw [Nat.mod_one]
      rfl
    rw [List.getElem?_take_of_lt (by omega)] at this
    simpa using this

def rowV (m b : Nat) : Value := .slice (some ⟨b, 0, none⟩) m m

structure GI (w wr : World) (m : Nat) (x0 v0 : Value) (v : Value) (bs : List Nat) (p : Nat → Nat → Bool) : Prop where
  b0 : wr.heap[w.heap.size]? = some (.cells #[x0, v0] 42 (0, 0))
  own : wr.ownsRow (w.heap.size + 1) 49 1 v bs.length (bs.map (rowV m))
  rows : ∀ i (h : i < bs.length), RowB wr bs[i] m (p i)
  nodup : ∀ i j (hi : i < bs.length) (hj : j < bs.length), bs[i] = bs[j] → i = j
  ge : ∀ b ∈ bs, w.heap.size < b
  below : Below w.heap.size w wr

theorem GI.step {w wr wr' : World} {m : Nat} {x0 v0 v : Value} {bs : List Nat} {p : Nat → Nat → Bool} (h : GI w wr m x0 v0 v bs p) (hb : Below wr.heap.size wr wr') : GI w wr' m x0 v0 v bs p := by
  refine ⟨(hb.block _ (lt_of_block h.b0)).trans h.b0, ?_, fun i hi => (h.rows i hi).block (hb.block _ (h.rows i hi).lt), h.nodup, h.ge, below_next h.below hb⟩
  exact h.own.kept (row := none) ⟨hb.os, hb.tape, hb.output, hb.size, fun k hk _ => hb.block k hk⟩ (by cases v.ownBlock <;> simp)

theorem RowB.ne {w : World} {b m : Nat} {q : Nat → Bool} (h : RowB w b m q) {v : Value} {base n : Nat} {xs : List Value} (ho : w.ownsRow base 49 1 v n xs) : v.ownBlock ≠ some b := by
  intro e
  obtain ⟨cur, hc⟩ := row_block ho b e
  obtain ⟨c, h1, _⟩ := h
  rw [h1] at hc
  simp at hc

theorem GI.push {w wr w1 w3 : World} {m : Nat} {x0 v0 v v' : Value} {bs : List Nat} {o : Obj} (h : GI w wr m x0 v0 v bs (fun _ _ => false)) (hr : RowB w1 wr.heap.size m (fun _ => false)) (hg1 : wr.grownBy w1 none)
    (hown : w3.ownsRow (w.heap.size + 1) 49 1 v' (bs.length + 1) (bs.map (rowV m) ++ [rowV m wr.heap.size])) (hg3 : (w1.alloc o).grownBy w3 v.ownBlock) : GI w w3 m x0 v0 v' (bs ++ [wr.heap.size]) (fun _ _ => false) := by
  have own1 : w1.ownsRow (w.heap.size + 1) 49 1 v bs.length (bs.map (rowV m)) := h.own.kept hg1 (by cases v.ownBlock <;> simp)
  have hn : ∀ k, v.ownBlock = some k → w.heap.size + 1 ≤ k := fun k hk => (h.own.lt k hk).1
  have q : ∀ j, j < wr.heap.size → v.ownBlock ≠ some j → w3.heap[j]? = wr.heap[j]? := fun j hj hne => by
    have := hg1.size
    rw [hg3.block j (by simp; omega) (fun e => hne e.symm), Below.heap_alloc _ _ _ (by omega), hg1.block j hj (by simp)]
  have l0 := lt_of_block h.b0
  refine ⟨(q _ l0 (fun e => by have := hn _ e; omega)).trans h.b0, ?_, ?_, ?_, ?_, ?_⟩
  · simpa using hown
  · intro i hi
    by_cases hl : i < bs.length
    · rw [List.getElem_append_left hl]
      exact (h.rows i hl).block (q _ (h.rows i hl).lt ((h.rows i hl).ne h.own))
    · have : i = bs.length := by simp at hi; omega
      subst this
      simp
      have h2 := hr.lt
      refine hr.block ?_
      rw [hg3.block _ (by simp; omega) (fun e => hr.ne own1 e.symm), Below.heap_alloc _ _ _ (by omega)]
  · intro i j hi hj e
    simp at hi hj
    by_cases h1 : i < bs.length <;> by_cases h2 : j < bs.length
    · rw [List.getElem_append_left h1, List.getElem_append_left h2] at e
      exact h.nodup i j h1 h2 e
    · have : j = bs.length := by omega
      subst this
      rw [List.getElem_append_left h1] at e
      simp at e
      have := (h.rows i h1).lt
      omega
    · have : i = bs.length := by omega
      subst this
      rw [List.getElem_append_left h2] at e
      simp at e
      have := (h.rows j h2).lt
      omega
    · omega
  · intro b hb
    rcases List.mem_append.1 hb with hb | hb
    · exact h.ge b hb
    · simp at hb; omega
  · exact (((h.below.grown hg1 h.below.size (fun k hk => by cases hk)).alloc (by have := hg1.size; omega) _).grown hg3 (by have := hg1.size; simp; omega) (fun k hk => by have := hn k hk; omega))

theorem GI.set {w wr : World} {m : Nat} {x0 v0 v : Value} {bs : List Nat} {p : Nat → Nat → Bool} (h : GI w wr m x0 v0 v bs p) {i : Nat} (hi : i < bs.length) (j : Nat) :
    GI w (wr.setCell ⟨bs[i], j, none⟩ (.bool true)) m x0 v0 v bs (fun a b => (a == i && b == j) || p a b) := by
  have q : ∀ k, k ≠ bs[i] → (wr.setCell ⟨bs[i], j, none⟩ (.bool true)).heap[k]? = wr.heap[k]? := fun k hk => Below.heap_setCell _ _ _ _ hk
  have hge := h.ge bs[i] (List.getElem_mem _)
  refine ⟨(q _ (by omega)).trans h.b0, ?_, ?_, h.nodup, h.ge, h.below.setCell (by simp; omega) _⟩
  · refine h.own.kept (row := some bs[i]) ⟨rfl, rfl, rfl, by simp [World.setCell], fun k _ hk => q k (fun e => hk (by rw [e]))⟩ (Or.inr ((h.rows i hi).ne h.own))
  · intro a ha
    by_cases e : a = i
    · subst e
      have := (h.rows a ha).set j
      simpa using this
    · have hne : bs[a] ≠ bs[i] := fun e' => e (h.nodup a i ha hi e')
      have e2 : (fun b => (a == i && b == j) || p a b) = p a := by funext b; simp [e]
      rw [e2]
      exact (h.rows a ha).block (q _ hne)

theorem GI.congr {w wr : World} {m : Nat} {x0 v0 v : Value} {bs : List Nat} {p q : Nat → Nat → Bool} (h : GI w wr m x0 v0 v bs p) (e : ∀ i j, p i j = q i j) : GI w wr m x0 v0 v bs q := by
  have : p = q := by funext i j; exact e i j
  rw [← this]; exact h

theorem GI.grid {w wr : World} {m : Nat} {x0 v0 : Value} {ao : Option Addr} {n cap : Nat} {bs : List Nat} {p : Int → Int → Bool} (h : GI w wr m x0 v0 (.slice ao n cap) bs (fun i j => p i j)) (hl : bs.length = m) : GridAt wr (.slice ao m cap) m p := by
  refine ⟨ao, cap, rfl, fun i hi => ?_⟩
  have hb : i < bs.length := by omega
  rcases h.own.2 with ⟨_, e⟩ | ⟨g, c, cur, e, _⟩
  · omega
  · cases e
    refine ⟨g, bs[i], rfl, ?_, fun j hj => (h.rows i hb).cell hj⟩
    have := h.own.cells (g := g) rfl i (rowV m bs[i]) (by simp [hb])
    rw [add_none] at this
    exact this

theorem GI.at {w wr : World} {m : Nat} {x0 v0 : Value} {ao : Option Addr} {n cap : Nat} {bs : List Nat} {p : Nat → Nat → Bool} (h : GI w wr m x0 v0 (.slice ao n cap) bs p) (h0 : 0 < bs.length) :
    ∃ g, ao = some ⟨g, 0, none⟩ ∧ ∀ i (hi : i < bs.length), wr.cell? ⟨g, i, none⟩ = some (.slice (some ⟨bs[i], 0, none⟩) m m) := by
  rcases h.own.2 with ⟨_, e⟩ | ⟨g, c, cur, e, _⟩
  · omega
  · cases e
    refine ⟨g, rfl, fun i hi => ?_⟩
    have := h.own.cells (g := g) rfl i (rowV m bs[i]) (by simp [hi])
    rw [add_none] at this
    exact this

theorem cell_set_far {w : World} {a b : Addr} {u v : Value} (h : w.cell? a = some v) (hne : b.block ≠ a.block) : (w.setCell b u).cell? a = some v := by
  rw [World.cell?_setCell_far _ _ _ _ hne]; exact h

set_option maxHeartbeats 2000000 in
theorem gridOf_any (m : Nat) (v : Value) (es : List Pair) (w : World) (hE : EdgesAt w v es) (hm : m ≤ 100) (hl : es.length ≤ 1000) (hgood : ∀ e ∈ es, (0 ≤ e.1 ∧ e.1 < m ∧ 0 ≤ e.2 ∧ e.2 < m) ∧ e.1 ≠ e.2) :
    Calls Try.prog 16 #[.agg #[.int .i64 m, v]] w fun e w' => Below w.heap.size w w' ∧ ∃ ao cap, e = .returned (.slice ao m cap) ∧ GridAt w' (.slice ao m cap) m (hasB es) := by
  obtain ⟨ao, cap, rfl, hl2, hI, hcells⟩ := hE
  clear hI
  obtain ⟨i0, hi, hz0, hz1, hz2⟩ := info_parts Try.info4
  obtain ⟨i1, hi1, hy0, hy1, hy2⟩ := info_parts Try.info49
  have HG : Hid _ := hgood
  have HC : Hid _ := hcells
  clear hgood hcells
  go_enter Try.func16, Try.ntmps16
  go_wp2
  go_loopw [3, 4] (fun t i wr => ∃ bs : List Nat, bs.length ≤ m ∧ i = .int .i64 bs.length ∧ GI w wr m (.int .i64 m) (.slice ao es.length cap) t bs (fun _ _ => false)) (fun _ i _ => m - (intOf i).toNat)
  case atStart => exact ⟨[], Nat.zero_le _, rfl, heap_alloc_new _ _, World.ownsRow_nil _ _ _ _, fun i h => absurd h (by simp), fun i j h => absurd h (by simp), (fun b h => by cases h), below_alloc (Below.refl _ _) _⟩
  case round =>
    obtain ⟨bs, hk, rfl, hgi⟩ := hrel
    have c0 := (cell_two hgi.b0).1
    obtain ⟨to, tc, rfl⟩ := form_row hgi.own
    by_cases hlt : bs.length < m
    · go_wp2_with (first | (at_make; refine wpList_make_full _ rfl _ _ 49 rfl (w.heap.size + 1) 4 i0 (.bool false) 1 Try.underlying49 hi hz0 hz1 .i64 .i64 _ _ m rfl rfl rfl rfl ?_ ?_ ?_ ?_; (rw [hz2]; omega); (unfold maxLen; omega); (have := lt_of_block hgi.b0; omega); intro w1 hmade hg1) | (at_builtin; refine wpList_append_own _ rfl _ _ 52 rfl (w.heap.size + 1) 49 i1 (.slice none 0 0) 1 24 Try.underlying52 hi1 hy0 hy1 hy2 rfl (by decide) _ _ _ rfl ((hgi.own.kept hg1 (by cases to <;> simp [Value.ownBlock])).alloc _) ⟨w1.heap.size, 0, none⟩ 1 1 [rowV m wr.heap.size] rfl rfl ?c1 ?c2 ?c3 ?c4 ?c5 ?_))
      case c1 =>
        intro j x hj
        match j, hj with
        | 0, hj => simp at hj; subst hj; simp [Addr.add, rowV]
      case c2 => first | rfl | (intro x hx; simp at hx; subst hx; rfl)
      case c3 => unfold maxLen; omega
      case c4 => omega
      case c5 => have := lt_of_block hgi.b0; have := hg1.size; simp; omega
      intro v' w3 hown' hgrow _
      have hgi2 := hgi.push (rowB_made hmade) hg1 hown' hgrow
      clear hown' hgrow hmade
      go_wp2
      go_roundw
      case rel => exact ⟨bs ++ [wr.heap.size], by simp; omega, by simp, hgi2⟩
      case measure => simp [intOf]; omega
    · have hbm : m = bs.length := by omega
      subst hbm
      go_wp2
      go_loopw [5] (fun i wr => ∃ k : Nat, k ≤ es.length ∧ i = .int .i64 k ∧ GI w wr bs.length (.int .i64 bs.length) (.slice ao es.length cap) (.slice to bs.length tc) bs (fun i j => hasB (es.take k) i j)) (fun i _ => es.length - (intOf i).toNat)
      case atStart => exact ⟨0, Nat.zero_le _, rfl, hgi.congr (fun i j => by simp [hasB])⟩
      case round =>
        obtain ⟨k, hk, rfl, hgj⟩ := hrel
        clear hgi
        have c1 := (cell_two hgj.b0).2
        by_cases hlt2 : k < es.length
        · obtain ⟨b, off, rfl, cx, cy⟩ := HC.out k hlt2
          obtain ⟨x, y, hxy⟩ : ∃ x y, es[k] = (x, y) := ⟨es[k].1, es[k].2, rfl⟩
          have hgx := HG.out es[k] (List.getElem_mem _)
          rw [hxy] at cx cy hgx
          have hb := World.block_lt_of_cell? w _ cx
          rw [← hgj.below.cell (by exact hb)] at cx cy
          have HXY : Hid _ := hxy
          clear hxy
          obtain ⟨⟨x0, x1, y0, y1⟩, hne⟩ := hgx
          obtain ⟨i, rfl⟩ : ∃ i : Nat, x = i := ⟨x.toNat, by omega⟩
          obtain ⟨j, rfl⟩ : ∃ j : Nat, y = j := ⟨y.toNat, by omega⟩
          have hib : i < bs.length := by omega
          have hjb : j < bs.length := by omega
          obtain ⟨g, rfl, hat⟩ := hgj.at (by omega)
          obtain ⟨bi, hbi⟩ : ∃ bi, bi = bs[i] := ⟨_, rfl⟩
          obtain ⟨bj, hbj⟩ : ∃ bj, bj = bs[j] := ⟨_, rfl⟩
          have d1 := all_alloc (hat i hib)
          have d2 := all_alloc ((hgj.rows i hib).cell (j := j) (by omega))
          have e2 := all_free (a := ⟨bs[i], j, none⟩) (hgj.rows i hib).lt ((hgj.rows i hib).free j)
          rw [← hbi] at d1 d2 e2
          have HAT : Hid _ := hat
          have HBI : Hid _ := hbi
          have HBJ : Hid _ := hbj
          clear hat hbi hbj
          have i1 : (0 : Int) ≤ (i : Int) := by omega
          have i2 : (i : Int) < (bs.length : Int) := by omega
          have j1 : (0 : Int) ≤ (j : Int) := by omega
          have j2 : (j : Int) < (bs.length : Int) := by omega
          go_wp2
          go_region
          have hlb := (hgj.rows i hib).lt
          rw [← HBI.out] at hlb
          have hgj2 := (hgj.step (below_alloc (Below.refl _ _) (Obj.cells #[.int .i64 i, .int .i64 j] 59))).set hib j
          rw [← HBI.out] at hgj2
          have k0 := cell_set_far (u := .bool true) (b := ⟨bi, j, none⟩) (cell_two (heap_alloc_new wr (Obj.cells #[.int .i64 i, .int .i64 j] 59))).1 (by simp; omega)
          have k1 := cell_set_far (u := .bool true) (b := ⟨bi, j, none⟩) (cell_two (heap_alloc_new wr (Obj.cells #[.int .i64 i, .int .i64 j] 59))).2 (by simp; omega)
          clear d1 d2 e2
          generalize (wr.alloc (Obj.cells #[.int .i64 i, .int .i64 j] 59)).setCell ⟨bi, j, none⟩ (.bool true) = W1 at hgj2 k0 k1 ⊢
          obtain ⟨g', hg', hat2⟩ := hgj2.at (by omega)
          cases hg'
          have d1 := hat2 j hjb
          have d2 := (hgj2.rows j hjb).cell (j := i) (by omega)
          have e2 := (hgj2.rows j hjb).free i
          have hgj3 := hgj2.set hjb i
          rw [← HBJ.out] at d1 d2 e2 hgj3
          have HG3 : Hid _ := hgj3
          clear hgj2 hat2 hgj3
          go_wp2
          go_region
          have hgj4 := GI.congr (q := fun a c => hasB (es.take (k + 1)) a c) (GI.step HG3.out (Below.refl _ _).drew.drew) (fun a c => by
            rw [has_take hlt2 HXY.out]
            cases hasB (es.take k) a c <;> (rw [Bool.eq_iff_iff]; simp)
            omega)
          go_wp2
          go_roundw
          case rel => exact ⟨k + 1, by omega, by go_num, hgj4⟩
          case measure => simp [intOf]; omega
        · have hke : k = es.length := by omega
          subst hke
          rw [List.take_length] at hgj
          go_wp2
          go_ret
          exact ⟨hgj.below, to, tc, rfl, GI.grid (p := hasB es) (by simpa using hgj) rfl⟩

end Go.Proofs.Ytfdlndljpmamgaa
