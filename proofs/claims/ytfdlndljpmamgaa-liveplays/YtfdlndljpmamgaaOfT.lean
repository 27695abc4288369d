/- R.Of: the graph of a table, in form. A table of one's own, and writing into it. -/
import Derived.Test.YtfdlndljpmamgaaKitC
namespace Go.Proofs.Ytfdlndljpmamgaa
open Go.RowKit Go.Maps
attribute [local go_sem ↓] Go.wp_at_zero Go.wp_at_succ

set_option maxHeartbeats 2000000 in
theorem ofGrid_any (m : Nat) (ao : Option Addr) (cap : Nat) (p : Int → Int → Bool) (w : World) (hG : GridAt w (.slice ao m cap) m p) (hm : m ≤ 100) :
    Calls Try.prog 39 #[.slice ao m cap] w fun e w' => Below w.heap.size w w' ∧ ∃ ao' c, e = .returned (.agg #[.int .i64 m, .slice ao' (allP m p).length c]) ∧ EdgesAt w' (.slice ao' (allP m p).length c) (allP m p) ∧ (∀ x, ao' = some x → w.heap.size ≤ x.block) := by
  obtain ⟨i0, hi, hz0, hz1, hz2⟩ := info_parts Try.info59
  obtain ⟨ao', cap', e, hgrid⟩ := hG
  cases e
  have HGR : Hid _ := hgrid
  clear hgrid
  go_enter Try.func39, Try.ntmps39
  go_wp2
  go_loopw [4] (fun i wr => ∃ u : Nat, u ≤ m ∧ i = .int .i64 u ∧ ∃ v, OI w wr m v (rowsTo m p u)) (fun i _ => m - (numOf i).toNat)
  case atStart =>
    refine ⟨0, Nat.zero_le _, rfl, .slice none 0 0, ?_, ?_, World.ownsRow_nil _ _ _ _, below2 _ _⟩
    · rw [Below.heap_alloc _ _ _ (by simp)]; exact heap_alloc_new _ _
    · simpa using heap_alloc_new (w.alloc (Obj.cells #[.int .i64 0, .slice none 0 0] 42)) (Obj.cells #[.int .i64 m, .slice none 0 0] 42)
  case round =>
    obtain ⟨u, hu, rfl, v, hoi⟩ := hrel
    by_cases hlt : u < m
    · go_wp2
      go_loopw [5] (fun i wr => ∃ t : Nat, u + 1 ≤ t ∧ t ≤ m ∧ i = .int .i64 t ∧ ∃ v, OI w wr m v (rowsTo m p u ++ rowTo p u t)) (fun i _ => m - (numOf i).toNat)
      case atStart => exact ⟨u + 1, Nat.le_refl _, by omega, by go_num, v, by rw [rowTo_low p u (u + 1) (Nat.le_refl _), List.append_nil]; exact hoi⟩
      case round =>
        obtain ⟨t, ht1, ht2, rfl, v2, hoi2⟩ := hrel
        clear hoi
        obtain ⟨L, hL⟩ : ∃ L, L = rowsTo m p u ++ rowTo p u t := ⟨_, rfl⟩
        rw [← hL] at hoi2
        obtain ⟨vo, vc, rfl⟩ := form_row hoi2.own
        have HL : Hid _ := hL
        clear hL
        by_cases hlt2 : t < m
        · obtain ⟨g, b, rfl, c0, c1⟩ := HGR.out u hlt
          have c2 := c1 t hlt2
          have hb0 := World.block_lt_of_cell? w _ c0
          have hb2 := World.block_lt_of_cell? w _ c2
          rw [← hoi2.below.cell (by exact hb0)] at c0
          rw [← hoi2.below.cell (by exact hb2)] at c2
          have d1 := (cell_two hoi2.b1).2
          clear c1
          have hll : L.length ≤ 10000 := by
            rw [HL.out]
            have h1 := rowsTo_le m p u
            have h2 := rowTo_le p u t
            have : u * m ≤ 100 * 100 := Nat.mul_le_mul (by omega) hm
            rw [List.length_append]
            have h3 : u * m + m ≤ 100 * 100 := by
              have : (u + 1) * m ≤ 100 * 100 := Nat.mul_le_mul (by omega) hm
              rw [Nat.succ_mul] at this
              exact this
            omega
          by_cases hp : p u t = true
          · rw [hp] at c2
            go_wp2_with (at_builtin; refine wpList_append_own _ rfl _ _ 40 rfl (w.heap.size + 2) 59 i0 (.agg #[.int .i64 0, .int .i64 0]) 2 16 Try.underlying40 hi hz0 hz1 hz2 rfl (by decide) _ _ _ rfl (hoi2.own.alloc _) ⟨wr.heap.size, 0, none⟩ 1 1 [.int .i64 u, .int .i64 t] rfl rfl ?n1 ?n2 ?n3 ?n4 ?n5 ?_)
            case n2 => exact ⟨rfl, rfl⟩
            case n3 => unfold maxLen; omega
            case n4 => omega
            case n5 => have := lt_of_block hoi2.b1; simp; omega
            intro v' w3 hown' hgrow _
            obtain ⟨vo', vc', rfl⟩ := form_row hown'
            obtain ⟨hb1, hoi3⟩ := hoi2.push hown' hgrow
            have f1 := (cell_two hb1).2
            have f2 := free_two hb1 1
            clear hown' hgrow
            go_wp2
            go_roundw
            case rel => exact ⟨t + 1, by omega, by omega, by go_num, _, by rw [rowTo_succ, if_pos ⟨by omega, hp⟩, ← List.append_assoc, ← HL.out]; exact hoi3⟩
            case measure => simp [numOf]; omega
          · have hp' : p u t = false := by simpa using hp
            rw [hp'] at c2
            go_wp2
            go_roundw
            case rel => exact ⟨t + 1, by omega, by omega, by go_num, _, by rw [rowTo_succ, if_neg (fun h => hp h.2), List.append_nil, ← HL.out]; exact hoi2⟩
            case measure => simp [numOf]; omega
        · have : t = m := by omega
          subst this
          go_wp2
          go_roundw
          case rel => exact ⟨u + 1, by omega, by go_num, _, by rw [rowsTo_succ, ← HL.out]; exact hoi2⟩
          case measure => simp [numOf]; omega
    · have : u = m := by omega
      subst this
      obtain ⟨vo, vc, rfl⟩ := form_row hoi.own
      have d0 := (cell_two hoi.b0).1
      have d1 := (cell_two hoi.b0).2
      have e0 := (cell_two hoi.b1).1
      have e1 := (cell_two hoi.b1).2
      have g0 := free_two hoi.b0
      go_wp2
      refine bodyPost_ret (v := .agg #[.int .i64 u, .slice vo (rowsTo u p u).length vc]) ?_ rfl ⟨?_, vo, vc, rfl, ?_, fun x hx => by have := (hoi.own.lt x.block (by rw [hx]; rfl)).1; omega⟩
      · simp [results, Try.results39, go_sem, d0, d1]
      · exact (hoi.below.setCell (by simp) _).setCell (by simp) _
      · have hE := edgesAt_row hoi.own ?_ ?_
        · have q : ∀ x, vo = some x → w.heap.size + 2 ≤ x.block := fun x hx => (hoi.own.lt _ (by rw [hx]; rfl)).1
          exact (hE.setCell (fun x hx => by have := q x hx; simp; omega) _).setCell (fun x hx => by have := q x hx; simp; omega) _
        · intro e he
          obtain ⟨a, b, h1, h2, _, rfl⟩ := allP_mem.1 he
          constructor <;> unfold I64 <;> simp <;> omega
        · have h1 := rowsTo_le u p u
          have : u * u ≤ 100 * 100 := Nat.mul_le_mul hm hm
          omega
end Go.Proofs.Ytfdlndljpmamgaa

namespace Go.Proofs.Ytfdlndljpmamgaa
open Go.RowKit Go.Maps
attribute [local go_sem ↓] Go.wp_at_zero Go.wp_at_succ
/-- A table of one's own: rows bs, each of m bools, that tells p. -/
structure Tab (base : Nat) (wr : World) (m : Nat) (v : Value) (bs : List Nat) (p : Nat → Nat → Bool) : Prop where
  own : wr.ownsRow base 49 1 v bs.length (bs.map (rowV m))
  rows : ∀ i (h : i < bs.length), RowB wr bs[i] m (p i)
  nodup : ∀ i j (hi : i < bs.length) (hj : j < bs.length), bs[i] = bs[j] → i = j
  ge : ∀ b ∈ bs, base ≤ b

theorem GI.tab {w wr : World} {m : Nat} {x0 v0 v : Value} {bs : List Nat} {p : Nat → Nat → Bool} (h : GI w wr m x0 v0 v bs p) : Tab w.heap.size wr m v bs p :=
  ⟨ownsRow_mono h.own (by omega), h.rows, h.nodup, fun b hb => by have := h.ge b hb; omega⟩
theorem Tab.below {base : Nat} {wr wr' : World} {m : Nat} {v : Value} {bs : List Nat} {p : Nat → Nat → Bool} (h : Tab base wr m v bs p) (hb : Below wr.heap.size wr wr') : Tab base wr' m v bs p :=
  ⟨ownsRow_blocks h.own (fun b hb' => hb.block b (h.own.lt b hb').2), fun i hi => (h.rows i hi).block (hb.block _ (h.rows i hi).lt), h.nodup, h.ge⟩
theorem Tab.congr {base : Nat} {wr : World} {m : Nat} {v : Value} {bs : List Nat} {p q : Nat → Nat → Bool} (h : Tab base wr m v bs p) (he : ∀ i j, p i j = q i j) : Tab base wr m v bs q := by
  have : p = q := by funext i j; exact he i j
  rw [← this]; exact h
theorem Tab.put {base : Nat} {wr : World} {m : Nat} {v : Value} {bs : List Nat} {p : Nat → Nat → Bool} (h : Tab base wr m v bs p) {i : Nat} (hi : i < bs.length) (j : Nat) (x : Bool) :
    Tab base (wr.setCell ⟨bs[i], j, none⟩ (.bool x)) m v bs (fun a b => if a = i ∧ b = j then x else p a b) := by
  have q : ∀ k, k ≠ bs[i] → (wr.setCell ⟨bs[i], j, none⟩ (.bool x)).heap[k]? = wr.heap[k]? := fun k hk => Below.heap_setCell _ _ _ _ hk
  refine ⟨?_, ?_, h.nodup, h.ge⟩
  · refine h.own.kept (row := some bs[i]) ⟨rfl, rfl, rfl, by simp [World.setCell], fun k _ hk => q k (fun e => hk (by rw [e]))⟩ (Or.inr ((h.rows i hi).ne h.own))
  · intro a ha
    by_cases e : a = i
    · subst e
      have := (h.rows a ha).put j x
      simpa using this
    · have hne : bs[a] ≠ bs[i] := fun e' => e (h.nodup a i ha hi e')
      have e2 : (fun b => if a = i ∧ b = j then x else p a b) = p a := by funext b; simp [e]
      rw [e2]
      exact (h.rows a ha).block (q _ hne)
theorem Tab.at {base : Nat} {wr : World} {m : Nat} {ao : Option Addr} {n cap : Nat} {bs : List Nat} {p : Nat → Nat → Bool} (h : Tab base wr m (.slice ao n cap) bs p) (h0 : 0 < bs.length) :
    ∃ g, ao = some ⟨g, 0, none⟩ ∧ ∀ i (hi : i < bs.length), wr.cell? ⟨g, i, none⟩ = some (.slice (some ⟨bs[i], 0, none⟩) m m) := by
  rcases h.own.2 with ⟨_, e⟩ | ⟨g, c, cur, e, _⟩
  · omega
  · cases e
    refine ⟨g, rfl, fun i hi => ?_⟩
    have := h.own.cells (g := g) rfl i (rowV m bs[i]) (by simp [hi])
    rw [add_none] at this
    exact this
theorem Tab.grid {base : Nat} {wr : World} {m : Nat} {ao : Option Addr} {n cap : Nat} {bs : List Nat} {p : Int → Int → Bool} (h : Tab base wr m (.slice ao n cap) bs (fun i j => p i j)) (hl : bs.length = m) : GridAt wr (.slice ao m cap) m p := by
  refine ⟨ao, cap, rfl, fun i hi => ?_⟩
  have hb : i < bs.length := by omega
  obtain ⟨g, rfl, hat⟩ := h.at (by omega)
  exact ⟨g, bs[i], rfl, hat i hb, fun j hj => (h.rows i hb).cell hj⟩

set_option maxHeartbeats 2000000 in
theorem gridOf_tab (m : Nat) (v : Value) (es : List Pair) (w : World) (hE : EdgesAt w v es) (hm : m ≤ 100) (hl : es.length ≤ 1000) (hgood : ∀ e ∈ es, (0 ≤ e.1 ∧ e.1 < m ∧ 0 ≤ e.2 ∧ e.2 < m) ∧ e.1 ≠ e.2) :
    Calls Try.prog 16 #[.agg #[.int .i64 m, v]] w fun e w' => Below w.heap.size w w' ∧ ∃ ao cap bs, e = .returned (.slice ao m cap) ∧ bs.length = m ∧ Tab w.heap.size w' m (.slice ao m cap) bs (fun i j => hasB es i j) := by
  obtain ⟨ao, cap, rfl, hl2, hI, hcells⟩ := hE
  clear hI
  obtain ⟨i0, hi, hz0, hz1, hz2⟩ := info_parts Try.info4
  obtain ⟨i1, hi1, hy0, hy1, hy2⟩ := info_parts Try.info49
  have HG : Hid _ := hgood
  have HC : Hid _ := hcells
  clear hgood hcells
  go_enter Try.func16, Try.ntmps16
  go_wp2
  go_loopw [3, 4] (fun t i wr => ∃ bs : List Nat, bs.length ≤ m ∧ i = .int .i64 bs.length ∧ GI w wr m (.int .i64 m) (.slice ao es.length cap) t bs (fun _ _ => false)) (fun _ i _ => m - (numOf i).toNat)
  case atStart => exact ⟨[], Nat.zero_le _, rfl, heap_alloc_new _ _, World.ownsRow_nil _ _ _ _, fun i h => absurd h (by simp), fun i j h => absurd h (by simp), (fun b h => by cases h), below_alloc (Below.refl _ _) _⟩
  case round =>
    obtain ⟨bs, hk, rfl, hgi⟩ := hrel
    have c0 := (cell_two hgi.b0).1
    obtain ⟨tO, tc, rfl⟩ := form_row hgi.own
    by_cases hlt : bs.length < m
    · go_wp2_with (first | (at_make; refine wpList_make_full _ rfl _ _ 49 rfl (w.heap.size + 1) 4 i0 (.bool false) 1 Try.underlying49 hi hz0 hz1 .i64 .i64 _ _ m rfl rfl rfl rfl ?_ ?_ ?_ ?_; (rw [hz2]; omega); (unfold maxLen; omega); (have := lt_of_block hgi.b0; omega); intro w1 hmade hg1) | (at_builtin; refine wpList_append_own _ rfl _ _ 52 rfl (w.heap.size + 1) 49 i1 (.slice none 0 0) 1 24 Try.underlying52 hi1 hy0 hy1 hy2 rfl (by decide) _ _ _ rfl ((hgi.own.kept hg1 (by cases tO <;> simp [Value.ownBlock])).alloc _) ⟨w1.heap.size, 0, none⟩ 1 1 [rowV m wr.heap.size] rfl rfl ?c1 ?c2 ?c3 ?c4 ?c5 ?_))
      case c1 =>
        intro j x hj
        match j, hj with
        | 0, hj => simp at hj; subst hj; simp [Addr.add, rowV]
      case c2 => first | rfl | (intro x hx; simp at hx; subst hx; rfl)
      case c3 => unfold maxLen; omega
      case c4 => omega
      case c5 => have := lt_of_block hgi.b0; have := hg1.size; simp; omega
      intro v' w3 hown' hgrow _
      have hgi2 := hgi.push (rowB_made hmade) hg1 hown' hgrow
      clear hown' hgrow hmade
      go_wp2
      go_roundw
      case rel => exact ⟨bs ++ [wr.heap.size], by simp; omega, by simp, hgi2⟩
      case measure => simp [numOf]; omega
    · have hbm : m = bs.length := by omega
      subst hbm
      go_wp2
      go_loopw [5] (fun i wr => ∃ k : Nat, k ≤ es.length ∧ i = .int .i64 k ∧ GI w wr bs.length (.int .i64 bs.length) (.slice ao es.length cap) (.slice tO bs.length tc) bs (fun i j => hasB (es.take k) i j)) (fun i _ => es.length - (numOf i).toNat)
      case atStart => exact ⟨0, Nat.zero_le _, rfl, hgi.congr (fun i j => by simp [hasB])⟩
      case round =>
        obtain ⟨k, hk, rfl, hgj⟩ := hrel
        clear hgi
        have c1 := (cell_two hgj.b0).2
        by_cases hlt2 : k < es.length
        · obtain ⟨b, off, rfl, cx, cy⟩ := HC.out k hlt2
          obtain ⟨x, y, hxy⟩ : ∃ x y, es[k] = (x, y) := ⟨es[k].1, es[k].2, rfl⟩
          have hgx := HG.out es[k] (List.getElem_mem _)
          rw [hxy] at cx cy hgx
          have hb := World.block_lt_of_cell? w _ cx
          rw [← hgj.below.cell (by exact hb)] at cx cy
          have HXY : Hid _ := hxy
          clear hxy
          obtain ⟨⟨x0, x1, y0, y1⟩, hne⟩ := hgx
          obtain ⟨i, rfl⟩ : ∃ i : Nat, x = i := ⟨x.toNat, by omega⟩
          obtain ⟨j, rfl⟩ : ∃ j : Nat, y = j := ⟨y.toNat, by omega⟩
          have hib : i < bs.length := by omega
          have hjb : j < bs.length := by omega
          obtain ⟨g, rfl, hat⟩ := hgj.at (by omega)
          obtain ⟨bi, hbi⟩ : ∃ bi, bi = bs[i] := ⟨_, rfl⟩
          obtain ⟨bj, hbj⟩ : ∃ bj, bj = bs[j] := ⟨_, rfl⟩
          have d1 := all_alloc (hat i hib)
          have d2 := all_alloc ((hgj.rows i hib).cell (j := j) (by omega))
          have e2 := all_free (a := ⟨bs[i], j, none⟩) (hgj.rows i hib).lt ((hgj.rows i hib).free j)
          rw [← hbi] at d1 d2 e2
          have HAT : Hid _ := hat
          have HBI : Hid _ := hbi
          have HBJ : Hid _ := hbj
          clear hat hbi hbj
          have i1 : (0 : Int) ≤ (i : Int) := by omega
          have i2 : (i : Int) < (bs.length : Int) := by omega
          have j1 : (0 : Int) ≤ (j : Int) := by omega
          have j2 : (j : Int) < (bs.length : Int) := by omega
          go_wp2
          go_region
          have hlb := (hgj.rows i hib).lt
          rw [← HBI.out] at hlb
          have hgj2 := (hgj.step (below_alloc (Below.refl _ _) (Obj.cells #[.int .i64 i, .int .i64 j] 59))).set hib j
          rw [← HBI.out] at hgj2
          have k0 := cell_set_far (u := .bool true) (b := ⟨bi, j, none⟩) (cell_two (heap_alloc_new wr (Obj.cells #[.int .i64 i, .int .i64 j] 59))).1 (by simp; omega)
          have k1 := cell_set_far (u := .bool true) (b := ⟨bi, j, none⟩) (cell_two (heap_alloc_new wr (Obj.cells #[.int .i64 i, .int .i64 j] 59))).2 (by simp; omega)
          clear d1 d2 e2
          generalize (wr.alloc (Obj.cells #[.int .i64 i, .int .i64 j] 59)).setCell ⟨bi, j, none⟩ (.bool true) = W1 at hgj2 k0 k1 ⊢
          obtain ⟨g', hg', hat2⟩ := hgj2.at (by omega)
          cases hg'
          have d1 := hat2 j hjb
          have d2 := (hgj2.rows j hjb).cell (j := i) (by omega)
          have e2 := (hgj2.rows j hjb).free i
          have hgj3 := hgj2.set hjb i
          rw [← HBJ.out] at d1 d2 e2 hgj3
          have HG3 : Hid _ := hgj3
          clear hgj2 hat2 hgj3
          go_wp2
          go_region
          have hgj4 := GI.congr (q := fun a c => hasB (es.take (k + 1)) a c) (GI.step HG3.out (Below.refl _ _).drew.drew) (fun a c => by
            rw [has_take hlt2 HXY.out]
            cases hasB (es.take k) a c <;> (rw [Bool.eq_iff_iff]; simp)
            omega)
          go_wp2
          go_roundw
          case rel => exact ⟨k + 1, by omega, by go_num, hgj4⟩
          case measure => simp [numOf]; omega
        · have hke : k = es.length := by omega
          subst hke
          rw [List.take_length] at hgj
          go_wp2
          go_ret
          exact ⟨hgj.below, tO, tc, bs, rfl, rfl, GI.tab (p := fun i j => hasB es i j) (by simpa using hgj)⟩

end Go.Proofs.Ytfdlndljpmamgaa
