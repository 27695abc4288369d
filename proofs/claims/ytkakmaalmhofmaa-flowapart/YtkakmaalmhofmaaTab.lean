/- A table of false, and writing into a table. -/
import Derived.Test.YtkakmaalmhofmaaWayC
namespace Go.Proofs.Ytkakmaalmhofmaa
open Go.RowKit Go.Maps
attribute [local go_sem ↓] Go.wp_at_zero Go.wp_at_succ

/-- A table of one's own: rows bs, each of m bools, that tells p. -/
structure Tab (base : Nat) (wr : World) (m : Nat) (v : Value) (bs : List Nat) (p : Nat → Nat → Bool) : Prop where
  own : wr.ownsRow base 36 1 v bs.length (bs.map (rowV m))
  rows : ∀ i (h : i < bs.length), RowB wr bs[i] m (p i)
  nodup : ∀ i j (hi : i < bs.length) (hj : j < bs.length), bs[i] = bs[j] → i = j
  ge : ∀ b ∈ bs, base ≤ b

theorem GI.tab {w wr : World} {m : Nat} {x0 v0 v : Value} {bs : List Nat} {p : Nat → Nat → Bool} (h : GI w wr m x0 v0 v bs p) : Tab w.heap.size wr m v bs p :=
  ⟨ownsRow_mono h.own (by omega), h.rows, h.nodup, fun b hb => by have := h.ge b hb; omega⟩
theorem Tab.below {base : Nat} {wr wr' : World} {m : Nat} {v : Value} {bs : List Nat} {p : Nat → Nat → Bool} (h : Tab base wr m v bs p) (hb : Below wr.heap.size wr wr') : Tab base wr' m v bs p :=
  ⟨ownsRow_blocks h.own (fun b hb' => hb.block b (h.own.lt b hb').2), fun i hi => (h.rows i hi).block (hb.block _ (h.rows i hi).lt), h.nodup, h.ge⟩
theorem Tab.congr {base : Nat} {wr : World} {m : Nat} {v : Value} {bs : List Nat} {p q : Nat → Nat → Bool} (h : Tab base wr m v bs p) (he : ∀ i j, p i j = q i j) : Tab base wr m v bs q := by
  have : p = q := by funext i j; exact he i j
  rw [← this]; exact h
theorem Tab.put {base : Nat} {wr : World} {m : Nat} {v : Value} {bs : List Nat} {p : Nat → Nat → Bool} (h : Tab base wr m v bs p) {i : Nat} (hi : i < bs.length) (j : Nat) (x : Bool) :
    Tab base (wr.setCell ⟨bs[i], j, none⟩ (.bool x)) m v bs (fun a b => if a = i ∧ b = j then x else p a b) := by
  have q : ∀ k, k ≠ bs[i] → (wr.setCell ⟨bs[i], j, none⟩ (.bool x)).heap[k]? = wr.heap[k]? := fun k hk => Below.heap_setCell _ _ _ _ hk
  refine ⟨?_, ?_, h.nodup, h.ge⟩
  · refine h.own.kept (row := some bs[i]) ⟨rfl, rfl, rfl, by simp [World.setCell], fun k _ hk => q k (fun e => hk (by rw [e]))⟩ (Or.inr ((h.rows i hi).ne h.own))
  · intro a ha
    by_cases e : a = i
    · subst e
      have := (h.rows a ha).put j x
      simpa using this
    · have hne : bs[a] ≠ bs[i] := fun e' => e (h.nodup a i ha hi e')
      have e2 : (fun b => if a = i ∧ b = j then x else p a b) = p a := by funext b; simp [e]
      rw [e2]
      exact (h.rows a ha).block (q _ hne)
theorem Tab.at {base : Nat} {wr : World} {m : Nat} {ao : Option Addr} {n cap : Nat} {bs : List Nat} {p : Nat → Nat → Bool} (h : Tab base wr m (.slice ao n cap) bs p) (h0 : 0 < bs.length) :
    ∃ g, ao = some ⟨g, 0, none⟩ ∧ ∀ i (hi : i < bs.length), wr.cell? ⟨g, i, none⟩ = some (.slice (some ⟨bs[i], 0, none⟩) m m) := by
  rcases h.own.2 with ⟨_, e⟩ | ⟨g, c, cur, e, _⟩
  · omega
  · cases e
    refine ⟨g, rfl, fun i hi => ?_⟩
    have := h.own.cells (g := g) rfl i (rowV m bs[i]) (by simp [hi])
    rw [add_none] at this
    exact this
theorem Tab.grid {base : Nat} {wr : World} {m : Nat} {ao : Option Addr} {n cap : Nat} {bs : List Nat} {p : Int → Int → Bool} (h : Tab base wr m (.slice ao n cap) bs (fun i j => p i j)) (hl : bs.length = m) : GridAt wr (.slice ao m cap) m p := by
  refine ⟨ao, cap, rfl, fun i hi => ?_⟩
  have hb : i < bs.length := by omega
  obtain ⟨g, rfl, hat⟩ := h.at (by omega)
  exact ⟨g, bs[i], rfl, hat i hb, fun j hj => (h.rows i hb).cell hj⟩

set_option maxHeartbeats 1000000 in
theorem gridOf_new (m : Nat) (w : World) (hm : m ≤ 100) :
    Calls Try.prog 17 #[.agg #[.int .i64 m, .slice none 0 0]] w fun e w' => ∃ ao cap bs, e = .returned (.slice ao m cap) ∧ bs.length = m ∧ Tab w.heap.size w' m (.slice ao m cap) bs (fun _ _ => false) ∧ Below w.heap.size w w' := by
  obtain ⟨i0, hi, hz0, hz1, hz2⟩ := info_parts Try.info4
  obtain ⟨i1, hi1, hy0, hy1, hy2⟩ := info_parts Try.info36
  go_enter Try.func17, Try.ntmps17
  go_wp2
  go_loopw [3, 4] (fun t i wr => ∃ bs : List Nat, bs.length ≤ m ∧ i = .int .i64 bs.length ∧ GI w wr m (.int .i64 m) (.slice none 0 0) t bs (fun _ _ => false)) (fun _ i _ => m - (numOf i).toNat)
  case atStart => exact ⟨[], Nat.zero_le _, rfl, heap_alloc_new _ _, World.ownsRow_nil _ _ _ _, fun i h => absurd h (by simp), fun i j h => absurd h (by simp), (fun b h => by cases h), below_alloc (Below.refl _ _) _⟩
  case round =>
    obtain ⟨bs, hk, rfl, hgi⟩ := hrel
    have c0 := (cell_two hgi.b0).1
    obtain ⟨to1, tc, rfl⟩ := form_row hgi.own
    by_cases hlt : bs.length < m
    · go_wp2_with (first | (at_make; refine wpList_make_full _ rfl _ _ 36 rfl (w.heap.size + 1) 4 i0 (.bool false) 1 Try.underlying36 hi hz0 hz1 .i64 .i64 _ _ m rfl rfl rfl rfl ?_ ?_ ?_ ?_; (rw [hz2]; omega); (unfold maxLen; omega); (have := lt_of_block hgi.b0; omega); intro w1 hmade hg1) | (at_builtin; refine wpList_append_own _ rfl _ _ 48 rfl (w.heap.size + 1) 36 i1 (.slice none 0 0) 1 24 Try.underlying48 hi1 hy0 hy1 hy2 rfl (by decide) _ _ _ rfl ((hgi.own.kept hg1 (by cases to1 <;> simp [Value.ownBlock])).alloc _) ⟨w1.heap.size, 0, none⟩ 1 1 [rowV m wr.heap.size] rfl rfl ?c1 ?c2 ?c3 ?c4 ?c5 ?_))
      case c1 =>
        intro j x hj
        match j, hj with
        | 0, hj => simp at hj; subst hj; simp [Addr.add, rowV]
      case c2 => first | rfl | (intro x hx; simp at hx; subst hx; rfl)
      case c3 => unfold maxLen; omega
      case c4 => omega
      case c5 => have := lt_of_block hgi.b0; have := hg1.size; simp; omega
      intro v' w3 hown' hgrow _
      have hgi2 := hgi.push (rowB_made hmade) hg1 hown' hgrow
      clear hown' hgrow hmade
      go_wp2
      go_roundw
      case rel => exact ⟨bs ++ [wr.heap.size], by simp; omega, by simp, hgi2⟩
      case measure => simp [numOf]; omega
    · have hbm : m = bs.length := by omega
      subst hbm
      have c1 := (cell_two hgi.b0).2
      go_wp2
      go_loopw [5] (fun i wr => i = .int .i64 0 ∧ GI w wr bs.length (.int .i64 bs.length) (.slice none 0 0) (.slice to1 bs.length tc) bs (fun _ _ => false)) (fun _ _ => 0)
      case atStart => exact ⟨rfl, hgi⟩
      case round =>
        obtain ⟨rfl, hgj⟩ := hrel
        clear hgi c0 c1
        have c1 := (cell_two hgj.b0).2
        go_wp2
        go_ret
        exact ⟨to1, tc, bs, rfl, rfl, hgj.tab, hgj.below⟩
end Go.Proofs.Ytkakmaalmhofmaa
