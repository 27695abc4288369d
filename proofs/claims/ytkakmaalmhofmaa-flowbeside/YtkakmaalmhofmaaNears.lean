/- Of each node the set of those near it: made empty, filled from edges. -/
import Derived.Test.YtkakmaalmhofmaaSets
import Derived.Test.YtkakmaalmhofmaaGrid
namespace Go.Proofs.Ytkakmaalmhofmaa
open Go.RowKit Go.Maps
attribute [local go_sem ↓] Go.wp_at_zero Go.wp_at_succ

theorem Try.info101 : (Try.prog.info? 101).map (fun i => (i.zero, i.size, i.bytes)) = some (some (.map none), 1, 8) := by kernel_rfl

/-- Block b is a row of n values. -/
def RowV (w : World) (b : Nat) (t : TypeId) (n : Nat) (f : Nat → Value) : Prop := ∃ cur, w.heap[b]? = some (.cells cur t (0, 0)) ∧ cur.size = n ∧ ∀ j, j < n → cur[j]? = some (f j)
theorem RowV.block {w w' : World} {b n : Nat} {t : TypeId} {f : Nat → Value} (h : RowV w b t n f) (hb : w'.heap[b]? = w.heap[b]?) : RowV w' b t n f := by
  obtain ⟨cur, h1, h2⟩ := h
  exact ⟨cur, hb.trans h1, h2⟩
theorem RowV.lt {w : World} {b n : Nat} {t : TypeId} {f : Nat → Value} (h : RowV w b t n f) : b < w.heap.size := by
  obtain ⟨cur, h1, h2⟩ := h
  exact lt_of_block h1
theorem RowV.cell {w : World} {b n : Nat} {t : TypeId} {f : Nat → Value} (h : RowV w b t n f) {j : Nat} (hj : j < n) : w.cell? ⟨b, j, none⟩ = some (f j) := by
  obtain ⟨cur, h1, _, h3⟩ := h
  rw [cell_of_row w b j cur t (0, 0) h1]
  exact h3 j hj
theorem RowV.free {w : World} {b n : Nat} {t : TypeId} {f : Nat → Value} (h : RowV w b t n f) (j : Nat) : w.frozen? ⟨b, j, none⟩ = false := by
  obtain ⟨cur, h1, _, h3⟩ := h
  simp [World.frozen?, h1]
theorem RowV.set {w : World} {b n : Nat} {t : TypeId} {f : Nat → Value} (h : RowV w b t n f) (y : Nat) (x : Value) : RowV (w.setCell ⟨b, y, none⟩ x) b t n (fun j => if j = y then x else f j) := by
  obtain ⟨cur, h1, h2, h3⟩ := h
  refine ⟨cur.setIfInBounds y x, ?_, by simp [h2], fun j hj => ?_⟩
  · have hl := lt_of_block h1
    simp [World.setCell, Array.getElem?_modify, h1]
  · by_cases e : j = y
    · subst e
      rw [Array.getElem?_setIfInBounds_self_of_lt (by omega)]
      simp
    · rw [Array.getElem?_setIfInBounds_ne (by omega), h3 j hj]
      simp [e]
theorem RowV.congr {w : World} {b n : Nat} {t : TypeId} {f g : Nat → Value} (h : RowV w b t n f) (e : ∀ j, j < n → f j = g j) : RowV w b t n g := by
  obtain ⟨cur, h1, h2, h3⟩ := h
  exact ⟨cur, h1, h2, fun j hj => by rw [h3 j hj, e j hj]⟩
theorem RowV.turns {w w' : World} {b n : Nat} {t : TypeId} {f : Nat → Value} {M : Nat → Prop} (h : RowV w b t n f) (ht : Turns M w w') (hm : ¬ M b) : RowV w' b t n f := h.block (ht.block b h.lt hm)
theorem rowV_made {w : World} {base b n : Nat} {t : TypeId} {z : Value} (hz : z.cells = #[z]) (h : w.ownsRow base t 1 (.slice (some ⟨b, 0, none⟩) n n) n (madeCells z.cells (n * 1)).toList) : RowV w b t n (fun _ => z) := by
  rcases h.2 with ⟨h1, _⟩ | ⟨g, cap, cur, h1, _, h2, _, _, h3, h4⟩
  · cases h1
  · cases h1
    refine ⟨cur, h2, by omega, fun j hj => ?_⟩
    have : (cur.toList.take (n * 1))[j]? = some z := by
      rw [h4, hz]
      simp [madeCells, hj]
      simp [Nat.mod_one]
    rw [List.getElem?_take_of_lt (by omega)] at this
    simpa using this
theorem setCell_turns (w : World) (b o : Nat) (x : Value) : Turns (fun k => k = b) w (w.setCell ⟨b, o, none⟩ x) := ⟨rfl, rfl, rfl, by simp [World.setCell], fun k _ hk => Below.heap_setCell _ _ _ _ hk⟩
theorem alloc_turns (w : World) (o : Obj) (M : Nat → Prop) : Turns M w (w.alloc o) := ⟨rfl, rfl, rfl, by simp, fun k hk _ => Below.heap_alloc _ _ _ hk⟩

/-- The slice v of n sets, set i in block bl i, tells e. -/
structure NearsAt (w : World) (ao : Option Addr) (n : Nat) (bl : Nat → Nat) (e : Nat → Nat → Bool) : Prop where
  inj : ∀ i j, i < n → j < n → bl i = bl j → i = j
  row : ∀ i, i < n → ∃ g, ao = some ⟨g, 0, none⟩ ∧ w.cell? ⟨g, i, none⟩ = some (.map (some (bl i)))
  sets : ∀ i, i < n → SetN w (bl i) n (e i)

theorem not_map {w : World} {p : Addr} {x : Value} (h : w.cell? p = some x) {b N : Nat} {S : Nat → Bool} (hs : SetN w b N S) : p.block ≠ b := by
  intro e
  obtain ⟨es, c, hm⟩ := hs.isMap
  rw [← e] at hm
  simp [World.cell?, hm] at h
theorem cell_turns {M : Nat → Prop} {w w' : World} {p : Addr} {x : Value} (h : w.cell? p = some x) (ht : Turns M w w') (hm : ¬ M p.block) : w'.cell? p = some x := by
  rw [World.cell?_of_block (w := w) (ht.block p.block (World.block_lt_of_cell? w _ h) hm)]; exact h

theorem NearsAt.turns {M : Nat → Prop} {w w' : World} {ao : Option Addr} {n : Nat} {bl : Nat → Nat} {e : Nat → Nat → Bool} (h : NearsAt w ao n bl e) (ht : Turns M w w') (hm : ∀ i, i < n → ¬ M (bl i)) (hg : ∀ g, ao = some ⟨g, 0, none⟩ → ¬ M g) : NearsAt w' ao n bl e := by
  refine ⟨h.inj, fun i hi => ?_, fun i hi => (h.sets i hi).turns ht (hm i hi)⟩
  obtain ⟨g, e1, c⟩ := h.row i hi
  exact ⟨g, e1, cell_turns c ht (hg g e1)⟩
theorem NearsAt.below {w w' : World} {ao : Option Addr} {n : Nat} {bl : Nat → Nat} {e : Nat → Nat → Bool} (h : NearsAt w ao n bl e) (ht : Below w.heap.size w w') : NearsAt w' ao n bl e :=
  h.turns (M := fun _ => False) (Turns.of_below ht _) (fun _ _ h => h) (fun _ _ h => h)
theorem NearsAt.congr {w : World} {ao : Option Addr} {n : Nat} {bl : Nat → Nat} {e f : Nat → Nat → Bool} (h : NearsAt w ao n bl e) (he : ∀ i j, i < n → j < n → e i j = f i j) : NearsAt w ao n bl f :=
  ⟨h.inj, h.row, fun i hi => (h.sets i hi).congr (fun k hk => he i k hi hk)⟩
theorem NearsAt.put {w w' : World} {ao : Option Addr} {n : Nat} {bl : Nat → Nat} {e : Nat → Nat → Bool} (h : NearsAt w ao n bl e) {a b : Nat} (ha : a < n) (hs : SetN w' (bl a) n (fun k => k == b || e a k)) (ht : Turns (fun k => k = bl a) w w') :
    NearsAt w' ao n bl (fun x y => (x == a && y == b) || e x y) := by
  refine ⟨h.inj, fun i hi => ?_, fun i hi => ?_⟩
  · obtain ⟨g, e1, c⟩ := h.row i hi
    exact ⟨g, e1, cell_turns c ht (not_map c (h.sets a ha))⟩
  · by_cases he : i = a
    · subst he; simpa using hs
    · have := (h.sets i hi).turns ht (fun e => he (h.inj i a hi ha e))
      exact this.congr (fun k _ => by simp [he])

def Marks (n : Nat) (bl : Nat → Nat) : Nat → Prop := fun k => ∃ i, i < n ∧ k = bl i

set_option maxHeartbeats 400000 in
theorem empties_call (n : Nat) (w : World) (hn : n ≤ 1000000) : Calls Try.prog 59 #[.int .i64 (n : Int)] w fun e w' => ∃ ao, e = .returned (.slice ao n n) ∧ (∀ g, ao = some g → w.heap.size ≤ g.block) ∧ ∃ bl, NearsAt w' ao n bl (fun _ _ => false) ∧ (∀ i, i < n → w.heap.size ≤ bl i) ∧ Below w.heap.size w w' := by
  have hmm := @run_makeMap Try.prog
  obtain ⟨i0, hi, hz0, hz1, hz2⟩ := info_parts Try.info101
  go_enter Try.func59, Try.ntmps59
  go_wp2_with (at_make; refine wpList_make_full _ rfl _ _ 76 rfl w.heap.size 101 i0 (.map none) 1 Try.underlying76 hi hz0 hz1 .i64 .i64 _ _ n rfl rfl rfl rfl ?_ ?_ ?_ ?_; (rw [hz2]; omega); (unfold maxLen; omega); (omega); intro w1 hmade hg1)
  have hrow := rowV_made rfl hmade
  have hB1 : Below w.heap.size w w1 := (Below.refl _ _).grown hg1 (Nat.le_refl _) (fun k hk => by cases hk)
  clear hmade hg1
  go_loopw [9] (fun i wr => ∃ (k : Nat) (bl : Nat → Nat), k ≤ n ∧ i = .int .i64 (k : Int) ∧ RowV wr w.heap.size 101 n (fun j => if j < k then .map (some (bl j)) else .map none) ∧ (∀ i j, i < k → j < k → bl i = bl j → i = j) ∧ (∀ i, i < k → SetN wr (bl i) n (fun _ => false) ∧ w.heap.size < bl i) ∧ Below w.heap.size w wr) (fun i _ => n - (numOf i).toNat)
  case atStart => exact ⟨0, fun _ => 0, Nat.zero_le _, rfl, hrow.congr (fun j _ => by simp), fun i j h => absurd h (by omega), fun i h => absurd h (by omega), hB1⟩
  case round =>
    obtain ⟨k, bl, hk, rfl, hR, hinj, hsets, hB⟩ := hrel
    clear hrow hB1
    by_cases hlt : k < n
    · have c1 := all_alloc (hR.cell hlt)
      have f1 := all_free (a := ⟨w.heap.size, k, none⟩) hR.lt (hR.free k)
      have i1 : (0 : Int) ≤ (k : Int) := by omega
      have i2 : (k : Int) < (n : Int) := by omega
      go_wp2
      go_roundw
      case rel =>
        have hlR := hR.lt
        have hR2 := (hR.turns (alloc_turns wr (.map #[] 0) (fun _ => False)) (fun h => h)).set k (.map (some wr.heap.size))
        have ht : Turns (fun j => j = w.heap.size) wr ((wr.alloc (.map #[] 0)).setCell ⟨w.heap.size, k, none⟩ (.map (some wr.heap.size))) := (alloc_turns _ _ _).trans (setCell_turns _ _ _ _)
        have hlt2 : ∀ i, i < k → bl i < wr.heap.size := fun i h => (hsets i h).1.lt
        refine ⟨k + 1, fun j => if j = k then wr.heap.size else bl j, by omega, by go_num, hR2.congr (fun j _ => ?_), ?_, ?_, (hB.alloc hB.size _).setCell (by simp) _⟩
        · by_cases e : j = k
          · subst e; simp
          · simp [e]
            by_cases h2 : j < k
            · rw [if_pos h2, if_pos (by omega)]
            · rw [if_neg h2, if_neg (by omega)]
        · intro i j hi hj e
          by_cases h1 : i = k <;> by_cases h2 : j = k <;> simp [h1, h2] at e ⊢
          · have := hlt2 j (by omega); omega
          · have := hlt2 i (by omega); omega
          · exact hinj i j (by omega) (by omega) e
        · intro i hi
          by_cases h1 : i = k
          · simp [h1]
            exact ⟨(setN_made wr n).turns (setCell_turns _ _ _ _) (by omega), by omega⟩
          · simp [h1]
            have h3 := hsets i (by omega)
            exact ⟨h3.1.turns ht (by omega), h3.2⟩
      case measure => simp [numOf]; omega
    · have : k = n := by omega
      subst this
      go_wp2
      go_ret
      exact ⟨_, rfl, fun g e => by cases e; exact Nat.le_refl _, bl, ⟨hinj, fun i hi => ⟨_, rfl, by have := hR.cell hi; simpa [hi] using this⟩, fun i hi => (hsets i hi).1⟩, fun i hi => by have := (hsets i hi).2; omega, hB⟩

theorem hasB_take (es : List Pair) (k : Nat) (hk : k < es.length) (a b : Nat) (x y : Nat) (he : es[k] = ((x : Int), (y : Int))) : hasB (es.take (k + 1)) a b = ((a == y && b == x) || ((a == x && b == y) || hasB (es.take k) a b)) := by
  rw [List.take_succ_eq_append_getElem hk, he, hasB_snoc]
  have q : ∀ p q : Nat, ((p : Int) == (q : Int)) = (q == p) := fun p q => by rw [Bool.eq_iff_iff]; simp; omega
  rw [q, q, q, q]
  cases hasB (es.take k) a b <;> cases (a == x) <;> cases (b == y) <;> cases (a == y) <;> cases (b == x) <;> rfl

def bothB (es : List Pair) (a b : Nat) : Bool := hasB es a b

theorem RowB.congr {w : World} {b m : Nat} {q r : Nat → Bool} (h : RowB w b m q) (e : ∀ j, j < m → q j = r j) : RowB w b m r := by
  obtain ⟨cur, h1, h2, h3⟩ := h
  exact ⟨cur, h1, h2, fun j hj => by rw [h3 j hj, e j hj]⟩
theorem RowB.turns {w w' : World} {b m : Nat} {q : Nat → Bool} {M : Nat → Prop} (h : RowB w b m q) (ht : Turns M w w') (hm : ¬ M b) : RowB w' b m q := h.block (ht.block b h.lt hm)
theorem RowB.put {w : World} {b m : Nat} {q : Nat → Bool} (h : RowB w b m q) (y : Nat) (x : Bool) : RowB (w.setCell ⟨b, y, none⟩ (.bool x)) b m (fun j => if j = y then x else q j) := by
  obtain ⟨cur, h1, h2, h3⟩ := h
  refine ⟨cur.setIfInBounds y (.bool x), ?_, by simp [h2], fun j hj => ?_⟩
  · have hl := lt_of_block h1
    simp [World.setCell, Array.getElem?_modify, h1]
  · by_cases e : j = y
    · subst e
      rw [Array.getElem?_setIfInBounds_self_of_lt (by omega)]
      simp
    · rw [Array.getElem?_setIfInBounds_ne (by omega), h3 j hj]
      simp [e]

end Go.Proofs.Ytkakmaalmhofmaa
