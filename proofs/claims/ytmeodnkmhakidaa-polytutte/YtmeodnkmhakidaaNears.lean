/- Of each node the set of those near it: made empty, filled from edges. -/
import Derived.Test.YtmeodnkmhakidaaSets
import Derived.Test.YtmeodnkmhakidaaGrid
namespace Go.Proofs.Ytmeodnkmhakidaa
open Go.RowKit Go.Maps
attribute [local go_sem ↓] Go.wp_at_zero Go.wp_at_succ

theorem Try.info58 : (Try.prog.info? 58).map (fun i => (i.zero, i.size, i.bytes)) = some (some (.map none), 1, 8) := by kernel_rfl

/-- The slice v of n sets, set i in block bl i, tells e. -/
structure NearsAt (w : World) (ao : Option Addr) (n : Nat) (bl : Nat → Nat) (e : Nat → Nat → Bool) : Prop where
  inj : ∀ i j, i < n → j < n → bl i = bl j → i = j
  row : ∀ i, i < n → ∃ g, ao = some ⟨g, 0, none⟩ ∧ w.cell? ⟨g, i, none⟩ = some (.map (some (bl i)))
  sets : ∀ i, i < n → SetN w (bl i) n (e i)

theorem not_map {w : World} {p : Addr} {x : Value} (h : w.cell? p = some x) {b N : Nat} {S : Nat → Bool} (hs : SetN w b N S) : p.block ≠ b := by
  intro e
  obtain ⟨es, c, hm⟩ := hs.isMap
  rw [← e] at hm
  simp [World.cell?, hm] at h
theorem NearsAt.turns {M : Nat → Prop} {w w' : World} {ao : Option Addr} {n : Nat} {bl : Nat → Nat} {e : Nat → Nat → Bool} (h : NearsAt w ao n bl e) (ht : Turns M w w') (hm : ∀ i, i < n → ¬ M (bl i)) (hg : ∀ g, ao = some ⟨g, 0, none⟩ → ¬ M g) : NearsAt w' ao n bl e := by
  refine ⟨h.inj, fun i hi => ?_, fun i hi => (h.sets i hi).turns ht (hm i hi)⟩
  obtain ⟨g, e1, c⟩ := h.row i hi
  exact ⟨g, e1, cell_turns c ht (hg g e1)⟩
theorem NearsAt.below {w w' : World} {ao : Option Addr} {n : Nat} {bl : Nat → Nat} {e : Nat → Nat → Bool} (h : NearsAt w ao n bl e) (ht : Below w.heap.size w w') : NearsAt w' ao n bl e :=
  h.turns (M := fun _ => False) (Turns.of_below ht _) (fun _ _ h => h) (fun _ _ h => h)
theorem NearsAt.congr {w : World} {ao : Option Addr} {n : Nat} {bl : Nat → Nat} {e f : Nat → Nat → Bool} (h : NearsAt w ao n bl e) (he : ∀ i j, i < n → j < n → e i j = f i j) : NearsAt w ao n bl f :=
  ⟨h.inj, h.row, fun i hi => (h.sets i hi).congr (fun k hk => he i k hi hk)⟩
theorem NearsAt.put {w w' : World} {ao : Option Addr} {n : Nat} {bl : Nat → Nat} {e : Nat → Nat → Bool} (h : NearsAt w ao n bl e) {a b : Nat} (ha : a < n) (hs : SetN w' (bl a) n (fun k => k == b || e a k)) (ht : Turns (fun k => k = bl a) w w') :
    NearsAt w' ao n bl (fun x y => (x == a && y == b) || e x y) := by
  refine ⟨h.inj, fun i hi => ?_, fun i hi => ?_⟩
  · obtain ⟨g, e1, c⟩ := h.row i hi
    exact ⟨g, e1, cell_turns c ht (not_map c (h.sets a ha))⟩
  · by_cases he : i = a
    · subst he; simpa using hs
    · have := (h.sets i hi).turns ht (fun e => he (h.inj i a hi ha e))
      exact this.congr (fun k _ => by simp [he])

def Marks (n : Nat) (bl : Nat → Nat) : Nat → Prop := fun k => ∃ i, i < n ∧ k = bl i

set_option maxHeartbeats 400000 in
theorem all_call (n : Nat) (w : World) (hn : n ≤ 1000000) : Calls Try.prog 26 #[.int .i64 (n : Int)] w fun e w' => ∃ b, e = .returned (.map (some b)) ∧ w.heap.size ≤ b ∧ SetN w' b n (fun _ => true) ∧ Below w.heap.size w w' := by
  have hmm := @run_makeMap Try.prog
  go_enter Try.func26, Try.ntmps26
  go_wp2
  go_loopw [7] (fun i wr => ∃ k : Nat, k ≤ n ∧ i = .int .i64 (k : Int) ∧ SetN wr w.heap.size n (fun x => decide (x < k)) ∧ Below w.heap.size w wr) (fun i _ => n - (numOf i).toNat)
  case atStart => exact ⟨0, Nat.zero_le _, rfl, setN_made w n, (Below.refl _ _).alloc (Nat.le_refl _) _⟩
  case round =>
    obtain ⟨k, hk, rfl, hS, hB⟩ := hrel
    by_cases hlt : k < n
    · go_wp2_with (go_at_call 39; refine (add_call hS hn hlt).mono ?_; rintro e w1 ⟨rfl, hS1, ht1⟩)
      go_roundw
      case rel => exact ⟨k + 1, by omega, by go_num, hS1.congr (fun x _ => by rw [Bool.eq_iff_iff]; simp; omega), ht1.below hB hB.size (fun k e => by omega)⟩
      case measure => simp [numOf]; omega
    · go_wp2
      go_ret
      exact ⟨_, rfl, Nat.le_refl _, hS.congr (fun x hx => by simp; omega), hB⟩

set_option maxHeartbeats 400000 in
theorem empties_call (n : Nat) (w : World) (hn : n ≤ 1000000) : Calls Try.prog 37 #[.int .i64 (n : Int)] w fun e w' => ∃ ao, e = .returned (.slice ao n n) ∧ (∀ g, ao = some g → w.heap.size ≤ g.block) ∧ ∃ bl, NearsAt w' ao n bl (fun _ _ => false) ∧ (∀ i, i < n → w.heap.size ≤ bl i) ∧ Below w.heap.size w w' := by
  have hmm := @run_makeMap Try.prog
  obtain ⟨i0, hi, hz0, hz1, hz2⟩ := info_parts Try.info58
  go_enter Try.func37, Try.ntmps37
  go_wp2_with (at_make; refine wpList_make_full _ rfl _ _ 55 rfl w.heap.size 58 i0 (.map none) 1 Try.underlying55 hi hz0 hz1 .i64 .i64 _ _ n rfl rfl rfl rfl ?_ ?_ ?_ ?_; (rw [hz2]; omega); (unfold maxLen; omega); (omega); intro w1 hmade hg1)
  have hrow := rowV_made rfl hmade
  have hB1 : Below w.heap.size w w1 := (Below.refl _ _).grown hg1 (Nat.le_refl _) (fun k hk => by cases hk)
  clear hmade hg1
  go_loopw [9] (fun i wr => ∃ (k : Nat) (bl : Nat → Nat), k ≤ n ∧ i = .int .i64 (k : Int) ∧ RowV wr w.heap.size 58 n (fun j => if j < k then .map (some (bl j)) else .map none) ∧ (∀ i j, i < k → j < k → bl i = bl j → i = j) ∧ (∀ i, i < k → SetN wr (bl i) n (fun _ => false) ∧ w.heap.size < bl i) ∧ Below w.heap.size w wr) (fun i _ => n - (numOf i).toNat)
  case atStart => exact ⟨0, fun _ => 0, Nat.zero_le _, rfl, hrow.congr (fun j _ => by simp), fun i j h => absurd h (by omega), fun i h => absurd h (by omega), hB1⟩
  case round =>
    obtain ⟨k, bl, hk, rfl, hR, hinj, hsets, hB⟩ := hrel
    clear hrow hB1
    by_cases hlt : k < n
    · have c1 := all_alloc (hR.cell hlt)
      have f1 := all_free (a := ⟨w.heap.size, k, none⟩) hR.lt (hR.free k)
      have i1 : (0 : Int) ≤ (k : Int) := by omega
      have i2 : (k : Int) < (n : Int) := by omega
      go_wp2
      go_roundw
      case rel =>
        have hlR := hR.lt
        have hR2 := (hR.turns (alloc_turns wr (.map #[] 0) (fun _ => False)) (fun h => h)).set k (.map (some wr.heap.size))
        have ht : Turns (fun j => j = w.heap.size) wr ((wr.alloc (.map #[] 0)).setCell ⟨w.heap.size, k, none⟩ (.map (some wr.heap.size))) := (alloc_turns _ _ _).trans (setCell_turns _ _ _ _)
        have hlt2 : ∀ i, i < k → bl i < wr.heap.size := fun i h => (hsets i h).1.lt
        refine ⟨k + 1, fun j => if j = k then wr.heap.size else bl j, by omega, by go_num, hR2.congr (fun j _ => ?_), ?_, ?_, (hB.alloc hB.size _).setCell (by simp) _⟩
        · by_cases e : j = k
          · subst e; simp
          · simp [e]
            by_cases h2 : j < k
            · rw [if_pos h2, if_pos (by omega)]
            · rw [if_neg h2, if_neg (by omega)]
        · intro i j hi hj e
          by_cases h1 : i = k <;> by_cases h2 : j = k <;> simp [h1, h2] at e ⊢
          · have := hlt2 j (by omega); omega
          · have := hlt2 i (by omega); omega
          · exact hinj i j (by omega) (by omega) e
        · intro i hi
          by_cases h1 : i = k
          · simp [h1]
            exact ⟨(setN_made wr n).turns (setCell_turns _ _ _ _) (by omega), by omega⟩
          · simp [h1]
            have h3 := hsets i (by omega)
            exact ⟨h3.1.turns ht (by omega), h3.2⟩
      case measure => simp [numOf]; omega
    · have : k = n := by omega
      subst this
      go_wp2
      go_ret
      exact ⟨_, rfl, fun g e => by cases e; exact Nat.le_refl _, bl, ⟨hinj, fun i hi => ⟨_, rfl, by have := hR.cell hi; simpa [hi] using this⟩, fun i hi => (hsets i hi).1⟩, fun i hi => by have := (hsets i hi).2; omega, hB⟩

set_option maxHeartbeats 400000 in
theorem join_call {w : World} {ao : Option Addr} {cap n : Nat} {bl : Nat → Nat} {e : Nat → Nat → Bool} (h : NearsAt w ao n bl e) (hn : n ≤ 1000000) {a b : Nat} (ha : a < n) (hb : b < n) :
    Calls Try.prog 38 #[.slice ao n cap, .int .i64 (a : Int), .int .i64 (b : Int)] w fun r w' => r = .returned (.tuple #[]) ∧ NearsAt w' ao n bl (fun x y => (x == b && y == a) || ((x == a && y == b) || e x y)) ∧ Turns (Marks n bl) w w' := by
  obtain ⟨g, rfl, c1⟩ := h.row a ha
  have i1 : (0 : Int) ≤ (a : Int) := by omega
  have i2 : (a : Int) < (n : Int) := by omega
  have j1 : (0 : Int) ≤ (b : Int) := by omega
  have j2 : (b : Int) < (n : Int) := by omega
  go_enter Try.func38, Try.ntmps38
  go_upto_region 1 with (go_at_call 39; refine (add_call (h.sets a ha) hn hb).mono ?_; rintro r w1 ⟨rfl, hS1, ht1⟩)
  have h1 := h.put ha hS1 ht1
  obtain ⟨g', e', c2⟩ := h1.row b hb
  cases e'
  clear c1
  go_wp2_with (go_at_call 39; refine (add_call (h1.sets b hb) hn ha).mono ?_; rintro r w2 ⟨rfl, hS2, ht2⟩)
  go_end0
  exact ⟨rfl, h1.put hb hS2 ht2, (ht1.mono (fun k _ e => ⟨a, ha, e⟩)).trans (ht2.mono (fun k _ e => ⟨b, hb, e⟩))⟩

theorem hasB_take (es : List Pair) (k : Nat) (hk : k < es.length) (a b : Nat) (x y : Nat) (he : es[k] = ((x : Int), (y : Int))) : hasB (es.take (k + 1)) a b = ((a == y && b == x) || ((a == x && b == y) || hasB (es.take k) a b)) := by
  rw [List.take_succ_eq_append_getElem hk, he, hasB_snoc]
  have q : ∀ p q : Nat, ((p : Int) == (q : Int)) = (q == p) := fun p q => by rw [Bool.eq_iff_iff]; simp; omega
  rw [q, q, q, q]
  cases hasB (es.take k) a b <;> cases (a == x) <;> cases (b == y) <;> cases (a == y) <;> cases (b == x) <;> rfl

def bothB (es : List Pair) (a b : Nat) : Bool := hasB es a b

set_option maxHeartbeats 1000000 in
theorem bothWays_call (n : Nat) (v : Value) (es : List Pair) (w : World) (hE : EdgesAt w v es) (hn : n ≤ 1000) (hgood : ∀ e ∈ es, 0 ≤ e.1 ∧ e.1 < n ∧ 0 ≤ e.2 ∧ e.2 < n) :
    Calls Try.prog 25 #[.int .i64 (n : Int), v] w fun r w' => ∃ ao, r = .returned (.slice ao n n) ∧ (∀ g, ao = some g → w.heap.size ≤ g.block) ∧ ∃ bl, NearsAt w' ao n bl (bothB es) ∧ (∀ i, i < n → w.heap.size ≤ bl i) ∧ Below w.heap.size w w' := by
  obtain ⟨eo, cap, rfl, hl2, hI, hcells⟩ := hE
  clear hI
  have HG : Hid _ := hgood
  have HC : Hid _ := hcells
  clear hgood hcells
  go_enter Try.func25, Try.ntmps25
  go_wp2_with (go_at_call 37; refine (empties_call n _ (by omega)).mono ?_; rintro r w1 ⟨ao, rfl, hao, bl, hN1, hbl, hB1⟩)
  go_loopw [12] (fun i wr => ∃ k : Nat, k ≤ es.length ∧ i = .int .i64 (k : Int) ∧ NearsAt wr ao n bl (bothB (es.take k)) ∧ Below w.heap.size w wr) (fun i _ => es.length - (numOf i).toNat)
  case atStart => exact ⟨0, Nat.zero_le _, rfl, hN1.congr (fun i j _ _ => by simp [bothB, hasB]), hB1⟩
  case round =>
    obtain ⟨k, hk, rfl, hN, hB⟩ := hrel
    clear hN1 hB1
    by_cases hlt : k < es.length
    · obtain ⟨b, off, rfl, cx, cy⟩ := HC.out k hlt
      obtain ⟨x, y, hxy⟩ : ∃ x y, es[k] = (x, y) := ⟨es[k].1, es[k].2, rfl⟩
      have hgx := HG.out es[k] (List.getElem_mem _)
      rw [hxy] at cx cy hgx
      have hb := World.block_lt_of_cell? w _ cx
      rw [← hB.cell (by exact hb)] at cx cy
      obtain ⟨x0, x1, y0, y1⟩ := hgx
      obtain ⟨i, rfl⟩ : ∃ i : Nat, x = i := ⟨x.toNat, by omega⟩
      obtain ⟨j, rfl⟩ : ∃ j : Nat, y = j := ⟨y.toNat, by omega⟩
      have HXY : Hid _ := hxy
      clear hxy
      go_wp2_with (go_at_call 38; refine (join_call (hN.below (below_alloc (Below.refl _ _) _)) (by omega) (a := i) (b := j) (by omega) (by omega)).mono ?_; rintro r w2 ⟨rfl, hN2, ht2⟩)
      go_roundw
      case rel =>
        refine ⟨k + 1, by omega, by go_num, hN2.congr (fun a c _ _ => (hasB_take es k hlt a c i j HXY.out).symm), ht2.below (hB.alloc hB.size _) (by have := hB.size; simp; omega) ?_⟩
        rintro k ⟨i, hi, rfl⟩
        exact hbl i hi
      case measure => simp [numOf]; omega
    · have : k = es.length := by omega
      subst this
      rw [List.take_length] at hN
      go_wp2
      go_ret
      exact ⟨ao, rfl, hao, bl, hN, hbl, hB⟩
end Go.Proofs.Ytmeodnkmhakidaa
