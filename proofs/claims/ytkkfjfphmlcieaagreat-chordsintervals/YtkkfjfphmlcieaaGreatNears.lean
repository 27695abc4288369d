/- Of each node the set of those near it: made empty, filled from edges. -/
import Derived.Test.YtkkfjfphmlcieaaGreatSets
import Derived.Test.YtkkfjfphmlcieaaGreatGrid
namespace Go.Proofs.YtkkfjfphmlcieaaGreat
open Go.RowKit Go.Maps
attribute [local go_sem ↓] Go.wp_at_zero Go.wp_at_succ

theorem Tryz.info71 : (Tryz.prog.info? 71).map (fun i => (i.zero, i.size, i.bytes)) = some (some (.map none), 1, 8) := by kernel_rfl

/-- The slice v of n sets, set i in block bl i, tells e. -/
structure NearsAt (w : World) (ao : Option Addr) (n : Nat) (bl : Nat → Nat) (e : Nat → Nat → Bool) : Prop where
  inj : ∀ i j, i < n → j < n → bl i = bl j → i = j
  row : ∀ i, i < n → ∃ g, ao = some ⟨g, 0, none⟩ ∧ w.cell? ⟨g, i, none⟩ = some (.map (some (bl i)))
  sets : ∀ i, i < n → SetN w (bl i) n (e i)

theorem not_map {w : World} {p : Addr} {x : Value} (h : w.cell? p = some x) {b N : Nat} {S : Nat → Bool} (hs : SetN w b N S) : p.block ≠ b := by
  intro e
  obtain ⟨es, c, hm⟩ := hs.isMap
  rw [← e] at hm
  simp [World.cell?, hm] at h
theorem NearsAt.turns {M : Nat → Prop} {w w' : World} {ao : Option Addr} {n : Nat} {bl : Nat → Nat} {e : Nat → Nat → Bool} (h : NearsAt w ao n bl e) (ht : Turns M w w') (hm : ∀ i, i < n → ¬ M (bl i)) (hg : ∀ g, ao = some ⟨g, 0, none⟩ → ¬ M g) : NearsAt w' ao n bl e := by
  refine ⟨h.inj, fun i hi => ?_, fun i hi => (h.sets i hi).turns ht (hm i hi)⟩
  obtain ⟨g, e1, c⟩ := h.row i hi
  exact ⟨g, e1, cell_turns c ht (hg g e1)⟩
theorem NearsAt.below {w w' : World} {ao : Option Addr} {n : Nat} {bl : Nat → Nat} {e : Nat → Nat → Bool} (h : NearsAt w ao n bl e) (ht : Below w.heap.size w w') : NearsAt w' ao n bl e :=
  h.turns (M := fun _ => False) (Turns.of_below ht _) (fun _ _ h => h) (fun _ _ h => h)
theorem NearsAt.congr {w : World} {ao : Option Addr} {n : Nat} {bl : Nat → Nat} {e f : Nat → Nat → Bool} (h : NearsAt w ao n bl e) (he : ∀ i j, i < n → j < n → e i j = f i j) : NearsAt w ao n bl f :=
  ⟨h.inj, h.row, fun i hi => (h.sets i hi).congr (fun k hk => he i k hi hk)⟩
theorem NearsAt.put {w w' : World} {ao : Option Addr} {n : Nat} {bl : Nat → Nat} {e : Nat → Nat → Bool} (h : NearsAt w ao n bl e) {a b : Nat} (ha : a < n) (hs : SetN w' (bl a) n (fun k => k == b || e a k)) (ht : Turns (fun k => k = bl a) w w') :
    NearsAt w' ao n bl (fun x y => (x == a && y == b) || e x y) := by
  refine ⟨h.inj, fun i hi => ?_, fun i hi => ?_⟩
  · obtain ⟨g, e1, c⟩ := h.row i hi
    exact ⟨g, e1, cell_turns c ht (not_map c (h.sets a ha))⟩
  · by_cases he : i = a
    · subst he; simpa using hs
    · have := (h.sets i hi).turns ht (fun e => he (h.inj i a hi ha e))
      exact this.congr (fun k _ => by simp [he])

def Marks (n : Nat) (bl : Nat → Nat) : Nat → Prop := fun k => ∃ i, i < n ∧ k = bl i

set_option maxHeartbeats 400000 in
theorem all_call (n : Nat) (w : World) (hn : n ≤ 1000000) : Calls Tryz.prog 50 #[.int .i64 (n : Int)] w fun e w' => ∃ b, e = .returned (.map (some b)) ∧ w.heap.size ≤ b ∧ SetN w' b n (fun _ => true) ∧ Below w.heap.size w w' := by
  have hmm := @run_makeMap Tryz.prog
  go_enter Tryz.func50, Tryz.ntmps50
  go_wp2
  go_loopw [7] (fun i wr => ∃ k : Nat, k ≤ n ∧ i = .int .i64 (k : Int) ∧ SetN wr w.heap.size n (fun x => decide (x < k)) ∧ Below w.heap.size w wr) (fun i _ => n - (numOf i).toNat)
  case atStart => exact ⟨0, Nat.zero_le _, rfl, setN_made w n, (Below.refl _ _).alloc (Nat.le_refl _) _⟩
  case round =>
    obtain ⟨k, hk, rfl, hS, hB⟩ := hrel
    by_cases hlt : k < n
    · go_wp2_with (go_at_call 49; refine (add_call hS hn hlt).mono ?_; rintro e w1 ⟨rfl, hS1, ht1⟩)
      go_roundw
      case rel => exact ⟨k + 1, by omega, by go_num, hS1.congr (fun x _ => by rw [Bool.eq_iff_iff]; simp; omega), ht1.below hB hB.size (fun k e => by omega)⟩
      case measure => simp [numOf]; omega
    · go_wp2
      go_ret
      exact ⟨_, rfl, Nat.le_refl _, hS.congr (fun x hx => by simp; omega), hB⟩

theorem hasB_take (es : List Pair) (k : Nat) (hk : k < es.length) (a b : Nat) (x y : Nat) (he : es[k] = ((x : Int), (y : Int))) : hasB (es.take (k + 1)) a b = ((a == y && b == x) || ((a == x && b == y) || hasB (es.take k) a b)) := by
  rw [List.take_succ_eq_append_getElem hk, he, hasB_snoc]
  have q : ∀ p q : Nat, ((p : Int) == (q : Int)) = (q == p) := fun p q => by rw [Bool.eq_iff_iff]; simp; omega
  rw [q, q, q, q]
  cases hasB (es.take k) a b <;> cases (a == x) <;> cases (b == y) <;> cases (a == y) <;> cases (b == x) <;> rfl

def bothB (es : List Pair) (a b : Nat) : Bool := hasB es a b

end Go.Proofs.YtkkfjfphmlcieaaGreat
