/- What rows, boxes and worlds keep: parts of the proofs of the statements on assignments. -/
import Derived.Test.YtfdlndljpmamgaaOfP
import Derived.Test.YtfdlndljpmamgaaSame
import Derived.Test.YtfdlndljpmamgaaOpens
import Derived.WalkKit
import Derived.WalkSpells
import Derived.WalkLawsBesides
import Derived.Maps.OwnSet
import Derived.DeepKeys4
import Derived.Deep.RegionHeld3
import Derived.Deep.DrawnRows
import Derived.BigQuiet
import Derived.Deep.Light
import Derived.Deep.QuietTactic
import Derived.Deep.AppendLies
import Derived.Maps.RangeWalk
import Derived.Lib.SlKeysI
import Derived.Maps.AppendAt
import Derived.Laws.EntriesVeiled
import Derived.Deep.Cut
import Derived.Deep.CutRange
import Derived.Deep.RegionLaw
import Derived.Lib.MinMax
namespace Go.Proofs.Ytfdlndljpmamgaa
open Go.RowKit Go.Maps
attribute [local go_sem ↓] Go.wp_at_zero Go.wp_at_succ

theorem wf_bounds {x : Int} (h : (Lit.int .i64 x).wf = true) : -9223372036854775808 ≤ x ∧ x ≤ 9223372036854775807 := by
  simp [Lit.wf, IntKind.min, IntKind.max, IntKind.signed, IntKind.bits] at h
  omega
def numOf : Value → Int | .int _ q => q | _ => 0
/-- The world has turned at the blocks of M alone, and new ones were made. -/
structure Turns (M : Nat → Prop) (w w' : World) : Prop where
  os : w'.os = w.os
  tape : w'.tape = w.tape
  output : w'.output = w.output
  size : w.heap.size ≤ w'.heap.size
  block : ∀ k, k < w.heap.size → ¬ M k → w'.heap[k]? = w.heap[k]?
theorem Turns.refl (M : Nat → Prop) (w : World) : Turns M w w := ⟨rfl, rfl, rfl, Nat.le_refl _, fun _ _ _ => rfl⟩
theorem Turns.trans {M : Nat → Prop} {a b c : World} (h : Turns M a b) (k : Turns M b c) : Turns M a c :=
  ⟨k.os.trans h.os, k.tape.trans h.tape, k.output.trans h.output, Nat.le_trans h.size k.size, fun i hi hm => (k.block i (Nat.lt_of_lt_of_le hi h.size) hm).trans (h.block i hi hm)⟩
theorem Turns.mono {M M' : Nat → Prop} {a b : World} (h : Turns M a b) (hm : ∀ k, k < a.heap.size → M k → M' k) : Turns M' a b := ⟨h.os, h.tape, h.output, h.size, fun k hk hn => h.block k hk (fun h' => hn (hm k hk h'))⟩
theorem Turns.of_grown {a b : World} {row : Option Nat} (h : a.grownBy b row) : Turns (fun k => some k = row) a b := ⟨h.os, h.tape, h.output, h.size, fun k hk hn => h.block k hk hn⟩
theorem Turns.of_below {a b : World} (h : Below a.heap.size a b) (M : Nat → Prop) : Turns M a b := ⟨h.os, h.tape, h.output, h.size, fun k hk _ => h.block k hk⟩
theorem Turns.below {M : Nat → Prop} {a w w' : World} {B : Nat} (hb : Below B a w) (h : Turns M w w') (hB : B ≤ w.heap.size) (hm : ∀ k, M k → B ≤ k) : Below B a w' :=
  ⟨h.os.trans hb.os, h.tape.trans hb.tape, h.output.trans hb.output, Nat.le_trans hb.size h.size, fun k hk => (h.block k (Nat.lt_of_lt_of_le hk hB) (fun h' => by have := hm k h'; omega)).trans (hb.block k hk)⟩
theorem Turns.grown {b : Nat} {w w' : World} (h : Turns (fun k => k = b) w w') : w.grownBy w' (some b) := ⟨h.os, h.tape, h.output, h.size, fun k hk hn => h.block k hk (fun e => hn (by rw [e]))⟩
/-- Block b is a row of n values. -/
def RowV (w : World) (b : Nat) (t : TypeId) (n : Nat) (f : Nat → Value) : Prop := ∃ cur, w.heap[b]? = some (.cells cur t (0, 0)) ∧ cur.size = n ∧ ∀ j, j < n → cur[j]? = some (f j)
theorem RowV.block {w w' : World} {b n : Nat} {t : TypeId} {f : Nat → Value} (h : RowV w b t n f) (hb : w'.heap[b]? = w.heap[b]?) : RowV w' b t n f := by
  obtain ⟨cur, h1, h2⟩ := h
  exact ⟨cur, hb.trans h1, h2⟩
theorem RowV.lt {w : World} {b n : Nat} {t : TypeId} {f : Nat → Value} (h : RowV w b t n f) : b < w.heap.size := by
  obtain ⟨cur, h1, h2⟩ := h
  exact lt_of_block h1
theorem RowV.cell {w : World} {b n : Nat} {t : TypeId} {f : Nat → Value} (h : RowV w b t n f) {j : Nat} (hj : j < n) : w.cell? ⟨b, j, none⟩ = some (f j) := by
  obtain ⟨cur, h1, _, h3⟩ := h
  rw [cell_of_row w b j cur t (0, 0) h1]
  exact h3 j hj
theorem RowV.free {w : World} {b n : Nat} {t : TypeId} {f : Nat → Value} (h : RowV w b t n f) (j : Nat) : w.frozen? ⟨b, j, none⟩ = false := by
  obtain ⟨cur, h1, _, h3⟩ := h
  simp [World.frozen?, h1]
theorem RowV.set {w : World} {b n : Nat} {t : TypeId} {f : Nat → Value} (h : RowV w b t n f) (y : Nat) (x : Value) : RowV (w.setCell ⟨b, y, none⟩ x) b t n (fun j => if j = y then x else f j) := by
  obtain ⟨cur, h1, h2, h3⟩ := h
  refine ⟨cur.setIfInBounds y x, ?_, by simp [h2], fun j hj => ?_⟩
  · have hl := lt_of_block h1
    simp [World.setCell, Array.getElem?_modify, h1]
  · by_cases e : j = y
    · subst e
      rw [Array.getElem?_setIfInBounds_self_of_lt (by omega)]
      simp
    · rw [Array.getElem?_setIfInBounds_ne (by omega), h3 j hj]
      simp [e]
theorem RowV.congr {w : World} {b n : Nat} {t : TypeId} {f g : Nat → Value} (h : RowV w b t n f) (e : ∀ j, j < n → f j = g j) : RowV w b t n g := by
  obtain ⟨cur, h1, h2, h3⟩ := h
  exact ⟨cur, h1, h2, fun j hj => by rw [h3 j hj, e j hj]⟩
theorem RowV.turns {w w' : World} {b n : Nat} {t : TypeId} {f : Nat → Value} {M : Nat → Prop} (h : RowV w b t n f) (ht : Turns M w w') (hm : ¬ M b) : RowV w' b t n f := h.block (ht.block b h.lt hm)
theorem rowV_made {w : World} {base b n : Nat} {t : TypeId} {z : Value} (hz : z.cells = #[z]) (h : w.ownsRow base t 1 (.slice (some ⟨b, 0, none⟩) n n) n (madeCells z.cells (n * 1)).toList) : RowV w b t n (fun _ => z) := by
  rcases h.2 with ⟨h1, _⟩ | ⟨g, cap, cur, h1, _, h2, _, _, h3, h4⟩
  · cases h1
  · cases h1
    refine ⟨cur, h2, by omega, fun j hj => ?_⟩
    have : (cur.toList.take (n * 1))[j]? = some z := by
      rw [h4, hz]
      simp [madeCells, hj]
      simp [Nat.mod_one]
    rw [List.getElem?_take_of_lt (by omega)] at this
    simpa using this
theorem setCell_turns (w : World) (b o : Nat) (x : Value) : Turns (fun k => k = b) w (w.setCell ⟨b, o, none⟩ x) := ⟨rfl, rfl, rfl, by simp [World.setCell], fun k _ hk => Below.heap_setCell _ _ _ _ hk⟩
theorem alloc_turns (w : World) (o : Obj) (M : Nat → Prop) : Turns M w (w.alloc o) := ⟨rfl, rfl, rfl, by simp, fun k hk _ => Below.heap_alloc _ _ _ hk⟩
theorem cell_turns {M : Nat → Prop} {w w' : World} {p : Addr} {x : Value} (h : w.cell? p = some x) (ht : Turns M w w') (hm : ¬ M p.block) : w'.cell? p = some x := by
  rw [World.cell?_of_block (w := w) (ht.block p.block (World.block_lt_of_cell? w _ h) hm)]; exact h
theorem RowB.congr {w : World} {b m : Nat} {q r : Nat → Bool} (h : RowB w b m q) (e : ∀ j, j < m → q j = r j) : RowB w b m r := by
  obtain ⟨cur, h1, h2, h3⟩ := h
  exact ⟨cur, h1, h2, fun j hj => by rw [h3 j hj, e j hj]⟩
theorem RowB.turns {w w' : World} {b m : Nat} {q : Nat → Bool} {M : Nat → Prop} (h : RowB w b m q) (ht : Turns M w w') (hm : ¬ M b) : RowB w' b m q := h.block (ht.block b h.lt hm)
theorem RowB.put {w : World} {b m : Nat} {q : Nat → Bool} (h : RowB w b m q) (y : Nat) (x : Bool) : RowB (w.setCell ⟨b, y, none⟩ (.bool x)) b m (fun j => if j = y then x else q j) := by
  obtain ⟨cur, h1, h2, h3⟩ := h
  refine ⟨cur.setIfInBounds y (.bool x), ?_, by simp [h2], fun j hj => ?_⟩
  · have hl := lt_of_block h1
    simp [World.setCell, Array.getElem?_modify, h1]
  · by_cases e : j = y
    · subst e
      rw [Array.getElem?_setIfInBounds_self_of_lt (by omega)]
      simp
    · rw [Array.getElem?_setIfInBounds_ne (by omega), h3 j hj]
      simp [e]
theorem Turns.after {M : Nat → Prop} {b : Nat} {w wr wr' : World} (h : Turns (fun k => k = b) w wr) (h2 : Turns M wr wr') (hm : ∀ k, M k → k = b ∨ w.heap.size ≤ k) : Turns (fun k => k = b) w wr' :=
  ⟨h2.os.trans h.os, h2.tape.trans h.tape, h2.output.trans h.output, Nat.le_trans h.size h2.size, fun i hi hn => (h2.block i (Nat.lt_of_lt_of_le hi h.size) (fun hm' => by rcases hm i hm' with e | e; exact hn e; omega)).trans (h.block i hi hn)⟩
theorem ownsRow_blocks {w w' : World} {base : Nat} {t : TypeId} {sz : Nat} {v : Value} {n : Nat} {xs : List Value} (h : w.ownsRow base t sz v n xs) (hb : ∀ b, v.ownBlock = some b → w'.heap[b]? = w.heap[b]?) : w'.ownsRow base t sz v n xs := by
  refine ⟨h.1, ?_⟩
  rcases h.2 with h2 | ⟨g, cap, cur, h1, h2, h3, h4⟩
  · exact Or.inl h2
  · exact Or.inr ⟨g, cap, cur, h1, h2, by rw [hb g (by rw [h1]; rfl)]; exact h3, h4⟩
def qv (Q : List Nat) : List Value := Q.map fun (x : Nat) => Value.int .i64 (x : Int)
theorem own_cells {w : World} {base : Nat} {t : TypeId} {sz : Nat} {v : Value} {n : Nat} {xs : List Value} (h : w.ownsRow base t sz v n xs) {g : Nat} (hv : v.ownBlock = some g) : ∃ cur, w.heap[g]? = some (.cells cur t (0, 0)) := by
  rcases h.2 with ⟨rfl, _⟩ | ⟨g', cap, cur, rfl, _, h3, _⟩
  · cases hv
  · cases hv; exact ⟨cur, h3⟩
theorem ownsRow_one (w : World) (base : Nat) (x : Value) (t : TypeId) (hb : base ≤ w.heap.size) : (w.alloc (Obj.cells #[x] t)).ownsRow base t 1 (.slice (some ⟨w.heap.size, 0, none⟩) 1 1) 1 [x] :=
  ⟨rfl, Or.inr ⟨w.heap.size, 1, #[x], rfl, hb, heap_alloc_new _ _, Nat.le_refl _, by unfold maxLen; omega, rfl, rfl⟩⟩
theorem qcell {w : World} {base : Nat} {ao : Option Addr} {cap : Nat} {Q : List Nat} (h : w.ownsRow base 3 1 (.slice ao Q.length cap) Q.length (qv Q)) {k u : Nat} (hu : Q[k]? = some u) : ∃ g, ao = some ⟨g, 0, none⟩ ∧ w.cell? ⟨g, k, none⟩ = some (.int .i64 (u : Int)) := by
  have hk := (List.getElem?_eq_some_iff.1 hu).1
  rcases h.2 with ⟨_, e⟩ | ⟨g, c, cur, e, _⟩
  · omega
  · cases e
    refine ⟨g, rfl, ?_⟩
    have := h.cells (g := g) rfl k (.int .i64 (u : Int)) (by simp [qv, hu])
    rw [add_none] at this
    exact this
/-- One number more at a row's end, and where it lies. -/
theorem wpList_pushA {W : World} {ops : Array Oper} {rest : List Oper} {o : Oper} {a : Act} {Q : Exit → Act → World → Prop} {base : Nat} {po : Option Addr} {pc : Nat} {l : List Nat} {x : Nat} (hgd : o.guard = none) (s y : Operand)
    (ho : o.op = .call { callee := .builtin .append, args := #[s, y], argTypes := #[76, 76] }) (hs : a.eval s = .slice po l.length pc) (hy : a.eval y = .slice (some ⟨W.heap.size, 0, none⟩) 1 1)
    (hown : W.ownsRow base 3 1 (.slice po l.length pc) l.length (qv l)) (hl : l.length ≤ 1000000) (hbase : base ≤ W.heap.size)
    (h : ∀ g c w', w'.ownsRow base 3 1 (.slice (some ⟨g, 0, none⟩) (l ++ [x]).length c) (l ++ [x]).length (qv (l ++ [x])) → (W.alloc (Obj.cells #[.int .i64 (x : Int)] 3)).grownBy w' (Value.slice po l.length pc).ownBlock → ((Value.slice po l.length pc).ownBlock = some g ∨ W.heap.size ≤ g) → wpList Try.prog ops Q rest (a.put o.dst (.slice (some ⟨g, 0, none⟩) (l ++ [x]).length c)) w') :
    wpList Try.prog ops Q (o :: rest) a (W.alloc (Obj.cells #[.int .i64 (x : Int)] 3)) := by
  obtain ⟨i3, hi3, hy0, hy1, hy2⟩ := info_parts Try.info3
  refine wpList_append_lies _ hgd s y 76 ho base 3 i3 (.int .i64 0) 1 8 Try.underlying76 hi3 hy0 hy1 hy2 rfl (by decide) _ _ _ hs (hown.alloc _) ⟨W.heap.size, 0, none⟩ 1 1 [.int .i64 (x : Int)] hy rfl ?_ ?_ (by omega) ?_ ?_ ?_ (W.heap.size + 1) (by simp) ?_
  · exact cell_one_new _ _ _
  · intro y hy; simp at hy; subst hy; rfl
  · unfold maxLen; omega
  · omega
  · simp; omega
  · intro g c w' h1 h2 h3 _
    have := h g c w' (by simpa [qv] using h1) h2 (h3.imp id (fun h => by omega))
    simpa using this
/-- Block b holds these values. -/
abbrev Box (w : World) (b : Nat) (cs : Array Value) (t : TypeId) : Prop := w.heap[b]? = some (.cells cs t (0, 0))
theorem box_cell {w : World} {b : Nat} {cs : Array Value} {t : TypeId} (h : Box w b cs t) {i : Nat} {x : Value} (hx : cs[i]? = some x) : w.cell? ⟨b, i, none⟩ = some x := by
  rw [cell_of_row w b i cs t (0, 0) h]; exact hx
theorem box_free {w : World} {b : Nat} {cs : Array Value} {t : TypeId} (h : Box w b cs t) (i : Nat) : w.frozen? ⟨b, i, none⟩ = false := by
  have h' : w.heap[b]? = some (.cells cs t (0, 0)) := h
  simp [World.frozen?, h']
theorem box_set {w : World} {b : Nat} {cs : Array Value} {t : TypeId} (h : Box w b cs t) (i : Nat) (x : Value) : Box (w.setCell ⟨b, i, none⟩ x) b (cs.setIfInBounds i x) t := by
  have hl := lt_of_block h
  have h' : w.heap[b]? = some (.cells cs t (0, 0)) := h
  show (w.setCell ⟨b, i, none⟩ x).heap[b]? = _
  simp [World.setCell, Array.getElem?_modify, h']
theorem box_turns {M : Nat → Prop} {w w' : World} {b : Nat} {cs : Array Value} {t : TypeId} (h : Box w b cs t) (ht : Turns M w w') (hm : ¬ M b) : Box w' b cs t := (ht.block b (lt_of_block h) hm).trans h
abbrev sl (b N : Nat) : Value := .slice (some ⟨b, 0, none⟩) N N
theorem two_far {w : World} {b b' o : Nat} {x y u : Value} {t : TypeId} (h : Two w b x y t) (hne : b ≠ b') : Two (w.setCell ⟨b', o, none⟩ u) b x y t := (Below.heap_setCell _ _ _ _ hne).trans h
theorem two_turns {M : Nat → Prop} {w w' : World} {b : Nat} {x y : Value} {t : TypeId} (h : Two w b x y t) (ht : Turns M w w') (hm : ¬ M b) : Two w' b x y t := (ht.block b (lt_of_block h) hm).trans h
theorem two_setN {w : World} {b : Nat} {x y x' y' : Value} {t : TypeId} (h : Two w b x y t) : Two ((w.setCell ⟨b, 0, none⟩ x').setCell ⟨b, 1, none⟩ y') b x' y' t := by
  have hl := lt_of_block h
  have h' : w.heap[b]? = some (.cells #[x, y] t (0, 0)) := h
  show ((w.setCell ⟨b, 0, none⟩ x').setCell ⟨b, 1, none⟩ y').heap[b]? = _
  simp [World.setCell, Array.getElem?_modify, h']
theorem cell_grown {w w1 : World} {o : Obj} {row : Option Nat} {a : Addr} {v : Value} (hg : (w.alloc o).grownBy w1 row) (hc : w.cell? a = some v) (hne : row ≠ some a.block) : w1.cell? a = some v := by
  have hl := World.block_lt_of_cell? w _ hc
  rw [← hc]
  have : w1.heap[a.block]? = w.heap[a.block]? := (hg.block _ (by simp; omega) (fun h => hne h.symm)).trans (Below.heap_alloc _ _ _ hl)
  simp [World.cell?, this]
theorem row_grown {w w1 : World} {o : Obj} {row : Option Nat} {g n : Nat} {t : TypeId} {f : Nat → Value} (h : RowV w g t n f) (hg : (w.alloc o).grownBy w1 row) (hne : row ≠ some g) : RowV w1 g t n f :=
  h.block ((hg.block _ (by have := h.lt; simp; omega) (fun h => hne h.symm)).trans (Below.heap_alloc _ _ _ h.lt))
abbrev One (w : World) (b : Nat) (x : Value) (t : TypeId) : Prop := w.heap[b]? = some (.cells #[x] t (0, 0))
theorem one_free {w : World} {b : Nat} {x : Value} {t : TypeId} (h : One w b x t) : w.frozen? ⟨b, 0, none⟩ = false := by
  have h' : w.heap[b]? = some (.cells #[x] t (0, 0)) := h
  simp [World.frozen?, h']
theorem one_far {w : World} {b b' o : Nat} {x u : Value} {t : TypeId} (h : One w b x t) (hne : b ≠ b') : One (w.setCell ⟨b', o, none⟩ u) b x t := (Below.heap_setCell _ _ _ _ hne).trans h
theorem one_turns {M : Nat → Prop} {w w' : World} {b : Nat} {x : Value} {t : TypeId} (h : One w b x t) (ht : Turns M w w') (hm : ¬ M b) : One w' b x t := (ht.block b (lt_of_block h) hm).trans h
theorem one_new (w : World) (x : Value) (t : TypeId) : One (w.alloc (Obj.cells #[x] t)) w.heap.size x t := heap_alloc_new _ _
/-- Block b begins with a row of n values. -/
def RowC (w : World) (b : Nat) (t : TypeId) (n : Nat) (f : Nat → Value) : Prop := ∃ cur, w.heap[b]? = some (.cells cur t (0, 0)) ∧ n ≤ cur.size ∧ ∀ j, j < n → cur[j]? = some (f j)
section
variable {w w' : World} {b n : Nat} {t : TypeId} {f g : Nat → Value}
theorem RowC.block (h : RowC w b t n f) (hb : w'.heap[b]? = w.heap[b]?) : RowC w' b t n f := by
  obtain ⟨cur, h1, h2⟩ := h
  exact ⟨cur, hb.trans h1, h2⟩
end
section
variable {w w' : World} {b n : Nat} {t : TypeId} {f g : Nat → Value}
theorem RowC.lt (h : RowC w b t n f) : b < w.heap.size := by
  obtain ⟨cur, h1, h2⟩ := h
  exact lt_of_block h1
end
section
variable {w w' : World} {b n : Nat} {t : TypeId} {f g : Nat → Value}
theorem RowC.cell (h : RowC w b t n f) {j : Nat} (hj : j < n) : w.cell? ⟨b, j, none⟩ = some (f j) := by
  obtain ⟨cur, h1, _, h3⟩ := h
  rw [cell_of_row w b j cur t (0, 0) h1]
  exact h3 j hj
end
section
variable {w w' : World} {b n : Nat} {t : TypeId} {f g : Nat → Value}
theorem RowC.free (h : RowC w b t n f) (j : Nat) : w.frozen? ⟨b, j, none⟩ = false := by
  obtain ⟨cur, h1, _, h3⟩ := h
  simp [World.frozen?, h1]
end
section
variable {w w' : World} {b n : Nat} {t : TypeId} {f g : Nat → Value}
theorem RowC.set (h : RowC w b t n f) (y : Nat) (x : Value) : RowC (w.setCell ⟨b, y, none⟩ x) b t n (fun j => if j = y then x else f j) := by
  obtain ⟨cur, h1, h2, h3⟩ := h
  refine ⟨cur.setIfInBounds y x, ?_, by simp [h2], fun j hj => ?_⟩
  · have hl := lt_of_block h1
    simp [World.setCell, Array.getElem?_modify, h1]
  · by_cases e : j = y
    · subst e
      rw [Array.getElem?_setIfInBounds_self_of_lt (by omega)]
      simp
    · rw [Array.getElem?_setIfInBounds_ne (by omega), h3 j hj]
      simp [e]
end
section
variable {w w' : World} {b n : Nat} {t : TypeId} {f g : Nat → Value}
theorem RowC.congr (h : RowC w b t n f) (e : ∀ j, j < n → f j = g j) : RowC w b t n g := by
  obtain ⟨cur, h1, h2, h3⟩ := h
  exact ⟨cur, h1, h2, fun j hj => by rw [h3 j hj, e j hj]⟩
end
section
variable {w w' : World} {b n : Nat} {t : TypeId} {f g : Nat → Value}
theorem RowC.turns {M : Nat → Prop} (h : RowC w b t n f) (ht : Turns M w w') (hm : ¬ M b) : RowC w' b t n f := h.block (ht.block b h.lt hm)
end
section
variable {w w' : World} {b n : Nat} {t : TypeId} {f g : Nat → Value}
theorem rowC_own {base cap : Nat} {xs : List Value} (h : w.ownsRow base t 1 (.slice (some ⟨b, 0, none⟩) n cap) n xs) (hx : ∀ j, j < n → xs[j]? = some (f j)) : RowC w b t n f := by
  rcases h.2 with ⟨h1, _⟩ | ⟨g, cap, cur, h1, _, h2, h5, _, h3, h4⟩
  · cases h1
  · cases h1
    refine ⟨cur, h2, by omega, fun j hj => ?_⟩
    have := hx j hj
    rw [← h4, List.getElem?_take_of_lt (by omega)] at this
    simpa using this
end
abbrev ptr (b : Nat) : Value := .pointer (some ⟨b, 0, none⟩)
def NumsAt (w : World) (lo : Option Addr) (L : List Nat) : Prop := ∀ k u : Nat, L[k]? = some u → ∃ b, lo = some ⟨b, 0, none⟩ ∧ w.cell? ⟨b, k, none⟩ = some (.int .i64 (u : Int))
theorem NumsAt.below {w w' : World} {lo : Option Addr} {L : List Nat} (h : NumsAt w lo L) (hb : Below w.heap.size w w') : NumsAt w' lo L := fun k u hu => by
  obtain ⟨b, h1, h2⟩ := h k u hu
  exact ⟨b, h1, (hb.cell (by exact World.block_lt_of_cell? w _ h2)).trans h2⟩
theorem numsAt_own {w : World} {base : Nat} {lo : Option Addr} {c : Nat} {L : List Nat} (h : w.ownsRow base 3 1 (.slice lo L.length c) L.length (qv L)) : NumsAt w lo L := fun _ _ hu => qcell h hu
theorem two_nxt (w : World) (o : Obj) (x y : Value) (t : TypeId) : Two ((w.alloc o).alloc (Obj.cells #[x, y] t)) (w.heap.size + 1) x y t := by
  have h := heap_alloc_new (w.alloc o) (Obj.cells #[x, y] t)
  have e : (w.alloc o).heap.size = w.heap.size + 1 := by simp
  rw [e] at h
  exact h
abbrev rep (n : Nat) (z : Value) : Array Value := madeCells #[z] n
theorem make76 (N : Nat) (hN : N ≤ 1000) (w : World) : (Instr.makeSlice 76 (.int .i64 (N : Int)) (.int .i64 (N : Int))).run Try.prog w = .ok (.slice (some ⟨w.heap.size, 0, none⟩) N N) (w.alloc (.cells (rep N (.int .i64 0)) 3)) := by
  obtain ⟨i3, hi3, hy0, hy1, hy2⟩ := info_parts Try.info3
  have hr := run_make (P := Try.prog) w 76 3 i3 (.int .i64 0) Try.underlying76 hi3 hy0 .i64 .i64 N N (by omega) (Int.le_refl _) (by rw [hy2]; omega) (by omega)
  simpa [hy1, Value.cells] using hr
theorem rep_at {n j : Nat} (z : Value) (h : j < n) : (rep n z)[j]? = some z := by
  simp [madeCells, h, Nat.mod_one]
theorem rep_size (n : Nat) (z : Value) : (rep n z).size = n := by simp [madeCells]
theorem rowV_rep {w : World} {b N : Nat} {t : TypeId} {z : Value} (h : w.heap[b]? = some (.cells (rep N z) t (0, 0))) : RowV w b t N (fun _ => z) := ⟨_, h, rep_size N z, fun _ hj => rep_at z hj⟩
theorem Try.info76 : (Try.prog.info? 76).map (fun i => (i.zero, i.size, i.bytes)) = some (some (.slice none 0 0), 1, 24) := by kernel_rfl
def bnum : Value → Nat
  | .bool true => 1
  | _ => 0
theorem getD_lt {α : Type} {l : List α} {k : Nat} {d : α} (h : k < l.length) : l.getD k d = l[k] := by simp [List.getD, List.getElem?_eq_getElem h]
theorem ownsRow_drewN {w : World} {base : Nat} {t : TypeId} {sz : Nat} {v : Value} {n : Nat} {xs : List Value} (h : w.ownsRow base t sz v n xs) (k : Nat) : (w.drewN k).ownsRow base t sz v n xs :=
  ownsRow_blocks h fun b hb => (below_drewN (Below.refl w.heap.size w) k).block b (h.lt b hb).2
theorem drewN_below (w : World) (k : Nat) : Below w.heap.size w (w.drewN k) := below_drewN (Below.refl _ _) k
theorem one_cell (w : World) (x : Value) (t : TypeId) : (w.alloc (Obj.cells #[x] t)).cell? ⟨w.heap.size, 0, none⟩ = some x := (cell_of_row _ _ _ _ t (0, 0) (heap_alloc_new _ _)).trans rfl
end Go.Proofs.Ytfdlndljpmamgaa
