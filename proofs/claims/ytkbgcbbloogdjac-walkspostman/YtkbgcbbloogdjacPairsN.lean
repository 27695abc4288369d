/- nearestPairs, its state: the least sum so far, the pairs that are made, the best ones. nearestPairs: the search. -/
import Derived.Test.YtkbgcbbloogdjacConcat
import Derived.Test.YtkbgcbbloogdjacPairs2
import Derived.BigQuiet
import Derived.Deep.RegionHeld3
import Derived.Deep.CutRange
import Derived.Test.YtkbgcbbloogdjacRefAlong
namespace Go.Proofs.Ytkbgcbbloogdjac
open Go.RowKit Go.Maps

/-- ps puts the numbers of l in pairs, the first one of those that are left always with another one. -/
def PairOf : List Pair → List Nat → Prop
  | [], l => l = []
  | p :: ps, l => ∃ (u : Nat) (t : List Nat) (k v : Nat), l = u :: t ∧ t[k]? = some v ∧ p = ((u : Int), (v : Int)) ∧ PairOf ps (t.eraseIdx k)
theorem pair_ex : ∀ (n : Nat) (l : List Nat), l.length = 2 * n → ∃ ps, PairOf ps l
  | 0, l, h => ⟨[], List.eq_nil_of_length_eq_zero (by omega)⟩
  | n + 1, [], h => by simp at h
  | n + 1, [u], h => by simp at h; omega
  | n + 1, u :: v :: l, h => by
    obtain ⟨ps, hp⟩ := pair_ex n l (by simp at h; omega)
    exact ⟨((u : Int), (v : Int)) :: ps, u, v :: l, 0, v, rfl, rfl, rfl, by simpa using hp⟩
theorem pair_mem : ∀ {ps : List Pair} {l : List Nat}, PairOf ps l → 2 * ps.length = l.length ∧ ∀ p ∈ ps, ∃ u v : Nat, p = ((u : Int), (v : Int)) ∧ u ∈ l ∧ v ∈ l
  | [], l, h => by
    have h' : l = [] := h
    subst h'
    exact ⟨rfl, fun p hp => by simp at hp⟩
  | p :: ps, l, h => by
    obtain ⟨u, t, k, v, rfl, hk, rfl, h'⟩ := h
    obtain ⟨h1, h2⟩ := pair_mem h'
    have hkl := (List.getElem?_eq_some_iff.1 hk).1
    have hlen : (t.eraseIdx k).length = t.length - 1 := by rw [List.length_eraseIdx, if_pos hkl]
    refine ⟨by simp; omega, fun q hq => ?_⟩
    rcases List.mem_cons.1 hq with rfl | hq
    · exact ⟨u, v, rfl, by simp, by simp [List.mem_of_getElem? hk]⟩
    · obtain ⟨a, b, h3, h4, h5⟩ := h2 q hq
      exact ⟨a, b, h3, by simp [List.mem_of_mem_eraseIdx h4], by simp [List.mem_of_mem_eraseIdx h5]⟩

/-- What a search among the pairings of S leaves: nothing new, or a best one of them. -/
def Best (O : Nat → Nat → Option Nat) (sum : Int) (C : List Pair) (S : List Pair → Prop) (lst : Int) (best : List Pair) (lst' : Int) (best' : List Pair) : Prop :=
  (lst' = lst ∧ best' = best ∧ ∀ qs, S qs → 0 ≤ lst ∧ lst ≤ sum + sumD O qs) ∨
  ∃ ps, S ps ∧ lst' = sum + sumD O ps ∧ best' = C ++ ps ∧ (∀ qs, S qs → lst' ≤ sum + sumD O qs) ∧ (lst < 0 ∨ lst' < lst)
theorem Best.none (O : Nat → Nat → Option Nat) (sum : Int) (C : List Pair) (lst : Int) (best : List Pair) : Best O sum C (fun _ => False) lst best lst best := Or.inl ⟨rfl, rfl, fun _ h => h.elim⟩
theorem Best.congr {O : Nat → Nat → Option Nat} {sum : Int} {C : List Pair} {S T : List Pair → Prop} {lst lst' : Int} {best best' : List Pair} (h : Best O sum C S lst best lst' best') (he : ∀ qs, S qs ↔ T qs) : Best O sum C T lst best lst' best' := by
  have : S = T := funext fun qs => propext (he qs)
  rw [← this]; exact h
theorem Best.step {O : Nat → Nat → Option Nat} {sum : Int} {C : List Pair} {S S' : List Pair → Prop} {lst lst1 lst2 : Int} {best best1 best2 : List Pair} {u v D : Nat} (hs : 0 ≤ sum) (hO : O u v = some D) (h : Best O sum C S lst best lst1 best1) (h' : Best O (sum + D) (C ++ [((u : Int), (v : Int))]) S' lst1 best1 lst2 best2) :
    Best O sum C (fun qs => S qs ∨ ∃ qs', qs = ((u : Int), (v : Int)) :: qs' ∧ S' qs') lst best lst2 best2 := by
  have hsum : ∀ qs', sum + sumD O (((u : Int), (v : Int)) :: qs') = sum + D + sumD O qs' := fun qs' => by
    simp [sumD, hO]
    omega
  have hn : ∀ qs, (0 : Int) ≤ sumD O qs := fun qs => by omega
  rcases h with ⟨rfl, rfl, h1⟩ | ⟨ps, h1, h2, h3, h4, h5⟩
  · rcases h' with ⟨rfl, rfl, g1⟩ | ⟨ps, g1, g2, g3, g4, g5⟩
    · refine Or.inl ⟨rfl, rfl, fun qs hq => ?_⟩
      rcases hq with hq | ⟨qs', rfl, hq⟩
      · exact h1 qs hq
      · rw [hsum]; exact g1 qs' hq
    · refine Or.inr ⟨((u : Int), (v : Int)) :: ps, Or.inr ⟨ps, rfl, g1⟩, by rw [hsum, g2], by rw [g3]; simp, fun qs hq => ?_, g5⟩
      rcases hq with hq | ⟨qs', rfl, hq⟩
      · have := h1 qs hq
        omega
      · rw [hsum]; exact g4 qs' hq
  · rcases h' with ⟨rfl, rfl, g1⟩ | ⟨qs1, g1, g2, g3, g4, g5⟩
    · refine Or.inr ⟨ps, Or.inl h1, h2, h3, fun qs hq => ?_, h5⟩
      rcases hq with hq | ⟨qs', rfl, hq⟩
      · exact h4 qs hq
      · rw [hsum]; exact (g1 qs' hq).2
    · have hp := hn ps
      refine Or.inr ⟨((u : Int), (v : Int)) :: qs1, Or.inr ⟨qs1, rfl, g1⟩, by rw [hsum, g2], by rw [g3]; simp, fun qs hq => ?_, by omega⟩
      rcases hq with hq | ⟨qs', rfl, hq⟩
      · have := h4 qs hq
        omega
      · rw [hsum]; exact g4 qs' hq

def blk : Option Addr → Option Nat
  | some a => some a.block
  | none => none
theorem blk_own (co : Option Addr) (n c : Nat) : (Value.slice co n c).ownBlock = blk co := by cases co <;> rfl
abbrev tryF (b2 b3 b4 b5 b6 : Nat) : Value := .func (.func 68) #[] #[.pointer (some ⟨b2, 0, none⟩), .pointer (some ⟨b3, 0, none⟩), .pointer (some ⟨b4, 0, none⟩), .pointer (some ⟨b5, 0, none⟩), .pointer (some ⟨b6, 0, none⟩)]
/-- How the memory stands while nearestPairs searches. -/
structure PS (w : World) (base b2 b3 b4 b5 b6 bx : Nat) (lst : Int) (C best : List Pair) (co : Option Addr) (cc : Nat) : Prop where
  h2 : One w b2 (.int .i64 lst) 3
  h3 : One w b3 (.slice co C.length cc) 22
  row : w.ownsRow base 59 2 (.slice co C.length cc) C.length (flat C)
  h4 : ∃ bo bc, One w b4 (.slice bo best.length bc) 22 ∧ EdgesAt w (.slice bo best.length bc) best ∧ ∀ x, bo = some x → base ≤ x.block ∧ x.block < w.heap.size ∧ blk co ≠ some x.block ∧ x.block ≠ b2 ∧ x.block ≠ b3 ∧ x.block ≠ b4
  h5 : One w b5 (.func (.func 68) #[] #[.pointer (some ⟨b2, 0, none⟩), .pointer (some ⟨b3, 0, none⟩), .pointer (some ⟨b4, 0, none⟩), .pointer (some ⟨b5, 0, none⟩), .pointer (some ⟨b6, 0, none⟩)]) 111
  h6 : One w b6 (.func (.func 58) #[] #[.pointer (some ⟨bx, 0, none⟩)]) 92
  ge : base ≤ b2 ∧ base ≤ b3 ∧ base ≤ b4
  ne : b3 ≠ b4
/-- The blocks that the search may turn. -/
def MP (b2 b3 b4 : Nat) (co : Option Addr) (k : Nat) : Prop := k = b2 ∨ k = b3 ∨ k = b4 ∨ blk co = some k

section
variable {w w' : World} {base b2 b3 b4 b5 b6 bx : Nat} {lst : Int} {C best : List Pair} {co : Option Addr} {cc : Nat}
theorem PS.below (h : PS w base b2 b3 b4 b5 b6 bx lst C best co cc) (hb : Below w.heap.size w w') : PS w' base b2 b3 b4 b5 b6 bx lst C best co cc := by
  obtain ⟨bo, bc, g1, g2, g3⟩ := h.h4
  exact ⟨one_next h.h2 hb, one_next h.h3 hb, ownsRow_blocks h.row fun b hb' => hb.block b (h.row.lt b hb').2, ⟨bo, bc, one_next g1 hb, g2.below hb, fun x hx => ⟨(g3 x hx).1, Nat.lt_of_lt_of_le (g3 x hx).2.1 hb.size, (g3 x hx).2.2⟩⟩, one_next h.h5 hb, one_next h.h6 hb, h.ge, h.ne⟩
theorem one_ty {k l : Nat} {t t' : TypeId} {x y : Value} (hk : One w k x t) (hl : One w l y t') (ht : t ≠ t') : k ≠ l := fun e => by
  subst e
  have hk' : w.heap[k]? = some (.cells #[x] t (0, 0)) := hk
  rw [hl] at hk'
  simp at hk'
  exact ht hk'.2.symm
theorem PS.row_ne (h : PS w base b2 b3 b4 b5 b6 bx lst C best co cc) {k : Nat} {t : TypeId} {cs : Array Value} (hk : w.heap[k]? = some (.cells cs t (0, 0))) (ht : t ≠ 59) : blk co ≠ some k := fun e => by
  obtain ⟨cur, hc⟩ := own_cells h.row ((blk_own co C.length cc).trans e)
  rw [hc] at hk
  simp at hk
  exact ht hk.2.symm
theorem EdgesAt.blocks {v : Value} {es : List Pair} (h : EdgesAt w v es) (hb : ∀ x n c, v = .slice (some x) n c → w'.heap[x.block]? = w.heap[x.block]?) : EdgesAt w' v es := by
  obtain ⟨ao, cap, rfl, h2, h3, h4⟩ := h
  refine ⟨ao, cap, rfl, h2, h3, fun k hk => ?_⟩
  obtain ⟨b, off, rfl, c0, c1⟩ := h4 k hk
  have hh := hb _ _ _ rfl
  exact ⟨b, off, rfl, (World.cell?_of_block (w := w) (a := ⟨b, off + k * 2, none⟩) hh).trans c0, (World.cell?_of_block (w := w) (a := ⟨b, off + k * 2 + 1, none⟩) hh).trans c1⟩
/-- One pair more. -/
theorem PS.push (h : PS w base b2 b3 b4 b5 b6 bx lst C best co cc) {o : Obj} {w1 : World} {g1 c1 : Nat} {p : Pair} (hown : w1.ownsRow base 59 2 (.slice (some ⟨g1, 0, none⟩) (C ++ [p]).length c1) (C ++ [p]).length (flat (C ++ [p]))) (hg : (w.alloc o).grownBy w1 (blk co)) (hat : blk co = some g1 ∨ w.heap.size < g1) :
    PS (w1.setCell ⟨b3, 0, none⟩ (.slice (some ⟨g1, 0, none⟩) (C ++ [p]).length c1)) base b2 b3 b4 b5 b6 bx lst (C ++ [p]) best (some ⟨g1, 0, none⟩) c1 ∧ Turns (MP b2 b3 b4 co) w (w1.setCell ⟨b3, 0, none⟩ (.slice (some ⟨g1, 0, none⟩) (C ++ [p]).length c1)) := by
  have T := (alloc_turns w o (fun k => some k = blk co)).trans (Turns.of_grown hg)
  have r2 := h.row_ne h.h2 (by decide)
  have r3 := h.row_ne h.h3 (by decide)
  have r5 := h.row_ne h.h5 (by decide)
  have r6 := h.row_ne h.h6 (by decide)
  obtain ⟨bo, bc, g1', g2', g3'⟩ := h.h4
  have r4 := h.row_ne g1' (by decide)
  have n23 := one_ty h.h2 h.h3 (by decide)
  have n53 := one_ty h.h5 h.h3 (by decide)
  have n63 := one_ty h.h6 h.h3 (by decide)
  have l3 := lt_of_block h.h3
  have hg13 : g1 ≠ b3 := fun e => by
    rcases hat with h' | h'
    · exact r3 (by rw [h', e])
    · omega
  refine ⟨⟨one_far (one_turns h.h2 T (fun e => r2 e.symm)) n23, one_set (one_turns h.h3 T (fun e => r3 e.symm)), ownsRow_blocks hown fun b hb => ?_, ⟨bo, bc, one_far (one_turns g1' T (fun e => r4 e.symm)) (fun e => h.ne e.symm), ?_, fun x hx => ?_⟩, one_far (one_turns h.h5 T (fun e => r5 e.symm)) n53, one_far (one_turns h.h6 T (fun e => r6 e.symm)) n63, h.ge, h.ne⟩, ?_⟩
  · have hb' : g1 = b := by simpa [Value.ownBlock] using hb
    subst hb'
    exact Below.heap_setCell _ _ _ _ hg13
  · refine (EdgesAt.blocks g2' (w' := w1) fun x n c hx => ?_).setCell (fun x hx => ?_) _
    · cases hx
      exact T.block _ (g3' x rfl).2.1 (fun e => (g3' x rfl).2.2.1 e.symm)
    · exact (g3' x hx).2.2.2.2.1
  · obtain ⟨k1, k2, k3, k4⟩ := g3' x hx
    refine ⟨k1, Nat.lt_of_lt_of_le k2 (by simpa using T.size), fun e => ?_, k4⟩
    have e' : g1 = x.block := by simpa [blk] using e
    rcases hat with h' | h'
    · exact k3 (by rw [h', e'])
    · omega
  · exact (T.mono (fun k _ hk => Or.inr (Or.inr (Or.inr hk.symm)))).trans ((setCell_turns _ _ _ _).mono (fun k _ hk => Or.inr (Or.inl hk)))
/-- One pair less. -/
theorem PS.pop {p : Pair} (h : PS w base b2 b3 b4 b5 b6 bx lst (C ++ [p]) best co cc) : PS (w.setCell ⟨b3, 0, none⟩ (.slice co C.length cc)) base b2 b3 b4 b5 b6 bx lst C best co cc ∧ Turns (MP b2 b3 b4 co) w (w.setCell ⟨b3, 0, none⟩ (.slice co C.length cc)) := by
  obtain ⟨bo, bc, g1', g2', g3'⟩ := h.h4
  have n23 := one_ty h.h2 h.h3 (by decide)
  have n53 := one_ty h.h5 h.h3 (by decide)
  have n63 := one_ty h.h6 h.h3 (by decide)
  have r3 := h.row_ne h.h3 (by decide)
  refine ⟨⟨one_far h.h2 n23, one_set h.h3, ?_, ⟨bo, bc, one_far g1' (fun e => h.ne e.symm), g2'.setCell (fun x hx => (g3' x hx).2.2.2.2.1) _, fun x hx => ?_⟩, one_far h.h5 n53, one_far h.h6 n63, h.ge, h.ne⟩, (setCell_turns _ _ _ _).mono (fun k _ hk => Or.inr (Or.inl hk))⟩
  · have hshort : w.ownsRow base 59 2 (.slice co C.length cc) C.length (flat C) := by
      obtain ⟨h1, h2⟩ := h.row
      refine ⟨flat_length C, ?_⟩
      rcases h2 with ⟨_, h3⟩ | ⟨g, cap, cur, h3, h4, h5, h6, h7, h8, h9⟩
      · simp at h3
      · cases h3
        refine Or.inr ⟨g, cc, cur, rfl, h4, h5, by simp at h6; omega, h7, h8, ?_⟩
        have e1 : flat (C ++ [p]) = flat C ++ flat [p] := by simp [flat]
        rw [e1] at h9
        have e2 : C.length * 2 = (flat C).length := (flat_length C).symm
        have h10 := congrArg (List.take (C.length * 2)) h9
        rw [List.take_take, Nat.min_eq_left (by simp; omega)] at h10
        rw [h10, e2, List.take_left']
        rfl
    refine ownsRow_blocks hshort fun b hb => Below.heap_setCell _ _ _ _ (fun e => ?_)
    have e' : b = b3 := e
    rw [blk_own, e'] at hb
    exact r3 hb
  · obtain ⟨k1, k2, k3⟩ := g3' x hx
    exact ⟨k1, by simpa using k2, k3⟩
end
end Go.Proofs.Ytkbgcbbloogdjac

namespace Go.Proofs.Ytkbgcbbloogdjac
open Go.RowKit Go.Maps
attribute [local go_sem ↓] Go.wp_at_zero Go.wp_at_succ

theorem eqlNil0 (w : World) : (binOp .eql 22 (.slice none 0 0) (.slice none 0 0)).run Try.prog w = .ok (.bool true) w := by
  simpa using Lib.run_eql_slice_nil (P := Try.prog) w 22 59 none 0 0 0 0 Try.underlying22
set_option maxRecDepth 8000 in
set_option maxHeartbeats 400000 in
theorem clone0_call (w : World) : Calls Try.prog 69 #[.slice none 0 0] w fun r w' => r = .returned (.slice none 0 0) ∧ w' = w := by
  have heq := eqlNil0
  go_enter Try.func69, Try.ntmps69
  go_wp2
  go_ret
  exact ⟨rfl, rfl⟩

/-- slices.Clone of the pairs that are made. -/
theorem cloneP_call {w : World} {base b2 b3 b4 b5 b6 bx : Nat} {lst : Int} {C best : List Pair} {co : Option Addr} {cc : Nat} (h : PS w base b2 b3 b4 b5 b6 bx lst C best co cc) (hC : C = [] → co = none) (hI : ∀ e ∈ C, I64 e.1 ∧ I64 e.2) (hl : C.length ≤ 1000) :
    Calls Try.prog 69 #[.slice co C.length cc] w fun r w' => ∃ ao c, r = .returned (.slice ao C.length c) ∧ EdgesAt w' (.slice ao C.length c) C ∧ (∀ x, ao = some x → w.heap.size ≤ x.block ∧ x.block < w'.heap.size) ∧ Below w.heap.size w w' := by
  by_cases h0 : 0 < C.length
  · have hE := edgesAt_row h.row hI (by omega)
    obtain ⟨ao, cap, e, _, _, hcells⟩ := hE
    cases e
    obtain ⟨b, off, rfl, _, _⟩ := hcells 0 h0
    refine (clone_call (edgesAt_row h.row hI (by omega)) h0 hl).mono ?_
    rintro r w' ⟨ao, c, h1, h2, h3, h4⟩
    refine ⟨ao, c, h1, h2, fun x hx => ⟨h3 x hx, ?_⟩, h4⟩
    obtain ⟨_, _, e, _, _, hc2⟩ := h2
    cases e
    obtain ⟨b', off', e', c0, _⟩ := hc2 0 h0
    rw [hx] at e'
    cases e'
    exact World.block_lt_of_cell? w' _ c0
  · have hn : C = [] := List.eq_nil_of_length_eq_zero (by omega)
    subst hn
    have hco := hC rfl
    subst hco
    have hcc : cc = 0 := by
      rcases h.row.2 with ⟨e, _⟩ | ⟨g, c, cur, e, _⟩
      · cases e; rfl
      · cases e
    subst hcc
    refine (clone0_call w).mono ?_
    rintro r w' ⟨h1, rfl⟩
    exact ⟨none, 0, h1, edgesAt_nil _, (fun x hx => by cases hx), Below.refl _ _⟩

set_option maxRecDepth 8000 in
set_option maxHeartbeats 4000000 in
/-- Nothing is left to be put in pairs. -/
theorem tryEnd_call {w : World} {base b2 b3 b4 b5 b6 bx : Nat} {lst : Int} {C best : List Pair} {co : Option Addr} {cc : Nat} (h : PS w base b2 b3 b4 b5 b6 bx lst C best co cc) (hC : C = [] → co = none) (hI : ∀ e ∈ C, I64 e.1 ∧ I64 e.2) (hl : C.length ≤ 1000) (O : Nat → Nat → Option Nat) {lo : Option Addr} {lc : Nat} {sum : Int} (hls : -1 ≤ lst) :
    Calls Try.prog 68 #[.slice lo 0 lc, .int .i64 sum, .pointer (some ⟨b2, 0, none⟩), .pointer (some ⟨b3, 0, none⟩), .pointer (some ⟨b4, 0, none⟩), .pointer (some ⟨b5, 0, none⟩), .pointer (some ⟨b6, 0, none⟩)] w fun r w' => r = .returned (.tuple #[]) ∧ ∃ lst' best', PS w' base b2 b3 b4 b5 b6 bx lst' C best' co cc ∧ Best O sum C (fun qs => PairOf qs []) lst best lst' best' ∧ Turns (MP b2 b3 b4 co) w w' := by
  have y2 := cell_of_one h.h2
  have y3 := cell_of_one h.h3
  have hcl := cloneP_call h hC hI hl
  have HC : Hid _ := hcl
  have HPS : Hid _ := h
  clear hcl h hC hI
  go_enter Try.func68, Try.ntmps68
  by_cases h0 : 0 ≤ lst ∧ lst ≤ sum
  · obtain ⟨h1, h2⟩ := h0
    go_wp2
    refine bodyPost_ret (v := .tuple #[]) (by simp [results, Try.results68]) rfl ?_
    exact ⟨rfl, lst, best, HPS.out, Or.inl ⟨rfl, rfl, fun qs hq => by cases qs with | nil => exact ⟨h1, by simpa [sumD] using h2⟩ | cons a l => obtain ⟨_, _, _, _, e, _⟩ := hq; cases e⟩, Turns.refl _ _⟩
  · have hend : ∀ (ao : Option Addr) (c : Nat) (wa : World), EdgesAt wa (.slice ao C.length c) C → (∀ x, ao = some x → w.heap.size ≤ x.block ∧ x.block < wa.heap.size) → Below w.heap.size w wa → (∃ lst' best', PS ((wa.setCell ⟨b2, 0, none⟩ (.int .i64 sum)).setCell ⟨b4, 0, none⟩ (.slice ao C.length c)) base b2 b3 b4 b5 b6 bx lst' C best' co cc ∧ Best O sum C (fun qs => PairOf qs []) lst best lst' best' ∧ Turns (MP b2 b3 b4 co) w ((wa.setCell ⟨b2, 0, none⟩ (.int .i64 sum)).setCell ⟨b4, 0, none⟩ (.slice ao C.length c))) := fun ao c wa hEa hao hbA => by
      have h := HPS.out.below hbA
      have hw := HPS.out
      obtain ⟨bo, bc, g1, g2, g3⟩ := h.h4
      have n23 := one_ty h.h2 h.h3 (by decide)
      have n24 := one_ty h.h2 g1 (by decide)
      have n52 := one_ty h.h5 h.h2 (by decide)
      have n54 := one_ty h.h5 g1 (by decide)
      have n62 := one_ty h.h6 h.h2 (by decide)
      have n64 := one_ty h.h6 g1 (by decide)
      have r2 := h.row_ne h.h2 (by decide)
      have r4 := h.row_ne g1 (by decide)
      have l2 := lt_of_block hw.h2
      have l3 := lt_of_block hw.h3
      obtain ⟨_, _, g1w, _, _⟩ := hw.h4
      have l4 := lt_of_block g1w
      have hgb : base ≤ w.heap.size := Nat.le_trans hw.ge.1 (Nat.le_of_lt l2)
      refine ⟨sum, C, ⟨one_far (one_set h.h2) n24, one_far (one_far h.h3 (fun e => n23 e.symm)) h.ne, ?_, ⟨ao, c, one_set (one_far g1 (fun e => n24 e.symm)), ?_, fun x hx => ?_⟩, one_far (one_far h.h5 n52) n54, one_far (one_far h.h6 n62) n64, h.ge, h.ne⟩, ?_, ?_⟩
      · refine ownsRow_blocks (ownsRow_blocks h.row fun b hb => Below.heap_setCell _ _ _ _ (fun e => ?_)) fun b hb => Below.heap_setCell _ _ _ _ (fun e => ?_)
        · have e' : b = b2 := e
          rw [blk_own, e'] at hb
          exact r2 hb
        · have e' : b = b4 := e
          rw [blk_own, e'] at hb
          exact r4 hb
      · exact (hEa.setCell (fun x hx => by have := (hao x hx).1; simp; omega) _).setCell (fun x hx => by have := (hao x hx).1; simp; omega) _
      · obtain ⟨k1, k2⟩ := hao x hx
        refine ⟨by omega, by simpa using k2, fun e => ?_, by omega, by omega, by omega⟩
        have := (hw.row.lt x.block ((blk_own co C.length cc).trans e)).2
        omega
      · exact Or.inr ⟨[], rfl, by simp [sumD], by simp, (fun qs hq => by
          cases qs with
          | nil => simp [sumD]
          | cons a l => obtain ⟨_, _, _, _, e, _⟩ := hq; cases e), by omega⟩
      · exact (Turns.of_below hbA _).trans (((setCell_turns _ _ _ _).mono (fun k _ hk => Or.inl hk)).trans ((setCell_turns _ _ _ _).mono (fun k _ hk => Or.inr (Or.inr (Or.inl hk)))))
    have HEND : Hid _ := hend
    have hfr : ∀ (wa : World), Below w.heap.size w wa → One wa b2 (.int .i64 lst) 3 ∧ ∃ v, One (wa.setCell ⟨b2, 0, none⟩ (.int .i64 sum)) b4 v 22 := fun wa hb => by
      have h := HPS.out.below hb
      obtain ⟨bo, bc, g1, _, _⟩ := h.h4
      have n24 := one_ty h.h2 g1 (by decide)
      exact ⟨h.h2, _, one_far g1 (fun e => n24 e.symm)⟩
    have HFR : Hid _ := hfr
    clear hend hfr
    by_cases hneg : lst < 0
    · have z1 : ¬ 0 ≤ lst := by omega
      clear h0
      go_wp2_with (first
        | (go_at_call 69; refine Calls.mono HC.out ?_; rintro r wa ⟨ao, c, rfl, hEa, hao, hbA⟩; obtain ⟨k2, v4, k4⟩ := HFR.out wa hbA; have z2 := cell_of_one k2; have f2 := one_free k2; have z4 := cell_of_one k4; have f4 := one_free k4)
        | go_in)
      refine bodyPost_ret (v := .tuple #[]) (by simp [results, Try.results68]) rfl ?_
      exact ⟨rfl, HEND.out ao c wa hEa hao hbA⟩
    · have z1 : 0 ≤ lst := by omega
      have z3 : ¬ lst ≤ sum := by omega
      clear h0
      go_wp2_with (first
        | (go_at_call 69; refine Calls.mono HC.out ?_; rintro r wa ⟨ao, c, rfl, hEa, hao, hbA⟩; obtain ⟨k2, v4, k4⟩ := HFR.out wa hbA; have z2 := cell_of_one k2; have f2 := one_free k2; have z4 := cell_of_one k4; have f4 := one_free k4)
        | go_in)
      refine bodyPost_ret (v := .tuple #[]) (by simp [results, Try.results68]) rfl ?_
      exact ⟨rfl, HEND.out ao c wa hEa hao hbA⟩

/-- The pairings that put u first with one of the first k of t. -/
def FirstK (u : Nat) (t : List Nat) (k : Nat) (qs : List Pair) : Prop := ∃ (j v : Nat) (qs' : List Pair), j < k ∧ t[j]? = some v ∧ qs = ((u : Int), (v : Int)) :: qs' ∧ PairOf qs' (t.eraseIdx j)
theorem firstK_all {u : Nat} {t : List Nat} (qs : List Pair) : FirstK u t t.length qs ↔ PairOf qs (u :: t) := by
  constructor
  · rintro ⟨j, v, qs', _, h2, rfl, h4⟩
    exact ⟨u, t, j, v, rfl, h2, rfl, h4⟩
  · intro h
    cases qs with
    | nil => cases h
    | cons p ps =>
      obtain ⟨u', t', k, v, e, h2, rfl, h4⟩ := h
      cases e
      exact ⟨k, v, ps, (List.getElem?_eq_some_iff.1 h2).1, h2, rfl, h4⟩
theorem firstK_next {u v : Nat} {t : List Nat} {k : Nat} (hv : t[k]? = some v) (qs : List Pair) : FirstK u t (k + 1) qs ↔ FirstK u t k qs ∨ ∃ qs', qs = ((u : Int), (v : Int)) :: qs' ∧ PairOf qs' (t.eraseIdx k) := by
  constructor
  · rintro ⟨j, v', qs', h1, h2, h3, h4⟩
    by_cases c : j = k
    · subst c
      rw [hv] at h2
      cases h2
      exact Or.inr ⟨qs', h3, h4⟩
    · exact Or.inl ⟨j, v', qs', by omega, h2, h3, h4⟩
  · rintro (⟨j, v', qs', h1, h2⟩ | ⟨qs', h3, h4⟩)
    · exact ⟨j, v', qs', by omega, h2⟩
    · exact ⟨k, v, qs', by omega, hv, h3, h4⟩

set_option maxRecDepth 8000 in
set_option maxHeartbeats 8000000 in
theorem try_call {O : Nat → Nat → Option Nat} {w0 : World} {b2 b3 b4 b5 b6 bx : Nat} {od : List Nat} (hod : ∀ u, u ∈ od → u < 1000) (hO : ∀ u v, u ∈ od → v ∈ od → ∃ D, O u v = some D ∧ D ≤ 100)
    (hf : ∀ w', Below w0.heap.size w0 w' → ∀ u v D : Nat, u ∈ od → v ∈ od → O u v = some D → Calls Try.prog 58 #[.int .i64 (u : Int), .int .i64 (v : Int), .pointer (some ⟨bx, 0, none⟩)] w' fun r w'' => r = .returned (.int .i64 (D : Int)) ∧ w'' = w') :
    ∀ (n : Nat) (w : World) (left : List Nat) (lo : Option Addr) (lc : Nat) (sum lst : Int) (C best : List Pair) (co : Option Addr) (cc : Nat), left.length = 2 * n → (∀ x, x ∈ left → x ∈ od) → NumsAt w lo left → left.length ≤ lc → (∀ x, lo = some x → left ≠ [] → x.block < w.heap.size ∧ ¬ MP b2 b3 b4 co x.block) → PS w w0.heap.size b2 b3 b4 b5 b6 bx lst C best co cc → Below w0.heap.size w0 w → (left = [] → C = [] → co = none) → (∀ e ∈ C, I64 e.1 ∧ I64 e.2) → C.length + n ≤ 100 → 0 ≤ sum ∧ sum + 200 * n ≤ 100000 → -1 ≤ lst ∧ lst ≤ 100000 → n ≤ 100 →
    Calls Try.prog 68 #[.slice lo left.length lc, .int .i64 sum, .pointer (some ⟨b2, 0, none⟩), .pointer (some ⟨b3, 0, none⟩), .pointer (some ⟨b4, 0, none⟩), .pointer (some ⟨b5, 0, none⟩), .pointer (some ⟨b6, 0, none⟩)] w fun r w' => r = .returned (.tuple #[]) ∧ ∃ lst' best' co', (∃ cc', PS w' w0.heap.size b2 b3 b4 b5 b6 bx lst' C best' co' cc') ∧ Best O sum C (fun qs => PairOf qs left) lst best lst' best' ∧ (blk co' = blk co ∨ ∃ k, blk co' = some k ∧ w.heap.size ≤ k) ∧ Turns (MP b2 b3 b4 co) w w' ∧ -1 ≤ lst' ∧ lst' ≤ 100000 := by
  intro n
  induction n with
  | zero =>
    intro w left lo lc sum lst C best co cc hlen hmem hnum hlc hlb hps hB hC hI hCl hsum hlst _
    have hnil : left = [] := List.eq_nil_of_length_eq_zero (by omega)
    subst hnil
    refine (tryEnd_call hps (hC rfl) hI (by omega) O (lo := lo) (lc := lc) hlst.1).mono ?_
    rintro r w' ⟨h1, lst', best', h2, h3, h4⟩
    refine ⟨h1, lst', best', co, ⟨cc, h2⟩, h3, Or.inl rfl, h4, ?_⟩
    rcases h3 with ⟨e, _⟩ | ⟨ps, hp, e, _⟩
    · omega
    · cases ps with
      | nil => rw [e]; simp [sumD]; omega
      | cons a l => obtain ⟨_, _, _, _, e2, _⟩ := hp; cases e2
  | succ n ih =>
    intro w left lo lc sum lst C best co cc hlen hmem hnum hlc hlb hps hB hC hI hCl hsum hlst hn
    cases left with
    | nil => simp at hlen
    | cons u t =>
      have hF := enter68
      have hF2 := enter58
      obtain ⟨i0, hi, hz0, hz1, hz2⟩ := info_parts Try.info59
      have htl : t.length = 2 * n + 1 := by simp at hlen; omega
      obtain ⟨go, rfl, c0⟩ := hnum 0 u rfl
      obtain ⟨hgo, hgm⟩ := hlb _ rfl (by simp)
      have y2 := cell_of_one hps.h2
      have huo := hmem u (by simp)
      have hu1 := hod u huo
      obtain ⟨M, hM⟩ : ∃ M, M = (u :: t).length := ⟨_, rfl⟩
      rw [← hM] at hlc ⊢
      have hM2 : M = t.length + 1 := by rw [hM]; simp
      have e0 : ((M : Int) == 0) = false := by rw [beq_eq_false_iff_ne]; omega
      have e00 : (M == 0) = false := by rw [beq_eq_false_iff_ne]; omega
      have HIH : Hid _ := ih
      have HPS : Hid _ := hps
      have HMEM : Hid _ := hmem
      have HNUM : Hid _ := hnum
      have HO : Hid _ := hO
      have HF : Hid _ := hf
      have HI : Hid _ := hI
      have HOD : Hid _ := hod
      have HGM : Hid _ := hgm
      have HM2 : Hid _ := hM2
      have HTL : Hid _ := htl
      have hM4 : M ≤ 300 := by omega
      have hM5 : 2 ≤ M := by omega
      clear ih hps hmem hnum hO hf hI hod hgm hlb hC hlen hM hM2 htl
      go_enter Try.func68, Try.ntmps68
      by_cases h0 : 0 ≤ lst ∧ lst ≤ sum
      · obtain ⟨h1, h2⟩ := h0
        go_wp2
        refine bodyPost_ret (v := .tuple #[]) (by simp [results, Try.results68]) rfl ?_
        exact ⟨rfl, lst, best, co, ⟨cc, HPS.out⟩, Or.inl ⟨rfl, rfl, fun qs hq => ⟨h1, by omega⟩⟩, Or.inl rfl, Turns.refl _ _, hlst⟩
      · have hgs : (0 ≤ lst → ¬ lst ≤ sum) := fun h1 h2 => h0 ⟨h1, h2⟩
        clear h0
        go_upto_region 0 with (fail)
        go_cut [18] from 12 (fun s18 wc => s18 = .bool false ∧ wc = w)
        case first =>
          by_cases hneg : 0 ≤ lst
          · have z1 := hgs hneg
            go_wp2_with fail
            go_meet
            case rel => exact ⟨rfl, rfl⟩
          · go_wp2_with fail
            go_meet
            case rel => exact ⟨rfl, rfl⟩
        case rest =>
          obtain ⟨rfl, hw⟩ := hcut
          subst hw
          clear y2 c0 hgs
          go_upto_region 4 with (fail)
          go_loopw [9] (fun i wr => ∃ (k : Nat) (lst1 : Int) (best1 : List Pair) (co1 : Option Addr) (cc1 : Nat), k ≤ t.length ∧ i = .int .i64 ((k : Int) + 1) ∧ PS wr w0.heap.size b2 b3 b4 b5 b6 bx lst1 C best1 co1 cc1 ∧ Best O sum C (FirstK u t k) lst best lst1 best1 ∧ (blk co1 = blk co ∨ ∃ k, blk co1 = some k ∧ wc.heap.size ≤ k) ∧ Turns (MP b2 b3 b4 co) wc wr ∧ -1 ≤ lst1 ∧ lst1 ≤ 100000) (fun i _ => M - (numOf i).toNat)
          case atStart => exact ⟨0, lst, best, co, cc, Nat.zero_le _, rfl, HPS.out, (Best.none O sum C lst best).congr (fun qs => ⟨fun h => h.elim, fun ⟨j, _, _, h, _⟩ => by omega⟩), Or.inl rfl, Turns.refl _ _, hlst⟩
          case round =>
            obtain ⟨k, lst1, best1, co1, cc1, hk, rfl, hps1, hbest1, hblk1, hT1, hl1⟩ := hrel
            have HP1 : Hid _ := hps1
            have HB1 : Hid _ := hbest1
            have HK1 : Hid _ := hblk1
            clear hps1 hbest1 hblk1
            by_cases hkt : k < t.length
            · obtain ⟨v, hv⟩ : ∃ v, t[k]? = some v := ⟨t[k], List.getElem?_eq_getElem hkt⟩
              have hvm : v ∈ u :: t := by simp [List.mem_of_getElem? hv]
              have hvo := HMEM.out v hvm
              have hv1 := HOD.out v hvo
              obtain ⟨D, hD, hD1⟩ := HO.out u v huo hvo
              obtain ⟨go', e1, cv0⟩ := HNUM.out (k + 1) v (by simpa using hv)
              cases e1
              obtain ⟨go', e1, cu0⟩ := HNUM.out 0 u rfl
              cases e1
              have cu := cell_turns cu0 hT1 HGM.out
              have cv := cell_turns cv0 hT1 HGM.out
              have i1 : (0 : Int) ≤ (k : Int) + 1 := by omega
              have i2 : (k : Int) + 1 < (M : Int) := by have := HM2.out; omega
              have i3 : (0 : Int) < (M : Int) := by omega
              have HV : Hid _ := hv
              have HDD : Hid _ := hD
              clear hv hvm hD cu0 cv0
              go_upto_region 6 with (fail)
              go_quiet (fail)
              rename Nat => nd
              have hb0 : Below wr.heap.size wr (wr.drewN nd) := below_drewN (Below.refl _ _) _
              have hp0 := PS.below HP1.out hb0
              have hT0 := hT1.trans (Turns.of_below hb0 _)
              have v3 := cell_of_one hp0.h3
              generalize wr.drewN nd = W0 at hb0 hp0 hT0 v3 ⊢
              have hg0 : go < W0.heap.size := Nat.lt_of_lt_of_le hgo hT0.size
              have hbW : w0.heap.size ≤ W0.heap.size := Nat.le_trans hp0.ge.1 (Nat.le_of_lt (lt_of_block hp0.h2))
              have hrow0 := hp0.row
              have HP0 : Hid _ := hp0
              have HT1 : Hid _ := hT1
              clear hp0 cu cv hT1
              go_upto_region 8 with (first
                | (at_builtin; refine wpList_append_lies _ rfl _ _ 22 rfl w0.heap.size 59 i0 (.agg #[.int .i64 0, .int .i64 0]) 2 16 Try.underlying22 hi hz0 hz1 hz2 rfl (by decide) (.slice co1 C.length cc1) C.length (flat C) rfl (hrow0.alloc _) ⟨W0.heap.size, 0, none⟩ 1 1 [.int .i64 (u : Int), .int .i64 (v : Int)] rfl rfl ?n1 ?n2 (by omega) ?n3 ?n4 ?n5 (W0.heap.size + 1) (by simp) ?_)
                | go_in)
              case n1 =>
                intro j x hj
                match j, hj with
                | 0, hj => simp at hj; subst hj; simp [Addr.add]
                | 1, hj => simp at hj; subst hj; simp [Addr.add]
              case n2 => intro x hx; simp at hx; rcases hx with rfl | rfl <;> rfl
              case n3 => unfold maxLen; omega
              case n4 => omega
              case n5 => simp; omega
              intro g1 c1 w1 hown1 hgr1 hat1 hlt1
              rw [blk_own] at hgr1 hat1
              have hpush := PS.push (p := ((u : Int), (v : Int))) HP0.out (g1 := g1) (c1 := c1) (w1 := w1) (by simpa [flat] using hown1) hgr1 (hat1.imp id (fun h => by omega))
              have T1w := (alloc_turns W0 (Obj.cells #[.int .i64 (u : Int), .int .i64 (v : Int)] 59) (fun k => some k = blk co1)).trans (Turns.of_grown hgr1)
              have h3b := one_turns HP0.out.h3 T1w (fun e => HP0.out.row_ne HP0.out.h3 (by decide) e.symm)
              have v3b := cell_of_one h3b
              have f3b := one_free h3b
              have HPU : Hid _ := hpush
              have hg1 : blk co1 = some g1 ∨ W0.heap.size < g1 := hat1.imp id (fun h => by omega)
              have HG1 : Hid _ := hg1
              clear hpush hown1 hgr1 hat1 v3 hrow0 T1w hg1
              go_upto_region 8 with (fail)
              have hp8 := HPU.out
              rw [show (C ++ [((u : Int), (v : Int))]).length = C.length + 1 by simp] at hp8
              obtain ⟨hq8, hT8⟩ := hp8
              have hTW : Turns (MP b2 b3 b4 co1) wr (w1.setCell ⟨b3, 0, none⟩ (.slice (some ⟨g1, 0, none⟩) (C.length + 1) c1)) := (Turns.of_below hb0 _).trans hT8
              have HTW : Hid _ := hTW
              generalize w1.setCell ⟨b3, 0, none⟩ (.slice (some ⟨g1, 0, none⟩) (C.length + 1) c1) = W8 at hq8 hT8 HTW ⊢
              clear HPU hTW v3b f3b h3b hlt1
              have v5 := cell_of_one hq8.h5
              have v6 := cell_of_one hq8.h6
              have v5a := all_alloc v5
              have v6a := all_alloc v6
              have j0 : (1 : Int) ≤ (lc : Int) := by omega
              have j1 : ¬ lc = 1 := by omega
              have j2 : (1 : Int) ≤ (k : Int) + 1 := by omega
              have j3 : (k : Int) + 1 ≤ (lc : Int) := by omega
              have j4 : IntKind.i64.wrap ((k : Int) + 1 + 1) = (k : Int) + 1 + 1 := Go.IntWalk.i64_in _ (by omega)
              have j5 : (0 : Int) ≤ (k : Int) + 1 + 1 := by omega
              have j6 : (k : Int) + 1 + 1 ≤ (M : Int) := by omega
              have j7 : (M : Int) ≤ (lc : Int) := by omega
              have j8 : (k : Int) + 1 + 1 ≤ (lc : Int) := by omega
              have j11 : IntKind.i64.wrap (sum + (D : Int)) = sum + (D : Int) := Go.IntWalk.i64_in _ (by omega)
              have hgm1 : ¬ MP b2 b3 b4 co1 go := fun h => by
                rcases h with h | h | h | h
                · exact HGM.out (Or.inl h)
                · exact HGM.out (Or.inr (Or.inl h))
                · exact HGM.out (Or.inr (Or.inr (Or.inl h)))
                · rcases HK1.out with h' | ⟨b, h', hb⟩
                  · exact HGM.out (Or.inr (Or.inr (Or.inr (h'.symm.trans h))))
                  · rw [h'] at h
                    have := Option.some.inj h
                    omega
              have hcell8 : ∀ j x : Nat, (u :: t)[j]? = some x → W8.cell? ⟨go, j, none⟩ = some (.int .i64 (x : Int)) := fun j x hx => by
                obtain ⟨g', e', h'⟩ := HNUM.out j x hx
                cases e'
                exact cell_turns (cell_turns h' HT1.out HGM.out) HTW.out hgm1
              have hge8 : ∀ (co' : Option Addr) (cc' : Nat) (C' best' : List Pair) (l' : Int) (W : World), PS W w0.heap.size b2 b3 b4 b5 b6 bx l' C' best' co' cc' → ∀ k, MP b2 b3 b4 co' k → w0.heap.size ≤ k := fun co' cc' C' best' l' W hp k hk => by
                rcases hk with rfl | rfl | rfl | hk
                · exact hp.ge.1
                · exact hp.ge.2.1
                · exact hp.ge.2.2
                · exact (hp.row.lt k ((blk_own co' C'.length cc').trans hk)).1
              have hBr : Below w0.heap.size w0 wr := HT1.out.below hB hB.size (hge8 _ _ _ _ _ _ HPS.out)
              have hB8 : Below w0.heap.size w0 W8 := HTW.out.below hBr hBr.size (hge8 _ _ _ _ _ _ HP1.out)
              have HGE : Hid _ := hge8
              have HB8 : Hid _ := hB8
              have HQ8 : Hid _ := hq8
              have hA8 : (t.take k).length = k := by simp; omega
              have hBl8 : (t.drop (k + 1)).length = M - (k + 2) := by have := HM2.out; simp; omega
              have htn : ((k : Int) + 1 + 1).toNat = k + 2 := by omega
              have hcat : ∀ (o2 : Option Addr) (c2 : Nat), (lc = k + 2 ∨ o2 = some ⟨go, k + 2, none⟩) → Calls Try.prog 65 #[.slice (some ⟨W8.heap.size, 0, none⟩) 2 2] (W8.alloc (Obj.cells #[.slice (some ⟨go, 1, none⟩) k (lc - 1), .slice o2 (M - (k + 2)) c2] 29)).drew fun r w' => ∃ v, r = .returned v ∧ w'.ownsRow W8.heap.size 3 1 v (t.take k ++ t.drop (k + 1)).length (qv (t.take k ++ t.drop (k + 1))) ∧ Below W8.heap.size W8 w' := fun o2 c2 ho2 => by
                refine (concat_call (w := (W8.alloc (Obj.cells #[.slice (some ⟨go, 1, none⟩) k (lc - 1), .slice o2 (M - (k + 2)) c2] 29)).drew) (b := W8.heap.size) (o1 := some ⟨go, 1, none⟩) (o2 := o2) (c1 := lc - 1) (c2 := c2) (A := t.take k) (B := t.drop (k + 1)) (by rw [hA8]; exact (cell_two (two_new W8 _ _ 29)).1) (by rw [hBl8]; exact (cell_two (two_new W8 _ _ 29)).2) (fun j x hx => ?sA) (fun j x hx => ?sB) (by omega) (by have := HM2.out; simp; omega)).mono ?_
                case sA =>
                  refine ⟨⟨go, 1, none⟩, rfl, ?_⟩
                  have hx' : (u :: t)[1 + j]? = some x := by
                    have h1 := hx
                    rw [List.getElem?_take] at h1
                    by_cases c : j < k
                    · rw [if_pos c] at h1
                      rw [Nat.add_comm]
                      simpa using h1
                    · rw [if_neg c] at h1; cases h1
                  have h8 := hcell8 (1 + j) x hx'
                  rw [show (⟨go, 1, none⟩ : Addr).add j = ⟨go, 1 + j, none⟩ by simp [Addr.add]]
                  exact ((below_alloc (Below.refl _ W8) _).drew.cell (p := ⟨go, 1 + j, none⟩) (World.block_lt_of_cell? W8 _ h8)).trans h8
                case sB =>
                  have hx' : (u :: t)[k + 2 + j]? = some x := by
                    have h1 := hx
                    rw [List.getElem?_drop] at h1
                    have e2 : k + 2 + j = (k + 1 + j) + 1 := by omega
                    rw [e2]
                    simpa using h1
                  have hlen2 := (List.getElem?_eq_some_iff.1 hx').1
                  have hne2 : ¬ lc = k + 2 := by
                    have := HM2.out
                    simp at hlen2
                    omega
                  refine ⟨⟨go, k + 2, none⟩, ho2.resolve_left hne2, ?_⟩
                  have h8 := hcell8 (k + 2 + j) x hx'
                  rw [show (⟨go, k + 2, none⟩ : Addr).add j = ⟨go, k + 2 + j, none⟩ by simp [Addr.add]]
                  exact ((below_alloc (Below.refl _ W8) _).drew.cell (p := ⟨go, k + 2 + j, none⟩) (World.block_lt_of_cell? W8 _ h8)).trans h8
                rintro r w' ⟨v, h1, h2, h3⟩
                exact ⟨v, h1, ownsRow_mono h2 (by simp), below_next (below_alloc (Below.refl _ W8) _).drew h3⟩
              have her : t.take k ++ t.drop (k + 1) = t.eraseIdx k := (List.eraseIdx_eq_take_drop_succ t k).symm
              simp only [her] at hcat
              have HCAT : Hid _ := hcat
              have hfar := fun (W : World) (hb : Below w0.heap.size w0 W) => HF.out W hb u v D huo hvo HDD.out
              have HFR : Hid _ := hfar
              have hkx : ∀ wx, Below W8.heap.size W8 wx → PS wx w0.heap.size b2 b3 b4 b5 b6 bx lst1 (C ++ [((u : Int), (v : Int))]) best1 (some ⟨g1, 0, none⟩) c1 ∧ Below w0.heap.size w0 wx := fun wx h1 => ⟨PS.below HQ8.out h1, HB8.out.trans (h1.mono HB8.out.size)⟩
              have HKX : Hid _ := hkx
              have htry := fun (wx : World) (lo' : Option Addr) (lc' : Nat) (hb : Below W8.heap.size W8 wx) (ho : wx.ownsRow W8.heap.size 3 1 (.slice lo' (t.eraseIdx k).length lc') (t.eraseIdx k).length (qv (t.eraseIdx k))) => HIH.out wx (t.eraseIdx k) lo' lc' (sum + D) lst1 (C ++ [((u : Int), (v : Int))]) best1 (some ⟨g1, 0, none⟩) c1 (by have := HTL.out; rw [List.length_eraseIdx, if_pos hkt]; omega) (fun x hx => HMEM.out x (by simp [List.mem_of_mem_eraseIdx hx])) (nums_row ho) (own_cap ho) (fun x hx _ => by
                have hl := ho.lt x.block (by rw [hx]; rfl)
                refine ⟨hl.2, fun hm => ?_⟩
                have p8 := HQ8.out
                have m2 := lt_of_block p8.h2
                have m3 := lt_of_block p8.h3
                obtain ⟨_, _, m4', _, _⟩ := p8.h4
                have m4 := lt_of_block m4'
                have m1 := (p8.row.lt g1 (by rfl)).2
                rcases hm with h | h | h | h
                · omega
                · omega
                · omega
                · have : g1 = x.block := by simpa [blk] using h
                  omega) (HKX.out wx hb).1 (HKX.out wx hb).2 (fun _ h => by simp at h) (fun e he => by
                rcases List.mem_append.1 he with he | he
                · exact HI.out e he
                · simp at he
                  subst he
                  exact ⟨⟨by omega, by omega⟩, ⟨by omega, by omega⟩⟩) (by simp; omega) (by omega) hl1 (by omega)
              have HTRY : Hid _ := htry
              have hk65 : ∀ wx, Below W8.heap.size W8 wx → wx.cell? ⟨b5, 0, none⟩ = some (.func (.func 68) #[] #[.pointer (some ⟨b2, 0, none⟩), .pointer (some ⟨b3, 0, none⟩), .pointer (some ⟨b4, 0, none⟩), .pointer (some ⟨b5, 0, none⟩), .pointer (some ⟨b6, 0, none⟩)]) ∧ wx.cell? ⟨b6, 0, none⟩ = some (.func (.func 58) #[] #[.pointer (some ⟨bx, 0, none⟩)]) := fun wx hb => ⟨cell_of_one (HKX.out wx hb).1.h5, cell_of_one (HKX.out wx hb).1.h6⟩
              have HK65 : Hid _ := hk65
              clear hcat hfar htry hk65 hkx hcell8 hge8 hBr hB8 hq8 hA8 hBl8 her hgm1 hT8
              by_cases hlk : lc = k + 2
              · subst hlk
                have hcat0 := HCAT.out (some ⟨go, 0, none⟩) 0 (Or.inl rfl)
                rw [show M - (k + 2) = 0 by omega, show k + 2 - 1 = k + 1 by omega] at hcat0
                have HCAT0 : Hid _ := hcat0
                clear hcat0
                go_region_held3 (fun w' => w'.cell? ⟨b5, 0, none⟩ = some (.func (.func 68) #[] #[.pointer (some ⟨b2, 0, none⟩), .pointer (some ⟨b3, 0, none⟩), .pointer (some ⟨b4, 0, none⟩), .pointer (some ⟨b5, 0, none⟩), .pointer (some ⟨b6, 0, none⟩)]) ∧ w'.cell? ⟨b6, 0, none⟩ = some (.func (.func 58) #[] #[.pointer (some ⟨bx, 0, none⟩)]))
                  (first | exact hkk | exact ⟨v5, v6⟩ | exact ⟨v5a _, v6a _⟩ | assumption | go_keep)
                  ((first
                    | (go_at_call 65; refine Calls.mono HCAT0.out ?_; rintro r wx ⟨vx, rfl, hownx, hbX⟩; obtain ⟨lo', lc', rfl⟩ := form_row hownx; have hkk := HK65.out wx hbX)
                    | (go_at_call 58; refine (HFR.out _ ?_).mono ?_; (first | exact HB8.out.drew | exact (HB8.out.alloc HB8.out.size _).drew | exact (HKX.out _ hbX).2); (rintro r wy ⟨rfl, hwy⟩; have hwy' := hwy.symm; subst hwy'; clear hwy))
                    | (go_at_call 68; refine (HTRY.out wx lo' lc' hbX hownx).mono ?_; rintro r wz ⟨rfl, lst2, best2, co2, ⟨cc2, hps2⟩, hbest2, hblk2, hT2, hl2⟩; have hkk := And.intro (cell_of_one hps2.h5) (cell_of_one hps2.h6))))
                have hc2 := own_cap hps2.row
                have hl2' : (C ++ [((u : Int), (v : Int))]).length = C.length + 1 := by simp
                rw [hl2'] at hc2
                obtain ⟨g2, rfl⟩ : ∃ g2, co2 = some ⟨g2, 0, none⟩ := by
                  rcases hps2.row.2 with ⟨_, h⟩ | ⟨g, c, cur, e, _⟩
                  · simp at h
                  · cases e; exact ⟨g, rfl⟩
                have v3 := cell_of_one hps2.h3
                have f3 := one_free hps2.h3
                rw [hl2'] at v3
                have hpop := PS.pop hps2
                have hbestF := (Best.step hsum.1 HDD.out HB1.out hbest2).congr (fun qs => (firstK_next HV.out qs).symm)
                have s1 := HT1.out.size
                have s2 := HTW.out.size
                have s3 := hbX.size
                have s0 := hT0.size
                have hblkg : blk (some ⟨g1, 0, none⟩) = blk co ∨ ∃ k, blk (some (⟨g1, 0, none⟩ : Addr)) = some k ∧ wc.heap.size ≤ k := by
                  rcases HG1.out with h | h
                  · have e : blk (some (⟨g1, 0, none⟩ : Addr)) = blk co1 := h.symm
                    rw [e]; exact HK1.out
                  · exact Or.inr ⟨g1, rfl, by omega⟩
                have hblkF : blk (some ⟨g2, 0, none⟩) = blk co ∨ ∃ k, blk (some (⟨g2, 0, none⟩ : Addr)) = some k ∧ wc.heap.size ≤ k := by
                  rcases hblk2 with h | ⟨k', h, h'⟩
                  · rw [h]; exact hblkg
                  · exact Or.inr ⟨k', h, by omega⟩
                have hMM : ∀ co' : Option Addr, (blk co' = blk co ∨ ∃ k, blk co' = some k ∧ wc.heap.size ≤ k) → ∀ k, MP b2 b3 b4 co' k → MP b2 b3 b4 co k ∨ wc.heap.size ≤ k := fun co' hc k hk => by
                  rcases hk with h | h | h | h
                  · exact Or.inl (Or.inl h)
                  · exact Or.inl (Or.inr (Or.inl h))
                  · exact Or.inl (Or.inr (Or.inr (Or.inl h)))
                  · rcases hc with h' | ⟨b, h', hb⟩
                    · exact Or.inl (Or.inr (Or.inr (Or.inr (h'.symm.trans h))))
                    · rw [h'] at h
                      have := Option.some.inj h
                      exact Or.inr (by omega)
                have hTF := ((((HT1.out.mono (M' := fun k => MP b2 b3 b4 co k ∨ wc.heap.size ≤ k) (fun k _ h => Or.inl h)).trans (HTW.out.mono (fun k _ h => hMM _ HK1.out k h))).trans (Turns.of_below hbX _)).trans (hT2.mono (fun k _ h => hMM _ hblkg k h))).trans (hpop.2.mono (fun k _ h => hMM _ hblkF k h))
                have hTG := hTF.mono (M' := MP b2 b3 b4 co) (fun k hk h => h.resolve_right (by omega))
                have HPOP : Hid _ := hpop.1
                have HBF : Hid _ := hbestF
                have HTG : Hid _ := hTG
                have HBK : Hid _ := hblkF
                have q1 : (C.length : Int) ≤ (cc2 : Int) := by omega
                have q2 : (0 : Int) ≤ (C.length : Int) := by omega
                have q3 : C.length ≤ 100 := by omega
                have hM6 := HM2.out
                have HM6 : Hid _ := hM6
                clear hps2 hpop hbestF hTF hTG hblkF hblkg hMM hbest2 hblk2 hT2 hkk hownx hl2' hM6
                go_wp2
                go_roundw
                case rel => exact ⟨k + 1, lst2, best2, some ⟨g2, 0, none⟩, cc2, by omega, by go_num, HPOP.out, HBF.out, HBK.out, HTG.out, hl2⟩
                case measure => have := HM6.out; simp [numOf]; omega
              · have HO3 : Hid (lc = k + 2 ∨ some (⟨go, k + 2, none⟩ : Addr) = some ⟨go, k + 2, none⟩) := Or.inr rfl
                go_region_held3 (fun w' => w'.cell? ⟨b5, 0, none⟩ = some (.func (.func 68) #[] #[.pointer (some ⟨b2, 0, none⟩), .pointer (some ⟨b3, 0, none⟩), .pointer (some ⟨b4, 0, none⟩), .pointer (some ⟨b5, 0, none⟩), .pointer (some ⟨b6, 0, none⟩)]) ∧ w'.cell? ⟨b6, 0, none⟩ = some (.func (.func 58) #[] #[.pointer (some ⟨bx, 0, none⟩)]))
                  (first | exact hkk | exact ⟨v5, v6⟩ | exact ⟨v5a _, v6a _⟩ | assumption | go_keep)
                  ((first
                    | (go_at_call 65; refine Calls.mono (HCAT.out _ _ HO3.out) ?_; rintro r wx ⟨vx, rfl, hownx, hbX⟩; obtain ⟨lo', lc', rfl⟩ := form_row hownx; have hkk := HK65.out wx hbX)
                    | (go_at_call 58; refine (HFR.out _ ?_).mono ?_; (first | exact HB8.out.drew | exact (HB8.out.alloc HB8.out.size _).drew | exact (HKX.out _ hbX).2); (rintro r wy ⟨rfl, hwy⟩; have hwy' := hwy.symm; subst hwy'; clear hwy))
                    | (go_at_call 68; refine (HTRY.out wx lo' lc' hbX hownx).mono ?_; rintro r wz ⟨rfl, lst2, best2, co2, ⟨cc2, hps2⟩, hbest2, hblk2, hT2, hl2⟩; have hkk := And.intro (cell_of_one hps2.h5) (cell_of_one hps2.h6))))
                have hc2 := own_cap hps2.row
                have hl2' : (C ++ [((u : Int), (v : Int))]).length = C.length + 1 := by simp
                rw [hl2'] at hc2
                obtain ⟨g2, rfl⟩ : ∃ g2, co2 = some ⟨g2, 0, none⟩ := by
                  rcases hps2.row.2 with ⟨_, h⟩ | ⟨g, c, cur, e, _⟩
                  · simp at h
                  · cases e; exact ⟨g, rfl⟩
                have v3 := cell_of_one hps2.h3
                have f3 := one_free hps2.h3
                rw [hl2'] at v3
                have hpop := PS.pop hps2
                have hbestF := (Best.step hsum.1 HDD.out HB1.out hbest2).congr (fun qs => (firstK_next HV.out qs).symm)
                have s1 := HT1.out.size
                have s2 := HTW.out.size
                have s3 := hbX.size
                have s0 := hT0.size
                have hblkg : blk (some ⟨g1, 0, none⟩) = blk co ∨ ∃ k, blk (some (⟨g1, 0, none⟩ : Addr)) = some k ∧ wc.heap.size ≤ k := by
                  rcases HG1.out with h | h
                  · have e : blk (some (⟨g1, 0, none⟩ : Addr)) = blk co1 := h.symm
                    rw [e]; exact HK1.out
                  · exact Or.inr ⟨g1, rfl, by omega⟩
                have hblkF : blk (some ⟨g2, 0, none⟩) = blk co ∨ ∃ k, blk (some (⟨g2, 0, none⟩ : Addr)) = some k ∧ wc.heap.size ≤ k := by
                  rcases hblk2 with h | ⟨k', h, h'⟩
                  · rw [h]; exact hblkg
                  · exact Or.inr ⟨k', h, by omega⟩
                have hMM : ∀ co' : Option Addr, (blk co' = blk co ∨ ∃ k, blk co' = some k ∧ wc.heap.size ≤ k) → ∀ k, MP b2 b3 b4 co' k → MP b2 b3 b4 co k ∨ wc.heap.size ≤ k := fun co' hc k hk => by
                  rcases hk with h | h | h | h
                  · exact Or.inl (Or.inl h)
                  · exact Or.inl (Or.inr (Or.inl h))
                  · exact Or.inl (Or.inr (Or.inr (Or.inl h)))
                  · rcases hc with h' | ⟨b, h', hb⟩
                    · exact Or.inl (Or.inr (Or.inr (Or.inr (h'.symm.trans h))))
                    · rw [h'] at h
                      have := Option.some.inj h
                      exact Or.inr (by omega)
                have hTF := ((((HT1.out.mono (M' := fun k => MP b2 b3 b4 co k ∨ wc.heap.size ≤ k) (fun k _ h => Or.inl h)).trans (HTW.out.mono (fun k _ h => hMM _ HK1.out k h))).trans (Turns.of_below hbX _)).trans (hT2.mono (fun k _ h => hMM _ hblkg k h))).trans (hpop.2.mono (fun k _ h => hMM _ hblkF k h))
                have hTG := hTF.mono (M' := MP b2 b3 b4 co) (fun k hk h => h.resolve_right (by omega))
                have HPOP : Hid _ := hpop.1
                have HBF : Hid _ := hbestF
                have HTG : Hid _ := hTG
                have HBK : Hid _ := hblkF
                have q1 : (C.length : Int) ≤ (cc2 : Int) := by omega
                have q2 : (0 : Int) ≤ (C.length : Int) := by omega
                have q3 : C.length ≤ 100 := by omega
                have hM6 := HM2.out
                have HM6 : Hid _ := hM6
                clear hps2 hpop hbestF hTF hTG hblkF hblkg hMM hbest2 hblk2 hT2 hkk hownx hl2' hM6
                go_wp2
                go_roundw
                case rel => exact ⟨k + 1, lst2, best2, some ⟨g2, 0, none⟩, cc2, by omega, by go_num, HPOP.out, HBF.out, HBK.out, HTG.out, hl2⟩
                case measure => have := HM6.out; simp [numOf]; omega
            · have hke : t.length = k := by omega
              subst hke
              have hM6 := HM2.out
              have i2 : ¬ (t.length : Int) + 1 < (M : Int) := by omega
              have hbF := Best.congr HB1.out (fun qs => firstK_all (u := u) (t := t) qs)
              have HBF : Hid _ := hbF
              have q3 : t.length ≤ 300 := by omega
              clear hM6 hbF
              go_wp2
              go_end0
              exact ⟨rfl, lst1, best1, co1, ⟨cc1, HP1.out⟩, HBF.out, HK1.out, hT1, hl1⟩
end Go.Proofs.Ytkbgcbbloogdjac
