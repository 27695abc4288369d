/- nearestPairs, its state: the least sum so far, the pairs that are made, the best ones. -/
import Derived.Test.YtkbgcbbloogdjacConcat
import Derived.Test.YtkbgcbbloogdjacPairs2
namespace Go.Proofs.Ytkbgcbbloogdjac
open Go.RowKit Go.Maps

/-- ps puts the numbers of l in pairs, the first one of those that are left always with another one. -/
def PairOf : List Pair → List Nat → Prop
  | [], l => l = []
  | p :: ps, l => ∃ (u : Nat) (t : List Nat) (k v : Nat), l = u :: t ∧ t[k]? = some v ∧ p = ((u : Int), (v : Int)) ∧ PairOf ps (t.eraseIdx k)
theorem pair_ex : ∀ (n : Nat) (l : List Nat), l.length = 2 * n → ∃ ps, PairOf ps l
  | 0, l, h => ⟨[], List.eq_nil_of_length_eq_zero (by omega)⟩
  | n + 1, [], h => by simp at h
  | n + 1, [u], h => by simp at h; omega
  | n + 1, u :: v :: l, h => by
    obtain ⟨ps, hp⟩ := pair_ex n l (by simp at h; omega)
    exact ⟨((u : Int), (v : Int)) :: ps, u, v :: l, 0, v, rfl, rfl, rfl, by simpa using hp⟩
theorem pair_mem : ∀ {ps : List Pair} {l : List Nat}, PairOf ps l → 2 * ps.length = l.length ∧ ∀ p ∈ ps, ∃ u v : Nat, p = ((u : Int), (v : Int)) ∧ u ∈ l ∧ v ∈ l
  | [], l, h => by
    have h' : l = [] := h
    subst h'
    exact ⟨rfl, fun p hp => by simp at hp⟩
  | p :: ps, l, h => by
    obtain ⟨u, t, k, v, rfl, hk, rfl, h'⟩ := h
    obtain ⟨h1, h2⟩ := pair_mem h'
    have hkl := (List.getElem?_eq_some_iff.1 hk).1
    have hlen : (t.eraseIdx k).length = t.length - 1 := by rw [List.length_eraseIdx, if_pos hkl]
    refine ⟨by simp; omega, fun q hq => ?_⟩
    rcases List.mem_cons.1 hq with rfl | hq
    · exact ⟨u, v, rfl, by simp, by simp [List.mem_of_getElem? hk]⟩
    · obtain ⟨a, b, h3, h4, h5⟩ := h2 q hq
      exact ⟨a, b, h3, by simp [List.mem_of_mem_eraseIdx h4], by simp [List.mem_of_mem_eraseIdx h5]⟩

/-- What a search among the pairings of S leaves: nothing new, or a best one of them. -/
def Best (O : Nat → Nat → Option Nat) (sum : Int) (C : List Pair) (S : List Pair → Prop) (lst : Int) (best : List Pair) (lst' : Int) (best' : List Pair) : Prop :=
  (lst' = lst ∧ best' = best ∧ ∀ qs, S qs → 0 ≤ lst ∧ lst ≤ sum + sumD O qs) ∨
  ∃ ps, S ps ∧ lst' = sum + sumD O ps ∧ best' = C ++ ps ∧ (∀ qs, S qs → lst' ≤ sum + sumD O qs) ∧ (lst < 0 ∨ lst' < lst)
theorem Best.none (O : Nat → Nat → Option Nat) (sum : Int) (C : List Pair) (lst : Int) (best : List Pair) : Best O sum C (fun _ => False) lst best lst best := Or.inl ⟨rfl, rfl, fun _ h => h.elim⟩
theorem Best.congr {O : Nat → Nat → Option Nat} {sum : Int} {C : List Pair} {S T : List Pair → Prop} {lst lst' : Int} {best best' : List Pair} (h : Best O sum C S lst best lst' best') (he : ∀ qs, S qs ↔ T qs) : Best O sum C T lst best lst' best' := by
  have : S = T := funext fun qs => propext (he qs)
  rw [← this]; exact h
theorem Best.step {O : Nat → Nat → Option Nat} {sum : Int} {C : List Pair} {S S' : List Pair → Prop} {lst lst1 lst2 : Int} {best best1 best2 : List Pair} {u v D : Nat} (hs : 0 ≤ sum) (hO : O u v = some D) (h : Best O sum C S lst best lst1 best1) (h' : Best O (sum + D) (C ++ [((u : Int), (v : Int))]) S' lst1 best1 lst2 best2) :
    Best O sum C (fun qs => S qs ∨ ∃ qs', qs = ((u : Int), (v : Int)) :: qs' ∧ S' qs') lst best lst2 best2 := by
  have hsum : ∀ qs', sum + sumD O (((u : Int), (v : Int)) :: qs') = sum + D + sumD O qs' := fun qs' => by
    simp [sumD, hO]
    omega
  have hn : ∀ qs, (0 : Int) ≤ sumD O qs := fun qs => by omega
  rcases h with ⟨rfl, rfl, h1⟩ | ⟨ps, h1, h2, h3, h4, h5⟩
  · rcases h' with ⟨rfl, rfl, g1⟩ | ⟨ps, g1, g2, g3, g4, g5⟩
    · refine Or.inl ⟨rfl, rfl, fun qs hq => ?_⟩
      rcases hq with hq | ⟨qs', rfl, hq⟩
      · exact h1 qs hq
      · rw [hsum]; exact g1 qs' hq
    · refine Or.inr ⟨((u : Int), (v : Int)) :: ps, Or.inr ⟨ps, rfl, g1⟩, by rw [hsum, g2], by rw [g3]; simp, fun qs hq => ?_, g5⟩
      rcases hq with hq | ⟨qs', rfl, hq⟩
      · have := h1 qs hq
        omega
      · rw [hsum]; exact g4 qs' hq
  · rcases h' with ⟨rfl, rfl, g1⟩ | ⟨qs1, g1, g2, g3, g4, g5⟩
    · refine Or.inr ⟨ps, Or.inl h1, h2, h3, fun qs hq => ?_, h5⟩
      rcases hq with hq | ⟨qs', rfl, hq⟩
      · exact h4 qs hq
      · rw [hsum]; exact (g1 qs' hq).2
    · have hp := hn ps
      refine Or.inr ⟨((u : Int), (v : Int)) :: qs1, Or.inr ⟨qs1, rfl, g1⟩, by rw [hsum, g2], by rw [g3]; simp, fun qs hq => ?_, by omega⟩
      rcases hq with hq | ⟨qs', rfl, hq⟩
      · have := h4 qs hq
        omega
      · rw [hsum]; exact g4 qs' hq

def blk : Option Addr → Option Nat
  | some a => some a.block
  | none => none
theorem blk_own (co : Option Addr) (n c : Nat) : (Value.slice co n c).ownBlock = blk co := by cases co <;> rfl
abbrev tryF (b2 b3 b4 b5 b6 : Nat) : Value := .func (.func 68) #[] #[.pointer (some ⟨b2, 0, none⟩), .pointer (some ⟨b3, 0, none⟩), .pointer (some ⟨b4, 0, none⟩), .pointer (some ⟨b5, 0, none⟩), .pointer (some ⟨b6, 0, none⟩)]
/-- How the memory stands while nearestPairs searches. -/
structure PS (w : World) (base b2 b3 b4 b5 b6 bx : Nat) (lst : Int) (C best : List Pair) (co : Option Addr) (cc : Nat) : Prop where
  h2 : One w b2 (.int .i64 lst) 3
  h3 : One w b3 (.slice co C.length cc) 22
  row : w.ownsRow base 59 2 (.slice co C.length cc) C.length (flat C)
  h4 : ∃ bo bc, One w b4 (.slice bo best.length bc) 22 ∧ EdgesAt w (.slice bo best.length bc) best ∧ ∀ x, bo = some x → base ≤ x.block ∧ x.block < w.heap.size ∧ blk co ≠ some x.block ∧ x.block ≠ b2 ∧ x.block ≠ b3 ∧ x.block ≠ b4
  h5 : One w b5 (.func (.func 68) #[] #[.pointer (some ⟨b2, 0, none⟩), .pointer (some ⟨b3, 0, none⟩), .pointer (some ⟨b4, 0, none⟩), .pointer (some ⟨b5, 0, none⟩), .pointer (some ⟨b6, 0, none⟩)]) 111
  h6 : One w b6 (.func (.func 58) #[] #[.pointer (some ⟨bx, 0, none⟩)]) 92
  ge : base ≤ b2 ∧ base ≤ b3 ∧ base ≤ b4
  ne : b3 ≠ b4
/-- The blocks that the search may turn. -/
def MP (b2 b3 b4 : Nat) (co : Option Addr) (k : Nat) : Prop := k = b2 ∨ k = b3 ∨ k = b4 ∨ blk co = some k

section
variable {w w' : World} {base b2 b3 b4 b5 b6 bx : Nat} {lst : Int} {C best : List Pair} {co : Option Addr} {cc : Nat}
theorem PS.below (h : PS w base b2 b3 b4 b5 b6 bx lst C best co cc) (hb : Below w.heap.size w w') : PS w' base b2 b3 b4 b5 b6 bx lst C best co cc := by
  obtain ⟨bo, bc, g1, g2, g3⟩ := h.h4
  exact ⟨one_next h.h2 hb, one_next h.h3 hb, ownsRow_blocks h.row fun b hb' => hb.block b (h.row.lt b hb').2, ⟨bo, bc, one_next g1 hb, g2.below hb, fun x hx => ⟨(g3 x hx).1, Nat.lt_of_lt_of_le (g3 x hx).2.1 hb.size, (g3 x hx).2.2⟩⟩, one_next h.h5 hb, one_next h.h6 hb, h.ge, h.ne⟩
theorem one_ty {k l : Nat} {t t' : TypeId} {x y : Value} (hk : One w k x t) (hl : One w l y t') (ht : t ≠ t') : k ≠ l := fun e => by
  subst e
  have hk' : w.heap[k]? = some (.cells #[x] t (0, 0)) := hk
  rw [hl] at hk'
  simp at hk'
  exact ht hk'.2.symm
theorem PS.row_ne (h : PS w base b2 b3 b4 b5 b6 bx lst C best co cc) {k : Nat} {t : TypeId} {cs : Array Value} (hk : w.heap[k]? = some (.cells cs t (0, 0))) (ht : t ≠ 59) : blk co ≠ some k := fun e => by
  obtain ⟨cur, hc⟩ := own_cells h.row ((blk_own co C.length cc).trans e)
  rw [hc] at hk
  simp at hk
  exact ht hk.2.symm
theorem EdgesAt.blocks {v : Value} {es : List Pair} (h : EdgesAt w v es) (hb : ∀ x n c, v = .slice (some x) n c → w'.heap[x.block]? = w.heap[x.block]?) : EdgesAt w' v es := by
  obtain ⟨ao, cap, rfl, h2, h3, h4⟩ := h
  refine ⟨ao, cap, rfl, h2, h3, fun k hk => ?_⟩
  obtain ⟨b, off, rfl, c0, c1⟩ := h4 k hk
  have hh := hb _ _ _ rfl
  exact ⟨b, off, rfl, (World.cell?_of_block (w := w) (a := ⟨b, off + k * 2, none⟩) hh).trans c0, (World.cell?_of_block (w := w) (a := ⟨b, off + k * 2 + 1, none⟩) hh).trans c1⟩
/-- One pair more. -/
theorem PS.push (h : PS w base b2 b3 b4 b5 b6 bx lst C best co cc) {o : Obj} {w1 : World} {g1 c1 : Nat} {p : Pair} (hown : w1.ownsRow base 59 2 (.slice (some ⟨g1, 0, none⟩) (C ++ [p]).length c1) (C ++ [p]).length (flat (C ++ [p]))) (hg : (w.alloc o).grownBy w1 (blk co)) (hat : blk co = some g1 ∨ w.heap.size < g1) :
    PS (w1.setCell ⟨b3, 0, none⟩ (.slice (some ⟨g1, 0, none⟩) (C ++ [p]).length c1)) base b2 b3 b4 b5 b6 bx lst (C ++ [p]) best (some ⟨g1, 0, none⟩) c1 ∧ Turns (MP b2 b3 b4 co) w (w1.setCell ⟨b3, 0, none⟩ (.slice (some ⟨g1, 0, none⟩) (C ++ [p]).length c1)) := by
  have T := (alloc_turns w o (fun k => some k = blk co)).trans (Turns.of_grown hg)
  have r2 := h.row_ne h.h2 (by decide)
  have r3 := h.row_ne h.h3 (by decide)
  have r5 := h.row_ne h.h5 (by decide)
  have r6 := h.row_ne h.h6 (by decide)
  obtain ⟨bo, bc, g1', g2', g3'⟩ := h.h4
  have r4 := h.row_ne g1' (by decide)
  have n23 := one_ty h.h2 h.h3 (by decide)
  have n53 := one_ty h.h5 h.h3 (by decide)
  have n63 := one_ty h.h6 h.h3 (by decide)
  have l3 := lt_of_block h.h3
  have hg13 : g1 ≠ b3 := fun e => by
    rcases hat with h' | h'
    · exact r3 (by rw [h', e])
    · omega
  refine ⟨⟨one_far (one_turns h.h2 T (fun e => r2 e.symm)) n23, one_set (one_turns h.h3 T (fun e => r3 e.symm)), ownsRow_blocks hown fun b hb => ?_, ⟨bo, bc, one_far (one_turns g1' T (fun e => r4 e.symm)) (fun e => h.ne e.symm), ?_, fun x hx => ?_⟩, one_far (one_turns h.h5 T (fun e => r5 e.symm)) n53, one_far (one_turns h.h6 T (fun e => r6 e.symm)) n63, h.ge, h.ne⟩, ?_⟩
  · have hb' : g1 = b := by simpa [Value.ownBlock] using hb
    subst hb'
    exact Below.heap_setCell _ _ _ _ hg13
  · refine (EdgesAt.blocks g2' (w' := w1) fun x n c hx => ?_).setCell (fun x hx => ?_) _
    · cases hx
      exact T.block _ (g3' x rfl).2.1 (fun e => (g3' x rfl).2.2.1 e.symm)
    · exact (g3' x hx).2.2.2.2.1
  · obtain ⟨k1, k2, k3, k4⟩ := g3' x hx
    refine ⟨k1, Nat.lt_of_lt_of_le k2 (by simpa using T.size), fun e => ?_, k4⟩
    have e' : g1 = x.block := by simpa [blk] using e
    rcases hat with h' | h'
    · exact k3 (by rw [h', e'])
    · omega
  · exact (T.mono (fun k _ hk => Or.inr (Or.inr (Or.inr hk.symm)))).trans ((setCell_turns _ _ _ _).mono (fun k _ hk => Or.inr (Or.inl hk)))
/-- One pair less. -/
theorem PS.pop {p : Pair} (h : PS w base b2 b3 b4 b5 b6 bx lst (C ++ [p]) best co cc) : PS (w.setCell ⟨b3, 0, none⟩ (.slice co C.length cc)) base b2 b3 b4 b5 b6 bx lst C best co cc ∧ Turns (MP b2 b3 b4 co) w (w.setCell ⟨b3, 0, none⟩ (.slice co C.length cc)) := by
  obtain ⟨bo, bc, g1', g2', g3'⟩ := h.h4
  have n23 := one_ty h.h2 h.h3 (by decide)
  have n53 := one_ty h.h5 h.h3 (by decide)
  have n63 := one_ty h.h6 h.h3 (by decide)
  have r3 := h.row_ne h.h3 (by decide)
  refine ⟨⟨one_far h.h2 n23, one_set h.h3, ?_, ⟨bo, bc, one_far g1' (fun e => h.ne e.symm), g2'.setCell (fun x hx => (g3' x hx).2.2.2.2.1) _, fun x hx => ?_⟩, one_far h.h5 n53, one_far h.h6 n63, h.ge, h.ne⟩, (setCell_turns _ _ _ _).mono (fun k _ hk => Or.inr (Or.inl hk))⟩
  · have hshort : w.ownsRow base 59 2 (.slice co C.length cc) C.length (flat C) := by
      obtain ⟨h1, h2⟩ := h.row
      refine ⟨flat_length C, ?_⟩
      rcases h2 with ⟨_, h3⟩ | ⟨g, cap, cur, h3, h4, h5, h6, h7, h8, h9⟩
      · simp at h3
      · cases h3
        refine Or.inr ⟨g, cc, cur, rfl, h4, h5, by simp at h6; omega, h7, h8, ?_⟩
        have e1 : flat (C ++ [p]) = flat C ++ flat [p] := by simp [flat]
        rw [e1] at h9
        have e2 : C.length * 2 = (flat C).length := (flat_length C).symm
        have h10 := congrArg (List.take (C.length * 2)) h9
        rw [List.take_take, Nat.min_eq_left (by simp; omega)] at h10
        rw [h10, e2, List.take_left']
        rfl
    refine ownsRow_blocks hshort fun b hb => Below.heap_setCell _ _ _ _ (fun e => ?_)
    have e' : b = b3 := e
    rw [blk_own, e'] at hb
    exact r3 hb
  · obtain ⟨k1, k2, k3⟩ := g3' x hx
    exact ⟨k1, by simpa using k2, k3⟩
end
end Go.Proofs.Ytkbgcbbloogdjac
