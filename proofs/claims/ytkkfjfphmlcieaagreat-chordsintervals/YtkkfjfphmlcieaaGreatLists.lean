/- Slices of slices of numbers; one more of them. How many lists of nodes there can be. -/
import Derived.Test.YtkkfjfphmlcieaaGreatPartC
import Derived.Test.YtkkfjfphmlcieaaGreatClqM
import Derived.Deep.AppendLies
import Derived.Deep.RegionLaw
namespace Go.Proofs.YtkkfjfphmlcieaaGreat
set_option maxRecDepth 4000
open Go.RowKit Go.Maps
/-- A slice of slices of numbers, all of its own. -/
def ListsAt (w : World) (base : Nat) (v : Value) (ls : List (List Nat)) : Prop :=
  ∃ vs : List Value, vs.length = ls.length ∧ w.ownsRow base 45 1 v ls.length vs ∧ ∀ (i : Nat) (x : Value) (l : List Nat), vs[i]? = some x → ls[i]? = some l → w.ownsRow base 3 1 x l.length (qv l)

theorem listsAt_nil (w : World) (base : Nat) : ListsAt w base (.slice none 0 0) [] := ⟨[], rfl, World.ownsRow_nil _ _ _ _, fun i x l h => by simp at h⟩
theorem ListsAt.form {w : World} {base : Nat} {v : Value} {ls : List (List Nat)} (h : ListsAt w base v ls) : ∃ ao cap, v = .slice ao ls.length cap := by
  obtain ⟨vs, _, h2, _⟩ := h
  exact form_row h2
theorem ListsAt.turns {M : Nat → Prop} {w w' : World} {base : Nat} {v : Value} {ls : List (List Nat)} (h : ListsAt w base v ls) (ht : Turns M w w') (hm : ∀ k, M k → k < base ∨ ∃ es c, w.heap[k]? = some (.map es c)) : ListsAt w' base v ls := by
  obtain ⟨vs, h1, h2, h3⟩ := h
  have key : ∀ {t : TypeId} {x : Value} {n : Nat} {xs : List Value}, w.ownsRow base t 1 x n xs → w'.ownsRow base t 1 x n xs := by
    intro t x n xs ho
    refine ownsRow_blocks ho fun b hb => ht.block b (ho.lt b hb).2 fun hmb => ?_
    rcases hm b hmb with h' | ⟨es, c, h'⟩
    · have := (ho.lt b hb).1; omega
    · obtain ⟨cur, hc⟩ := own_cells ho hb
      rw [hc] at h'; cases h'
  exact ⟨vs, h1, key h2, fun i x l hx hl => key (h3 i x l hx hl)⟩
theorem ListsAt.push {w w1 : World} {base : Nat} {v v' : Value} {ls : List (List Nat)} {x : Value} {l : List Nat} {o : Obj} (hx : w.ownsRow base 3 1 x l.length (qv l)) {vs : List Value} (hvs : vs.length = ls.length) (hrow : w.ownsRow base 45 1 v ls.length vs)
    (hel : ∀ (i : Nat) (x : Value) (l : List Nat), vs[i]? = some x → ls[i]? = some l → w.ownsRow base 3 1 x l.length (qv l)) (hown : w1.ownsRow base 45 1 v' (ls.length + 1) (vs ++ [x])) (hg : (w.alloc o).grownBy w1 v.ownBlock) : ListsAt w1 base v' (ls ++ [l]) := by
  have T := (alloc_turns w o (fun k => some k = v.ownBlock)).trans (Turns.of_grown hg)
  have key : ∀ {x : Value} {n : Nat} {xs : List Value}, w.ownsRow base 3 1 x n xs → w1.ownsRow base 3 1 x n xs := by
    intro x n xs ho
    refine ownsRow_blocks ho fun b hb => T.block b (ho.lt b hb).2 fun hmb => ?_
    obtain ⟨c1, h1⟩ := own_cells ho hb
    obtain ⟨c2, h2⟩ := own_cells hrow hmb.symm
    rw [h1] at h2; simp at h2
  refine ⟨vs ++ [x], by simp [hvs], by simpa using hown, fun i y m hy hm => ?_⟩
  by_cases hi : i < ls.length
  · rw [List.getElem?_append_left (by omega)] at hy hm
    exact key (hel i y m hy hm)
  · rw [List.getElem?_append_right (by omega)] at hy hm
    by_cases h0 : i - ls.length = 0
    · rw [hvs, h0] at hy; rw [h0] at hm
      simp at hy hm
      subst hy; subst hm
      exact key hx
    · rw [List.getElem?_eq_none (by simp; omega)] at hm; cases hm


theorem wpList_pushL {W : World} {ops : Array Oper} {rest : List Oper} {o : Oper} {a : Act} {Q : Exit → Act → World → Prop} {base : Nat} {po : Option Addr} {pc n : Nat} {vs : List Value} {xo : Option Addr} {xn xc : Nat} (hgd : o.guard = none) (s y : Operand)
    (ho : o.op = .call { callee := .builtin .append, args := #[s, y], argTypes := #[52, 52] }) (hs : a.eval s = .slice po n pc) (hy : a.eval y = .slice (some ⟨W.heap.size, 0, none⟩) 1 1)
    (hown : W.ownsRow base 45 1 (.slice po n pc) n vs) (hl : n ≤ 100000000) (hbase : base ≤ W.heap.size)
    (h : ∀ g c w', w'.ownsRow base 45 1 (.slice (some ⟨g, 0, none⟩) (n + 1) c) (n + 1) (vs ++ [.slice xo xn xc]) → (W.alloc (Obj.cells #[.slice xo xn xc] 45)).grownBy w' (Value.slice po n pc).ownBlock → ((Value.slice po n pc).ownBlock = some g ∨ W.heap.size ≤ g) → wpList Tryz.prog ops Q rest (a.put o.dst (.slice (some ⟨g, 0, none⟩) (n + 1) c)) w') :
    wpList Tryz.prog ops Q (o :: rest) a (W.alloc (Obj.cells #[.slice xo xn xc] 45)) := by
  obtain ⟨i3, hi3, hy0, hy1, hy2⟩ := info_parts Tryz.info45
  refine wpList_append_lies _ hgd s y 52 ho base 45 i3 (.slice none 0 0) 1 24 Tryz.underlying52 hi3 hy0 hy1 hy2 rfl (by decide) _ _ _ hs (hown.alloc _) ⟨W.heap.size, 0, none⟩ 1 1 [.slice xo xn xc] hy rfl ?_ ?_ (by omega) ?_ ?_ ?_ (W.heap.size + 1) (by simp) ?_
  · exact cell_one_new _ _ _
  · intro y hy; simp at hy; subst hy; rfl
  · unfold maxLen; omega
  · omega
  · simp; omega
  · intro g c w' h1 h2 h3 _
    exact h g c w' h1 h2 (h3.imp id (fun h => by omega))
/-- .. in a region that draws its order. -/
theorem wpOp_pushL {W : World} {ops : Array Oper} {o : Oper} {i : Nat} {a : Act} {K : Act → World → Prop} {Q : Exit → Act → World → Prop} {base : Nat} {po : Option Addr} {pc n : Nat} {vs : List Value} {xo : Option Addr} {xn xc : Nat} (hi : ops[i]? = some o) (hw : Region.wanted o (yielded ops a.tmps) = true) (s y : Operand)
    (ho : o.op = .call { callee := .builtin .append, args := #[s, y], argTypes := #[52, 52] }) (hs : a.eval s = .slice po n pc) (hy : a.eval y = .slice (some ⟨W.heap.size, 0, none⟩) 1 1)
    (hown : W.ownsRow base 45 1 (.slice po n pc) n vs) (hl : n ≤ 100000000) (hbase : base ≤ W.heap.size)
    (h : ∀ g c w', w'.ownsRow base 45 1 (.slice (some ⟨g, 0, none⟩) (n + 1) c) (n + 1) (vs ++ [.slice xo xn xc]) → (W.alloc (Obj.cells #[.slice xo xn xc] 45)).grownBy w' (Value.slice po n pc).ownBlock → ((Value.slice po n pc).ownBlock = some g ∨ W.heap.size ≤ g) → K (a.put o.dst (.slice (some ⟨g, 0, none⟩) (n + 1) c)) w') :
    wpOp Tryz.prog ops Q i K a (W.alloc (Obj.cells #[.slice xo xn xc] 45)) := by
  obtain ⟨i3, hi3, hy0, hy1, hy2⟩ := info_parts Tryz.info45
  unfold wpOp
  simp only [hi, hw, if_true]
  refine .inl (wp_append_lies _ s y 52 ho base 45 i3 (.slice none 0 0) 1 24 Tryz.underlying52 hi3 hy0 hy1 hy2 rfl (by decide) _ _ _ hs (hown.alloc _) ⟨W.heap.size, 0, none⟩ 1 1 [.slice xo xn xc] hy rfl ?_ ?_ (by omega) ?_ ?_ ?_ (W.heap.size + 1) (by simp) ?_)
  · exact cell_one_new _ _ _
  · intro y hy; simp at hy; subst hy; rfl
  · unfold maxLen; omega
  · omega
  · simp; omega
  · intro g c w' h1 h2 h3 _
    exact h g c w' h1 h2 (h3.imp id (fun h => by omega))
def subs : List Nat → List (List Nat)
  | [] => [[]]
  | x :: l => subs l ++ (subs l).map (fun t => x :: t)
theorem subs_len : ∀ l, (subs l).length = 2 ^ l.length
  | [] => rfl
  | x :: l => by
    simp only [subs, List.length_append, List.length_map, subs_len l, List.length_cons]
    omega
theorem filter_subs (K : Nat → Bool) : ∀ l, l.filter K ∈ subs l
  | [] => by simp [subs]
  | x :: l => by
    rw [List.filter_cons]
    have ih := filter_subs K l
    by_cases h : K x = true
    · rw [if_pos h]
      exact List.mem_append.2 (Or.inr (List.mem_map.2 ⟨_, ih, rfl⟩))
    · rw [if_neg h]
      exact List.mem_append.2 (Or.inl ih)
theorem nodup_lenL : ∀ (l m : List (List Nat)), l.Nodup → (∀ e ∈ l, e ∈ m) → l.length ≤ m.length
  | [], _, _, _ => Nat.zero_le _
  | a :: l, m, hn, hs => by
    have hn' := List.nodup_cons.1 hn
    have ha := hs a (by simp)
    have h := nodup_lenL l (m.erase a) hn'.2 (fun e he => (List.mem_erase_of_ne (fun (h : e = a) => hn'.1 (h ▸ he))).2 (hs e (by simp [he])))
    rw [List.length_erase_of_mem ha] at h
    have : 0 < m.length := List.length_pos_of_mem ha
    simp
    omega
theorem many_lists {N : Nat} (hN : N ≤ 24) {F : List (List Nat)} (hn : F.Nodup) (hf : ∀ l ∈ F, ∃ K, l = lsN N K) : F.length ≤ 16777216 := by
  have h1 := nodup_lenL F (subs (List.range N)) hn (fun l hl => by
    obtain ⟨K, rfl⟩ := hf l hl
    exact filter_subs K _)
  rw [subs_len, List.length_range] at h1
  have h2 : 2 ^ N ≤ 2 ^ 24 := Nat.pow_le_pow_right (by omega) hN
  have h3 : (2 : Nat) ^ 24 = 16777216 := by decide
  omega
end Go.Proofs.YtkkfjfphmlcieaaGreat
