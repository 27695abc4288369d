/- A table without edges, and what is written into it. -/
import Derived.Test.YtbaghbodjpehpaaDoorReads
namespace Go.Proofs.YtbaghbodjpehpaaDoor
open Go.RowKit Go.Maps

theorem RowB.put {w : World} {b m : Nat} {q : Nat → Bool} (h : RowB w b m q) (y : Nat) (v : Bool) : RowB (w.setCell ⟨b, y, none⟩ (.bool v)) b m (fun j => if j = y then v else q j) := by
  obtain ⟨cur, h1, h2, h3⟩ := h
  refine ⟨cur.setIfInBounds y (.bool v), ?_, by simp [h2], fun j hj => ?_⟩
  · have hl := lt_of_block h1
    simp [World.setCell, Array.getElem?_modify, h1]
  · by_cases e : j = y
    · subst e
      rw [Array.getElem?_setIfInBounds_self_of_lt (by omega)]
      simp
    · rw [Array.getElem?_setIfInBounds_ne (by omega), h3 j hj]
      simp [e]

theorem GI.put {w wr : World} {m : Nat} {x0 v0 v : Value} {bs : List Nat} {p : Nat → Nat → Bool} (h : GI w wr m x0 v0 v bs p) {i : Nat} (hi : i < bs.length) (j : Nat) (u : Bool) :
    GI w (wr.setCell ⟨bs[i], j, none⟩ (.bool u)) m x0 v0 v bs (fun a b => if a = i ∧ b = j then u else p a b) := by
  have q : ∀ k, k ≠ bs[i] → (wr.setCell ⟨bs[i], j, none⟩ (.bool u)).heap[k]? = wr.heap[k]? := fun k hk => Below.heap_setCell _ _ _ _ hk
  have hge := h.ge bs[i] (List.getElem_mem _)
  refine ⟨(q _ (by omega)).trans h.b0, ?_, ?_, h.nodup, h.ge, h.below.setCell (by simp; omega) _⟩
  · refine h.own.kept (row := some bs[i]) ⟨rfl, rfl, rfl, by simp [World.setCell], fun k _ hk => q k (fun e => hk (by rw [e]))⟩ (Or.inr ((h.rows i hi).ne h.own))
  · intro a ha
    by_cases e : a = i
    · subst e
      have := (h.rows a ha).put j u
      simpa using this
    · have hne : bs[a] ≠ bs[i] := fun e' => e (h.nodup a i ha hi e')
      have e2 : (fun b => if a = i ∧ b = j then u else p a b) = p a := by funext b; simp [e]
      rw [e2]
      exact (h.rows a ha).block (q _ hne)

set_option maxHeartbeats 2000000 in
theorem gridOf_empty (m : Nat) (w : World) (hm : m ≤ 100) :
    Calls Tryd.prog 23 #[.agg #[.int .i64 m, .slice none 0 0]] w fun e w' => ∃ ao cap bs, e = .returned (.slice ao m cap) ∧ bs.length = m ∧ GI w w' m (.int .i64 m) (.slice none 0 0) (.slice ao m cap) bs (fun _ _ => false) := by
  obtain ⟨i0, hi, hz0, hz1, hz2⟩ := info_parts Tryd.info4
  obtain ⟨i1, hi1, hy0, hy1, hy2⟩ := info_parts Tryd.info48
  go_enter Tryd.func23, Tryd.ntmps23
  go_wp2
  go_loopw [3, 4] (fun t i wr => ∃ bs : List Nat, bs.length ≤ m ∧ i = .int .i64 bs.length ∧ GI w wr m (.int .i64 m) (.slice none 0 0) t bs (fun _ _ => false)) (fun _ i _ => m - (intOf i).toNat)
  case atStart => exact ⟨[], Nat.zero_le _, rfl, heap_alloc_new _ _, World.ownsRow_nil _ _ _ _, fun i h => absurd h (by simp), fun i j h => absurd h (by simp), (fun b h => by cases h), below_alloc (Below.refl _ _) _⟩
  case round =>
    obtain ⟨bs, hk, rfl, hgi⟩ := hrel
    have c0 := (cell_two hgi.b0).1
    obtain ⟨to, tc, rfl⟩ := form_row hgi.own
    by_cases hlt : bs.length < m
    · go_wp2_with (first | (at_make; refine wpList_make_full _ rfl _ _ 48 rfl (w.heap.size + 1) 4 i0 (.bool false) 1 Tryd.underlying48 hi hz0 hz1 .i64 .i64 _ _ m rfl rfl rfl rfl ?_ ?_ ?_ ?_; (rw [hz2]; omega); (unfold maxLen; omega); (have := lt_of_block hgi.b0; omega); intro w1 hmade hg1) | (at_builtin; refine wpList_append_own _ rfl _ _ 45 rfl (w.heap.size + 1) 48 i1 (.slice none 0 0) 1 24 Tryd.underlying45 hi1 hy0 hy1 hy2 rfl (by decide) _ _ _ rfl ((hgi.own.kept hg1 (by cases to <;> simp [Value.ownBlock])).alloc _) ⟨w1.heap.size, 0, none⟩ 1 1 [rowV m wr.heap.size] rfl rfl ?c1 ?c2 ?c3 ?c4 ?c5 ?_))
      case c1 =>
        intro j x hj
        match j, hj with
        | 0, hj => simp at hj; subst hj; simp [Addr.add, rowV]
      case c2 => first | rfl | (intro x hx; simp at hx; subst hx; rfl)
      case c3 => unfold maxLen; omega
      case c4 => omega
      case c5 => have := lt_of_block hgi.b0; have := hg1.size; simp; omega
      intro v' w3 hown' hgrow _
      have hgi2 := hgi.push (rowB_made hmade) hg1 hown' hgrow
      clear hown' hgrow hmade
      go_wp2
      go_roundw
      case rel => exact ⟨bs ++ [wr.heap.size], by simp; omega, by simp, hgi2⟩
      case measure => simp [intOf]; omega
    · have hbm : m = bs.length := by omega
      subst hbm
      go_wp2
      go_loopw [5] (fun i wr => i = .int .i64 0 ∧ GI w wr bs.length (.int .i64 bs.length) (.slice none 0 0) (.slice to bs.length tc) bs (fun _ _ => false)) (fun _ _ => 0)
      case atStart => exact ⟨rfl, hgi⟩
      case round =>
        obtain ⟨rfl, hgj⟩ := hrel
        clear hgi
        have c1 := (cell_two hgj.b0).2
        go_wp2
        go_ret
        exact ⟨to, tc, bs, rfl, rfl, hgj⟩
end Go.Proofs.YtbaghbodjpehpaaDoor
