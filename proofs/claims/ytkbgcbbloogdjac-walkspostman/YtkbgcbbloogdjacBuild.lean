/- build: the graph of the pairs that a function value tells, or ErrMany. -/
import Derived.Test.YtkbgcbbloogdjacNearIn
import Derived.Deep.AppendLies
import Derived.Deep.Light
namespace Go.Proofs.Ytkbgcbbloogdjac
open Go.RowKit Go.Maps

theorem Try.info59 : (Try.prog.info? 59).map (fun i => (i.zero, i.size, i.bytes)) = some (some (.agg #[.int .i64 0, .int .i64 0]), 2, 16) := by kernel_rfl

def rowTo (p : Int → Int → Bool) (u v : Nat) : List Pair := ((List.range v).filter fun (j : Nat) => decide (u < j) && p u j).map fun (j : Nat) => ((u : Int), (j : Int))
def rowsTo (n : Nat) (p : Int → Int → Bool) (u : Nat) : List Pair := (List.range u).flatMap fun i => rowTo p i n
def allP (n : Nat) (p : Int → Int → Bool) : List Pair := rowsTo n p n
def flat (L : List Pair) : List Value := L.flatMap fun e => [Value.int .i64 e.1, Value.int .i64 e.2]


theorem rowTo_succ (p : Int → Int → Bool) (u v : Nat) : rowTo p u (v + 1) = rowTo p u v ++ (if u < v ∧ p u v = true then [((u : Int), (v : Int))] else []) := by
  unfold rowTo
  rw [List.range_succ, List.filter_append, List.map_append]
  congr 1
  by_cases h : u < v ∧ p u v = true
  · rw [if_pos h]; simp [h.1, h.2]
  · rw [if_neg h]
    have : (decide (u < v) && p u v) = false := by
      by_cases h1 : u < v
      · have : ¬ p u v = true := fun h2 => h ⟨h1, h2⟩
        simp [this]
      · simp [h1]
    simp [this]
theorem rowTo_low (p : Int → Int → Bool) (u : Nat) : ∀ v, v ≤ u + 1 → rowTo p u v = []
  | 0, _ => rfl
  | v + 1, h => by rw [rowTo_succ, rowTo_low p u v (by omega), if_neg (by omega)]; rfl
theorem rowsTo_succ (n : Nat) (p : Int → Int → Bool) (u : Nat) : rowsTo n p (u + 1) = rowsTo n p u ++ rowTo p u n := by
  simp [rowsTo, List.range_succ, List.flatMap_append]
theorem rowTo_mono (p : Int → Int → Bool) (u v n : Nat) (h : v ≤ n) : (rowTo p u v).length ≤ (rowTo p u n).length := by
  induction n with
  | zero => have : v = 0 := by omega
            subst this; exact Nat.le_refl _
  | succ n ih =>
    by_cases e : v = n + 1
    · subst e; exact Nat.le_refl _
    · rw [rowTo_succ p u n, List.length_append]
      have := ih (by omega)
      omega
theorem rowsTo_mono (n : Nat) (p : Int → Int → Bool) (u m : Nat) (h : u ≤ m) : (rowsTo n p u).length ≤ (rowsTo n p m).length := by
  induction m with
  | zero => have : u = 0 := by omega
            subst this; exact Nat.le_refl _
  | succ m ih =>
    by_cases e : u = m + 1
    · subst e; exact Nat.le_refl _
    · rw [rowsTo_succ n p m, List.length_append]
      have := ih (by omega)
      omega
theorem allP_more (n : Nat) (p : Int → Int → Bool) (u v : Nat) (hu : u < v) (hv : v < n) (hp : p u v = true) : (rowsTo n p u ++ rowTo p u v).length < (allP n p).length := by
  have h1 := rowsTo_mono n p (u + 1) n (by omega)
  rw [rowsTo_succ, List.length_append] at h1
  have h2 := rowTo_mono p u (v + 1) n (by omega)
  rw [rowTo_succ, if_pos ⟨hu, hp⟩, List.length_append] at h2
  simp at h2
  unfold allP
  rw [List.length_append]
  omega
theorem flat_length (L : List Pair) : (flat L).length = L.length * 2 := by
  induction L with
  | nil => rfl
  | cons e L ih => simp [flat] at ih ⊢; omega
theorem flat_snoc (L : List Pair) (x y : Int) : flat (L ++ [(x, y)]) = flat L ++ [.int .i64 x, .int .i64 y] := by simp [flat]

structure BI (w wr : World) (v : Value) (L : List Pair) : Prop where
  b0 : wr.heap[w.heap.size]? = some (.cells #[.int .i64 0, .slice none 0 0] 24 (0, 0))
  b1 : wr.heap[w.heap.size + 1]? = some (.cells #[.int .i64 0, .int .i64 0] 27 (0, 0))
  own : wr.ownsRow (w.heap.size + 2) 59 2 v L.length (flat L)
  below : Below w.heap.size w wr
  len : L.length ≤ 1000

theorem BI.step {w wr wr' : World} {v : Value} {L : List Pair} (h : BI w wr v L) (hb : Below wr.heap.size wr wr') : BI w wr' v L := by
  refine ⟨(hb.block _ (lt_of_block h.b0)).trans h.b0, (hb.block _ (lt_of_block h.b1)).trans h.b1, ?_, below_next h.below hb, h.len⟩
  exact h.own.kept (row := none) ⟨hb.os, hb.tape, hb.output, hb.size, fun k hk _ => hb.block k hk⟩ (by cases v.ownBlock <;> simp)

theorem BI.push {w wr w1 : World} {v v' : Value} {L : List Pair} {x y : Int} (h : BI w wr v L) (hL : L.length < 1000) (hown : w1.ownsRow (w.heap.size + 2) 59 2 v' (L.length + 1) (flat L ++ [.int .i64 x, .int .i64 y])) (hg : (wr.alloc (Obj.cells #[.int .i64 x, .int .i64 y] 59)).grownBy w1 v.ownBlock) : BI w w1 v' (L ++ [(x, y)]) := by
  have hn : ∀ k, v.ownBlock = some k → w.heap.size + 2 ≤ k := fun k hk => (h.own.lt k hk).1
  have l0 := lt_of_block h.b0
  have l1 := lt_of_block h.b1
  have q : ∀ j, j < w.heap.size + 2 → w1.heap[j]? = wr.heap[j]? := fun j hj => by
    rw [hg.block j (by simp; omega) (fun e => by have := hn j e.symm; omega), Below.heap_alloc _ _ _ (by omega)]
  refine ⟨(q _ (by omega)).trans h.b0, (q _ (by omega)).trans h.b1, ?_, ?_, by simp; omega⟩
  · rw [flat_snoc]; simpa using hown
  · exact (h.below.alloc h.below.size _).grown hg (by simp; omega) (fun k hk => by have := hn k hk; omega)

theorem BI.form {w wr : World} {v : Value} {L : List Pair} (h : BI w wr v L) : ∃ ao cap, v = .slice ao L.length cap := by
  rcases h.own.2 with ⟨rfl, e⟩ | ⟨g, cap, cur, rfl, _⟩
  · exact ⟨none, 0, by rw [e]⟩
  · exact ⟨_, cap, rfl⟩

theorem ownsRow_mono {w : World} {b b' : Nat} {e : TypeId} {size : Nat} {v : Value} {n : Nat} {xs : List Value} (h : w.ownsRow b e size v n xs) (hb : b' ≤ b) : w.ownsRow b' e size v n xs := by
  refine ⟨h.1, ?_⟩
  rcases h.2 with h2 | ⟨g, cap, cur, h1, h2, h3⟩
  · exact Or.inl h2
  · exact Or.inr ⟨g, cap, cur, h1, by omega, h3⟩

theorem BI.start (w : World) : BI w ((w.alloc (Obj.cells #[Value.int IntKind.i64 0, Value.slice none 0 0] 24)).alloc (Obj.cells #[Value.int IntKind.i64 0, Value.int IntKind.i64 0] 27)) (.slice none 0 0) [] := by
  refine ⟨?_, ?_, World.ownsRow_nil _ _ _ _, (((Below.refl _ _).alloc (Nat.le_refl _) _).alloc (by simp) _), by simp⟩
  · rw [Below.heap_alloc _ _ _ (by simp)]; exact heap_alloc_new _ _
  · simpa using heap_alloc_new (w.alloc (Obj.cells #[Value.int IntKind.i64 0, Value.slice none 0 0] 24)) (Obj.cells #[Value.int IntKind.i64 0, Value.int IntKind.i64 0] 27)

set_option maxHeartbeats 1000000 in
theorem build_any (n : Nat) (F : FuncId) (caps : Array Value) (p : Int → Int → Bool) (w : World) (hn : n ≤ 100) (hF : ∀ args w', (callFunc F args).run Try.prog w' = .ok (.enter F args) w')
    (hnear : ∀ w', Below w.heap.size w w' → ∀ u v : Nat, u < v → v < n → Calls Try.prog F (#[.int .i64 u, .int .i64 v] ++ caps) w' fun e w'' => e = .returned (.bool (p u v)) ∧ Below w'.heap.size w' w'') :
    Calls Try.prog 60 #[.int .i64 n, .func (.func F) #[] caps] w fun e w' => Below w.heap.size w w' ∧
      ((1000 < (allP n p).length ∧ e = .returned (.tuple #[.agg #[.int .i64 0, .slice none 0 0], .agg #[.int .i64 2, .int .i64 0]])) ∨
       ((allP n p).length ≤ 1000 ∧ ∃ v, e = .returned (.tuple #[.agg #[.int .i64 n, v], .agg #[.int .i64 0, .int .i64 0]]) ∧ w'.ownsRow w.heap.size 59 2 v (allP n p).length (flat (allP n p)))) := by
  have hn2 : ¬ (100 : Int) < (n : Int) := by omega
  obtain ⟨i0, hi, hz0, hz1, hz2⟩ := info_parts Try.info59
  have HN : Hid _ := hnear
  clear hnear
  go_enter Try.func60, Try.ntmps60
  go_wp2
  go_loopw [6, 14] (fun v i wr => ∃ u : Nat, u ≤ n ∧ i = .int .i64 u ∧ BI w wr v (rowsTo n p u)) (fun _ i _ => n - (intOf i).toNat)
  case atStart => exact ⟨0, Nat.zero_le _, rfl, BI.start w⟩
  case round =>
    obtain ⟨u, hu, rfl, hbi⟩ := hrel
    by_cases hlt : u < n
    · go_wp2
      go_loopw [6, 8] (fun v i wr => ∃ t : Nat, u + 1 ≤ t ∧ t ≤ n ∧ i = .int .i64 t ∧ BI w wr v (rowsTo n p u ++ rowTo p u t)) (fun _ i _ => n - (intOf i).toNat)
      case atStart => exact ⟨u + 1, Nat.le_refl _, by omega, by go_num, by rw [rowTo_low p u (u + 1) (Nat.le_refl _), List.append_nil]; exact hbi⟩
      case round =>
        obtain ⟨t, ht1, ht2, rfl, hbi2⟩ := hrel
        obtain ⟨ao, cap, rfl⟩ := hbi2.form
        obtain ⟨L, hL⟩ : ∃ L, L = rowsTo n p u ++ rowTo p u t := ⟨_, rfl⟩
        rw [← hL] at hbi2 ⊢
        have HL : Hid _ := hL
        clear hL
        have hll := hbi2.len
        by_cases hlt2 : t < n
        · by_cases hp : p u t = true
          · by_cases hlen : L.length = 1000
            · have hlen' : ((L.length : Int) == 1000) = true := by simp; omega
              go_wp2_with (with_reducible refine (HN.out _ ?_ _ _ ?_ ?_).mono ?_; exact hbi2.below; omega; exact hlt2; rintro e w2 ⟨rfl, hb2⟩; have hbi3 := hbi2.step hb2; have d0 := (cell_two hbi3.b0).1; have d1 := (cell_two hbi3.b0).2; have e0 := (cell_two hbi3.b1).1; have e1 := (cell_two hbi3.b1).2; have g0 := free_two hbi3.b0; have g1 := free_two hbi3.b1)
              refine bodyPost_ret (v := .tuple #[.agg #[.int .i64 0, .slice none 0 0], .agg #[.int .i64 2, .int .i64 0]]) ?_ rfl ⟨?_, Or.inl ⟨?_, rfl⟩⟩
              · simp [results, Try.results60, go_sem, d0, d1, e0, e1]
              · exact (((hbi3.below.setCell (by simp) _).setCell (by simp) _).setCell (by simp) _).setCell (by simp) _
              · have := allP_more n p u t (by omega) hlt2 hp
                rw [← HL.out] at this
                omega
            · have hlen' : ((L.length : Int) == 1000) = false := by simp; omega
              go_wp2_with (first | (at_builtin; refine wpList_append_own _ rfl _ _ 22 rfl (w.heap.size + 2) 59 i0 (.agg #[.int .i64 0, .int .i64 0]) 2 16 Try.underlying22 hi hz0 hz1 hz2 rfl (by decide) _ _ _ rfl (hbi3.own.alloc _) ⟨w2.heap.size, 0, none⟩ 1 1 [.int .i64 u, .int .i64 t] rfl rfl ?c1 ?c2 ?c3 ?c4 ?c5 ?_) | (with_reducible refine (HN.out _ ?_ _ _ ?_ ?_).mono ?_; exact hbi2.below; omega; exact hlt2; rintro e w2 ⟨rfl, hb2⟩; have hbi3 := hbi2.step hb2))
              case c1 =>
                intro j x hj
                match j, hj with
                | 0, hj => simp at hj; subst hj; simp [Addr.add]
                | 1, hj => simp at hj; subst hj; simp [Addr.add]
              case c2 => intro x hx; simp at hx; rcases hx with rfl | rfl <;> rfl
              case c3 => unfold maxLen; omega
              case c4 => omega
              case c5 => have := lt_of_block hbi3.b1; simp; omega
              intro v' w3 hown' hgrow _
              have hbi4 := hbi3.push (by omega) hown' hgrow
              clear hown' hgrow
              go_wp2
              go_roundw
              case rel => exact ⟨t + 1, by omega, by omega, by go_num, by rw [rowTo_succ, if_pos ⟨by omega, hp⟩, ← List.append_assoc, ← HL.out]; exact hbi4⟩
              case measure => simp [intOf]; omega
          · have hp' : p u t = false := by simpa using hp
            go_wp2_with (with_reducible refine (HN.out _ ?_ _ _ ?_ ?_).mono ?_; exact hbi2.below; omega; exact hlt2; rintro e w2 ⟨rfl, hb2⟩; have hbi3 := hbi2.step hb2)
            go_roundw
            case rel => exact ⟨t + 1, by omega, by omega, by go_num, by rw [rowTo_succ, if_neg (fun h => hp h.2), List.append_nil, ← HL.out]; exact hbi3⟩
            case measure => simp [intOf]; omega
        · have : t = n := by omega
          subst this
          go_wp2
          go_roundw
          case rel => exact ⟨u + 1, by omega, by go_num, by rw [rowsTo_succ, ← HL.out]; exact hbi2⟩
          case measure => simp [intOf]; omega
    · have : u = n := by omega
      subst this
      have d0 := (cell_two hbi.b0).1
      have d1 := (cell_two hbi.b0).2
      have e0 := (cell_two hbi.b1).1
      have e1 := (cell_two hbi.b1).2
      have g0 := free_two hbi.b0
      have g1 := free_two hbi.b1
      obtain ⟨ao, cap, rfl⟩ := hbi.form
      have hlen := hbi.len
      go_wp2
      refine bodyPost_ret (v := .tuple #[.agg #[.int .i64 u, .slice ao (rowsTo u p u).length cap], .agg #[.int .i64 0, .int .i64 0]]) ?_ rfl ⟨?_, Or.inr ⟨hlen, _, rfl, ?_⟩⟩
      · simp [results, Try.results60, go_sem, d0, d1, e0, e1]
      · exact (((hbi.below.setCell (by simp) _).setCell (by simp) _).setCell (by simp) _).setCell (by simp) _
      · refine ownsRow_mono (b' := w.heap.size) (ownsRow_setCell_below (ownsRow_setCell_below (ownsRow_setCell_below (ownsRow_setCell_below hbi.own ?_ _) ?_ _) ?_ _) ?_ _) (by omega) <;> simp
end Go.Proofs.Ytkbgcbbloogdjac
