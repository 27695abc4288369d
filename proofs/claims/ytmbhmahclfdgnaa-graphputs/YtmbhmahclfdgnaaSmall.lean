/- The document's Small and Big. -/
import Derived.Test.YtmbhmahclfdgnaaOf
namespace Go.Proofs.Ytmbhmahclfdgnaa
open Go.RowKit Go.Maps

set_option maxHeartbeats 400000 in
theorem refBig_yes (n : Int) (ao : Option Addr) (len cap : Nat) (w : World) (hn : n ≤ 100) (hl : 1000 < len) :
    Calls Try.prog 40 #[.agg #[.int .i64 n, .slice ao len cap]] w fun e w' => e = .returned (.bool true) ∧ Below w.heap.size w w' := by
  have h1 : ¬ 100 < n := by omega
  have h2 : (1000 : Int) < (len : Int) := by omega
  go_enter Try.func40, Try.ntmps40
  go_wp2
  go_ret
  exact ⟨rfl, below_alloc (Below.refl _ _) _⟩

set_option maxHeartbeats 400000 in
theorem refBig_no (n : Int) (ao : Option Addr) (len cap : Nat) (w : World) (hn : n ≤ 100) (hl : len ≤ 1000) :
    Calls Try.prog 40 #[.agg #[.int .i64 n, .slice ao len cap]] w fun e w' => e = .returned (.bool false) ∧ Below w.heap.size w w' := by
  have h1 : ¬ 100 < n := by omega
  have h2 : ¬ (1000 : Int) < (len : Int) := by omega
  go_enter Try.func40, Try.ntmps40
  go_wp2
  go_ret
  exact ⟨rfl, below_alloc (Below.refl _ _) _⟩

structure SI (w wr : World) (m : Nat) (v : Value) (L : List Pair) : Prop where
  b0 : wr.heap[w.heap.size]? = some (.cells #[.int .i64 0, .slice none 0 0] 24 (0, 0))
  b1 : wr.heap[w.heap.size + 1]? = some (.cells #[.int .i64 0, .int .i64 0] 27 (0, 0))
  b2 : wr.heap[w.heap.size + 1 + 1]? = some (.cells #[.int .i64 m, v] 24 (0, 0))
  own : wr.ownsRow (w.heap.size + 3) 47 2 v L.length (flat L)
  below : Below w.heap.size w wr

theorem SI.step {w wr wr' : World} {m : Nat} {v : Value} {L : List Pair} (h : SI w wr m v L) (hb : Below wr.heap.size wr wr') : SI w wr' m v L := by
  refine ⟨(hb.block _ (lt_of_block h.b0)).trans h.b0, (hb.block _ (lt_of_block h.b1)).trans h.b1, (hb.block _ (lt_of_block h.b2)).trans h.b2, ?_, below_next h.below hb⟩
  exact h.own.kept (row := none) ⟨hb.os, hb.tape, hb.output, hb.size, fun k hk _ => hb.block k hk⟩ (by cases v.ownBlock <;> simp)

theorem SI.push {w wr w1 : World} {m : Nat} {v v' : Value} {L : List Pair} {x y : Int} (h : SI w wr m v L) (hown : w1.ownsRow (w.heap.size + 3) 47 2 v' (L.length + 1) (flat L ++ [.int .i64 x, .int .i64 y])) (hg : (wr.alloc (Obj.cells #[.int .i64 x, .int .i64 y] 47)).grownBy w1 v.ownBlock) :
    w1.heap[w.heap.size + 1 + 1]? = some (.cells #[.int .i64 m, v] 24 (0, 0)) ∧ SI w (w1.setCell ⟨w.heap.size + 1 + 1, 1, none⟩ v') m v' (L ++ [(x, y)]) := by
  have hn : ∀ k, v.ownBlock = some k → w.heap.size + 3 ≤ k := fun k hk => (h.own.lt k hk).1
  have l0 := lt_of_block h.b0
  have l1 := lt_of_block h.b1
  have l2 := lt_of_block h.b2
  have q : ∀ j, j < w.heap.size + 3 → w1.heap[j]? = wr.heap[j]? := fun j hj => by
    rw [hg.block j (by simp; omega) (fun e => by have := hn j e.symm; omega), Below.heap_alloc _ _ _ (by omega)]
  have hb2 := (q (w.heap.size + 1 + 1) (by omega)).trans h.b2
  refine ⟨hb2, ?_, ?_, ?_, ?_, ?_⟩
  · rw [Below.heap_setCell _ _ _ _ (by simp; omega), q _ (by omega)]; exact h.b0
  · rw [Below.heap_setCell _ _ _ _ (by simp), q _ (by omega)]; exact h.b1
  · simp [World.setCell, Array.getElem?_modify, hb2]
  · have := ownsRow_setCell_below (a := ⟨w.heap.size + 1 + 1, 1, none⟩) hown (by simp) v'
    rw [flat_snoc]; simpa using this
  · exact ((h.below.alloc h.below.size _).grown hg (by simp; omega) (fun k hk => by have := hn k hk; omega)).setCell (by simp; omega) _

theorem SI.start (w : World) (m : Nat) : SI w (((w.alloc (Obj.cells #[Value.int IntKind.i64 0, Value.slice none 0 0] 24)).alloc (Obj.cells #[Value.int IntKind.i64 0, Value.int IntKind.i64 0] 27)).alloc (Obj.cells #[Value.int IntKind.i64 m, Value.slice none 0 0] 24)) m (.slice none 0 0) [] := by
  refine ⟨?_, ?_, ?_, World.ownsRow_nil _ _ _ _, below3 _ _ _⟩
  · rw [Below.heap_alloc _ _ _ (by simp; omega), Below.heap_alloc _ _ _ (by simp)]; exact heap_alloc_new _ _
  · rw [Below.heap_alloc _ _ _ (by simp)]; simpa using heap_alloc_new (w.alloc (Obj.cells #[Value.int IntKind.i64 0, Value.slice none 0 0] 24)) (Obj.cells #[Value.int IntKind.i64 0, Value.int IntKind.i64 0] 27)
  · simpa using heap_alloc_new ((w.alloc (Obj.cells #[Value.int IntKind.i64 0, Value.slice none 0 0] 24)).alloc (Obj.cells #[Value.int IntKind.i64 0, Value.int IntKind.i64 0] 27)) (Obj.cells #[Value.int IntKind.i64 m, Value.slice none 0 0] 24)

set_option maxHeartbeats 2000000 in
theorem small_tells (m : Nat) (F : FuncId) (caps : Array Value) (p : Int → Int → Bool) (w : World) (hm : m ≤ 100) (hF : ∀ args w', (callFunc F args).run Try.prog w' = .ok (.enter F args) w')
    (hnear : ∀ w', Below w.heap.size w w' → ∀ u v : Nat, u < v → v < m → Calls Try.prog F (#[.int .i64 u, .int .i64 v] ++ caps) w' fun e w'' => e = .returned (.bool (p u v)) ∧ Below w'.heap.size w' w'') :
    Tells 22 #[.int .i64 m, .func (.func F) #[] caps] w (buildS m p) := by
  unfold Tells
  obtain ⟨i0, hi, hz0, hz1, hz2⟩ := info_parts Try.info47
  have HN : Hid _ := hnear
  clear hnear
  go_enter Try.func22, Try.ntmps22
  go_wp2
  go_loopw [7] (fun i wr => ∃ u : Nat, u ≤ m ∧ i = .int .i64 u ∧ ∃ v, SI w wr m v (rowsTo m p u)) (fun i _ => m - (intOf i).toNat)
  case atStart => exact ⟨0, Nat.zero_le _, rfl, _, SI.start w m⟩
  case round =>
    obtain ⟨u, hu, rfl, v, hsi⟩ := hrel
    by_cases hlt : u < m
    · go_wp2
      go_loopw [8] (fun i wr => ∃ t : Nat, u + 1 ≤ t ∧ t ≤ m ∧ i = .int .i64 t ∧ ∃ v, SI w wr m v (rowsTo m p u ++ rowTo p u t)) (fun i _ => m - (intOf i).toNat)
      case atStart => exact ⟨u + 1, Nat.le_refl _, by omega, by go_num, v, by rw [rowTo_low p u (u + 1) (Nat.le_refl _), List.append_nil]; exact hsi⟩
      case round =>
        obtain ⟨t, ht1, ht2, rfl, v2, hsi2⟩ := hrel
        clear hsi
        obtain ⟨L, hL⟩ : ∃ L, L = rowsTo m p u ++ rowTo p u t := ⟨_, rfl⟩
        rw [← hL] at hsi2
        obtain ⟨vo, vc, rfl⟩ := form_row hsi2.own
        have HL : Hid _ := hL
        clear hL
        by_cases hlt2 : t < m
        · have hll : L.length ≤ 10000 := by
            rw [HL.out]
            have h1 := rowsTo_le m p u
            have h2 := rowTo_le p u t
            rw [List.length_append]
            have h3 : u * m + m ≤ 100 * 100 := by
              have : (u + 1) * m ≤ 100 * 100 := Nat.mul_le_mul (by omega) hm
              rw [Nat.succ_mul] at this
              exact this
            omega
          by_cases hp : p u t = true
          · go_wp2_with (first | (at_builtin; refine wpList_append_own _ rfl _ _ 22 rfl (w.heap.size + 3) 47 i0 (.agg #[.int .i64 0, .int .i64 0]) 2 16 Try.underlying22 hi hz0 hz1 hz2 rfl (by decide) _ _ _ rfl (hsi3.own.alloc _) ⟨w2.heap.size, 0, none⟩ 1 1 [.int .i64 u, .int .i64 t] rfl rfl ?n1 ?n2 ?n3 ?n4 ?n5 ?_) | (with_reducible refine (HN.out _ ?_ _ _ ?_ ?_).mono ?_; exact hsi2.below; omega; exact hlt2; rintro e w2 ⟨rfl, hb2⟩; have hsi3 := hsi2.step hb2; have d1 := (cell_two hsi3.b2).2))
            case n1 =>
              intro j x hj
              match j, hj with
              | 0, hj => simp at hj; subst hj; simp [Addr.add]
              | 1, hj => simp at hj; subst hj; simp [Addr.add]
            case n2 => intro x hx; simp at hx; rcases hx with rfl | rfl <;> rfl
            case n3 => unfold maxLen; omega
            case n4 => omega
            case n5 => have := lt_of_block hsi3.b2; simp; omega
            intro v' w3 hown' hgrow _
            obtain ⟨vo', vc', rfl⟩ := form_row hown'
            obtain ⟨hb1, hsi4⟩ := hsi3.push hown' hgrow
            have f1 := (cell_two hb1).2
            have f2 := free_two hb1 1
            clear hown' hgrow
            go_wp2
            go_roundw
            case rel => exact ⟨t + 1, by omega, by omega, by go_num, _, by rw [rowTo_succ, if_pos ⟨by omega, hp⟩, ← List.append_assoc, ← HL.out]; exact hsi4⟩
            case measure => simp [intOf]; omega
          · have hp' : p u t = false := by simpa using hp
            go_wp2_with (with_reducible refine (HN.out _ ?_ _ _ ?_ ?_).mono ?_; exact hsi2.below; omega; exact hlt2; rintro e w2 ⟨rfl, hb2⟩; have hsi3 := hsi2.step hb2)
            go_roundw
            case rel => exact ⟨t + 1, by omega, by omega, by go_num, _, by rw [rowTo_succ, if_neg (fun h => hp h.2), List.append_nil, ← HL.out]; exact hsi3⟩
            case measure => simp [intOf]; omega
        · have : t = m := by omega
          subst this
          go_wp2
          go_roundw
          case rel => exact ⟨u + 1, by omega, by go_num, _, by rw [rowsTo_succ, ← HL.out]; exact hsi2⟩
          case measure => simp [intOf]; omega
    · have : u = m := by omega
      subst this
      obtain ⟨vo, vc, rfl⟩ := form_row hsi.own
      have e0 := (cell_two hsi.b2).1
      have e1 := (cell_two hsi.b2).2
      by_cases hbig : 1000 < (rowsTo u p u).length
      · go_wp2_with (first | (go_at_call 40; refine (refBig_yes _ _ _ _ _ ?_ hbig).mono ?_; omega; rintro e w2 ⟨rfl, hb2⟩; have hsi2 := hsi.step hb2) | (go_at_call 17; refine (refF_any _ _ _).mono ?_; rintro e w3 ⟨rfl, hb3⟩; have hsi3 := hsi2.step hb3; have x0 := (cell_two hsi3.b0).1; have x1 := (cell_two hsi3.b0).2; have x2 := (cell_two hsi3.b1).1; have x3 := (cell_two hsi3.b1).2; have y0 := free_two hsi3.b0; have y1 := free_two hsi3.b1))
        rw [buildS_many (Or.inr hbig)]
        refine bodyPost_ret (v := .tuple #[.agg #[.int .i64 0, .slice none 0 0], .agg #[.int .i64 2, .int .i64 0]]) ?_ rfl ⟨?_, none, 0, rfl, edgesAt_nil _, fun x h => by cases h⟩
        · simp [results, Try.results22, go_sem, x0, x1, x2, x3]
        · exact below_set4 hsi3.below (by simp) (by simp) (by simp) (by simp)
      · go_wp2_with (go_at_call 40; refine (refBig_no _ _ _ _ _ ?_ ?_).mono ?_; omega; omega; rintro e w2 ⟨rfl, hb2⟩; have hsi2 := hsi.step hb2; have x0 := (cell_two hsi2.b0).1; have x1 := (cell_two hsi2.b0).2; have x2 := (cell_two hsi2.b1).1; have x3 := (cell_two hsi2.b1).2; have x4 := (cell_two hsi2.b2).1; have x5 := (cell_two hsi2.b2).2; have y0 := free_two hsi2.b0; have y1 := free_two hsi2.b1)
        rw [buildS_ok hm (show (rowsTo u p u).length ≤ 1000 by omega)]
        refine bodyPost_ret (v := .tuple #[.agg #[.int .i64 u, .slice vo (rowsTo u p u).length vc], .agg #[.int .i64 0, .int .i64 0]]) ?_ rfl ⟨?_, vo, vc, rfl, ?_, ?_⟩
        · simp [results, Try.results22, go_sem, x0, x1, x2, x3]
        · exact below_set4 hsi2.below (by simp) (by simp) (by simp) (by simp)
        · have hE := edgesAt_row hsi2.own (fun e he => by
            obtain ⟨a, b, h1, h2, _, rfl⟩ := allP_mem.1 he
            constructor <;> unfold I64 <;> simp <;> omega) (by omega)
          have q : ∀ x, vo = some x → w.heap.size + 3 ≤ x.block := fun x hx => (hsi2.own.lt _ (by rw [hx]; rfl)).1
          exact (((hE.setCell (fun x hx => by have := q x hx; simp; omega) _).setCell (fun x hx => by have := q x hx; simp; omega) _).setCell (fun x hx => by have := q x hx; simp; omega) _).setCell (fun x hx => by have := q x hx; simp; omega) _
        · intro x hx
          have := (hsi2.own.lt _ (by rw [hx]; rfl : (Value.slice vo (rowsTo u p u).length vc).ownBlock = some x.block)).1
          omega
end Go.Proofs.Ytmbhmahclfdgnaa
