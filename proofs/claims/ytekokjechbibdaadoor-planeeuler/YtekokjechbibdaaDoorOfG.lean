/- R.Of: the graph of a table, in form. -/
import Derived.Test.YtekokjechbibdaaDoorKitC
namespace Go.Proofs.YtekokjechbibdaaDoor
open Go.RowKit Go.Maps
attribute [local go_sem ↓] Go.wp_at_zero Go.wp_at_succ

set_option maxHeartbeats 2000000 in
theorem ofGrid_any (m : Nat) (ao : Option Addr) (cap : Nat) (p : Int → Int → Bool) (w : World) (hG : GridAt w (.slice ao m cap) m p) (hm : m ≤ 100) :
    Calls Tryd.prog 36 #[.slice ao m cap] w fun e w' => Below w.heap.size w w' ∧ ∃ ao' c, e = .returned (.agg #[.int .i64 m, .slice ao' (allP m p).length c]) ∧ EdgesAt w' (.slice ao' (allP m p).length c) (allP m p) := by
  obtain ⟨i0, hi, hz0, hz1, hz2⟩ := info_parts Tryd.info49
  obtain ⟨ao', cap', e, hgrid⟩ := hG
  cases e
  have HGR : Hid _ := hgrid
  clear hgrid
  go_enter Tryd.func36, Tryd.ntmps36
  go_wp2
  go_loopw [4] (fun i wr => ∃ u : Nat, u ≤ m ∧ i = .int .i64 u ∧ ∃ v, OI w wr m v (rowsTo m p u)) (fun i _ => m - (numOf i).toNat)
  case atStart =>
    refine ⟨0, Nat.zero_le _, rfl, .slice none 0 0, ?_, ?_, World.ownsRow_nil _ _ _ _, below2 _ _⟩
    · rw [Below.heap_alloc _ _ _ (by simp)]; exact heap_alloc_new _ _
    · simpa using heap_alloc_new (w.alloc (Obj.cells #[.int .i64 0, .slice none 0 0] 24)) (Obj.cells #[.int .i64 m, .slice none 0 0] 24)
  case round =>
    obtain ⟨u, hu, rfl, v, hoi⟩ := hrel
    by_cases hlt : u < m
    · go_wp2
      go_loopw [5] (fun i wr => ∃ t : Nat, u + 1 ≤ t ∧ t ≤ m ∧ i = .int .i64 t ∧ ∃ v, OI w wr m v (rowsTo m p u ++ rowTo p u t)) (fun i _ => m - (numOf i).toNat)
      case atStart => exact ⟨u + 1, Nat.le_refl _, by omega, by go_num, v, by rw [rowTo_low p u (u + 1) (Nat.le_refl _), List.append_nil]; exact hoi⟩
      case round =>
        obtain ⟨t, ht1, ht2, rfl, v2, hoi2⟩ := hrel
        clear hoi
        obtain ⟨L, hL⟩ : ∃ L, L = rowsTo m p u ++ rowTo p u t := ⟨_, rfl⟩
        rw [← hL] at hoi2
        obtain ⟨vo, vc, rfl⟩ := form_row hoi2.own
        have HL : Hid _ := hL
        clear hL
        by_cases hlt2 : t < m
        · obtain ⟨g, b, rfl, c0, c1⟩ := HGR.out u hlt
          have c2 := c1 t hlt2
          have hb0 := World.block_lt_of_cell? w _ c0
          have hb2 := World.block_lt_of_cell? w _ c2
          rw [← hoi2.below.cell (by exact hb0)] at c0
          rw [← hoi2.below.cell (by exact hb2)] at c2
          have d1 := (cell_two hoi2.b1).2
          clear c1
          have hll : L.length ≤ 10000 := by
            rw [HL.out]
            have h1 := rowsTo_le m p u
            have h2 := rowTo_le p u t
            have : u * m ≤ 100 * 100 := Nat.mul_le_mul (by omega) hm
            rw [List.length_append]
            have h3 : u * m + m ≤ 100 * 100 := by
              have : (u + 1) * m ≤ 100 * 100 := Nat.mul_le_mul (by omega) hm
              rw [Nat.succ_mul] at this
              exact this
            omega
          by_cases hp : p u t = true
          · rw [hp] at c2
            go_wp2_with (at_builtin; refine wpList_append_own _ rfl _ _ 22 rfl (w.heap.size + 2) 49 i0 (.agg #[.int .i64 0, .int .i64 0]) 2 16 Tryd.underlying22 hi hz0 hz1 hz2 rfl (by decide) _ _ _ rfl (hoi2.own.alloc _) ⟨wr.heap.size, 0, none⟩ 1 1 [.int .i64 u, .int .i64 t] rfl rfl ?n1 ?n2 ?n3 ?n4 ?n5 ?_)
            case n2 => exact ⟨rfl, rfl⟩
            case n3 => unfold maxLen; omega
            case n4 => omega
            case n5 => have := lt_of_block hoi2.b1; simp; omega
            intro v' w3 hown' hgrow _
            obtain ⟨vo', vc', rfl⟩ := form_row hown'
            obtain ⟨hb1, hoi3⟩ := hoi2.push hown' hgrow
            have f1 := (cell_two hb1).2
            have f2 := free_two hb1 1
            clear hown' hgrow
            go_wp2
            go_roundw
            case rel => exact ⟨t + 1, by omega, by omega, by go_num, _, by rw [rowTo_succ, if_pos ⟨by omega, hp⟩, ← List.append_assoc, ← HL.out]; exact hoi3⟩
            case measure => simp [numOf]; omega
          · have hp' : p u t = false := by simpa using hp
            rw [hp'] at c2
            go_wp2
            go_roundw
            case rel => exact ⟨t + 1, by omega, by omega, by go_num, _, by rw [rowTo_succ, if_neg (fun h => hp h.2), List.append_nil, ← HL.out]; exact hoi2⟩
            case measure => simp [numOf]; omega
        · have : t = m := by omega
          subst this
          go_wp2
          go_roundw
          case rel => exact ⟨u + 1, by omega, by go_num, _, by rw [rowsTo_succ, ← HL.out]; exact hoi2⟩
          case measure => simp [numOf]; omega
    · have : u = m := by omega
      subst this
      obtain ⟨vo, vc, rfl⟩ := form_row hoi.own
      have d0 := (cell_two hoi.b0).1
      have d1 := (cell_two hoi.b0).2
      have e0 := (cell_two hoi.b1).1
      have e1 := (cell_two hoi.b1).2
      have g0 := free_two hoi.b0
      go_wp2
      refine bodyPost_ret (v := .agg #[.int .i64 u, .slice vo (rowsTo u p u).length vc]) ?_ rfl ⟨?_, vo, vc, rfl, ?_⟩
      · simp [results, Tryd.results36, go_sem, d0, d1]
      · exact (hoi.below.setCell (by simp) _).setCell (by simp) _
      · have hE := edgesAt_row hoi.own ?_ ?_
        · have q : ∀ x, vo = some x → w.heap.size + 2 ≤ x.block := fun x hx => (hoi.own.lt _ (by rw [hx]; rfl)).1
          exact (hE.setCell (fun x hx => by have := q x hx; simp; omega) _).setCell (fun x hx => by have := q x hx; simp; omega) _
        · intro e he
          obtain ⟨a, b, h1, h2, _, rfl⟩ := allP_mem.1 he
          constructor <;> unfold I64 <;> simp <;> omega
        · have h1 := rowsTo_le u p u
          have : u * u ≤ 100 * 100 := Nat.mul_le_mul hm hm
          omega
end Go.Proofs.YtekokjechbibdaaDoor
