/- build, Form, Complement: the graphs that package graph makes. -/
import Derived.Test.YtekokjechbibdaaDoorSeen
import Derived.Laws.EntriesVeiled
namespace Go.Proofs.YtekokjechbibdaaDoor
open Go.RowKit Go.Maps

set_option maxHeartbeats 1000000 in
theorem build_any (n : Nat) (F : FuncId) (caps : Array Value) (p : Int → Int → Bool) (w : World) (hn : n ≤ 100) (hF : ∀ args w', (callFunc F args).run Tryd.prog w' = .ok (.enter F args) w')
    (hnear : ∀ w', Below w.heap.size w w' → ∀ u v : Nat, u < v → v < n → Calls Tryd.prog F (#[.int .i64 u, .int .i64 v] ++ caps) w' fun e w'' => e = .returned (.bool (p u v)) ∧ Below w'.heap.size w' w'') :
    Calls Tryd.prog 39 #[.int .i64 n, .func (.func F) #[] caps] w fun e w' => Below w.heap.size w w' ∧
      ((1000 < (allP n p).length ∧ e = .returned (.tuple #[.agg #[.int .i64 0, .slice none 0 0], .agg #[.int .i64 2, .int .i64 0]])) ∨
       ((allP n p).length ≤ 1000 ∧ ∃ v, e = .returned (.tuple #[.agg #[.int .i64 n, v], .agg #[.int .i64 0, .int .i64 0]]) ∧ w'.ownsRow w.heap.size 49 2 v (allP n p).length (flat (allP n p)))) := by
  have hn2 : ¬ (100 : Int) < (n : Int) := by omega
  obtain ⟨i0, hi, hz0, hz1, hz2⟩ := info_parts Tryd.info49
  have HN : Hid _ := hnear
  clear hnear
  go_enter Tryd.func39, Tryd.ntmps39
  go_wp2
  go_loopw [6, 14] (fun v i wr => ∃ u : Nat, u ≤ n ∧ i = .int .i64 u ∧ BI w wr v (rowsTo n p u)) (fun _ i _ => n - (intOf i).toNat)
  case atStart => exact ⟨0, Nat.zero_le _, rfl, BI.start w⟩
  case round =>
    obtain ⟨u, hu, rfl, hbi⟩ := hrel
    by_cases hlt : u < n
    · go_wp2
      go_loopw [6, 8] (fun v i wr => ∃ t : Nat, u + 1 ≤ t ∧ t ≤ n ∧ i = .int .i64 t ∧ BI w wr v (rowsTo n p u ++ rowTo p u t)) (fun _ i _ => n - (intOf i).toNat)
      case atStart => exact ⟨u + 1, Nat.le_refl _, by omega, by go_num, by rw [rowTo_low p u (u + 1) (Nat.le_refl _), List.append_nil]; exact hbi⟩
      case round =>
        obtain ⟨t, ht1, ht2, rfl, hbi2⟩ := hrel
        obtain ⟨ao, cap, rfl⟩ := hbi2.form
        obtain ⟨L, hL⟩ : ∃ L, L = rowsTo n p u ++ rowTo p u t := ⟨_, rfl⟩
        rw [← hL] at hbi2 ⊢
        have HL : Hid _ := hL
        clear hL
        have hll := hbi2.len
        by_cases hlt2 : t < n
        · by_cases hp : p u t = true
          · by_cases hlen : L.length = 1000
            · have hlen' : ((L.length : Int) == 1000) = true := by simp; omega
              go_wp2_with (with_reducible refine (HN.out _ ?_ _ _ ?_ ?_).mono ?_; exact hbi2.below; omega; exact hlt2; rintro e w2 ⟨rfl, hb2⟩; have hbi3 := hbi2.step hb2; have d0 := (cell_two hbi3.b0).1; have d1 := (cell_two hbi3.b0).2; have e0 := (cell_two hbi3.b1).1; have e1 := (cell_two hbi3.b1).2; have g0 := free_two hbi3.b0; have g1 := free_two hbi3.b1)
              refine bodyPost_ret (v := .tuple #[.agg #[.int .i64 0, .slice none 0 0], .agg #[.int .i64 2, .int .i64 0]]) ?_ rfl ⟨?_, Or.inl ⟨?_, rfl⟩⟩
              · simp [results, Tryd.results39, go_sem, d0, d1, e0, e1]
              · exact (((hbi3.below.setCell (by simp) _).setCell (by simp) _).setCell (by simp) _).setCell (by simp) _
              · have := allP_more n p u t (by omega) hlt2 hp
                rw [← HL.out] at this
                omega
            · have hlen' : ((L.length : Int) == 1000) = false := by simp; omega
              go_wp2_with (first | (at_builtin; refine wpList_append_own _ rfl _ _ 22 rfl (w.heap.size + 2) 49 i0 (.agg #[.int .i64 0, .int .i64 0]) 2 16 Tryd.underlying22 hi hz0 hz1 hz2 rfl (by decide) _ _ _ rfl (hbi3.own.alloc _) ⟨w2.heap.size, 0, none⟩ 1 1 [.int .i64 u, .int .i64 t] rfl rfl ?c1 ?c2 ?c3 ?c4 ?c5 ?_) | (with_reducible refine (HN.out _ ?_ _ _ ?_ ?_).mono ?_; exact hbi2.below; omega; exact hlt2; rintro e w2 ⟨rfl, hb2⟩; have hbi3 := hbi2.step hb2))
              case c1 =>
                intro j x hj
                match j, hj with
                | 0, hj => simp at hj; subst hj; simp [Addr.add]
                | 1, hj => simp at hj; subst hj; simp [Addr.add]
              case c2 => intro x hx; simp at hx; rcases hx with rfl | rfl <;> rfl
              case c3 => unfold maxLen; omega
              case c4 => omega
              case c5 => have := lt_of_block hbi3.b1; simp; omega
              intro v' w3 hown' hgrow _
              have hbi4 := hbi3.push (by omega) hown' hgrow
              clear hown' hgrow
              go_wp2
              go_roundw
              case rel => exact ⟨t + 1, by omega, by omega, by go_num, by rw [rowTo_succ, if_pos ⟨by omega, hp⟩, ← List.append_assoc, ← HL.out]; exact hbi4⟩
              case measure => simp [intOf]; omega
          · have hp' : p u t = false := by simpa using hp
            go_wp2_with (with_reducible refine (HN.out _ ?_ _ _ ?_ ?_).mono ?_; exact hbi2.below; omega; exact hlt2; rintro e w2 ⟨rfl, hb2⟩; have hbi3 := hbi2.step hb2)
            go_roundw
            case rel => exact ⟨t + 1, by omega, by omega, by go_num, by rw [rowTo_succ, if_neg (fun h => hp h.2), List.append_nil, ← HL.out]; exact hbi3⟩
            case measure => simp [intOf]; omega
        · have : t = n := by omega
          subst this
          go_wp2
          go_roundw
          case rel => exact ⟨u + 1, by omega, by go_num, by rw [rowsTo_succ, ← HL.out]; exact hbi2⟩
          case measure => simp [intOf]; omega
    · have : u = n := by omega
      subst this
      have d0 := (cell_two hbi.b0).1
      have d1 := (cell_two hbi.b0).2
      have e0 := (cell_two hbi.b1).1
      have e1 := (cell_two hbi.b1).2
      have g0 := free_two hbi.b0
      have g1 := free_two hbi.b1
      obtain ⟨ao, cap, rfl⟩ := hbi.form
      have hlen := hbi.len
      go_wp2
      refine bodyPost_ret (v := .tuple #[.agg #[.int .i64 u, .slice ao (rowsTo u p u).length cap], .agg #[.int .i64 0, .int .i64 0]]) ?_ rfl ⟨?_, Or.inr ⟨hlen, _, rfl, ?_⟩⟩
      · simp [results, Tryd.results39, go_sem, d0, d1, e0, e1]
      · exact (((hbi.below.setCell (by simp) _).setCell (by simp) _).setCell (by simp) _).setCell (by simp) _
      · refine ownsRow_mono (b' := w.heap.size) (ownsRow_setCell_below (ownsRow_setCell_below (ownsRow_setCell_below (ownsRow_setCell_below hbi.own ?_ _) ?_ _) ?_ _) ?_ _) (by omega) <;> simp
set_option maxHeartbeats 400000 in
theorem build_many (n : Nat) (f : Value) (w : World) (hn : 100 < n) :
    Calls Tryd.prog 39 #[.int .i64 n, f] w fun e w' => Below w.heap.size w w' ∧ e = .returned (.tuple #[.agg #[.int .i64 0, .slice none 0 0], .agg #[.int .i64 2, .int .i64 0]]) := by
  have hn2 : (100 : Int) < (n : Int) := by omega
  go_enter Tryd.func39, Tryd.ntmps39
  go_wp2
  refine bodyPost_ret (v := .tuple #[.agg #[.int .i64 0, .slice none 0 0], .agg #[.int .i64 2, .int .i64 0]]) ?_ rfl ⟨below_alloc (below_alloc (Below.refl _ _) _) _, rfl⟩
  simp [results, Tryd.results39, go_sem]

theorem build_tells (n : Nat) (F : FuncId) (caps : Array Value) (p : Int → Int → Bool) (w : World) (hF : ∀ args w', (callFunc F args).run Tryd.prog w' = .ok (.enter F args) w')
    (hnear : n ≤ 100 → ∀ w', Below w.heap.size w w' → ∀ u v : Nat, u < v → v < n → Calls Tryd.prog F (#[.int .i64 u, .int .i64 v] ++ caps) w' fun e w'' => e = .returned (.bool (p u v)) ∧ Below w'.heap.size w' w'') :
    Tells 39 #[.int .i64 n, .func (.func F) #[] caps] w (buildS n p) := by
  by_cases hn : n ≤ 100
  · refine (build_any n F caps p w hn hF (hnear hn)).mono ?_
    rintro e w' ⟨hb, ⟨hl, rfl⟩ | ⟨hl, v, rfl, hown⟩⟩
    · rw [buildS_many (Or.inr hl)]
      exact ⟨hb, _, _, rfl, edgesAt_nil _, fun x h => by cases h⟩
    · rw [buildS_ok hn hl]
      have hE := edgesAt_row hown ?_ (by omega)
      · obtain ⟨ao, cap, rfl⟩ := hE.form
        exact ⟨hb, ao, cap, rfl, hE, fun x hx => (hown.lt _ (by rw [hx]; rfl)).1⟩
      intro e he
      obtain ⟨u, v, h1, h2, _, rfl⟩ := allP_mem.1 he
      constructor <;> unfold I64 <;> simp <;> omega
  · refine (build_many n _ w (by omega)).mono ?_
    rintro e w' ⟨hb, rfl⟩
    rw [buildS_many (Or.inl (by omega))]
    exact ⟨hb, _, _, rfl, edgesAt_nil _, fun x h => by cases h⟩

set_option maxHeartbeats 1000000 in
theorem form_tells (n : Int) (v : Value) (es : List Pair) (w : World) (hE : EdgesAt w v es) : Tells 23 #[.agg #[.int .i64 n, v]] w (formS n es) := by
  unfold Tells
  go_enter Tryd.func23, Tryd.ntmps23
  by_cases hc0 : (chk n es).1 = 0
  · have hc1 : ((chk n es).1 != 0) = false := by simpa using hc0
    obtain ⟨hck, hn0, hn1, hl, hgood⟩ := chk_good hc0
    obtain ⟨m, rfl⟩ : ∃ m : Nat, n = m := ⟨n.toNat, by omega⟩
    have HG : Hid _ := hgood
    clear hgood
    go_wp2_with (first | (go_at_call 38; refine (nearIn_any _ v es _ ?_).mono ?_; exact hE.below (below_alloc (below_alloc (below_alloc (Below.refl _ _) _) _) _); rintro e w1 ⟨hb, ⟨hc, rfl⟩ | ⟨hc, Bx, rfl, hnear⟩⟩; exact absurd hc0 hc; obtain ⟨bc, bf, bc1, bf1, bc2, bf2⟩ := bcell hb; have hz := hb.size; simp at hz) | (go_at_call 39; refine (build_tells m 51 #[.pointer (some ⟨Bx, 0, none⟩)] (hasB es) _ enter51 ?_).mono ?_; exact fun hm w' hw' u v h1 h2 => near_has ((hnear.below (below_alloc (Below.refl _ _) _)).below hw') (by constructor <;> omega) (by constructor <;> omega); rintro e w2 ⟨hb2, ao2, cap2, rfl, hE2, hfr⟩; have hb3 := below_next (below_alloc hb _) hb2; obtain ⟨bc3, bf3, bc4, bf4, bc5, bf5⟩ := bcell hb3))
    rw [show formS m es = buildS m (hasB es) by unfold formS; rw [if_pos hc0]; simp]
    refine bodyPost_ret (v := .tuple #[.agg #[.int .i64 (buildS m (hasB es)).n, .slice ao2 (buildS m (hasB es)).es.length cap2], .agg #[.int .i64 (buildS m (hasB es)).c, .int .i64 (buildS m (hasB es)).pos]]) ?_ rfl ⟨?_, ao2, cap2, rfl, ?_, ?_⟩
    · simp [results, Tryd.results23, go_sem, bc3]
    · exact below_set4 (below_next (below_alloc (below_alloc (below_alloc (Below.refl _ _) _) _) _) hb3) (by simp) (by simp) (by simp; omega) (by simp; omega)
    · have q : ∀ x, ao2 = some x → w.heap.size + 1 + 1 < x.block := fun x hx => by have := hfr x hx; simp at this; omega
      exact (((hE2.setCell (fun x hx => by have := q x hx; simp; omega) _).setCell (fun x hx => by have := q x hx; simp; omega) _).setCell (fun x hx => by have := q x hx; simp; omega) _).setCell (fun x hx => by have := q x hx; simp; omega) _
    · intro x hx; have := hfr x hx; simp at this; omega
  · have hc1 : ((chk n es).1 != 0) = true := by simpa using hc0
    go_wp2_with (go_at_call 38; refine (nearIn_any n v es _ ?_).mono ?_; exact hE.below (below_alloc (below_alloc (below_alloc (Below.refl _ _) _) _) _); rintro e w1 ⟨hb, ⟨hc, rfl⟩ | ⟨hc, Bx, rfl, hnear⟩⟩; rotate_left; exact absurd hc hc0; obtain ⟨bc, bf, bc1, bf1, bc2, bf2⟩ := bcell hb; have hz := hb.size; simp at hz)
    go_region
    go_wp2
    rw [show formS n es = ⟨0, [], (chk n es).1, (chk n es).2⟩ by unfold formS; rw [if_neg hc0]]
    refine bodyPost_ret (v := .tuple #[.agg #[.int .i64 0, .slice none 0 0], .agg #[.int .i64 (chk n es).1, .int .i64 (chk n es).2]]) ?_ rfl ⟨?_, none, 0, rfl, edgesAt_nil _, fun x h => by cases h⟩
    · simp [results, Tryd.results23, go_sem, bc1]
    · exact (below_set4 (below_alloc (below_next (below_alloc (below_alloc (below_alloc (Below.refl _ _) _) _) _) hb) _) (by simp) (by simp) (by simp; omega) (by simp; omega)).drew
def complS (n : Int) (es : List Pair) : Ans := if (chk n es).1 = 0 then buildS n.toNat (fun u v => !hasB es u v) else ⟨0, [], (chk n es).1, (chk n es).2⟩

end Go.Proofs.YtekokjechbibdaaDoor
