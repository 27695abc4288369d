/- The walk of GraphChecks: it answers true, and what was there stays. -/
import Derived.Test.YtfhajacihpmcnaaParts
namespace Go.Proofs.Ytfhajacihpmcnaa
open Go.RowKit Go.Maps
attribute [local go_sem ↓] Go.wp_at_zero Go.wp_at_succ

theorem two_new1 (w : World) (o : Obj) (x y : Value) (t : TypeId) : Two ((w.alloc o).alloc (Obj.cells #[x, y] t)) (w.heap.size + 1) x y t := by
  simpa [Two] using heap_alloc_new (w.alloc o) (Obj.cells #[x, y] t)

theorem keep1 {W : World} {b : Nat} {x y : Value} {t : TypeId} (tl : Two W b x y t) {w' : World} (hb : Below W.heap.size W w') : Below W.heap.size W w' ∧ w'.cell? ⟨b, 0, none⟩ = some x ∧ w'.cell? ⟨b, 1, none⟩ = some y :=
  ⟨hb, (cell_two (two_next tl hb)).1, (cell_two (two_next tl hb)).2⟩

set_option maxHeartbeats 2000000 in
theorem checks_walk (n : Int) (ao : Option Addr) (cap : Nat) (es : List Pair) (x : Int) (w : World) (hE : EdgesAt w (.slice ao es.length cap) es) (hcap : es.length ≤ cap) (hx : I64 x)
    {c d fn ec ed : Int} {fes : List Pair} {ns : List Int} (hcase : (c ≠ 0 ∧ fn = 0 ∧ fes = [] ∧ ns = [] ∧ ec = c ∧ ed = d) ∨ (c = 0 ∧ d = 0 ∧ ∃ m : Nat, n = m ∧ fn = m ∧ m ≤ 100 ∧ es.length ≤ 1000 ∧ (∀ e ∈ es, (0 ≤ e.1 ∧ e.1 < m ∧ 0 ≤ e.2 ∧ e.2 < m) ∧ e.1 ≠ e.2) ∧ fes = allP m (hasB es) ∧ ((isN m x = true ∧ ns = nearTo es x m ∧ ec = 0 ∧ ed = 0) ∨ (isN m x = false ∧ ns = [] ∧ ec = 3 ∧ ed = 0))))
    (hchk : chk n es = (c, d)) (hform : formS n es = ⟨fn, fes, c, d⟩) (hns : nearS n es x = (ns, ec, ed)) :
    Calls Try.prog 3 #[.agg #[.int .i64 n, .slice ao es.length cap], .int .i64 x] w fun e w' => e = .returned (.bool true) ∧ Below w.heap.size w w' := by
  have HE : Hid _ := hE
  have H1 : Hid _ := hchk
  have H2 : Hid _ := hform
  have H3 : Hid _ := hns
  have H4 : Hid _ := hcase
  clear hE hchk hform hns hcase
  go_enter Try.func3, Try.ntmps3
  go_wp2_with (first | (go_at_call 7; refine (own_any n ao cap es _ ?_).mono ?_; exact EdgesAt.below HE.out (below_alloc (Below.refl _ _) _); rintro e w1 ⟨hb1, ao1, c1, rfl, hE1, hcap1⟩; have tg1 := two_next (two_new w _ _ _) hb1; obtain ⟨a1, a2, a3, a4, a5, a6⟩ := k2 tg1) | (go_at_call 8; refine (refCheck_as ?_ hcap H1.out).mono ?_; exact EdgesAt.below HE.out (below_alloc (below_next (below_alloc (Below.refl _ _) _) hb1) _); rintro e w2 ⟨rfl, hb2⟩; have tg2 := two_next (two_alloc tg1 _) hb2; have to2 := two_next (two_new w1 _ _ _) hb2; obtain ⟨b1, b2, b3, b4, b5, b6⟩ := k2 to2) | (go_at_call 9; refine (form_as ?_ H2.out).mono ?_; exact (hE1.below (below_next (below_alloc (Below.refl _ _) _) hb2)).below (below_alloc (Below.refl _ _) _); rintro e w3 ⟨hb3, lo, lc, rfl, hEl, _⟩; have tg3 := two_next (two_alloc tg2 _) hb3; have to3 := two_next (two_alloc to2 _) hb3; have tw3 := two_next (two_new w2 _ _ _) hb3; obtain ⟨d1, d2, d3, d4, d5, d6⟩ := k2 to3) | (go_at_call 10; refine (near_as ?_ hx H3.out).mono ?_; exact ((hE1.below (below_next (below_alloc (Below.refl _ _) _) hb2)).below (below_next (below_alloc (Below.refl _ _) _) hb3)).below (below2 _ _); rintro e w4 ⟨hb4, no, nc, rfl, hIn⟩))
  have tg := two_alloc (two_next (two_alloc (two_alloc tg3 _) _) hb4) (Obj.cells #[.int .i64 ec, .int .i64 ed] 27)
  have to := two_alloc (two_next (two_alloc (two_alloc to3 _) _) hb4) (Obj.cells #[.int .i64 ec, .int .i64 ed] 27)
  have tw := two_alloc (two_next (two_alloc (two_alloc tw3 _) _) hb4) (Obj.cells #[.int .i64 ec, .int .i64 ed] 27)
  have tl := two_alloc (two_next (two_alloc (two_new w3 _ _ _) _) hb4) (Obj.cells #[.int .i64 ec, .int .i64 ed] 27)
  have tf := two_alloc (two_next (two_new1 w3 _ _ _ _) hb4) (Obj.cells #[.int .i64 ec, .int .i64 ed] 27)
  have te := two_new w4 (.int .i64 ec) (.int .i64 ed) 27
  have hEo := ((((hE1.below (below_next (below_alloc (Below.refl _ _) _) hb2)).below (below_next (below_alloc (Below.refl _ _) _) hb3)).below (below_next (below2 _ _) hb4))).below (below_alloc (Below.refl _ _) (Obj.cells #[.int .i64 ec, .int .i64 ed] 27))
  have hEl' := (hEl.below (below_next (below2 _ _) hb4)).below (below_alloc (Below.refl _ _) (Obj.cells #[.int .i64 ec, .int .i64 ed] 27))
  have hIn' := hIn.below (below_alloc (Below.refl _ _) (Obj.cells #[.int .i64 ec, .int .i64 ed] 27))
  have hB := below_alloc (below_next (below_next (below_next (below_next (below_alloc (Below.refl _ _) _) hb1) (below_next (below_alloc (Below.refl _ _) _) hb2)) (below_next (below_alloc (Below.refl _ _) _) hb3)) (below_next (below2 _ _) hb4)) (Obj.cells #[.int .i64 ec, .int .i64 ed] 27)
  clear a1 a2 a3 a4 a5 a6 b1 b2 b3 b4 b5 b6 d1 d2 d3 d4 d5 d6 tg1 tg2 tg3 to2 to3 tw3 hb1 hb2 hb3 hb4 hE1 hEl hIn
  have hne := neq27 c d
  generalize hWW : w4.alloc (Obj.cells #[.int .i64 ec, .int .i64 ed] 27) = W at tg to tw tl tf te hEo hEl' hIn' hB ⊢
  clear hWW
  go_region_held3 (fun w' => Below W.heap.size W w' ∧ w'.cell? ⟨w.heap.size, 0, none⟩ = some (.int .i64 n) ∧ w'.cell? ⟨w.heap.size, 1, none⟩ = some (.slice ao es.length cap) ∧ w'.cell? ⟨w1.heap.size, 0, none⟩ = some (.int .i64 n) ∧ w'.cell? ⟨w1.heap.size, 1, none⟩ = some (.slice ao1 es.length c1) ∧ w'.cell? ⟨w2.heap.size, 0, none⟩ = some (.int .i64 c) ∧ w'.cell? ⟨w2.heap.size, 1, none⟩ = some (.int .i64 d) ∧ w'.cell? ⟨w3.heap.size + 1, 0, none⟩ = some (.int .i64 c) ∧ w'.cell? ⟨w3.heap.size + 1, 1, none⟩ = some (.int .i64 d))
    (first | assumption | exact keep5 tg to tw tf (Below.refl _ _).drew | (go_split_ands; exact keep5 tg to tw tf (below_next (by assumption) hbk)))
    ((first | (go_at_call 11; refine (begun_true _).mono ?_; rintro e w' ⟨rfl, hbk⟩) | (go_at_call 12; go_split_ands; refine (check_as ?_ H1.out).mono ?_; exact hEo.below (by assumption); rintro e w' ⟨rfl, hbk⟩) | (go_at_call 13; go_split_ands; refine (kept_true n _ _ es _ ?_ ?_).mono ?_; exact hEo.below (by assumption); exact (EdgesAt.below HE.out hB).below (by assumption); rintro e w' ⟨rfl, hbk⟩)))
  go_split_ands
  have hBW : Below W.heap.size W w' := by assumption
  replace tg := two_next tg hBW
  replace tw := two_next tw hBW
  replace tl := two_next tl hBW
  replace te := two_next te hBW
  replace hEl' := hEl'.below hBW
  replace hIn' := hIn'.below hBW
  replace hB := below_next hB hBW
  clear hbk hBW hEo to tf
  obtain ⟨y1, y2⟩ := cell_two tg
  obtain ⟨y3, y4⟩ := cell_two tw
  obtain ⟨y5, y6⟩ := cell_two tl
  obtain ⟨y7, y8⟩ := cell_two te
  rcases H4.out with ⟨hc, rfl, rfl, rfl, rfl, rfl⟩ | ⟨rfl, rfl, m, rfl, rfl, hm, hl, hgood, rfl, hcase⟩
  · have hc1 : (ec != 0) = true := by simpa using hc
    have heq := eql27 ec ed
    go_wp2
    go_ret
    exact ⟨rfl, hB⟩
  · have hEg := EdgesAt.below HE.out hB
    go_wp2_with (go_at_call 14; refine (gridOf_any m _ es _ hEg hm hl hgood).mono ?_; rintro e w6 ⟨hb6, to, tc, rfl, hG⟩; have tl6 := two_next tl hb6; have te6 := two_next te hb6; have tg6 := two_next tg hb6; have hEl6 := hEl'.below hb6; have hIn6 := hIn'.below hb6; have hB6 := below_next hB hb6)
    clear y1 y2 y3 y4 y5 y6 y7 y8 tl te tg tw hEl' hIn' hEg hb6 hB
    go_region_held3 (fun wz => Below w6.heap.size w6 wz ∧ wz.cell? ⟨w3.heap.size, 0, none⟩ = some (.int .i64 m) ∧ wz.cell? ⟨w3.heap.size, 1, none⟩ = some (.slice lo (allP m (hasB es)).length lc))
      (first | assumption | exact ⟨(Below.refl _ _).drew, (cell_two tl6).1, (cell_two tl6).2⟩ | (go_split_ands; exact keep1 tl6 (below_next (by assumption) hbk)))
      ((first | (go_at_call 16; go_split_ands; refine (ofGrid_any m _ _ (hasB es) _ ?_ hm).mono ?_; exact hG.below (by assumption); rintro e w7 ⟨hbk, oo, oc, rfl, hEo⟩) | (go_at_call 15; go_split_ands; refine (same_true m _ _ (allP m (hasB es)) _ ?_ hEo).mono ?_; exact hEl6.below (by assumption); rintro e w7 ⟨rfl, hbk⟩)))
    go_split_ands
    have hBW : Below w6.heap.size w6 w7 := by assumption
    have te7 := two_next te6 hBW
    have tg7 := two_next tg6 hBW
    have hIn7 := hIn6.below hBW
    have hG7 := hG.below hBW
    have hB7 := below_next hB6 hBW
    clear hBW hbk hEo hEl6 hIn6 hG hB6 te6 tg6 tl6 hgood
    obtain ⟨y1, y2⟩ := cell_two tg7
    obtain ⟨y7, y8⟩ := cell_two te7
    rcases hcase with ⟨hxn, rfl, rfl, rfl⟩ | ⟨hxn, rfl, rfl, rfl⟩
    · have hx0 := isN_in hxn
      obtain ⟨q, rfl⟩ : ∃ q : Nat, x = q := ⟨x.toNat, by omega⟩
      have hq : q < m := by omega
      have hx1 : ¬ (q : Int) < 0 := by omega
      have hx2 : ¬ (m : Int) ≤ (q : Int) := by omega
      obtain ⟨i0, hi, hz0, hz1, hz2⟩ := info_parts Try.info3
      have HG7 : Hid _ := hG7
      have HI7 : Hid _ := hIn7
      have HTG : Hid _ := tg7
      have HTE : Hid _ := te7
      clear hG7 hIn7 tg7 te7 hx
      go_wp2
      go_loopw [12, 13] (fun v i wr => ∃ u : Nat, u ≤ m ∧ i = .int .i64 u ∧ wr.ownsRow w7.heap.size 3 1 v (nearTo es q u).length ((nearTo es q u).map (Value.int .i64)) ∧ Below w7.heap.size w7 wr) (fun _ i _ => m - (intOf i).toNat)
      case atStart => exact ⟨0, Nat.zero_le _, rfl, World.ownsRow_nil _ _ _ _, Below.refl _ _⟩
      case round =>
        obtain ⟨u, hu, rfl, hown, hbr⟩ := hrel
        obtain ⟨vo, vc, rfl⟩ := form_row hown
        have hle := nearTo_le es q u
        have z1 := (cell_two (two_next HTG.out hbr)).1
        by_cases hlt : u < m
        · obtain ⟨to', tc', e, hgrid⟩ := HG7.out
          cases e
          obtain ⟨g, b, rfl, g0, g1⟩ := hgrid q hq
          have g2 := g1 u hlt
          have l0 := World.block_lt_of_cell? w7 _ g0
          have l2 := World.block_lt_of_cell? w7 _ g2
          rw [← hbr.cell (by exact l0)] at g0
          rw [← hbr.cell (by exact l2)] at g2
          clear hgrid g1
          by_cases hh : hasB es q u = true
          · have hh2 : hasB es u q = true := by rw [hasB_comm]; exact hh
            rw [hh] at g2
            have HH : Hid _ := hh2
            clear hh hh2
            go_wp2_with (first | (at_builtin; refine wpList_append_own _ rfl _ _ 31 rfl w7.heap.size 3 i0 (.int .i64 0) 1 8 Try.underlying31 hi hz0 hz1 hz2 rfl (by decide) _ _ _ rfl (hown.alloc _) ⟨wr.heap.size, 0, none⟩ 1 1 [.int .i64 u] rfl rfl ?n1 ?n2 ?n3 ?n4 ?n5 ?_) | go_in)
            case n2 => first | rfl | (intro y hy; simp at hy; subst hy; rfl)
            case n3 => unfold maxLen; omega
            case n4 => omega
            case n5 => have := hbr.size; simp; omega
            intro v' w9 hown' hgrow _
            have hbr2 := (hbr.alloc hbr.size _).grown hgrow (by have := hbr.size; simp; omega) (fun k hk => (hown.lt k hk).1)
            clear hgrow
            go_wp2
            go_roundw
            case rel => exact ⟨u + 1, by omega, by go_num, by rw [nearTo_succ, if_pos HH.out]; simpa using hown', hbr2⟩
            case measure => simp [intOf]; omega
          · have hh1 : hasB es q u = false := by simpa using hh
            have hh2 : ¬ hasB es u q = true := by rw [hasB_comm]; exact hh
            rw [hh1] at g2
            have HH : Hid _ := hh2
            clear hh hh1 hh2
            go_wp2
            go_roundw
            case rel => exact ⟨u + 1, by omega, by go_num, by rw [nearTo_succ, if_neg HH.out, List.append_nil]; exact hown, hbr⟩
            case measure => simp [intOf]; omega
        · have : u = m := by omega
          subst this
          have z2 := (cell_two (two_next HTE.out hbr)).1
          have hIw := intsAt_row hown (fun y hy => by
            simp [nearTo] at hy
            obtain ⟨j, hj, rfl⟩ := hy
            constructor <;> omega) (by omega)
          go_wp2_with (go_at_call 18; refine (ints_true _ _ (nearTo es q u) _ (IntsAt.below HI7.out hbr) hIw).mono ?_; rintro e w9 ⟨rfl, hb9⟩)
          go_ret
          exact ⟨rfl, below_next (below_next hB7 hbr) hb9⟩
    · have hx0 := isN_out hxn
      have heq := eql27 3 0
      by_cases hx1 : x < 0
      · go_wp2
        go_region_held3 (fun wz => Below w7.heap.size w7 wz ∧ wz.cell? ⟨w4.heap.size, 0, none⟩ = some (.int .i64 3) ∧ wz.cell? ⟨w4.heap.size, 1, none⟩ = some (.int .i64 0))
          (first | assumption | exact ⟨(Below.refl _ _).drew, y7, y8⟩ | (go_split_ands; exact keep1 te7 (below_next (by assumption) hbk)))
          ((go_at_call 17; refine (refF_any _ _ _).mono ?_; rintro e w8 ⟨rfl, hbk⟩))
        all_goals
          go_split_ands
          go_wp2
          go_ret
          exact ⟨rfl, below_next hB7 (by assumption)⟩
      · have hx2 : (m : Int) ≤ x := by omega
        go_wp2
        go_region_held3 (fun wz => Below w7.heap.size w7 wz ∧ wz.cell? ⟨w4.heap.size, 0, none⟩ = some (.int .i64 3) ∧ wz.cell? ⟨w4.heap.size, 1, none⟩ = some (.int .i64 0))
          (first | assumption | exact ⟨(Below.refl _ _).drew, y7, y8⟩ | (go_split_ands; exact keep1 te7 (below_next (by assumption) hbk)))
          ((go_at_call 17; refine (refF_any _ _ _).mono ?_; rintro e w8 ⟨rfl, hbk⟩))
        all_goals
          go_split_ands
          go_wp2
          go_ret
          exact ⟨rfl, below_next hB7 (by assumption)⟩

theorem checks_any (n : Int) (ao : Option Addr) (cap : Nat) (es : List Pair) (x : Int) (w : World) (hE : EdgesAt w (.slice ao es.length cap) es) (hcap : es.length ≤ cap) (hx : I64 x) :
    Calls Try.prog 3 #[.agg #[.int .i64 n, .slice ao es.length cap], .int .i64 x] w fun e w' => e = .returned (.bool true) ∧ Below w.heap.size w w' := by
  by_cases hc0 : (chk n es).1 = 0
  · obtain ⟨hck, hn0, hn1, hl, hgood⟩ := chk_good hc0
    obtain ⟨m, rfl⟩ : ∃ m : Nat, n = m := ⟨n.toNat, by omega⟩
    by_cases hxn : isN m x = true
    · exact checks_walk m ao cap es x w hE hcap hx (Or.inr ⟨rfl, rfl, m, rfl, rfl, by omega, hl, hgood, rfl, Or.inl ⟨hxn, rfl, rfl, rfl⟩⟩) hck (formS_good hc0) (by unfold nearS; rw [if_pos hc0, if_pos hxn]; simp)
    · exact checks_walk m ao cap es x w hE hcap hx (Or.inr ⟨rfl, rfl, m, rfl, rfl, by omega, hl, hgood, rfl, Or.inr ⟨by simpa using hxn, rfl, rfl, rfl⟩⟩) hck (formS_good hc0) (by unfold nearS; rw [if_pos hc0, if_neg hxn])
  · exact checks_walk n ao cap es x w hE hcap hx (c := (chk n es).1) (d := (chk n es).2) (fn := 0) (fes := []) (ns := []) (ec := (chk n es).1) (ed := (chk n es).2) (Or.inl ⟨hc0, rfl, rfl, rfl, rfl, rfl⟩) (by cases chk n es; rfl) (by unfold formS; rw [if_neg hc0]) (by unfold nearS; rw [if_neg hc0])
end Go.Proofs.Ytfhajacihpmcnaa
