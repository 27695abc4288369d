/- The walk of GraphMakes: it answers true, and what was there stays. -/
import Derived.Test.YtmbhmahclfdgnaaInduced
import Derived.Deep.Cut
import Derived.Deep.Light
namespace Go.Proofs.Ytmbhmahclfdgnaa
open Go.RowKit Go.Maps
attribute [local go_sem ↓] Go.wp_at_zero Go.wp_at_succ

abbrev One (w : World) (b : Nat) (x : Value) (t : TypeId) : Prop := w.heap[b]? = some (.cells #[x] t (0, 0))
theorem one_next {W w1 : World} {b : Nat} {x : Value} {t : TypeId} (h : One W b x t) (hb : Below W.heap.size W w1) : One w1 b x t := (hb.block b (lt_of_block h)).trans h

theorem compl_as {n : Int} {v : Value} {es : List Pair} {w : World} (hE : EdgesAt w v es) {a : Ans} (h : complS n es = a) : Tells 19 #[.agg #[.int .i64 n, v]] w a := h ▸ compl_tells n v es w hE
theorem line_as {n : Int} {v : Value} {es : List Pair} {w : World} (hE : EdgesAt w v es) {a : Ans} (h : lineS n es = a) : Tells 20 #[.agg #[.int .i64 n, v]] w a := h ▸ line_tells n v es w hE
theorem ind_as {n : Int} {v nv : Value} {es : List Pair} {l : List Int} {w : World} (hE : EdgesAt w v es) (hI : IntsAt w nv l) {a : Ans} (h : indS n es l = a) : Tells 21 #[.agg #[.int .i64 n, v], nv] w a := h ▸ ind_tells n v nv es l w hE hI

theorem ints_news {w : World} {ad : Addr} {n cap : Nat} {l : List Int} (hI : IntsAt w (.slice (some ad) n cap) l) : ∀ j u, (l.map (Value.int .i64))[j]? = some u → w.cell? (ad.add j) = some u := by
  obtain ⟨ao', cap', e, _, _, hc⟩ := hI
  cases e
  intro j u hj
  rw [List.getElem?_map] at hj
  obtain ⟨x, hx, rfl⟩ := Option.map_eq_some_iff.1 hj
  have hk := (List.getElem?_eq_some_iff.1 hx).1
  obtain ⟨b, off, e, c0⟩ := hc j hk
  cases e
  rw [show (⟨b, off, none⟩ : Addr).add j = ⟨b, off + j, none⟩ from by unfold Addr.add; split <;> simp_all, c0, (List.getElem?_eq_some_iff.1 hx).2]

theorem two_newb (w : World) (o : Obj) (x y : Value) (t : TypeId) : Two ((w.alloc o).alloc (Obj.cells #[x, y] t)) (w.heap.size + 1) x y t := by
  simpa [Two] using heap_alloc_new (w.alloc o) (Obj.cells #[x, y] t)

theorem field1 (x : Int) (a : Option Addr) (n c : Nat) (w : World) : (Instr.field 24 (.agg #[.int .i64 x, .slice a n c]) 1).run Try.prog w = .ok (.slice a n c) w := by kernel_rfl

theorem xu_block {w : World} {b : Nat} {x y z u : Value} (hx : Two w b x y 24) (hu : Two w (b + 1) z u 27) (x' y' z' u' : Value) :
    Two ((((w.setCell ⟨b, 0, none⟩ x').setCell ⟨b, 1, none⟩ y').setCell ⟨b + 1, 0, none⟩ z').setCell ⟨b + 1, 1, none⟩ u') b x' y' 24 ∧ Two ((((w.setCell ⟨b, 0, none⟩ x').setCell ⟨b, 1, none⟩ y').setCell ⟨b + 1, 0, none⟩ z').setCell ⟨b + 1, 1, none⟩ u') (b + 1) z' u' 27 := by
  constructor
  · rw [Two, Below.heap_setCell _ _ _ _ (by simp), Below.heap_setCell _ _ _ _ (by simp)]
    simp [World.setCell, Array.getElem?_modify, hx]
  · simp [Two, World.setCell, Array.getElem?_modify, hu]

theorem x_block {w : World} {b : Nat} {x y z u : Value} (hx : Two w b x y 24) (hu : Two w (b + 1) z u 27) (x' y' : Value) :
    Two ((w.setCell ⟨b, 0, none⟩ x').setCell ⟨b, 1, none⟩ y') b x' y' 24 ∧ Two ((w.setCell ⟨b, 0, none⟩ x').setCell ⟨b, 1, none⟩ y') (b + 1) z u 27 := by
  constructor
  · simp [Two, World.setCell, Array.getElem?_modify, hx]
  · rw [Two, Below.heap_setCell _ _ _ _ (by simp), Below.heap_setCell _ _ _ _ (by simp)]; exact hu

theorem u_block {w : World} {b : Nat} {x y z u : Value} (hx : Two w b x y 24) (hu : Two w (b + 1) z u 27) (z' u' : Value) :
    Two ((w.setCell ⟨b + 1, 0, none⟩ z').setCell ⟨b + 1, 1, none⟩ u') b x y 24 ∧ Two ((w.setCell ⟨b + 1, 0, none⟩ z').setCell ⟨b + 1, 1, none⟩ u') (b + 1) z' u' 27 := by
  constructor
  · rw [Two, Below.heap_setCell _ _ _ _ (by simp), Below.heap_setCell _ _ _ _ (by simp)]; exact hx
  · simp [Two, World.setCell, Array.getElem?_modify, hu]

set_option maxRecDepth 100000 in
set_option maxHeartbeats 4000000 in
theorem makes_walk (n : Int) (ao no : Option Addr) (ca nc : Nat) (es : List Pair) (l : List Int) (w : World) (hE : EdgesAt w (.slice ao es.length ca) es) (hI : IntsAt w (.slice no l.length nc) l) (hca : es.length ≤ ca) (hlb : l.length * 8 ≤ 140737488351232)
    {c d : Int} {A B C : Ans} (hcase : (c ≠ 0 ∧ A = ⟨0, [], c, d⟩ ∧ B = ⟨0, [], c, d⟩ ∧ C = ⟨0, [], c, d⟩) ∨ (c = 0 ∧ d = 0 ∧ ∃ m : Nat, n = m ∧ m ≤ 100 ∧ es.length ≤ 1000 ∧ (∀ e ∈ es, (0 ≤ e.1 ∧ e.1 < m ∧ 0 ≤ e.2 ∧ e.2 < m) ∧ e.1 ≠ e.2) ∧ A = buildS m (fun u v => !hasB es u v) ∧ B = buildS (allP m (hasB es)).length (lineP (allP m (hasB es))) ∧ (((nmFrom m [] l).1 = 0 ∧ l.length ≤ 100 ∧ (∀ x ∈ l, 0 ≤ x ∧ x < m) ∧ nmFrom m [] l = (0, 0) ∧ C = buildS l.length (indP es l)) ∨ ((nmFrom m [] l).1 ≠ 0 ∧ C = ⟨0, [], (nmFrom m [] l).1, (nmFrom m [] l).2⟩))))
    (hchk : chk n es = (c, d)) (hA : complS n es = A) (hB : lineS n es = B) (hC : indS n es l = C) :
    Calls Try.prog 4 #[.agg #[.int .i64 n, .slice ao es.length ca], .slice no l.length nc] w fun e w' => e = .returned (.bool true) ∧ Below w.heap.size w w' := by
  have HE : Hid _ := hE
  have HI : Hid _ := hI
  have H1 : Hid _ := hchk
  have H2 : Hid _ := hA
  have H3 : Hid _ := hB
  have H4 : Hid _ := hC
  have H5 : Hid _ := hcase
  clear hE hI hchk hA hB hC hcase
  obtain ⟨i0, hi, hz0, hz1, hz2⟩ := info_parts Try.info3
  have tg0 : Two ((w.alloc (Obj.cells #[.int .i64 n, .slice ao es.length ca] 24)).alloc (Obj.cells #[.slice no l.length nc] 31)) w.heap.size (.int .i64 n) (.slice ao es.length ca) 24 := two_alloc (two_new w _ _ _) _
  have tn0 : One ((w.alloc (Obj.cells #[.int .i64 n, .slice ao es.length ca] 24)).alloc (Obj.cells #[.slice no l.length nc] 31)) (w.heap.size + 1) (.slice no l.length nc) 31 := by simpa [One] using heap_alloc_new (w.alloc (Obj.cells #[.int .i64 n, .slice ao es.length ca] 24)) (Obj.cells #[.slice no l.length nc] 31)
  have hb0 : Below w.heap.size w ((w.alloc (Obj.cells #[.int .i64 n, .slice ao es.length ca] 24)).alloc (Obj.cells #[.slice no l.length nc] 31)) := below2 _ _
  go_enter Try.func4, Try.ntmps4
  go_upto_region 2 with (go_at_call 7; refine (own_any n ao ca es _ ?_).mono ?_; exact EdgesAt.below HE.out hb0; rintro e w1 ⟨hb1, ao1, c1, rfl, hE1, hcap1⟩; have tg1 := two_next tg0 hb1; have tn1 := one_next tn0 hb1; have hB1 := below_next hb0 hb1)
  have tg := two_alloc tg1 (Obj.cells #[.int .i64 n, .slice ao1 es.length c1] 24)
  have tn : One (w1.alloc (Obj.cells #[.int .i64 n, .slice ao1 es.length c1] 24)) (w.heap.size + 1) (.slice no l.length nc) 31 := (Below.heap_alloc _ _ _ (lt_of_block tn1)).trans tn1
  have to := two_new w1 (.int .i64 n) (.slice ao1 es.length c1) 24
  have hEo := hE1.below (below_alloc (Below.refl _ _) (Obj.cells #[.int .i64 n, .slice ao1 es.length c1] 24))
  have hBW := below_alloc hB1 (Obj.cells #[.int .i64 n, .slice ao1 es.length c1] 24)
  generalize w1.heap.size = bo at to ⊢
  generalize w1.alloc (Obj.cells #[.int .i64 n, .slice ao1 es.length c1] 24) = W at tg tn to hEo hBW ⊢
  clear tg0 tn0 hb0 tg1 tn1 hB1 hb1 hE1
  have cn := cell_of_one tn
  have hIW := IntsAt.below HI.out hBW
  go_cut [6] from 18 (fun s6 wc => Below W.heap.size W wc ∧ ∃ mo mc, s6 = .slice mo l.length mc ∧ IntsAt wc (.slice mo l.length mc) l)
  case first =>
    by_cases hl0 : l = []
    · subst hl0
      cases no with
      | none =>
        go_wp2_with fail
        go_meet
        case rel => exact ⟨Below.refl _ _, none, 0, rfl, intsAt_nil _⟩
      | some a =>
        go_wp2_with fail
        go_meet
        case rel => exact ⟨Below.refl _ _, none, 0, rfl, intsAt_nil _⟩
    · have hpos : 0 < l.length := List.length_pos_iff.2 hl0
      obtain ⟨b, off, hno, _⟩ := hIW.at hpos
      cases hno
      have HIW : Hid _ := hIW
      have hi64 : ∀ x ∈ l, I64 x := by obtain ⟨_, _, _, _, h, _⟩ := hIW; exact h
      have H64 : Hid _ := hi64
      clear hIW hi64
      go_wp2_with (first | (at_builtin; refine wpList_append_own _ rfl _ _ 31 rfl W.heap.size 3 i0 (.int .i64 0) 1 8 Try.underlying31 hi hz0 hz1 hz2 rfl (by decide) _ _ _ rfl (World.ownsRow_nil _ _ _ _) ⟨b, off, none⟩ l.length nc (l.map (Value.int .i64)) rfl ?n0 ?n1 ?n2 ?n3 ?n4 ?n5 ?_) | go_in)
      case n0 => simp
      case n1 => exact ints_news HIW.out
      case n2 => intro u hu; simp at hu; obtain ⟨x, _, rfl⟩ := hu; rfl
      case n3 => unfold maxLen; omega
      case n4 => omega
      case n5 => exact Nat.le_refl _
      intro v' w2 hown hgrow _
      try simp only [Nat.zero_add, List.nil_append] at hown
      obtain ⟨mo, mc, rfl⟩ := form_row hown
      go_wp2_with fail
      go_meet
      case rel => exact ⟨⟨hgrow.os, hgrow.tape, hgrow.output, hgrow.size, fun k hk => hgrow.block k hk (by simp [Value.ownBlock])⟩, mo, mc, rfl, intsAt_row hown H64.out (by omega)⟩
  case rest =>
    obtain ⟨hbc, mo, mc, rfl, hIm⟩ := hcut
    have tgc := two_next tg hbc
    have tnc := one_next tn hbc
    have toc := two_next to hbc
    have hEc := hEo.below hbc
    have hBc := below_next hBW hbc
    obtain ⟨a1, a2, a3, a4, a5, a6⟩ := k2 tgc
    clear cn hIW tg tn to hEo hBW hbc
    go_upto_region 9 with (first | (go_at_call 8; refine (refCheck_as ?_ hca H1.out).mono ?_; exact EdgesAt.below HE.out hBc; rintro e w3 ⟨rfl, hb3⟩; have tg3 := two_next tgc hb3; have tn3 := one_next tnc hb3; have to3 := two_next toc hb3; have hE3 := hEc.below hb3; have hI3 := hIm.below hb3; have hB3 := below_next hBc hb3; obtain ⟨b1, b2, b3, b4, b5, b6⟩ := k2 to3) | (go_at_call 19; refine (compl_as ?_ H2.out).mono ?_; exact hE3.below (below_alloc (Below.refl _ _) _); rintro e w4 ⟨hb4, lo4, lc4, rfl, hA4, _⟩; have hz4 := below_next (below_alloc (Below.refl _ _) _) hb4; have tg4 := two_next tg3 hz4; have tn4 := one_next tn3 hz4; have to4 := two_next to3 hz4; have tw4 := two_next (two_new w3 _ _ _) hb4; have hE4 := hE3.below hz4; have hI4 := hI3.below hz4; have hB4 := below_next hB3 hz4; obtain ⟨d1, d2, d3, d4, d5, d6⟩ := k2 to4) | (go_at_call 20; refine (line_as ?_ H3.out).mono ?_; exact hE4.below (below2 _ _); rintro e w5 ⟨hb5, lo5, lc5, rfl, hA5, _⟩; have hz5 := below_next (below2 _ _) hb5; have tg5 := two_next tg4 hz5; have tn5 := one_next tn4 hz5; have to5 := two_next to4 hz5; have tw5 := two_next tw4 hz5; have ta5 := two_next (two_alloc (two_new w4 _ _ _) _) hb5; have tf5 := two_next (two_newb w4 _ _ _ _) hb5; have hE5 := hE4.below hz5; have hI5 := hI4.below hz5; have hA45 := hA4.below hz5; have hB5 := below_next hB4 hz5; obtain ⟨e1, e2, e3, e4, e5, e6⟩ := k2 to5) | (go_at_call 21; refine (ind_as ?_ ?_ H4.out).mono ?_; exact hE5.below (below2 _ _); exact hI5.below (below2 _ _); rintro e w6 ⟨hb6, lo6, lc6, rfl, hA6, _⟩; have hz6 := below_next (below2 _ _) hb6; have tg6 := two_next tg5 hz6; have tn6 := one_next tn5 hz6; have to6 := two_next to5 hz6; have tw6 := two_next tw5 hz6; have ta6 := two_next ta5 hz6; have tf6 := two_next tf5 hz6; have tb6 := two_next (two_alloc (two_new w5 _ _ _) _) hb6; have te6 := two_next (two_newb w5 _ _ _ _) hb6; have hE6 := hE5.below hz6; have hI6 := hI5.below hz6; have hA46 := hA45.below hz6; have hA56 := hA5.below hz6; have hB6 := below_next hB5 hz6) | (go_at_call 11; refine (begun_true _).mono ?_; rintro e w7 ⟨rfl, hb7⟩; have hz7 := below_next (below2 _ _) hb7; have to7 := two_next to6 hz7; have tg7 := two_next tg6 hz7; have hB7 := below_next hB6 hz7; obtain ⟨f1, f2⟩ := cell_two to7; obtain ⟨f3, f4⟩ := cell_two tg7) | (go_at_call 13; refine (kept_true n _ _ es _ ?_ ?_).mono ?_; exact hE6.below hz7; exact EdgesAt.below HE.out hB7; rintro e w8 ⟨rfl, hb8⟩; have hz8 := below_next hz7 hb8; have hB8 := below_next hB6 hz8; have f5 := cell_of_one (one_next tn6 hz8)) | (go_at_call 18; refine (ints_true _ _ l _ ?_ ?_).mono ?_; exact hI6.below hz8; exact IntsAt.below HI.out hB8; rintro e w9 ⟨rfl, hb9⟩; have hz9 := below_next hz8 hb9; have hy9 := below_next (below_next hb7 hb8) hb9))
    have tg9 := two_next tg6 hz9
    have tn9 := one_next tn6 hz9
    have tw9 := two_next tw6 hz9
    have ta9 := two_next ta6 hz9
    have tf9 := two_next tf6 hz9
    have tb9 := two_next tb6 hz9
    have te9 := two_next te6 hz9
    have tc9 := two_next (two_alloc (two_new w6 (.int .i64 C.n) (.slice lo6 C.es.length lc6) 24) (Obj.cells #[.int .i64 C.c, .int .i64 C.pos] 27)) hy9
    have th9 := two_next (two_newb w6 (Obj.cells #[.int .i64 C.n, .slice lo6 C.es.length lc6] 24) (.int .i64 C.c) (.int .i64 C.pos) 27) hy9
    have hX4 := hA46.below hz9
    have hX5 := hA56.below hz9
    have hX6 := (hA6.below (below2 _ _)).below hy9
    have hB9 := below_next hB6 hz9
    generalize w3.heap.size = bw at tw9 ⊢
    generalize w4.heap.size = ba at ta9 tf9 ⊢
    generalize w5.heap.size = bb at tb9 te9 ⊢
    generalize w6.heap.size = bk at tc9 th9 ⊢
    clear a1 a2 a3 a4 a5 a6 b1 b2 b3 b4 b5 b6 d1 d2 d3 d4 d5 d6 e1 e2 e3 e4 e5 e6 f1 f2 f3 f4 f5 tgc tnc toc hEc hBc hIm tg3 tn3 to3 hE3 hI3 hB3 tg4 tn4 to4 tw4 hE4 hI4 hB4 tg5 tn5 to5 tw5 ta5 tf5 hE5 hI5 hA45 hB5 tg6 tn6 to6 tw6 ta6 tf6 tb6 te6 hE6 hI6 hA46 hA56 hB6 to7 tg7 hB7 hB8 hz4 hz5 hz6 hz7 hz8 hz9 hy9 hb3 hb4 hb5 hb6 hb7 hb8 hb9 hA4 hA5 hA6
    obtain ⟨p1, p2⟩ := cell_two tw9
    obtain ⟨p3, p4⟩ := cell_two ta9
    obtain ⟨p5, p6⟩ := cell_two tf9
    obtain ⟨p7, p8⟩ := cell_two tb9
    obtain ⟨p9, p10⟩ := cell_two te9
    obtain ⟨p11, p12⟩ := cell_two tc9
    obtain ⟨p13, p14⟩ := cell_two th9
    rcases H5.out with ⟨hc, rfl, rfl, rfl⟩ | ⟨rfl, rfl, m, rfl, hm, hl, hgood, rfl, rfl, hcase⟩
    · have hc1 : (c != 0) = true := by simpa using hc
      have heq := eql27 c d
      go_wp2
      go_ret
      exact ⟨rfl, hB9⟩
    · clear p1 p2 p3 p4 p5 p6 p7 p8 p9 p10 p11 p12 p13 p14
      obtain ⟨r1, r2⟩ := cell_two tw9
      obtain ⟨r3, r4⟩ := cell_two tg9
      have hEg := EdgesAt.below HE.out hB9
      go_upto_region 12 with (go_at_call 14; refine (gridOf_any m _ es _ hEg hm hl hgood).mono ?_; rintro e w10 ⟨hb10, to, tc, rfl, hG⟩)
      have q10 := below_next hb10 (below_alloc (Below.refl _ _) (Obj.cells #[.slice to m tc] 37))
      have tg := two_next tg9 q10
      have tn := one_next tn9 q10
      have ta := two_next ta9 q10
      have tf := two_next tf9 q10
      have tb := two_next tb9 q10
      have te := two_next te9 q10
      have tk := two_next tc9 q10
      have th := two_next th9 q10
      have tt : One (w10.alloc (Obj.cells #[.slice to m tc] 37)) w10.heap.size (.slice to m tc) 37 := heap_alloc_new _ _
      have hGV := hG.below (below_alloc (Below.refl _ _) (Obj.cells #[.slice to m tc] 37))
      have hY4 := hX4.below q10
      have hY5 := hX5.below q10
      have hY6 := hX6.below q10
      have hBV := below_next hB9 q10
      generalize w10.heap.size = bt at tt ⊢
      generalize w10.alloc (Obj.cells #[.slice to m tc] 37) = V at tg tn ta tf tb te tk th tt hGV hY4 hY5 hY6 hBV ⊢
      clear q10 hb10 hG tg9 tn9 tw9 ta9 tf9 tb9 te9 tc9 th9 hX4 hX5 hX6 hB9 r1 r2 r3 r4 hEg hgood
      obtain ⟨r3, r4⟩ := cell_two tg
      have hne := neq27
      have hfd := field1
      go_upto_region 16 with (first | (go_at_call 22; refine (small_tells m 23 #[.pointer (some ⟨bt, 0, none⟩)] (fun u v => !hasB es u v) _ hm enter23 ?_).mono ?_; exact fun w' hw' u v h1 h2 => complRef_call (B := bt) (to := to) (tc := tc) (m := m) ((hw'.cell (lt_of_block tt)).trans (cell_of_one tt)) (hGV.below hw') (by omega) h2 hm; rintro e w11 ⟨hb11, xo, xc, rfl, hX, _⟩; obtain ⟨g1, g2, g3, g4, g5, g6⟩ := k2 (two_next tf hb11); obtain ⟨h1, h2, h3, h4, h5, h6⟩ := k2 (two_next ta hb11)) | (go_at_call 15; refine (same_true _ _ _ (buildS m (fun u v => !hasB es u v)).es _ ?_ ?_).mono ?_; exact (hY4.below hb11).below (below2 _ _); exact hX.below (below2 _ _); rintro e w12 ⟨rfl, hb12⟩; have hz12 := below_next (below_next hb11 (below2 _ _)) hb12; have tx12 := two_next (two_alloc (two_new w11 _ _ _) _) hb12; have tu12 := two_next (two_newb w11 _ _ _ _) hb12; have s1 := cell_of_one (one_next tt hz12)) | (go_at_call 16; refine (ofGrid_any m _ _ (hasB es) _ ?_ hm).mono ?_; exact hGV.below hz12; rintro e w13 ⟨hb13, oo, oc, rfl, hL⟩))
      have hqL := below_next hz12 (below_next hb13 (below_alloc (Below.refl _ _) (Obj.cells #[.slice oo (allP m (hasB es)).length oc] 22)))
      have hq12 := below_next hb13 (below_alloc (Below.refl _ _) (Obj.cells #[.slice oo (allP m (hasB es)).length oc] 22))
      have tx := two_next tx12 hq12
      have tu := two_next tu12 hq12
      have tl : One (w13.alloc (Obj.cells #[.slice oo (allP m (hasB es)).length oc] 22)) w13.heap.size (.slice oo (allP m (hasB es)).length oc) 22 := heap_alloc_new _ _
      have hLV := hL.below (below_alloc (Below.refl _ _) (Obj.cells #[.slice oo (allP m (hasB es)).length oc] 22))
      have hVx : V.heap.size ≤ w11.heap.size := hb11.size
      generalize w11.heap.size = bx at tx tu hVx ⊢
      generalize w13.heap.size = bl at tl ⊢
      generalize w13.alloc (Obj.cells #[.slice oo (allP m (hasB es)).length oc] 22) = U at hqL tx tu tl hLV ⊢
      clear g1 g2 g3 g4 g5 g6 h1 h2 h3 h4 h5 h6 hX tx12 tu12 s1 hb11 hb12 hb13 hz12 hq12 r3 r4 hL hY4 ta tf
      generalize hLL : allP m (hasB es) = L at tl hLV hY5 tb te ⊢
      clear hLL
      have s1 := cell_of_one tl
      go_upto_if 118 with fail
      go_cut [4] from 18 (fun s4 wc => s4 = .bool false ∧ Below V.heap.size V wc ∧ ∃ yo yc, Two wc bx (.int .i64 (buildS L.length (lineP L)).n) (.slice yo (buildS L.length (lineP L)).es.length yc) 24 ∧ Two wc (bx + 1) (.int .i64 (buildS L.length (lineP L)).c) (.int .i64 (buildS L.length (lineP L)).pos) 27 ∧ EdgesAt wc (.slice yo (buildS L.length (lineP L)).es.length yc) (buildS L.length (lineP L)).es)
      case first =>
        by_cases hbig : 100 < L.length
        · have hbig' : (100 : Int) < (L.length : Int) := by omega
          have hS := buildS_many (p := lineP L) (Or.inl hbig)
          have HS : Hid _ := hS
          clear hS
          go_wp2_with (go_at_call 17; refine (refF_any _ _ _).mono ?_; rintro e w14 ⟨rfl, hb14⟩; have tx14 := two_next tx hb14; have tu14 := two_next tu hb14; obtain ⟨g1, g2⟩ := cell_two tx14; obtain ⟨g3, g4⟩ := cell_two tu14; have g5 := free_two tx14; have g6 := free_two tu14)
          go_meet
          case rel =>
            rw [HS.out]
            obtain ⟨j1, j2⟩ := xu_block tx14 tu14 (.int .i64 0) (.slice none 0 0) (.int .i64 2) (.int .i64 0)
            exact ⟨rfl, below_set4 (below_next hqL hb14) hVx hVx (by simp; omega) (by simp; omega), none, 0, j1, j2, edgesAt_nil _⟩
        · have hbig' : ¬ (100 : Int) < (L.length : Int) := by omega
          go_wp2_with (go_at_call 22; refine (small_tells L.length 24 #[.pointer (some ⟨bl, 0, none⟩)] (lineP L) _ (by omega) enter24 ?_).mono ?_; exact fun w' hw' u v h1 h2 => lineRef_call (B := bl) ((hw'.cell (lt_of_block tl)).trans s1) (hLV.below hw') (by omega) h2; rintro e w14 ⟨hb14, yo, yc, rfl, hY, hfr⟩; have tx14 := two_next tx hb14; have tu14 := two_next tu hb14; obtain ⟨g1, g2⟩ := cell_two tx14; obtain ⟨g3, g4⟩ := cell_two tu14; have g5 := free_two tx14; have g6 := free_two tu14)
          go_meet
          case rel =>
            obtain ⟨j1, j2⟩ := xu_block tx14 tu14 (.int .i64 (buildS L.length (lineP L)).n) (.slice yo (buildS L.length (lineP L)).es.length yc) (.int .i64 (buildS L.length (lineP L)).c) (.int .i64 (buildS L.length (lineP L)).pos)
            have lx := lt_of_block tx
            have lu := lt_of_block tu
            have q : ∀ x, yo = some x → bx + 1 < x.block := fun x hx => by have := hfr x hx; omega
            exact ⟨rfl, below_set4 (below_next hqL hb14) hVx hVx (by simp; omega) (by simp; omega), yo, yc, j1, j2, (((hY.setCell (fun x hx => by have := q x hx; simp; omega) _).setCell (fun x hx => by have := q x hx; simp; omega) _).setCell (fun x hx => by have := q x hx; simp; omega) _).setCell (fun x hx => by have := q x hx; simp; omega) _⟩
      case rest =>
        obtain ⟨rfl, hbc, yo, yc, txc, tuc, hYc⟩ := hcut
        obtain ⟨g1, g2⟩ := cell_two (two_next te hbc)
        obtain ⟨g3, g4⟩ := cell_two tuc
        obtain ⟨g5, g6⟩ := cell_two (two_next tb hbc)
        obtain ⟨g7, g8⟩ := cell_two txc
        clear s1 tl hLV tx tu hqL
        go_upto_region 22 with (go_at_call 15; refine (same_true _ _ _ (buildS L.length (lineP L)).es _ ?_ ?_).mono ?_; exact hY5.below hbc; exact hYc; rintro e w15 ⟨rfl, hb15⟩; have tx15 := two_next txc hb15; have tu15 := two_next tuc hb15; obtain ⟨i1, i2⟩ := cell_two tx15; have i3 := free_two tx15)
        have hbY : Below V.heap.size V ((w15.setCell ⟨bx, 0, none⟩ (.int .i64 0)).setCell ⟨bx, 1, none⟩ (.slice none 0 0)) := ((below_next hbc hb15).setCell hVx _).setCell hVx _
        obtain ⟨txY, tuY⟩ := x_block tx15 tu15 (.int .i64 0) (.slice none 0 0)
        generalize (w15.setCell ⟨bx, 0, none⟩ (.int .i64 0)).setCell ⟨bx, 1, none⟩ (.slice none 0 0) = Y at hbY txY tuY ⊢
        clear g1 g2 g3 g4 g5 g6 g7 g8 i1 i2 i3 tx15 tu15 hb15 txc tuc hYc hbc
        obtain ⟨g1, g2⟩ := cell_two (two_next tg hbY)
        have g3 := cell_of_one (one_next tn hbY)
        have hIY := IntsAt.below HI.out (below_next hBV hbY)
        go_upto_region 23 with (go_at_call 25; refine (indFault_any m _ _ l _ hIY hm).mono ?_; rintro e w16 ⟨rfl, hb16⟩; have tx16 := two_next txY hb16; have tu16 := two_next tuY hb16; obtain ⟨i1, i2⟩ := cell_two tu16; have i3 := free_two tu16)
        have hbZ : Below V.heap.size V ((w16.setCell ⟨bx + 1, 0, none⟩ (.int .i64 (nmFrom m [] l).1)).setCell ⟨bx + 1, 1, none⟩ (.int .i64 (nmFrom m [] l).2)) := ((below_next hbY hb16).setCell (by simp; omega) _).setCell (by simp; omega) _
        obtain ⟨txZ, tuZ⟩ := u_block tx16 tu16 (.int .i64 (nmFrom m [] l).1) (.int .i64 (nmFrom m [] l).2)
        generalize (w16.setCell ⟨bx + 1, 0, none⟩ (.int .i64 (nmFrom m [] l).1)).setCell ⟨bx + 1, 1, none⟩ (.int .i64 (nmFrom m [] l).2) = Z at hbZ txZ tuZ ⊢
        clear g1 g2 g3 i1 i2 i3 tx16 tu16 hb16 txY tuY hbY hIY
        obtain ⟨g1, g2⟩ := cell_two tuZ
        have heq := eql27
        rcases hcase with ⟨hf0, hl100, hrange, hnm, rfl⟩ | ⟨hf0, rfl⟩
        · have g3 := cell_of_one (one_next tn hbZ)
          have hIZ := IntsAt.below HI.out (below_next hBV hbZ)
          have hf1 : ((nmFrom m [] l).1 == 0) = true := by simpa using hf0
          obtain ⟨g4, g5⟩ := cell_two txZ
          have g6 := free_two txZ
          have g7 := free_two tuZ
          go_upto_region 25 with (go_at_call 22; refine (small_tells l.length 26 #[.pointer (some ⟨bt, 0, none⟩), .pointer (some ⟨w.heap.size + 1, 0, none⟩)] (indP es l) _ hl100 enter26 ?_).mono ?_; exact fun w' hw' u v h1 h2 => indRef_call (Bt := bt) (Bn := w.heap.size + 1) (to := to) (no := no) (nc := nc) (tc := tc) (m := m) ((hw'.cell (lt_of_block (one_next tt hbZ))).trans (cell_of_one (one_next tt hbZ))) ((hw'.cell (lt_of_block (one_next tn hbZ))).trans g3) ((hGV.below hbZ).below hw') (hIZ.below hw') hrange (by omega) h2 hm; rintro e w17 ⟨hb17, zo, zc, rfl, hW, hfr⟩; have tx17 := two_next txZ hb17; have tu17 := two_next tuZ hb17; obtain ⟨i1, i2⟩ := cell_two tx17; obtain ⟨i4, i5⟩ := cell_two tu17; have i3 := free_two tx17; have i6 := free_two tu17)
          have hbT := below_set4 (below_next hbZ hb17) (a := ⟨bx, 0, none⟩) (b := ⟨bx, 1, none⟩) (c := ⟨bx + 1, 0, none⟩) (d := ⟨bx + 1, 1, none⟩) (x := .int .i64 (buildS l.length (indP es l)).n) (y := .slice zo (buildS l.length (indP es l)).es.length zc) (z := .int .i64 (buildS l.length (indP es l)).c) (u := .int .i64 (buildS l.length (indP es l)).pos) hVx hVx (by simp; omega) (by simp; omega)
          obtain ⟨j1, j2⟩ := xu_block tx17 tu17 (.int .i64 (buildS l.length (indP es l)).n) (.slice zo (buildS l.length (indP es l)).es.length zc) (.int .i64 (buildS l.length (indP es l)).c) (.int .i64 (buildS l.length (indP es l)).pos)
          have lx := lt_of_block txZ
          have lu := lt_of_block tuZ
          have q : ∀ x, zo = some x → bx + 1 < x.block := fun x hx => by have := hfr x hx; omega
          have hWT := (((hW.setCell (p := ⟨bx, 0, none⟩) (fun x hx => by have := q x hx; simp; omega) (.int .i64 (buildS l.length (indP es l)).n)).setCell (p := ⟨bx, 1, none⟩) (fun x hx => by have := q x hx; simp; omega) (.slice zo (buildS l.length (indP es l)).es.length zc)).setCell (p := ⟨bx + 1, 0, none⟩) (fun x hx => by have := q x hx; simp; omega) (.int .i64 (buildS l.length (indP es l)).c)).setCell (p := ⟨bx + 1, 1, none⟩) (fun x hx => by have := q x hx; simp; omega) (.int .i64 (buildS l.length (indP es l)).pos)
          generalize (((w17.setCell ⟨bx, 0, none⟩ (.int .i64 (buildS l.length (indP es l)).n)).setCell ⟨bx, 1, none⟩ (.slice zo (buildS l.length (indP es l)).es.length zc)).setCell ⟨bx + 1, 0, none⟩ (.int .i64 (buildS l.length (indP es l)).c)).setCell ⟨bx + 1, 1, none⟩ (.int .i64 (buildS l.length (indP es l)).pos) = T at hbT j1 j2 hWT ⊢
          clear i1 i2 i3 i4 i5 i6 g1 g2 g3 g4 g5 g6 g7 tx17 tu17 hb17 hW
          obtain ⟨k1, k2'⟩ := cell_two (two_next th hbT)
          obtain ⟨k3, k4⟩ := cell_two j2
          obtain ⟨k5, k6⟩ := cell_two (two_next tk hbT)
          obtain ⟨k7, k8⟩ := cell_two j1
          go_wp2_with (go_at_call 15; refine (same_true _ _ _ (buildS l.length (indP es l)).es _ ?_ ?_).mono ?_; exact hY6.below hbT; exact hWT; rintro e w18 ⟨rfl, hb18⟩)
          go_ret
          exact ⟨rfl, below_next (below_next hBV hbT) hb18⟩
        · have hf1 : ((nmFrom m [] l).1 == 0) = false := by simpa using hf0
          obtain ⟨k1, k2'⟩ := cell_two (two_next th hbZ)
          obtain ⟨k5, k6⟩ := cell_two (two_next tk hbZ)
          obtain ⟨k7, k8⟩ := cell_two txZ
          go_wp2_with (go_at_call 15; refine (same_true _ _ _ [] _ ?_ ?_).mono ?_; exact hY6.below hbZ; exact edgesAt_nil _; rintro e w18 ⟨rfl, hb18⟩)
          go_ret
          exact ⟨rfl, below_next (below_next hBV hbZ) hb18⟩
end Go.Proofs.Ytmbhmahclfdgnaa
