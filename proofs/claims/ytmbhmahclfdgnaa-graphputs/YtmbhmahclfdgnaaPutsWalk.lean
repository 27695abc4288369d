/- The walk of GraphPuts: it answers true, and what was there stays. -/
import Derived.Test.YtmbhmahclfdgnaaPutsParts
import Derived.Deep.Cut
import Derived.Deep.Light
namespace Go.Proofs.Ytmbhmahclfdgnaa
open Go.RowKit Go.Maps
attribute [local go_sem ↓] Go.wp_at_zero Go.wp_at_succ

theorem join_as {na nb : Int} {va vb : Value} {ea eb : List Pair} {w : World} (hA : EdgesAt w va ea) (hB : EdgesAt w vb eb) {a : Ans} (h : joinS na ea nb eb = a) : Tells 27 #[.agg #[.int .i64 na, va], .agg #[.int .i64 nb, vb]] w a := h ▸ join_tells na nb va vb ea eb w hA hB
theorem prod_as {na nb : Int} {va vb : Value} {ea eb : List Pair} {w : World} (hA : EdgesAt w va ea) (hB : EdgesAt w vb eb) {a : Ans} (h : prodS na ea nb eb = a) : Tells 28 #[.agg #[.int .i64 na, va], .agg #[.int .i64 nb, vb]] w a := h ▸ prod_tells na nb va vb ea eb w hA hB

theorem small_tells' {N : Int} (n : Nat) (hN : N = n) (F : FuncId) (caps : Array Value) (p : Int → Int → Bool) (w : World) (hm : n ≤ 100) (hF : ∀ args w', (callFunc F args).run Try.prog w' = .ok (.enter F args) w')
    (hnear : ∀ w', Below w.heap.size w w' → ∀ u v : Nat, u < v → v < n → Calls Try.prog F (#[.int .i64 u, .int .i64 v] ++ caps) w' fun e w'' => e = .returned (.bool (p u v)) ∧ Below w'.heap.size w' w'') :
    Tells 22 #[.int .i64 N, .func (.func F) #[] caps] w (buildS n p) := by
  subst hN
  exact small_tells n F caps p w hm hF hnear

theorem EdgesAt.set4 {w : World} {ao : Option Addr} {n cap : Nat} {es : List Pair} (h : EdgesAt w (.slice ao n cap) es) {b c : Nat} (hb : ∀ x, ao = some x → x.block ≠ b ∧ x.block ≠ c) (x y z u : Value) :
    EdgesAt ((((w.setCell ⟨b, 0, none⟩ x).setCell ⟨b, 1, none⟩ y).setCell ⟨c, 0, none⟩ z).setCell ⟨c, 1, none⟩ u) (.slice ao n cap) es :=
  (h.set2 (fun x hx => (hb x hx).1) _ _).set2 (fun x hx => (hb x hx).2) _ _

set_option maxRecDepth 100000 in
set_option maxHeartbeats 40000000 in
theorem puts_walk (n m : Int) (ao bo : Option Addr) (ca cb : Nat) (es fs : List Pair) (w : World) (hE : EdgesAt w (.slice ao es.length ca) es) (hF : EdgesAt w (.slice bo fs.length cb) fs) (hca : es.length ≤ ca) (hcb : fs.length ≤ cb)
    {c1 d1 c2 d2 c d : Int} {A B : Ans} (hk1 : chk n es = (c1, d1)) (hk2 : chk m fs = (c2, d2)) (hcd : (c1 = 0 ∧ c = c2 ∧ d = d2) ∨ (c1 ≠ 0 ∧ c = c1 ∧ d = d1)) (hA : joinS n es m fs = A) (hB : prodS n es m fs = B)
    (hcase : (c ≠ 0 ∧ A = ⟨0, [], c, d⟩ ∧ B = ⟨0, [], c, d⟩) ∨ (c = 0 ∧ d = 0 ∧ ∃ ma mb : Nat, n = ma ∧ m = mb ∧ ma ≤ 100 ∧ mb ≤ 100 ∧ es.length ≤ 1000 ∧ fs.length ≤ 1000 ∧ (∀ e ∈ es, (0 ≤ e.1 ∧ e.1 < ma ∧ 0 ≤ e.2 ∧ e.2 < ma) ∧ e.1 ≠ e.2) ∧ (∀ e ∈ fs, (0 ≤ e.1 ∧ e.1 < mb ∧ 0 ≤ e.2 ∧ e.2 < mb) ∧ e.1 ≠ e.2) ∧ A = buildS (ma + mb) (joinP ma es fs) ∧ B = buildS (ma * mb) (prodP mb es fs))) :
    Calls Try.prog 5 #[.agg #[.int .i64 n, .slice ao es.length ca], .agg #[.int .i64 m, .slice bo fs.length cb]] w fun e w' => e = .returned (.bool true) ∧ Below w.heap.size w w' := by
  have HE : Hid _ := hE
  have HF : Hid _ := hF
  have K1 : Hid _ := hk1
  have K2 : Hid _ := hk2
  have KC : Hid _ := hcd
  have JA : Hid _ := hA
  have JB : Hid _ := hB
  have HC : Hid _ := hcase
  clear hE hF hk1 hk2 hcd hA hB hcase
  have ta := two_alloc (two_new w (.int .i64 n) (.slice ao es.length ca) 24) (Obj.cells #[.int .i64 m, .slice bo fs.length cb] 24)
  have tb : Two ((w.alloc (Obj.cells #[.int .i64 n, .slice ao es.length ca] 24)).alloc (Obj.cells #[.int .i64 m, .slice bo fs.length cb] 24)) (w.heap.size + 1) (.int .i64 m) (.slice bo fs.length cb) 24 := by simpa [Two] using heap_alloc_new (w.alloc (Obj.cells #[.int .i64 n, .slice ao es.length ca] 24)) (Obj.cells #[.int .i64 m, .slice bo fs.length cb] 24)
  have hB : Below w.heap.size w ((w.alloc (Obj.cells #[.int .i64 n, .slice ao es.length ca] 24)).alloc (Obj.cells #[.int .i64 m, .slice bo fs.length cb] 24)) := below2 _ _
  go_enter Try.func5, Try.ntmps5
  go_upto_region 1 with fail
  generalize (w.alloc (Obj.cells #[.int .i64 n, .slice ao es.length ca] 24)).alloc (Obj.cells #[.int .i64 m, .slice bo fs.length cb] 24) = W at ta tb hB ⊢
  generalize w.heap.size + 1 = bb at tb ⊢
  generalize w.heap.size = ba at ta ⊢
  have hEW := EdgesAt.below HE.out hB
  have hFW := EdgesAt.below HF.out hB
  have ka := cell_two ta
  have kb := cell_two tb
  obtain ⟨ka0, ka1⟩ := ka
  obtain ⟨kb0, kb1⟩ := kb
  have HEW : Hid _ := hEW
  have HFW : Hid _ := hFW
  have HB : Hid _ := hB
  have TA : Hid _ := ta
  have TB : Hid _ := tb
  clear hEW hFW hB ta tb
  go_cut [5, 6] from 16 (fun s5 s6 wc => Below W.heap.size W wc ∧ ∃ b5 b6 ao1 c1 ao2 c2, s5 = .pointer (some ⟨b5, 0, none⟩) ∧ s6 = .pointer (some ⟨b6, 0, none⟩) ∧ es.length ≤ c1 ∧ fs.length ≤ c2 ∧ Packed2 wc b5 b6 n m ao1 ao2 c1 c2 es fs)
  case first =>
    go_region_held3 (fun w' => Below W.heap.size W w' ∧ w'.cell? ⟨ba, 0, none⟩ = some (.int .i64 n) ∧ w'.cell? ⟨ba, 1, none⟩ = some (.slice ao es.length ca) ∧ w'.cell? ⟨bb, 0, none⟩ = some (.int .i64 m) ∧ w'.cell? ⟨bb, 1, none⟩ = some (.slice bo fs.length cb))
      (((try go_split_ands); (with_reducible refine keep2 TA.out TB.out ?_); (repeat (first | with_reducible exact G2 | with_reducible exact G1 | with_reducible assumption | with_reducible refine Below.drew ?_ | with_reducible exact Below.refl _ _ | with_reducible refine below_alloc ?_ _ | with_reducible refine Below.setCell ?_ (by first | exact Nat.le_refl _ | (simp <;> omega)) _))))
      ((go_at_call 7; refine (own_at _ _ _ _ _ ?_).mono ?_; (first | (exact EdgesAt.below HEW.out (by (try go_split_ands); first | assumption | exact (Below.refl _ _).drew); rintro e w1 ⟨hb1, ao1, c1, rfl, hE1, hcap1, hfr1⟩; have G1 : Below W.heap.size W w1 := (by (try go_split_ands); first | exact below_next ‹_› hb1 | exact below_next (Below.refl _ _).drew hb1); have hz1 := hb1.size; (try simp at hz1); have E1 : Hid _ := hE1; have F1 : Hid _ := hfr1; clear hE1 hfr1; (first | (with_reducible have t5 := two_next (two_drew (two_alloc (two_new W (.int .i64 0) (.slice none 0 0) 24) (Obj.cells #[.int .i64 0, .slice none 0 0] 24))) hb1; with_reducible have t6 := two_next (two_drew (two_newb W _ (.int .i64 0) (.slice none 0 0) 24)) hb1) | (with_reducible have t5 := two_next (two_drew (two_new W (.int .i64 0) (.slice none 0 0) 24)) hb1) | skip)) | (exact EdgesAt.below HFW.out (by (try go_split_ands); first | assumption | exact (Below.refl _ _).drew); rintro e w2 ⟨hb2, ao2, c2, rfl, hE2, hcap2, hfr2⟩; have G2 : Below W.heap.size W w2 := (by first | with_reducible exact below_next G1 hb2 | with_reducible exact below_next (below_alloc G1 _) hb2 | with_reducible exact below_next (below_alloc (below_alloc G1 _) _) hb2); have hz2 := hb2.size; (try simp at hz2); have E2 : Hid _ := hE2; have F2 : Hid _ := hfr2; clear hE2 hfr2; have g1 : Below w1.heap.size w1 w2 := (by first | with_reducible exact hb2 | with_reducible exact below_next (below_alloc (Below.refl _ _) _) hb2 | with_reducible exact below_next (below2 _ _) hb2); have E3 : Hid _ := (EdgesAt.below E1.out g1); (first | (with_reducible have u5 := two_next t5 hb2; with_reducible have u6 := two_next t6 hb2; obtain ⟨a1, a2, a3, a4, a5, a6, a7, a8, a9⟩ := kkT u5; obtain ⟨d1, d2, d3, d4, d5, d6, d7, d8, d9⟩ := kkT u6; obtain ⟨p1, p2, p3⟩ := kapart u5 u6 (by omega); obtain ⟨p4, p5, p6⟩ := kapart u6 u5 (by omega)) | (with_reducible have u5 := two_next (two_alloc t5 (Obj.cells #[.int .i64 0, .slice none 0 0] 24)) hb2; with_reducible have u6 := two_next (two_new w1 (.int .i64 0) (.slice none 0 0) 24) hb2; obtain ⟨a1, a2, a3, a4, a5, a6, a7, a8, a9⟩ := kkT u5; obtain ⟨d1, d2, d3, d4, d5, d6, d7, d8, d9⟩ := kkT u6; obtain ⟨p1, p2, p3⟩ := kapart u5 u6 (by omega); obtain ⟨p4, p5, p6⟩ := kapart u6 u5 (by omega)) | (with_reducible have u5 := two_next t5 hb2; obtain ⟨a1, a2, a3, a4, a5, a6, a7, a8, a9⟩ := kkT u5) | (with_reducible have u5 := two_next (two_alloc (two_new w1 (.int .i64 0) (.slice none 0 0) 24) (Obj.cells #[.int .i64 0, .slice none 0 0] 24)) hb2; with_reducible have u6 := two_next (two_newb w1 _ (.int .i64 0) (.slice none 0 0) 24) hb2; obtain ⟨a1, a2, a3, a4, a5, a6, a7, a8, a9⟩ := kkT u5; obtain ⟨d1, d2, d3, d4, d5, d6, d7, d8, d9⟩ := kkT u6; obtain ⟨p1, p2, p3⟩ := kapart u5 u6 (by omega); obtain ⟨p4, p5, p6⟩ := kapart u6 u5 (by omega)) | (with_reducible have u5 := two_next (two_new w1 (.int .i64 0) (.slice none 0 0) 24) hb2; obtain ⟨a1, a2, a3, a4, a5, a6, a7, a8, a9⟩ := kkT u5) | skip)))))
    all_goals
      go_split_ands
      go_wp2_with fail
      go_meet
      case rel =>
        refine ⟨by assumption, _, _, ao1, c1, ao2, c2, rfl, rfl, hcap1, hcap2, ?_⟩
        have e3 : EdgesAt w2 (.slice ao1 es.length c1) es := E3.out
        have e2 : EdgesAt w2 (.slice ao2 fs.length c2) fs := E2.out
        have F1' := F1.out
        have F2' := F2.out
        (try simp at F1')
        (try simp at F2')
        first
          | with_reducible exact packD1 e3 e2
          | with_reducible exact packD2 e3 e2
          | with_reducible exact packA (two_alloc u5 _) (two_new w2 _ _ _) (by omega) (e3.below (below_alloc (Below.refl _ _) _)) (fun x hx => by have := F1' x hx; constructor <;> omega) (e2.below (below_alloc (Below.refl _ _) _)) (fun x hx => by have := F2' x hx; constructor <;> omega)
          | with_reducible exact packC2 u5 e3 (fun x hx => by have := F1' x hx; omega) e2 (fun x hx => by have := F2' x hx; omega)
          | with_reducible exact packA u5 u6 (by omega) e3 (fun x hx => by have := F1' x hx; constructor <;> omega) e2 (fun x hx => by have := F2' x hx; constructor <;> omega)
          | with_reducible exact packA u6 u5 (by omega) e3 (fun x hx => by have := F1' x hx; constructor <;> omega) e2 (fun x hx => by have := F2' x hx; constructor <;> omega)
  case rest =>
    clear ka0 ka1 kb0 kb1 HEW HFW
    obtain ⟨hbc, b5, b6, ao1, c1', ao2, c2', rfl, rfl, hq1, hq2, tp, tq, ep, eq⟩ := hcut
    have hBw := below_next HB.out hbc
    have ta := two_next TA.out hbc
    have tb := two_next TB.out hbc
    clear HB TA TB hbc
    obtain ⟨a1, a2⟩ := cell_two ta
    go_upto_region 3 with (go_at_call 8; refine (refCheck_as ?_ hca K1.out).mono ?_; exact EdgesAt.below HE.out hBw; rintro e w3 ⟨rfl, hb3⟩)
    have ta3 := two_next ta hb3
    have tb3 := two_next tb hb3
    have tp3 := two_next tp hb3
    have tq3 := two_next tq hb3
    have ep3 := ep.below hb3
    have eq3 := eq.below hb3
    have hB3 := below_next hBw hb3
    have tw3 := two_new w3 (.int .i64 c1) (.int .i64 d1) 27
    clear a1 a2 ta tb tp tq ep eq hBw hb3
    obtain ⟨a1, a2⟩ := cell_two (two_alloc tb3 (Obj.cells #[.int .i64 c1, .int .i64 d1] 27))
    go_upto_if 24 with fail
    go_cut [4] from 20 (fun s4 wx => s4 = .bool false ∧ Below w3.heap.size w3 wx ∧ Two wx w3.heap.size (.int .i64 c) (.int .i64 d) 27)
    case first =>
      rcases KC.out with ⟨rfl, rfl, rfl⟩ | ⟨h0, rfl, rfl⟩
      · go_wp2_with (go_at_call 8; refine (refCheck_as ?_ hcb K2.out).mono ?_; exact EdgesAt.below HF.out (below_next hB3 (below_alloc (Below.refl _ _) _)); rintro e w4 ⟨rfl, hb4⟩; have tw4 := two_next tw3 hb4; obtain ⟨g1, g2⟩ := cell_two tw4; have g3 := free_two tw4)
        go_meet
        case rel => exact ⟨rfl, ((below_next (below_alloc (Below.refl _ _) _) hb4).setCell (Nat.le_refl _) _).setCell (Nat.le_refl _) _, two_set tw4 _ _⟩
      · have h1 : (c == 0) = false := by simpa using h0
        go_wp2_with fail
        go_meet
        case rel => exact ⟨rfl, below_alloc (Below.refl _ _) _, tw3⟩
    case rest =>
      obtain ⟨rfl, hb4, tw4⟩ := hcut
      have ta4 := two_next ta3 hb4
      have tb4 := two_next tb3 hb4
      have tp4 := two_next tp3 hb4
      have tq4 := two_next tq3 hb4
      have ep4 := ep3.below hb4
      have eq4 := eq3.below hb4
      have hB4 := below_next hB3 hb4
      clear a1 a2 ta3 tb3 tp3 tq3 ep3 eq3 hB3 hb4 tw3
      generalize w3.heap.size = bw at tw4 ⊢
      obtain ⟨a1, a2⟩ := cell_two tp4
      obtain ⟨a3, a4⟩ := cell_two tq4
      go_upto_region 6 with (go_at_call 27; refine (join_as ep4 eq4 JA.out).mono ?_; rintro e w5 ⟨hb5, xo, xc, rfl, hX, _⟩)
      have q5 := below_next hb5 (below2 (Obj.cells #[.int .i64 A.n, .slice xo A.es.length xc] 24) (Obj.cells #[.int .i64 A.c, .int .i64 A.pos] 27))
      have ta5 := two_next ta4 q5
      have tb5 := two_next tb4 q5
      have tp5 := two_next tp4 q5
      have tq5 := two_next tq4 q5
      have tw5 := two_next tw4 q5
      have ep5 := ep4.below q5
      have eq5 := eq4.below q5
      have hB5 := below_next hB4 q5
      have tx5 := two_alloc (two_new w5 (.int .i64 A.n) (.slice xo A.es.length xc) 24) (Obj.cells #[.int .i64 A.c, .int .i64 A.pos] 27)
      have tf5 := two_newb w5 (Obj.cells #[.int .i64 A.n, .slice xo A.es.length xc] 24) (.int .i64 A.c) (.int .i64 A.pos) 27
      have hX5 := hX.below (below2 (Obj.cells #[.int .i64 A.n, .slice xo A.es.length xc] 24) (Obj.cells #[.int .i64 A.c, .int .i64 A.pos] 27))
      generalize w5.heap.size = bx at tx5 tf5 ⊢
      generalize (w5.alloc (Obj.cells #[.int .i64 A.n, .slice xo A.es.length xc] 24)).alloc (Obj.cells #[.int .i64 A.c, .int .i64 A.pos] 27) = W5 at ta5 tb5 tp5 tq5 tw5 ep5 eq5 hB5 tx5 tf5 hX5 ⊢
      clear a1 a2 a3 a4 ta4 tb4 tp4 tq4 tw4 ep4 eq4 hB4 q5 hb5 hX
      obtain ⟨a1, a2⟩ := cell_two tp5
      obtain ⟨a3, a4⟩ := cell_two tq5
      go_upto_region 7 with (go_at_call 28; refine (prod_as ep5 eq5 JB.out).mono ?_; rintro e w6 ⟨hb6, yo, yc, rfl, hY, _⟩)
      have q6 := below_next hb6 (below2 (Obj.cells #[.int .i64 B.n, .slice yo B.es.length yc] 24) (Obj.cells #[.int .i64 B.c, .int .i64 B.pos] 27))
      have ta6 := two_next ta5 q6
      have tb6 := two_next tb5 q6
      have tp6 := two_next tp5 q6
      have tq6 := two_next tq5 q6
      have tw6 := two_next tw5 q6
      have tx6 := two_next tx5 q6
      have tf6 := two_next tf5 q6
      have ep6 := ep5.below q6
      have eq6 := eq5.below q6
      have hX6 := hX5.below q6
      have hB6 := below_next hB5 q6
      have ty6 := two_alloc (two_new w6 (.int .i64 B.n) (.slice yo B.es.length yc) 24) (Obj.cells #[.int .i64 B.c, .int .i64 B.pos] 27)
      have te6 := two_newb w6 (Obj.cells #[.int .i64 B.n, .slice yo B.es.length yc] 24) (.int .i64 B.c) (.int .i64 B.pos) 27
      have hY6 := hY.below (below2 (Obj.cells #[.int .i64 B.n, .slice yo B.es.length yc] 24) (Obj.cells #[.int .i64 B.c, .int .i64 B.pos] 27))
      generalize w6.heap.size = by6 at ty6 te6 ⊢
      generalize (w6.alloc (Obj.cells #[.int .i64 B.n, .slice yo B.es.length yc] 24)).alloc (Obj.cells #[.int .i64 B.c, .int .i64 B.pos] 27) = W6 at ta6 tb6 tp6 tq6 tw6 ep6 eq6 hB6 tx6 tf6 hX6 ty6 te6 hY6 ⊢
      clear a1 a2 a3 a4 ta5 tb5 tp5 tq5 tw5 ep5 eq5 hB5 tx5 tf5 hX5 q6 hb6 hY
      go_upto_region 9 with (first | (go_at_call 11; refine (begun_true _).mono ?_; rintro e w7 ⟨rfl, hb7⟩; obtain ⟨f1, f2⟩ := cell_two (two_next tp6 hb7); obtain ⟨f3, f4⟩ := cell_two (two_next ta6 hb7)) | (go_at_call 13; (fail_if_success (have hh := hz8)); refine (kept_true _ _ _ _ _ (ep6.below hb7) (EdgesAt.below HE.out (below_next hB6 hb7))).mono ?_; rintro e w8 ⟨rfl, hb8⟩; have hz8 := below_next hb7 hb8; obtain ⟨g1, g2⟩ := cell_two (two_next tq6 hz8); obtain ⟨g3, g4⟩ := cell_two (two_next tb6 hz8)) | (go_at_call 13; refine (kept_true _ _ _ _ _ (eq6.below hz8) (EdgesAt.below HF.out (below_next hB6 hz8))).mono ?_; rintro e w9 ⟨rfl, hb9⟩; have hz9 := below_next hz8 hb9))
      have ta := two_next ta6 hz9
      have tb := two_next tb6 hz9
      have tw := two_next tw6 hz9
      have tx := two_next tx6 hz9
      have tf := two_next tf6 hz9
      have ty := two_next ty6 hz9
      have te := two_next te6 hz9
      have hX := hX6.below hz9
      have hY := hY6.below hz9
      have hB := below_next hB6 hz9
      clear f1 f2 f3 f4 g1 g2 g3 g4 ta6 tb6 tp6 tq6 tw6 tx6 tf6 ty6 te6 ep6 eq6 hX6 hY6 hB6 hz9 hz8 hb7 hb8 hb9
      obtain ⟨p1, p2⟩ := cell_two tw
      rcases HC.out with ⟨hc, rfl, rfl⟩ | ⟨rfl, rfl, ma, mb, rfl, rfl, hma, hmb, hle, hlf, hgE, hgF, rfl, rfl⟩
      · obtain ⟨p3, p4⟩ := cell_two tx
        obtain ⟨p5, p6⟩ := cell_two tf
        obtain ⟨p7, p8⟩ := cell_two ty
        obtain ⟨p9, p10⟩ := cell_two te
        have hc1 : (c != 0) = true := by simpa using hc
        have heq := eql27 c d
        go_wp2
        go_ret
        exact ⟨rfl, hB⟩
      · have HGE : Hid _ := hgE
        have HGF : Hid _ := hgF
        clear hgE hgF K1 K2 KC JA JB HC
        go_upto_region 11 with fail
        clear p1 p2
        generalize w9 = V at ta tb tw tx tf ty te hX hY hB ⊢
        clear tw
        have HEV : Hid _ := EdgesAt.below HE.out hB
        have HFV : Hid _ := EdgesAt.below HF.out hB
        have TA : Hid _ := ta
        have TB : Hid _ := tb
        obtain ⟨p1, p2⟩ := cell_two ta
        obtain ⟨p3, p4⟩ := cell_two tb
        have HTX : Hid _ := tx
        have HTF : Hid _ := tf
        have HTY : Hid _ := ty
        have HTE : Hid _ := te
        have HHX : Hid _ := hX
        have HHY : Hid _ := hY
        have HHB : Hid _ := hB
        clear ta tb tx tf ty te hX hY hB
        go_cut [12, 13] from 53 (fun s12 s13 wc => Below V.heap.size V wc ∧ ∃ bs bt so sc to tc, s12 = .pointer (some ⟨bs, 0, none⟩) ∧ s13 = .pointer (some ⟨bt, 0, none⟩) ∧ PackedG wc bs bt ma mb so to sc tc (hasB es) (hasB fs))
        case first =>
          go_region_held3 (fun w' => Below V.heap.size V w' ∧ w'.cell? ⟨ba, 0, none⟩ = some (.int .i64 ma) ∧ w'.cell? ⟨ba, 1, none⟩ = some (.slice ao es.length ca) ∧ w'.cell? ⟨bb, 0, none⟩ = some (.int .i64 mb) ∧ w'.cell? ⟨bb, 1, none⟩ = some (.slice bo fs.length cb))
            (((try go_split_ands); (with_reducible refine keep2 TA.out TB.out ?_); (repeat (first | with_reducible exact G2 | with_reducible exact G1 | with_reducible assumption | with_reducible refine Below.drew ?_ | with_reducible exact Below.refl _ _ | with_reducible refine below_alloc ?_ _ | with_reducible refine Below.setCell ?_ (by first | exact Nat.le_refl _ | (simp <;> omega)) _))))
            (first | (go_at_call 14; (fail_if_success (have hh := G1)); refine (gridOf_any ma _ es _ (EdgesAt.below HEV.out (by (try go_split_ands); first | assumption | exact (Below.refl _ _).drew)) hma hle HGE.out).mono ?_; rintro e w1 ⟨hb1, so, sc, rfl, hG1⟩; have G1 : Below V.heap.size V w1 := (by (try go_split_ands); first | exact below_next ‹_› hb1 | exact below_next (Below.refl _ _).drew hb1); have hz1 := hb1.size; (try simp at hz1); have E1 : Hid _ := hG1; clear hG1; (first | (with_reducible have t5 := one_next (one_drew (one_alloc (one_new V (.slice none 0 0) 37) (Obj.cells #[.slice none 0 0] 37))) hb1; with_reducible have t6 := one_next (one_drew (one_newb V _ (.slice none 0 0) 37)) hb1) | (with_reducible have t5 := one_next (one_drew (one_new V (.slice none 0 0) 37)) hb1) | skip)) | (go_at_call 14; refine (gridOf_any mb _ fs _ (EdgesAt.below HFV.out (by (try go_split_ands); first | assumption | exact (Below.refl _ _).drew)) hmb hlf HGF.out).mono ?_; rintro e w2 ⟨hb2, to, tc, rfl, hG2⟩; have G2 : Below V.heap.size V w2 := (by first | with_reducible exact below_next G1 hb2 | with_reducible exact below_next (below_alloc G1 _) hb2 | with_reducible exact below_next (below_alloc (below_alloc G1 _) _) hb2); have hz2 := hb2.size; (try simp at hz2); have E2 : Hid _ := hG2; clear hG2; have g1 : Below w1.heap.size w1 w2 := (by first | with_reducible exact hb2 | with_reducible exact below_next (below_alloc (Below.refl _ _) _) hb2 | with_reducible exact below_next (below2 _ _) hb2); have E3 : Hid _ := (GridAt.below E1.out g1); (first | (with_reducible have u5 := one_next t5 hb2; with_reducible have u6 := one_next t6 hb2; obtain ⟨a1, a2, a3, a4, a5, a6⟩ := kk1 u5; obtain ⟨d1, d2, d3, d4, d5, d6⟩ := kk1 u6; obtain ⟨l1, l2⟩ := kapart1 u5 u6 (by omega); obtain ⟨l3, l4⟩ := kapart1 u6 u5 (by omega)) | (with_reducible have u5 := one_next (one_alloc t5 (Obj.cells #[.slice none 0 0] 37)) hb2; with_reducible have u6 := one_next (one_new w1 (.slice none 0 0) 37) hb2; obtain ⟨a1, a2, a3, a4, a5, a6⟩ := kk1 u5; obtain ⟨d1, d2, d3, d4, d5, d6⟩ := kk1 u6; obtain ⟨l1, l2⟩ := kapart1 u5 u6 (by omega); obtain ⟨l3, l4⟩ := kapart1 u6 u5 (by omega)) | (with_reducible have u5 := one_next t5 hb2; obtain ⟨a1, a2, a3, a4, a5, a6⟩ := kk1 u5) | (with_reducible have u5 := one_next (one_alloc (one_new w1 (.slice none 0 0) 37) (Obj.cells #[.slice none 0 0] 37)) hb2; with_reducible have u6 := one_next (one_newb w1 _ (.slice none 0 0) 37) hb2; obtain ⟨a1, a2, a3, a4, a5, a6⟩ := kk1 u5; obtain ⟨d1, d2, d3, d4, d5, d6⟩ := kk1 u6; obtain ⟨l1, l2⟩ := kapart1 u5 u6 (by omega); obtain ⟨l3, l4⟩ := kapart1 u6 u5 (by omega)) | (with_reducible have u5 := one_next (one_new w1 (.slice none 0 0) 37) hb2; obtain ⟨a1, a2, a3, a4, a5, a6⟩ := kk1 u5) | skip)))
          all_goals
            go_split_ands
            go_wp2_with fail
            go_meet
            case rel =>
              refine ⟨by assumption, _, _, so, sc, to, tc, rfl, rfl, ?_⟩
              have e3 : GridAt w2 (.slice so ma sc) ma (hasB es) := E3.out
              have e2 : GridAt w2 (.slice to mb tc) mb (hasB fs) := E2.out
              first
                | with_reducible exact gridD1 e3 e2
                | with_reducible exact gridD2 e3 e2
                | with_reducible exact gridA (one_alloc u5 _) (one_new w2 _ _) (by omega) (e3.below (below_alloc (Below.refl _ _) _)) (e2.below (below_alloc (Below.refl _ _) _))
                | with_reducible exact gridC u5 e3 e2
                | with_reducible exact gridA u5 u6 (by omega) e3 e2
                | with_reducible exact gridA u6 u5 (by omega) e3 e2
        case rest =>
          obtain ⟨hbc, bs, bt, so, sc, to, tc, rfl, rfl, ts, tt, gs, gt⟩ := hcut
          have ta := two_next TA.out hbc
          have tb := two_next TB.out hbc
          have tx := two_next HTX.out hbc
          have tf := two_next HTF.out hbc
          have ty := two_next HTY.out hbc
          have te := two_next HTE.out hbc
          have hX := EdgesAt.below HHX.out hbc
          have hY := EdgesAt.below HHY.out hbc
          have hB := below_next HHB.out hbc
          clear p1 p2 p3 p4 TA TB HTX HTF HTY HTE HHX HHY HHB HEV HFV hbc
          go_upto_region 13 with (go_at_call 17; refine (refF_any _ _ _).mono ?_; rintro e w10 ⟨rfl, hb10⟩)
          have q10 := below_next hb10 (below2 (Obj.cells #[.int .i64 0, .slice none 0 0] 24) (Obj.cells #[.int .i64 2, .int .i64 0] 27))
          have tz := two_alloc (two_new w10 (.int .i64 0) (.slice none 0 0) 24) (Obj.cells #[.int .i64 2, .int .i64 0] 27)
          have tu := two_newb w10 (Obj.cells #[.int .i64 0, .slice none 0 0] 24) (.int .i64 2) (.int .i64 0) 27
          have hz : wc.heap.size ≤ w10.heap.size := hb10.size
          generalize w10.heap.size = bz at tz tu hz ⊢
          generalize (w10.alloc (Obj.cells #[.int .i64 0, .slice none 0 0] 24)).alloc (Obj.cells #[.int .i64 2, .int .i64 0] 27) = V1 at q10 tz tu ⊢
          clear hb10
          have s1 := cell_of_one ts
          have s2 := cell_of_one tt
          have g1 := ta
          obtain ⟨r1, r2⟩ := cell_two (two_next ta q10)
          obtain ⟨r3, r4⟩ := cell_two (two_next tb q10)
          have HTS : Hid _ := ts
          have HTT : Hid _ := tt
          have HGS : Hid _ := gs
          have HGT : Hid _ := gt
          have HTA : Hid _ := ta
          have HTB : Hid _ := tb
          have HHY : Hid _ := hY
          have HTY : Hid _ := ty
          have HTE : Hid _ := te
          clear g1 ts tt gs gt s1 s2 hY ty te
          go_upto_if 93 with fail
          go_cut [4] from 53 (fun s4 wx => s4 = .bool false ∧ Below wc.heap.size wc wx ∧ ∃ zo zc, Two wx bz (.int .i64 (buildS (ma + mb) (joinP ma es fs)).n) (.slice zo (buildS (ma + mb) (joinP ma es fs)).es.length zc) 24 ∧ Two wx (bz + 1) (.int .i64 (buildS (ma + mb) (joinP ma es fs)).c) (.int .i64 (buildS (ma + mb) (joinP ma es fs)).pos) 27 ∧ EdgesAt wx (.slice zo (buildS (ma + mb) (joinP ma es fs)).es.length zc) (buildS (ma + mb) (joinP ma es fs)).es)
          case first =>
            by_cases hsm : ma + mb ≤ 100
            · have hsm' : (ma : Int) + (mb : Int) ≤ 100 := by omega
              go_wp2_with (go_at_call 22; refine (small_tells' (ma + mb) (by simp) 29 #[.pointer (some ⟨ba, 0, none⟩), .pointer (some ⟨bs, 0, none⟩), .pointer (some ⟨bt, 0, none⟩)] (joinP ma es fs) _ hsm enter29 ?_).mono ?_; exact fun w' hw' u v h1 h2 => joinRef_call (Bg := ba) (Bs := bs) (Bt := bt) hma (cell_two (two_next HTA.out (below_next q10 hw'))).1 (cell_of_one (one_next HTS.out (below_next q10 hw'))) (cell_of_one (one_next HTT.out (below_next q10 hw'))) (GridAt.below HGS.out (below_next q10 hw')) (GridAt.below HGT.out (below_next q10 hw')) (by omega) h2 hsm; rintro e w11 ⟨hb11, zo, zc, rfl, hZ, hfr⟩; have tz1 := two_next tz hb11; have tu1 := two_next tu hb11; obtain ⟨g1, g2⟩ := cell_two tz1; obtain ⟨g3, g4⟩ := cell_two tu1; have g5 := free_two tz1; have g6 := free_two tu1)
              go_meet
              case rel =>
                obtain ⟨j1, j2⟩ := xu_block tz1 tu1 (.int .i64 (buildS (ma + mb) (joinP ma es fs)).n) (.slice zo (buildS (ma + mb) (joinP ma es fs)).es.length zc) (.int .i64 (buildS (ma + mb) (joinP ma es fs)).c) (.int .i64 (buildS (ma + mb) (joinP ma es fs)).pos)
                have lz := lt_of_block tz
                have lu := lt_of_block tu
                exact ⟨rfl, below_set4 (below_next q10 hb11) hz hz (by simp; omega) (by simp; omega), zo, zc, j1, j2, hZ.set4 (fun x hx => by have := hfr x hx; constructor <;> omega) _ _ _ _⟩
            · have hsm' : ¬ (ma : Int) + (mb : Int) ≤ 100 := by omega
              have hS := buildS_many (p := joinP ma es fs) (Or.inl (show 100 < ma + mb by omega))
              have HS : Hid _ := hS
              clear hS
              go_wp2_with fail
              go_meet
              case rel =>
                rw [HS.out]
                exact ⟨rfl, q10, none, 0, tz, tu, edgesAt_nil _⟩
          case rest =>
            obtain ⟨rfl, hbd, zo, zc, tz1, tu1, eZ⟩ := hcut
            have tx1 := two_next tx hbd
            have tf1 := two_next tf hbd
            have hX1 := hX.below hbd
            obtain ⟨f1, f2⟩ := cell_two tf1
            obtain ⟨f3, f4⟩ := cell_two tu1
            obtain ⟨f5, f6⟩ := cell_two tx1
            obtain ⟨f7, f8⟩ := cell_two tz1
            have hne := neq27
            clear r1 r2 r3 r4 tz tu q10 tx tf hX
            go_upto_region 17 with (go_at_call 15; refine (same_true _ _ _ _ _ hX1 eZ).mono ?_; rintro e w12 ⟨rfl, hb12⟩)
            have hbe := below_next hbd hb12
            have tz2 := two_next tz1 hb12
            have tu2 := two_next tu1 hb12
            clear f1 f2 f3 f4 f5 f6 f7 f8 tx1 tf1 hX1 eZ tz1 tu1 hbd hb12
            generalize (buildS (ma + mb) (joinP ma es fs)) = A at tz2 tu2
            go_upto_region 18 with (go_at_call 17; refine (refF_any _ _ _).mono ?_; rintro e w13 ⟨rfl, hb13⟩; have tz3 := two_next tz2 hb13; have tu3 := two_next tu2 hb13; obtain ⟨g1, g2⟩ := cell_two tz3; obtain ⟨g3, g4⟩ := cell_two tu3; have g5 := free_two tz3; have g6 := free_two tu3)
            obtain ⟨tz4, tu4⟩ := xu_block tz3 tu3 (.int .i64 0) (.slice none 0 0) (.int .i64 2) (.int .i64 0)
            have q14 := below_set4 (below_next hbe hb13) (a := ⟨bz, 0, none⟩) (b := ⟨bz, 1, none⟩) (c := ⟨bz + 1, 0, none⟩) (d := ⟨bz + 1, 1, none⟩) hz hz (by simp; omega) (by simp; omega) (x := .int .i64 0) (y := .slice none 0 0) (z := .int .i64 2) (u := .int .i64 0)
            generalize (((w13.setCell ⟨bz, 0, none⟩ (.int .i64 0)).setCell ⟨bz, 1, none⟩ (.slice none 0 0)).setCell ⟨bz + 1, 0, none⟩ (.int .i64 2)).setCell ⟨bz + 1, 1, none⟩ (.int .i64 0) = V2 at tz4 tu4 q14 ⊢
            clear g1 g2 g3 g4 g5 g6 tz3 tu3 tz2 tu2 hb13 hbe
            obtain ⟨r1, r2⟩ := cell_two (two_next HTA.out q14)
            obtain ⟨r3, r4⟩ := cell_two (two_next HTB.out q14)
            have hm1 : (0 : Int) ≤ (ma : Int) * (mb : Int) := by rw [← Int.natCast_mul]; omega
            have hm2 : (ma : Int) * (mb : Int) ≤ 10000 := by
              have : ma * mb ≤ 100 * 100 := Nat.mul_le_mul hma hmb
              rw [← Int.natCast_mul]
              omega
            go_upto_if 120 with fail
            go_cut [4] from 53 (fun s4 wx => s4 = .bool false ∧ Below w.heap.size w wx ∧ Two wx by6 (.int .i64 (buildS (ma * mb) (prodP mb es fs)).n) (.slice yo (buildS (ma * mb) (prodP mb es fs)).es.length yc) 24 ∧ Two wx (by6 + 1) (.int .i64 (buildS (ma * mb) (prodP mb es fs)).c) (.int .i64 (buildS (ma * mb) (prodP mb es fs)).pos) 27 ∧ EdgesAt wx (.slice yo (buildS (ma * mb) (prodP mb es fs)).es.length yc) (buildS (ma * mb) (prodP mb es fs)).es ∧ ∃ zo zc, Two wx bz (.int .i64 (buildS (ma * mb) (prodP mb es fs)).n) (.slice zo (buildS (ma * mb) (prodP mb es fs)).es.length zc) 24 ∧ Two wx (bz + 1) (.int .i64 (buildS (ma * mb) (prodP mb es fs)).c) (.int .i64 (buildS (ma * mb) (prodP mb es fs)).pos) 27 ∧ EdgesAt wx (.slice zo (buildS (ma * mb) (prodP mb es fs)).es.length zc) (buildS (ma * mb) (prodP mb es fs)).es)
            case first =>
              by_cases hsm : ma * mb ≤ 100
              · have hsm' : (ma : Int) * (mb : Int) ≤ 100 := by rw [← Int.natCast_mul]; omega
                go_wp2_with (go_at_call 22; refine (small_tells' (ma * mb) (Int.natCast_mul ma mb).symm 30 #[.pointer (some ⟨bb, 0, none⟩), .pointer (some ⟨bt, 0, none⟩), .pointer (some ⟨bs, 0, none⟩)] (prodP mb es fs) _ hsm enter30 ?_).mono ?_; exact fun w' hw' u v h1 h2 => prodRef_call (Bg := bb) (Bs := bs) (Bt := bt) (pos_of_mul h2) hmb (cell_two (two_next HTB.out (below_next q14 hw'))).1 (cell_of_one (one_next HTT.out (below_next q14 hw'))) (cell_of_one (one_next HTS.out (below_next q14 hw'))) (GridAt.below HGS.out (below_next q14 hw')) (GridAt.below HGT.out (below_next q14 hw')) (by omega) h2 hsm; rintro e w15 ⟨hb15, zo', zc', rfl, hZ, hfr⟩; have tz5 := two_next tz4 hb15; have tu5 := two_next tu4 hb15; obtain ⟨g1, g2⟩ := cell_two tz5; obtain ⟨g3, g4⟩ := cell_two tu5; have g5 := free_two tz5; have g6 := free_two tu5)
                go_meet
                case rel =>
                  obtain ⟨j1, j2⟩ := xu_block tz5 tu5 (.int .i64 (buildS (ma * mb) (prodP mb es fs)).n) (.slice zo' (buildS (ma * mb) (prodP mb es fs)).es.length zc') (.int .i64 (buildS (ma * mb) (prodP mb es fs)).c) (.int .i64 (buildS (ma * mb) (prodP mb es fs)).pos)
                  have lz := lt_of_block tz4
                  have lu := lt_of_block tu4
                  have qq := below_set4 (below_next q14 hb15) (a := ⟨bz, 0, none⟩) (b := ⟨bz, 1, none⟩) (c := ⟨bz + 1, 0, none⟩) (d := ⟨bz + 1, 1, none⟩) hz hz (by simp; omega) (by simp; omega) (x := .int .i64 (buildS (ma * mb) (prodP mb es fs)).n) (y := .slice zo' (buildS (ma * mb) (prodP mb es fs)).es.length zc') (z := .int .i64 (buildS (ma * mb) (prodP mb es fs)).c) (u := .int .i64 (buildS (ma * mb) (prodP mb es fs)).pos)
                  exact ⟨rfl, below_next hB qq, two_next HTY.out qq, two_next HTE.out qq, EdgesAt.below HHY.out qq, zo', zc', j1, j2, hZ.set4 (fun x hx => by have := hfr x hx; constructor <;> omega) _ _ _ _⟩
              · have hsm' : ¬ (ma : Int) * (mb : Int) ≤ 100 := by rw [← Int.natCast_mul]; omega
                have hS := buildS_many (p := prodP mb es fs) (Or.inl (show 100 < ma * mb by omega))
                have HS : Hid _ := hS
                clear hS
                go_wp2_with fail
                go_meet
                case rel =>
                  have hy := two_next HTY.out q14
                  have he := two_next HTE.out q14
                  have hyy := EdgesAt.below HHY.out q14
                  rw [HS.out] at hy he hyy ⊢
                  exact ⟨rfl, below_next hB q14, hy, he, hyy, none, 0, tz4, tu4, edgesAt_nil _⟩
            case rest =>
              obtain ⟨rfl, hBf, ty, te, hY, zo', zc', tz, tu, hZ⟩ := hcut
              obtain ⟨f1, f2⟩ := cell_two te
              obtain ⟨f3, f4⟩ := cell_two tu
              obtain ⟨f5, f6⟩ := cell_two ty
              obtain ⟨f7, f8⟩ := cell_two tz
              have heq := eql27
              clear r1 r2 r3 r4 tz4 tu4 q14 hne
              go_wp2_with (go_at_call 15; refine (same_true _ _ _ _ _ hY hZ).mono ?_; rintro e w16 ⟨rfl, hb16⟩)
              go_ret
              exact ⟨rfl, below_next hBf hb16⟩
end Go.Proofs.Ytmbhmahclfdgnaa
