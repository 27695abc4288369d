/- The walk of GraphLaws where the graph is free of faults. -/
import Derived.Test.YtfhajacihpmcnaaCount
import Derived.Test.YtfhajacihpmcnaaMakesWalk
namespace Go.Proofs.Ytfhajacihpmcnaa
open Go.RowKit Go.Maps
attribute [local go_sem ↓] Go.wp_at_zero Go.wp_at_succ

theorem sumTo_le (f : Nat → Nat) (B : Nat) : ∀ k, (∀ i, i < k → f i ≤ B) → sumTo f k ≤ k * B
  | 0, _ => Nat.zero_le _
  | k + 1, h => by
    simp only [sumTo]
    have h1 := sumTo_le f B k (fun i hi => h i (by omega))
    have h2 := h k (by omega)
    rw [Nat.succ_mul]
    omega

theorem half_cast (d : Nat) : (d : Int) * ((d : Int) - 1) / 2 = ((d * (d - 1) / 2 : Nat) : Int) := by
  cases d with
  | zero => rfl
  | succ k =>
    rw [Nat.add_sub_cancel, Int.natCast_ediv, Int.natCast_mul]
    congr 2
    omega

theorem half_bound {d : Nat} (h : d ≤ 100) : 0 ≤ (d : Int) * ((d : Int) - 1) ∧ (d : Int) * ((d : Int) - 1) ≤ 10000 ∧ d * (d - 1) / 2 ≤ 5000 := by
  have h1 : d * (d - 1) ≤ 100 * 100 := Nat.mul_le_mul h (by omega)
  cases d with
  | zero => simp
  | succ k =>
    have e : ((k + 1 : Nat) : Int) * (((k + 1 : Nat) : Int) - 1) = (((k + 1) * k : Nat) : Int) := by
      rw [Int.natCast_mul]
      congr 1
      omega
    rw [e]
    simp only [Nat.add_sub_cancel] at h1 ⊢
    omega

set_option maxRecDepth 100000 in
set_option maxHeartbeats 4000000 in
theorem laws_good (m : Nat) (ao : Option Addr) (cap : Nat) (es : List Pair) (w : World) (hE : EdgesAt w (.slice ao es.length cap) es) (hm : m ≤ 100) (hl : es.length ≤ 1000) {L K : List Pair} {A B : Ans}
    (hF : formS m es = ⟨m, L, 0, 0⟩) (hA : complS m es = A) (hA2 : A.c ≠ 0 ∨ (A = ⟨m, K, 0, 0⟩ ∧ complS m K = ⟨m, L, 0, 0⟩ ∧ ((K.length : Int) + L.length != (m : Int) * ((m : Int) - 1) / 2) = false ∧ K.length ≤ 1000 ∧ L.length ≤ 1000))
    (hB : lineS m es = B) (hB2 : B.c ≠ 0 ∨ (B.c = 0 ∧ B.n = es.length ∧ B.es.length = sumTo (fun v => (nearTo es v m).length * ((nearTo es v m).length - 1) / 2) m)) (hs : sumTo (fun v => (nearTo es v m).length) m = 2 * es.length) (hchk : (chk m es).1 = 0) :
    Calls Try.prog 6 #[.agg #[.int .i64 m, .slice ao es.length cap]] w fun e w' => e = .returned (.bool true) ∧ Below w.heap.size w w' := by
  have HE : Hid _ := hE
  have H1 : Hid _ := hF
  have H2 : Hid _ := hA
  have H3 : Hid _ := hA2
  have H4 : Hid _ := hB
  have H5 : Hid _ := hB2
  have H6 : Hid _ := hs
  have H7 : Hid _ := hchk
  clear hE hF hA hA2 hB hB2 hs hchk
  have hmb := half_bound hm
  go_enter Try.func6, Try.ntmps6
  go_upto_region 6 with (first | (go_at_call 11; refine (begun_true _).mono ?_; rintro e w1 ⟨rfl, hb1⟩; have tg1 := two_next (two_new w _ _ _) hb1; have hB1 := below_next (below_alloc (Below.refl _ _) _) hb1; obtain ⟨a1, a2, a3, a4, a5, a6⟩ := k2 tg1) | (go_at_call 9; refine (form_as ?_ H1.out).mono ?_; exact EdgesAt.below HE.out hB1; rintro e w2 ⟨hb2, lo, lc, rfl, hEl, _⟩; have tg2 := two_next tg1 hb2; have hB2 := below_next hB1 hb2))
  have tg := two_alloc (two_alloc tg2 (Obj.cells #[.int .i64 m, .slice lo L.length lc] 24)) (Obj.cells #[.int .i64 0, .int .i64 0] 27)
  have tl := two_alloc (two_new w2 (.int .i64 m) (.slice lo L.length lc) 24) (Obj.cells #[.int .i64 0, .int .i64 0] 27)
  have tf := two_newb w2 (Obj.cells #[.int .i64 m, .slice lo L.length lc] 24) (.int .i64 0) (.int .i64 0) 27
  have hElV := hEl.below (below2 (Obj.cells #[.int .i64 m, .slice lo L.length lc] 24) (Obj.cells #[.int .i64 0, .int .i64 0] 27))
  have hll : ∀ x, lo = some x → L ≠ [] → x.block < w2.heap.size := by
    intro x hx hne
    obtain ⟨b, off, e, c0, _⟩ := hEl.at (k := 0) (List.length_pos_iff.2 hne)
    rw [hx] at e
    cases e
    exact World.block_lt_of_cell? w2 _ c0
  have hBV := below_next hB2 (below2 (Obj.cells #[.int .i64 m, .slice lo L.length lc] 24) (Obj.cells #[.int .i64 0, .int .i64 0] 27))
  have hwl : w.heap.size < w2.heap.size := lt_of_block tg2
  have hVs : ((w2.alloc (Obj.cells #[.int .i64 m, .slice lo L.length lc] 24)).alloc (Obj.cells #[.int .i64 0, .int .i64 0] 27)).heap.size = w2.heap.size + 2 := by simp
  have hElB : EdgesAt w2 (.slice lo L.length lc) L := hEl
  have hW2V : Below w2.heap.size w2 ((w2.alloc (Obj.cells #[.int .i64 m, .slice lo L.length lc] 24)).alloc (Obj.cells #[.int .i64 0, .int .i64 0] 27)) := below2 _ _
  generalize hbl : w2.heap.size = bl at tl tf hVs hwl ⊢
  generalize (w2.alloc (Obj.cells #[.int .i64 m, .slice lo L.length lc] 24)).alloc (Obj.cells #[.int .i64 0, .int .i64 0] 27) = V at tg tl tf hElV hBV hVs hW2V ⊢
  clear a1 a2 a3 a4 a5 a6 tg1 tg2 hB1 hB2 hb1 hb2 hEl hElV hll
  obtain ⟨a1, a2⟩ := cell_two tg
  go_upto_region 7 with (go_at_call 19; refine (compl_as ?_ H2.out).mono ?_; exact EdgesAt.below HE.out hBV; rintro e w3 ⟨hb3, co, cc, rfl, hEc, hfr⟩; obtain ⟨b1, b2, b3, b4, b5, b6⟩ := k2 (two_next tf hb3); have b7 := all_free (a := ⟨bl + 1, 0, none⟩) (lt_of_block (two_next tf hb3)) (free_two (two_next tf hb3) 0); have b8 := all_free (a := ⟨bl + 1, 1, none⟩) (lt_of_block (two_next tf hb3)) (free_two (two_next tf hb3) 1))
  have hs3 := hb3.size
  obtain ⟨tlU, tfU⟩ := u_block (two_alloc (two_next tl hb3) (Obj.cells #[.int .i64 A.n, .slice co A.es.length cc] 24)) (two_alloc (two_next tf hb3) (Obj.cells #[.int .i64 A.n, .slice co A.es.length cc] 24)) (.int .i64 A.c) (.int .i64 A.pos)
  have tgU : Two (((w3.alloc (Obj.cells #[.int .i64 A.n, .slice co A.es.length cc] 24)).setCell ⟨bl + 1, 0, none⟩ (.int .i64 A.c)).setCell ⟨bl + 1, 1, none⟩ (.int .i64 A.pos)) w.heap.size (.int .i64 m) (.slice ao es.length cap) 24 := by
    rw [Two, Below.heap_setCell _ _ _ _ (by simp; omega), Below.heap_setCell _ _ _ _ (by simp; omega)]; exact two_alloc (two_next tg hb3) _
  have tcU : Two (((w3.alloc (Obj.cells #[.int .i64 A.n, .slice co A.es.length cc] 24)).setCell ⟨bl + 1, 0, none⟩ (.int .i64 A.c)).setCell ⟨bl + 1, 1, none⟩ (.int .i64 A.pos)) w3.heap.size (.int .i64 A.n) (.slice co A.es.length cc) 24 := by
    rw [Two, Below.heap_setCell _ _ _ _ (by simp; omega), Below.heap_setCell _ _ _ _ (by simp; omega)]; exact two_new _ _ _ _
  have hBU := (((below_next hBV hb3).alloc (below_next hBV hb3).size (Obj.cells #[.int .i64 A.n, .slice co A.es.length cc] 24)).setCell (p := ⟨bl + 1, 0, none⟩) (by simp; omega) (.int .i64 A.c)).setCell (p := ⟨bl + 1, 1, none⟩) (by simp; omega) (.int .i64 A.pos)
  have hW2U := (((below_next hW2V hb3).alloc (below_next hW2V hb3).size (Obj.cells #[.int .i64 A.n, .slice co A.es.length cc] 24)).setCell (p := ⟨bl + 1, 0, none⟩) (by simp; omega) (.int .i64 A.c)).setCell (p := ⟨bl + 1, 1, none⟩) (by simp; omega) (.int .i64 A.pos)
  have hElU := hElB.below hW2U
  have hEcU := ((hEc.below (below_alloc (Below.refl _ _) (Obj.cells #[.int .i64 A.n, .slice co A.es.length cc] 24))).setCell (p := ⟨bl + 1, 0, none⟩) (fun x hx => by have := hfr x hx; simp; omega) (.int .i64 A.c)).setCell (p := ⟨bl + 1, 1, none⟩) (fun x hx => by have := hfr x hx; simp; omega) (.int .i64 A.pos)
  generalize w3.heap.size = bc at tcU ⊢
  generalize ((w3.alloc (Obj.cells #[.int .i64 A.n, .slice co A.es.length cc] 24)).setCell ⟨bl + 1, 0, none⟩ (.int .i64 A.c)).setCell ⟨bl + 1, 1, none⟩ (.int .i64 A.pos) = U at tlU tfU tgU tcU hBU hElU hEcU ⊢
  clear a1 a2 b1 b2 b3 b4 b5 b6 b7 b8 tg tl tf hBV hVs hW2V hW2U hElB hEc hb3 hs3 hfr
  obtain ⟨a1, a2⟩ := cell_two tfU
  go_upto_if 31 with fail
  go_cut [2] from 14 (fun s2 wc => s2 = .bool false ∧ Below w.heap.size w wc ∧ Two wc w.heap.size (.int .i64 m) (.slice ao es.length cap) 24 ∧ ∃ x y : Int, Two wc (bl + 1) (.int .i64 x) (.int .i64 y) 27)
  case first =>
    rcases H3.out with hAc | ⟨rfl, hK, hq, hK1, hL1⟩
    · have hAc' : (A.c == 0) = false := by simpa using hAc
      go_wp2_with fail
      go_meet
      case rel => exact ⟨rfl, hBU, tgU, _, _, tfU⟩
    · have HK : Hid _ := hK
      clear hK
      obtain ⟨c1, c2⟩ := cell_two tcU
      go_wp2_with (first | (go_at_call 19; refine (compl_as ?_ HK.out).mono ?_; exact hEcU; rintro e w4 ⟨hb4, ko, kc, rfl, hEk, _⟩; obtain ⟨d1, d2, d3, d4, d5, d6⟩ := k2 (two_next tlU hb4)) | (go_at_call 15; refine (same_true _ _ _ L _ ?_ ?_).mono ?_; exact hEk.below (below2 _ _); exact (hElU.below hb4).below (below2 _ _); rintro e w5 ⟨rfl, hb5⟩; have hz5 := below_next (below_next hb4 (below2 _ _)) hb5; obtain ⟨e1, e2⟩ := cell_two (two_next tcU hz5); obtain ⟨e3, e4⟩ := cell_two (two_next tlU hz5); obtain ⟨e5, e6⟩ := cell_two (two_next tgU hz5)))
      go_meet
      case rel => exact ⟨rfl, below_next hBU hz5, two_next tgU hz5, _, _, two_next tfU hz5⟩
  case rest =>
    obtain ⟨rfl, hBc, tgc, x0, y0, tfc⟩ := hcut
    clear a1 a2 tlU tfU tgU tcU hBU hElU hEcU
    go_wp2_with fail
    go_loopw [8, 9, 10] (fun s p i wr => ∃ k : Nat, k ≤ m ∧ i = .int .i64 k ∧ s = .int .i64 (sumTo (fun v => (nearTo es v m).length) k : Nat) ∧ p = .int .i64 (sumTo (fun v => (nearTo es v m).length * ((nearTo es v m).length - 1) / 2) k : Nat) ∧ Below w.heap.size w wr ∧ Two wr w.heap.size (.int .i64 m) (.slice ao es.length cap) 24 ∧ Two wr (bl + 1) (.int .i64 x0) (.int .i64 y0) 27) (fun _ _ i _ => m - (intOf i).toNat)
    case atStart => exact ⟨0, Nat.zero_le _, rfl, rfl, rfl, hBc, tgc, tfc⟩
    case round =>
      obtain ⟨k, hk, rfl, rfl, rfl, hBr, tgr, tfr⟩ := hrel
      obtain ⟨b1, b2⟩ := cell_two tgr
      have hS1 := sumTo_le (fun v => (nearTo es v m).length) 100 k (fun i _ => Nat.le_trans (nearTo_le es i m) hm)
      have hS2 := sumTo_le (fun v => (nearTo es v m).length * ((nearTo es v m).length - 1) / 2) 5000 k (fun i _ => (half_bound (Nat.le_trans (nearTo_le es i m) hm)).2.2)
      by_cases hlt : k < m
      · have hn : nearS m es k = (nearTo es k m, 0, 0) := by
          unfold nearS
          rw [if_pos H7.out, if_pos (by simp [isN]; omega)]
          simp
        have HN : Hid _ := hn
        have hd := nearTo_le es k m
        have hdb := half_bound (Nat.le_trans hd hm)
        have hdc := half_cast (nearTo es k m).length
        have e1 : sumTo (fun v => (nearTo es v m).length) (k + 1) = sumTo (fun v => (nearTo es v m).length) k + (nearTo es k m).length := rfl
        have e2 : sumTo (fun v => (nearTo es v m).length * ((nearTo es v m).length - 1) / 2) (k + 1) = sumTo (fun v => (nearTo es v m).length * ((nearTo es v m).length - 1) / 2) k + (nearTo es k m).length * ((nearTo es k m).length - 1) / 2 := rfl
        have E1 : Hid _ := e1
        have E2 : Hid _ := e2
        have HDC : Hid _ := hdc
        clear hn e1 e2 hdc
        generalize hnt : nearTo es k m = N at HN hd hdb E1 E2 HDC
        generalize sumTo (fun v => (nearTo es v m).length) k = S1 at hS1 E1 ⊢
        generalize sumTo (fun v => (nearTo es v m).length * ((nearTo es v m).length - 1) / 2) k = S2 at hS2 E2 ⊢
        clear hnt
        obtain ⟨hdb1, hdb2, hdb3⟩ := hdb
        go_wp2_with (go_at_call 10; refine (near_as ?_ ?_ HN.out).mono ?_; exact EdgesAt.below HE.out hBr; (constructor <;> omega); rintro e w6 ⟨hb6, no, nc, rfl, hIn⟩)
        have hz6 := below_next hb6 (below_alloc (Below.refl _ _) (Obj.cells #[.int .i64 0, .int .i64 0] 27))
        go_roundw
        case rel => exact ⟨k + 1, by omega, by go_num, by rw [E1.out]; go_num, by rw [E2.out, HDC.out]; go_num, below_next hBr hz6, two_next tgr hz6, two_next tfr hz6⟩
        case measure => simp [intOf]; omega
      · have : k = m := by omega
        subst this
        have hsum := H6.out
        go_upto_region 21 with (go_at_call 20; refine (line_as ?_ H4.out).mono ?_; exact EdgesAt.below HE.out hBr; rintro e w7 ⟨hb7, xo, xc, rfl, hEx, hfr⟩; obtain ⟨d1, d2, d3, d4, d5, d6⟩ := k2 (two_next tfr hb7); have d7 := all_free (a := ⟨bl + 1, 0, none⟩) (lt_of_block (two_next tfr hb7)) (free_two (two_next tfr hb7) 0); have d8 := all_free (a := ⟨bl + 1, 1, none⟩) (lt_of_block (two_next tfr hb7)) (free_two (two_next tfr hb7) 1))
        have hs7 := hb7.size
        have hlf := lt_of_block tfr
        have tgU : Two (((w7.alloc (Obj.cells #[.int .i64 B.n, .slice xo B.es.length xc] 24)).setCell ⟨bl + 1, 0, none⟩ (.int .i64 B.c)).setCell ⟨bl + 1, 1, none⟩ (.int .i64 B.pos)) w.heap.size (.int .i64 k) (.slice ao es.length cap) 24 := by
          rw [Two, Below.heap_setCell _ _ _ _ (by simp; omega), Below.heap_setCell _ _ _ _ (by simp; omega)]; exact two_alloc (two_next tgr hb7) _
        have txU : Two (((w7.alloc (Obj.cells #[.int .i64 B.n, .slice xo B.es.length xc] 24)).setCell ⟨bl + 1, 0, none⟩ (.int .i64 B.c)).setCell ⟨bl + 1, 1, none⟩ (.int .i64 B.pos)) w7.heap.size (.int .i64 B.n) (.slice xo B.es.length xc) 24 := by
          rw [Two, Below.heap_setCell _ _ _ _ (by simp; omega), Below.heap_setCell _ _ _ _ (by simp; omega)]; exact two_new _ _ _ _
        have tfU : Two (((w7.alloc (Obj.cells #[.int .i64 B.n, .slice xo B.es.length xc] 24)).setCell ⟨bl + 1, 0, none⟩ (.int .i64 B.c)).setCell ⟨bl + 1, 1, none⟩ (.int .i64 B.pos)) (bl + 1) (.int .i64 B.c) (.int .i64 B.pos) 27 := by
          have h0 := two_alloc (two_next tfr hb7) (Obj.cells #[.int .i64 B.n, .slice xo B.es.length xc] 24)
          simp [Two, World.setCell, Array.getElem?_modify, h0]
        have hBU := (((below_next hBr hb7).alloc (below_next hBr hb7).size (Obj.cells #[.int .i64 B.n, .slice xo B.es.length xc] 24)).setCell (p := ⟨bl + 1, 0, none⟩) (by simp; omega) (.int .i64 B.c)).setCell (p := ⟨bl + 1, 1, none⟩) (by simp; omega) (.int .i64 B.pos)
        generalize w7.heap.size = bx at txU ⊢
        generalize ((w7.alloc (Obj.cells #[.int .i64 B.n, .slice xo B.es.length xc] 24)).setCell ⟨bl + 1, 0, none⟩ (.int .i64 B.c)).setCell ⟨bl + 1, 1, none⟩ (.int .i64 B.pos) = U at tgU txU tfU hBU ⊢
        clear d1 d2 d3 d4 d5 d6 d7 d8 b1 b2 tgr tfr hEx hb7 hs7 hlf hfr
        obtain ⟨g1, g2⟩ := cell_two tgU
        obtain ⟨g3, g4⟩ := cell_two txU
        obtain ⟨g5, g6⟩ := cell_two tfU
        have hsum2 : (((sumTo (fun v => (nearTo es v k).length) k : Nat) : Int) == 2 * (es.length : Int)) = true := by rw [hsum]; simp
        rcases H5.out with hc | ⟨hc, hn, hes⟩
        · have hc1 : (B.c == 0) = false := by simpa using hc
          clear hsum
          go_wp2
          go_ret
          exact ⟨rfl, hBU⟩
        · have hc1 : (B.c == 0) = true := by simpa using hc
          have hn1 : (B.n != (es.length : Int)) = false := by rw [hn]; simp
          have hp1 : ((B.es.length : Int) != ((sumTo (fun v => (nearTo es v k).length * ((nearTo es v k).length - 1) / 2) k : Nat) : Int)) = false := by rw [hes]; simp
          clear hsum hc hn hes
          go_wp2
          go_ret
          exact ⟨rfl, hBU⟩
end Go.Proofs.Ytfhajacihpmcnaa
