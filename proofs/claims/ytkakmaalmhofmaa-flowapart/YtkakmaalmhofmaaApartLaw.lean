/- FlowApart's walk. -/
import Derived.Test.YtkakmaalmhofmaaApartL
import Derived.Test.YtkakmaalmhofmaaSame
import Derived.Deep.Cut
import Derived.Deep.CutRange
import Derived.Deep.RegionLaw
namespace Go.Proofs.Ytkakmaalmhofmaa
open Go.RowKit Go.Maps
attribute [local go_sem ↓] Go.wp_at_zero Go.wp_at_succ

theorem ApartIs.below {N s t : Nat} {fes : List Pair} {B : Nat} {w w' : World} {wv cv : Value} (h : ApartIs N s t fes B w wv cv) (hb : Below w.heap.size w w') : ApartIs N s t fes B w' wv cv := by
  obtain ⟨ls, e, e', F, h1, h2, h3, h4, h5, h6⟩ := h
  exact ⟨ls, e, e', F, h1.below hb, h2, h3, h4, ownsRow_blocks h5 (fun b hb' => hb.block b (h5.lt b hb').2), h6⟩
/-- What Apart answers, for the law. -/
structure ApL (N u z : Nat) (es : List Pair) (ls : List (List Nat)) (cs : List Pair) (e e' : Nat → Nat → Bool) (F : Nat → Int) : Prop where
  ways : Ways N u z e e' ls
  anti : ∀ a b, e a b = true → e b a = false
  edge : ∀ a b, e a b = true → hasB es a b = true
  cut : cs = cutL F (allP N (hasB es))
  len : ls.length = cs.length
  src : F u = 0
  snk : F z = -1
theorem ApartIs.law {N u z : Nat} {es : List Pair} {B : Nat} {w : World} {wv cv : Value} (h : ApartIs N u z (allP N (hasB es)) B w wv cv) (hl : es.length ≤ 1000) (hN : N ≤ 100) :
    ∃ ls cs e e' F wo wcp co cc, wv = .slice wo ls.length wcp ∧ cv = .slice co cs.length cc ∧ ListsAt w B (.slice wo ls.length wcp) ls ∧ EdgesAt w (.slice co cs.length cc) cs ∧ cs.length ≤ 1000 ∧ ApL N u z es ls cs e e' F := by
  obtain ⟨ls, e, e', F, h1, h2, h3, h4, h5, h6, h7, h8⟩ := h
  obtain ⟨wo, wcp, rfl⟩ := h1.form
  obtain ⟨co, cc, rfl⟩ := form_row h5
  have hle : (cutL F (allP N (hasB es))).length ≤ 1000 := Nat.le_trans (List.length_filter_le _ _) (Nat.le_trans (allP_has_le N es) hl)
  refine ⟨ls, _, e, e', F, wo, wcp, co, cc, rfl, rfl, h1, edgesAt_row h5 (fun c hc => ?_) (by omega), hle, ⟨h2, h3, fun a b hab => ?_, rfl, h6, h7, h8⟩⟩
  · obtain ⟨x, y, h1, h2, _, rfl⟩ := allP_mem.1 (List.mem_filter.1 hc).1
    constructor <;> constructor <;> simp <;> omega
  · obtain ⟨j, hj, h9⟩ := h4 a b hab
    obtain ⟨x, y, g1, g2, g3, g4⟩ := allP_mem.1 (List.getElem_mem hj)
    have hA : endA (allP N (hasB es)) j = x := by unfold endA; rw [getD_lt hj, g4]; simp
    have hB : endB (allP N (hasB es)) j = y := by unfold endB; rw [getD_lt hj, g4]; simp
    rw [hA, hB] at h9
    rcases h9 with ⟨rfl, rfl⟩ | ⟨rfl, rfl⟩
    · exact g3
    · rw [hasB_sym]; exact g3

set_option maxRecDepth 4000 in
set_option maxHeartbeats 4000000 in
theorem apartLaw_any (n s t : Int) (ao : Option Addr) (ca : Nat) (es : List Pair) (w : World) (hE : EdgesAt w (.slice ao es.length ca) es) (hca : es.length ≤ ca) :
    Calls Try.prog 4 #[.agg #[.int .i64 n, .slice ao es.length ca], .int .i64 s, .int .i64 t] w fun e w' => e = .returned (.bool true) ∧ Below w.heap.size w w' := by
  have HE : Hid (EdgesAt w (.slice ao es.length ca) es) := hE
  clear hE
  go_enter Try.func4, Try.ntmps4
  go_upto_region 1 with (fail)
  have t3 := two_new w (.int .i64 n) (.slice ao es.length ca) 40
  have hB0 := below_alloc (Below.refl _ w) (Obj.cells #[.int .i64 n, .slice ao es.length ca] 40)
  generalize w.alloc (Obj.cells #[.int .i64 n, .slice ao es.length ca] 40) = W0 at t3 hB0 ⊢
  obtain ⟨q0, q1⟩ := cell_two t3
  go_upto_region 2 with (first | (go_at_call 13; refine (own_any n ao ca es _ (EdgesAt.below HE.out hB0)).mono ?_; rintro e W1 ⟨hb1, o1, c1, rfl, hE1, hc1⟩) | go_in)
  have t7 := two_new W1 (.int .i64 n) (.slice o1 es.length c1) 40
  have hb1a := below_alloc hb1 (Obj.cells #[.int .i64 n, .slice o1 es.length c1] 40)
  have t3' := two_next t3 hb1a
  have hE7 := hE1.below (below_alloc (Below.refl _ W1) (Obj.cells #[.int .i64 n, .slice o1 es.length c1] 40))
  have hB1 := below_next hB0 hb1a
  obtain ⟨b7, hb7⟩ : ∃ b, b = W1.heap.size := ⟨_, rfl⟩
  rw [← hb7] at t7 ⊢
  generalize W1.alloc (Obj.cells #[.int .i64 n, .slice o1 es.length c1] 40) = W2 at t7 t3' hE7 hB1 ⊢
  clear t3 hB0 q0 q1 hb1 hb1a hE1 hb7
  obtain ⟨m1, m2, hm⟩ : ∃ m1 m2, chk n es = (m1, m2) := ⟨_, _, rfl⟩
  have h14 := refCheck_as (EdgesAt.below HE.out hB1) hca hm
  have H14 : Hid _ := h14
  have HM : Hid (chk n es = (m1, m2)) := hm
  clear h14 hm
  obtain ⟨q0, q1⟩ := cell_two t3'
  go_upto_region 3 with (first | (go_at_call 14; refine Calls.mono H14.out ?_; rintro e W3 ⟨rfl, hb3⟩) | go_in)
  have x3 := two_next t3' hb3
  have x7 := two_next t7 hb3
  have hE8 := hE7.below hb3
  have hB3 := below_next hB1 hb3
  obtain ⟨b8, hb8⟩ : ∃ b, b = W3.heap.size := ⟨_, rfl⟩
  have t8 := two_new W3 (.int .i64 m1) (.int .i64 m2) 26
  have hb4 := below_alloc (Below.refl _ W3) (Obj.cells #[.int .i64 m1, .int .i64 m2] 26)
  have hB38 : W3.heap.size ≤ b8 := by omega
  rw [← hb8] at t8 ⊢
  generalize W3.alloc (Obj.cells #[.int .i64 m1, .int .i64 m2] 26) = W4 at t8 hb4 ⊢
  clear t3' t7 hE7 hB1 hb3 q0 q1 H14 hb8
  have y3 := two_next x3 hb4
  obtain ⟨q0, q1⟩ := cell_two y3
  obtain ⟨q2, q3⟩ := cell_two t8
  obtain ⟨fc, fd, hfc⟩ : ∃ fc fd, apartF n es s t = (fc, fd) := ⟨_, _, rfl⟩
  have HFC : Hid (apartF n es s t = (fc, fd)) := hfc
  clear hfc
  go_upto_if 28 with (fail)
  generalize hgm : (m1 == 0) = gm
  go_cut [] from 29 to 33 (fun wd => Two wd b8 (.int .i64 fc) (.int .i64 fd) 26 ∧ Below W3.heap.size W3 wd)
  case first =>
    cases gm with
    | true =>
      have hm0 : m1 = 0 := by rwa [beq_iff_eq] at hgm
      have hef : endsF n s t = (fc, fd) := by
        have := HFC.out
        unfold apartF at this
        rw [HM.out, if_pos hm0] at this
        exact this
      have h10 := ends10 n s t W4
      rw [hef] at h10
      have H10 : Hid (Calls Try.prog 10 #[.int .i64 n, .int .i64 s, .int .i64 t] W4 fun e w' => e = .returned (.agg #[.int .i64 fc, .int .i64 fd]) ∧ Below W4.heap.size W4 w') := h10
      clear h10 hef hm0 hgm
      go_wp2_with (first | (go_at_call 10; refine Calls.mono H10.out ?_; rintro e W5 ⟨rfl, hb5⟩; have z8 := two_next t8 hb5; have ff := free_two z8; obtain ⟨b2, b3⟩ := cell_two z8) | go_in)
      go_meet
      case rel => exact ⟨two_setN z8, ((below_next hb4 hb5).setCell (by simp; omega) _).setCell (by simp; omega) _⟩
    | false =>
      have hm0 : m1 ≠ 0 := by rwa [beq_eq_false_iff_ne] at hgm
      have hef : (m1, m2) = (fc, fd) := by
        have := HFC.out
        unfold apartF at this
        rw [HM.out, if_neg hm0] at this
        exact this
      cases hef
      clear hm0 hgm
      go_wp2_with fail
      go_meet
      case rel => exact ⟨t8, hb4⟩
  case rest =>
    obtain ⟨z8, hbc⟩ := hcut
    have hwB : Below w.heap.size w wc := below_next hB3 hbc
    have u7 := two_next x7 hbc
    have u3 := two_next x3 hbc
    have hE9 := hE8.below hbc
    have h15 := apart_any n s t (.slice o1 es.length c1) es wc hE9
    rw [HFC.out] at h15
    have H15 : Hid _ := h15
    clear h15 hgm t8 hb4 y3 q0 q1 q2 q3 x3 x7 hE8 hB3 hbc
    generalize wc = Wr at z8 u7 u3 hE9 H15 hwB ⊢
    obtain ⟨q0, q1⟩ := cell_two u7
    go_upto_region 6 with (first | (go_at_call 15; refine Calls.mono H15.out ?_; rintro r W6 ⟨wv, cv, c', d', rfl, hcd, hans, hb6⟩; cases hcd) | go_in)
    obtain ⟨b11, hb11⟩ : ∃ b, b = W6.heap.size := ⟨_, rfl⟩
    have v11 := two_new W6 (.int .i64 fc) (.int .i64 fd) 26
    have hb6' := below_alloc (Below.refl _ W6) (Obj.cells #[.int .i64 fc, .int .i64 fd] 26)
    have hb6a := below_alloc hb6 (Obj.cells #[.int .i64 fc, .int .i64 fd] 26)
    have v8 := two_next z8 hb6a
    have v7 := two_next u7 hb6a
    have v3 := two_next u3 hb6a
    have hE10 := hE9.below hb6a
    have hB6 := below_next hwB hb6a
    rw [← hb11] at v11 ⊢
    generalize W6.alloc (Obj.cells #[.int .i64 fc, .int .i64 fd] 26) = W7 at v11 v8 v7 v3 hE10 hB6 hb6' ⊢
    have HAN : Hid _ := hans
    have hE10' := EdgesAt.below HE.out hB6
    have HE10 : Hid (EdgesAt W7 (.slice o1 es.length c1) es) := hE10
    have HE10' : Hid (EdgesAt W7 (.slice ao es.length ca) es) := hE10'
    clear z8 u7 u3 hE9 hwB hans hb6 hb6a H15 hb11 q0 q1 hE10 hE10'
    have hne := neq26 fc fd
    go_upto_if 54 with (first
      | (go_at_call 9; refine Calls.mono (begun_call _) ?_; rintro e Wa ⟨rfl, hba⟩; have a8 := two_next v8 hba; have a11 := two_next v11 hba; have a7 := two_next v7 hba; have a3 := two_next v3 hba; obtain ⟨p0, p1⟩ := cell_two a8; obtain ⟨p2, p3⟩ := cell_two a11; obtain ⟨p4, p5⟩ := cell_two a7; obtain ⟨p6, p7⟩ := cell_two a3)
      | (go_at_call 16; refine Calls.mono (kept_true n _ _ es _ (EdgesAt.below HE10.out hba) (EdgesAt.below HE10'.out hba)) ?_; rintro e Wb ⟨rfl, hbb⟩; have hbb' := below_next hba hbb)
      | go_in)
    have z8 := two_next v8 hbb'
    have z3 := two_next v3 hbb'
    have hB8 := below_next hB6 hbb'
    clear a8 a11 a7 a3 p0 p1 p2 p3 p4 p5 p6 p7 hba hbb v7 v11 hne
    have hans2 := HAN.out
    rcases hans2 with ⟨hc0, rfl, rfl⟩ | ⟨rfl, rfl, N, u, z, rfl, rfl, rfl, hN, hl, hg, hu, hz, huz, hap⟩
    · have k1 : (fc != 0) = true := by simp [hc0]
      obtain ⟨p0, p1⟩ := cell_two z8
      clear HAN
      go_wp2
      go_ret
      exact ⟨rfl, hB8⟩
    · obtain ⟨ls, cs, e, e', F, wo, wcp, co, cc, rfl, rfl, hla, hce, hcl, hal⟩ := ((hap.below hb6').below hbb').law hl hN
      have hls1 : ls.length ≤ 1000 := by rw [hal.len]; exact hcl
      have HLA : Hid (ListsAt Wb Wr.heap.size (.slice wo ls.length wcp) ls) := hla
      have HCE : Hid (EdgesAt Wb (.slice co cs.length cc) cs) := hce
      have HAL : Hid (ApL N u z es ls cs e e' F) := hal
      have HG : Hid (∀ e ∈ es, (0 ≤ e.1 ∧ e.1 < (N : Int) ∧ 0 ≤ e.2 ∧ e.2 < (N : Int)) ∧ e.1 ≠ e.2) := hg
      clear HAN hap hla hce hal hg hb6' hbb' HE10 HE10' v8 v3 hB6 HM HFC hB38
      obtain ⟨p0, p1⟩ := cell_two z8
      obtain ⟨p2, p3⟩ := cell_two z3
      go_upto_region 11 with (first | (go_at_call 17; refine (gridOf_any N _ es _ (EdgesAt.below HE.out hB8) hN hl HG.out).mono ?_; rintro r W10 ⟨hb10, go, gc, rfl, hG10⟩) | go_in)
      have z3b := two_next z3 hb10
      have hBa := below_next hB8 hb10
      have HGR : Hid (GridAt W10 (.slice go N gc) N (hasB es)) := hG10
      have HLB : Hid (ListsAt W10 Wr.heap.size (.slice wo ls.length wcp) ls) := ListsAt.below HLA.out hb10
      have HCB : Hid (EdgesAt W10 (.slice co cs.length cc) cs) := EdgesAt.below HCE.out hb10
      clear p0 p1 p2 p3 z8 z3 hb10 hG10 HLA HCE hB8
      obtain ⟨p2, p3⟩ := cell_two z3b
      go_upto_region 12 with (first | (go_at_call 17; refine (gridOf_new N _ hN).mono ?_; rintro r W11 ⟨uo, uc, bs, rfl, hbs, htab, hb11⟩) | go_in)
      clear p2 p3
      have HBS : Hid (bs.length = N) := hbs
      clear hbs
      go_wp2
      go_loopw [6, 14] (fun _ iv wr => ∃ i : Nat, i ≤ ls.length ∧ iv = .int .i64 (i : Int) ∧ ∃ q, Tab W10.heap.size wr N (.slice uo N uc) bs q ∧ (∀ a b, q a b = true → Took ls i 1 a b) ∧ Below W10.heap.size W10 wr) (fun _ iv _ => ls.length - (numOf iv).toNat)
      case atStart => exact ⟨0, Nat.zero_le _, rfl, _, htab, fun a b h => (by cases h), hb11⟩
      case round =>
        clear htab hb11
        obtain ⟨i, hi, rfl, q, htab, hq, hbi⟩ := hrel
        by_cases hlt : i < ls.length
        · have i2 : (i : Int) < (ls.length : Int) := by omega
          have i1 : (0 : Int) ≤ (i : Int) := by omega
          obtain ⟨l, hl?⟩ : ∃ l, ls[i]? = some l := ⟨ls[i], List.getElem?_eq_getElem hlt⟩
          obtain ⟨e1, e2, hway, hle1⟩ := HAL.out.ways.way hl?
          obtain ⟨g, lo, lc, rfl, hcw, hnl⟩ := (ListsAt.below HLB.out hbi).at hl?
          have hl2 := hway.two huz
          have hlN := hway.le_len
          have h18 := way_call (lc := lc) (GridAt.below HGR.out hbi) hnl hway.lt (fun j x y hx hy => HAL.out.edge x y (hle1 x y (hway.took j x y hx hy).1)) (by omega) hl2 hway.head hway.last hway.nodup
          have H18 : Hid (Calls Try.prog 18 #[.slice go N gc, .slice lo l.length lc, .int .i64 (u : Int), .int .i64 (z : Int)] wr fun r w' => r = .returned (.bool true) ∧ Below wr.heap.size wr w') := h18
          have HWAY : Hid (WayTo N e1 e2 u z l) := hway
          have HQ : Hid (∀ a b, q a b = true → Took ls i 1 a b) := hq
          have HL? : Hid (ls[i]? = some l) := hl?
          clear h18 hway hq hl? hle1 hnl
          go_upto_if 84 with (first | (go_at_call 18; refine Calls.mono H18.out ?_; rintro r Wi ⟨rfl, hbw⟩) | go_in)
          have htab2 := htab.below hbw
          have hbi2 := below_next hbi hbw
          clear htab hbi hcw hbw H18
          go_wp2
          go_loopw [6, 15] (fun _ kv wr => ∃ m : Nat, m + 1 ≤ l.length ∧ kv = .int .i64 ((m + 1 : Nat) : Int) ∧ ∃ q, Tab W10.heap.size wr N (.slice uo N uc) bs q ∧ (∀ a b, q a b = true → Took ls i (m + 1) a b) ∧ Below W10.heap.size W10 wr) (fun _ kv _ => l.length - (numOf kv).toNat)
          case atStart => exact ⟨0, by omega, rfl, q, htab2, HQ.out, hbi2⟩
          case round =>
            clear htab2 hbi2 HQ
            obtain ⟨m, hm, rfl, q, htab, hq, hbk⟩ := hrel
            obtain ⟨g', lo', lc', eg, hcw, hnl⟩ := (ListsAt.below HLB.out hbk).at HL?.out
            cases eg
            by_cases hlt2 : m + 1 < l.length
            · obtain ⟨x, hx⟩ : ∃ x, l[m]? = some x := ⟨l[m]'(by omega), List.getElem?_eq_getElem (by omega)⟩
              obtain ⟨y, hy⟩ : ∃ y, l[m + 1]? = some y := ⟨l[m + 1], List.getElem?_eq_getElem hlt2⟩
              obtain ⟨bl, rfl, cx⟩ := hnl m x hx
              obtain ⟨_, eb, cy⟩ := hnl (m + 1) y hy
              cases eb
              have hxN : x < N := HWAY.out.lt x (List.mem_of_getElem? hx)
              have hyN : y < N := HWAY.out.lt y (List.mem_of_getElem? hy)
              have hxy : x ≠ y := fun ee => by
                obtain ⟨g1, g2⟩ := List.getElem?_eq_some_iff.1 hx
                obtain ⟨g3, g4⟩ := List.getElem?_eq_some_iff.1 hy
                exact List.pairwise_iff_getElem.1 HWAY.out.nodup m (m + 1) g1 g3 (by omega) (by rw [g2, g4, ee])
              have hfresh := HAL.out.ways.fresh HAL.out.anti HL?.out hx hy
              have hqf : q x y = false := by
                cases hqq : q x y
                · rfl
                · exact absurd (hq x y hqq) hfresh
              have hbsN := HBS.out
              obtain ⟨gu, rfl, hat⟩ := htab.at (by omega)
              have cgx := hat x (by omega)
              have cgy := hat y (by omega)
              have cxy := (htab.rows x (by omega)).cell hyN
              have cyx := (htab.rows y (by omega)).cell hxN
              rw [hqf] at cxy
              have fx := (htab.rows x (by omega)).free y
              have fy := (htab.rows y (by omega)).free x
              have hne : bs[x]'(by omega) ≠ bs[y]'(by omega) := fun ee => hxy (htab.nodup x y (by omega) (by omega) ee)
              have hgx := htab.ge _ (List.getElem_mem (by omega : x < bs.length))
              have hgy := htab.ge _ (List.getElem_mem (by omega : y < bs.length))
              obtain ⟨bx, hbx⟩ : ∃ bx, bx = bs[x]'(by omega) := ⟨_, rfl⟩
              obtain ⟨by', hby⟩ : ∃ by', by' = bs[y]'(by omega) := ⟨_, rfl⟩
              rw [← hbx] at cgx cxy fx hne hgx
              rw [← hby] at cgy cyx fy hne hgy
              have hgp : gu ≠ bx ∧ gu ≠ by' := by
                obtain ⟨cur1, hc1, _⟩ := htab.rows x (by omega)
                obtain ⟨cur2, hc2, _⟩ := htab.rows y (by omega)
                rw [← hbx] at hc1
                rw [← hby] at hc2
                constructor
                · intro ee
                  rw [← ee] at hc1
                  have := cell_of_row wr gu x cur1 4 (0, 0) hc1
                  obtain ⟨cur3, hc3⟩ := own_cells htab.own (g := gu) rfl
                  rw [hc3] at hc1; simp at hc1
                · intro ee
                  rw [← ee] at hc2
                  obtain ⟨cur3, hc3⟩ := own_cells htab.own (g := gu) rfl
                  rw [hc3] at hc2; simp at hc2
              have HTAB : Hid (Tab W10.heap.size wr N (.slice (some ⟨gu, 0, none⟩) N uc) bs q) := htab
              have HBX : Hid (∀ h : x < bs.length, bs[x]'h = bx) := fun _ => hbx.symm
              have HBY : Hid (∀ h : y < bs.length, bs[y]'h = by') := fun _ => hby.symm
              have HX : Hid (l[m]? = some x ∧ l[m + 1]? = some y) := ⟨hx, hy⟩
              have HQ : Hid (∀ a b, q a b = true → Took ls i (m + 1) a b) := hq
              have j1 : ((m + 1 : Nat) : Int) < (l.length : Int) := by omega
              have j2 : (0 : Int) ≤ ((m + 1 : Nat) : Int) := by omega
              have j3 : IntKind.i64.wrap (((m + 1 : Nat) : Int) - 1) = (m : Int) := by rw [IntKind.wrap_i64]; omega
              have j4 : (0 : Int) ≤ (m : Int) := by omega
              have j5 : (m : Int) < (l.length : Int) := by omega
              have j6 : (0 : Int) ≤ (x : Int) := by omega
              have j7 : (x : Int) < (N : Int) := by omega
              have j8 : (0 : Int) ≤ (y : Int) := by omega
              have j9 : (y : Int) < (N : Int) := by omega
              have hMM : ∃ M : Nat, M = m + 1 := ⟨_, rfl⟩
              obtain ⟨M, hM⟩ := hMM
              rw [← hM] at j1 j2 j3 cy ⊢
              have HMM : Hid (M = m + 1) := hM
              have hcells := And.intro cgx (And.intro cgy (And.intro cxy (And.intro cyx (And.intro fx fy))))
              clear hM hat hfresh hq hx hy hnl hqf hbx hby htab hbsN
              go_upto_region 20 with (fail)
              go_quiet (fail)
              have cgx2 : (wr.drewN nq).cell? ⟨gu, x, none⟩ = some (.slice (some ⟨bx, 0, none⟩) N N) := cgx
              have cgy2 : (wr.drewN nq).cell? ⟨gu, y, none⟩ = some (.slice (some ⟨by', 0, none⟩) N N) := cgy
              have cxy2 : (wr.drewN nq).cell? ⟨bx, y, none⟩ = some (.bool false) := cxy
              have cyx2 : (wr.drewN nq).cell? ⟨by', x, none⟩ = some (.bool (q y x)) := cyx
              have fx2 : (wr.drewN nq).frozen? ⟨bx, y, none⟩ = false := fx
              have fy2 : (wr.drewN nq).frozen? ⟨by', x, none⟩ = false := fy
              have hp1 := (Tab.below HTAB.out (drewN_below wr nq)).put (i := x) (by have := HBS.out; omega) y true
              have hp2 := hp1.put (i := y) (by have := HBS.out; omega) x true
              rw [HBX.out, HBY.out] at hp2
              have HP3 : Hid (Tab W10.heap.size (((wr.drewN nq).setCell ⟨bx, y, none⟩ (.bool true)).setCell ⟨by', x, none⟩ (.bool true)) N (.slice (some ⟨gu, 0, none⟩) N uc) bs (fun a b => if a = y ∧ b = x then true else if a = x ∧ b = y then true else q a b)) := hp2
              clear hp1 hp2
              have hbq := below_drewN hbk nq
              generalize wr.drewN nq = Wq at cgx2 cgy2 cxy2 cyx2 fx2 fy2 HP3 hbq ⊢
              clear cgx cgy cxy cyx fx fy hcells cx cy hcw
              go_upto_region 23 with (fail)
              go_region
              all_goals
                have hM := HMM.out
                subst hM
                have htab9 := Tab.below HP3.out (Below.refl _ _).drew
                have hb9 := ((hbq.setCell (p := ⟨bx, y, none⟩) hgx (.bool true)).setCell (p := ⟨by', x, none⟩) hgy (.bool true)).drew
                have HT9 : Hid _ := htab9
                clear htab9 HP3
                go_wp2
                go_roundw
                case rel => exact ⟨m + 1, by omega, by go_num, _, HT9.out, fun a b hab => by
                  by_cases h1 : a = y ∧ b = x
                  · exact ⟨i, m, l, x, y, HL?.out, HX.out.1, HX.out.2, Or.inr h1, Or.inr ⟨rfl, by omega⟩⟩
                  · by_cases h2 : a = x ∧ b = y
                    · exact ⟨i, m, l, x, y, HL?.out, HX.out.1, HX.out.2, Or.inl h2, Or.inr ⟨rfl, by omega⟩⟩
                    · simp only [if_neg h1, if_neg h2] at hab
                      exact (HQ.out a b hab).next, hb9⟩
                case measure => simp [numOf]; omega
            · have j1 : ¬ ((m + 1 : Nat) : Int) < (l.length : Int) := by omega
              have HT9 : Hid (Tab W10.heap.size wr N (.slice uo N uc) bs q) := htab
              have HQ : Hid (∀ a b, q a b = true → Took ls i (m + 1) a b) := hq
              generalize m + 1 = M at j1 HQ ⊢
              clear htab hq hnl
              go_wp2
              go_roundw
              case rel => exact ⟨i + 1, by omega, by go_num, q, HT9.out, fun a b hab => (HQ.out a b hab).over, hbk⟩
              case measure => simp [numOf]; omega
        · have i2 : ¬ (i : Int) < (ls.length : Int) := by omega
          have hlen := HAL.out.len
          have hlI : ((ls.length : Int) != (cs.length : Int)) = false := by simp [hlen]
          clear htab hq
          go_wp2
          go_loopw [6, 18, 19] (fun _ lv iv wr => ∃ i : Nat, i ≤ cs.length ∧ iv = .int .i64 (i : Int) ∧ ∃ lo lcp p, lv = .slice lo N lcp ∧ GridAt wr (.slice lo N lcp) N p ∧ LeftI N es cs i p ∧ Below W10.heap.size W10 wr) (fun _ _ iv _ => cs.length - (numOf iv).toNat)
          case atStart => exact ⟨0, Nat.zero_le _, rfl, go, gc, hasB es, rfl, GridAt.below HGR.out hbi, LeftI.start (fun e he => (HG.out e he).2), hbi⟩
          case round =>
            clear hbi hlI
            obtain ⟨i, hi, rfl, lo, lcp, p, rfl, hgr, hlf, hbi⟩ := hrel
            have HLF : Hid (LeftI N es cs i p) := hlf
            have HGR2 : Hid (GridAt wr (.slice lo N lcp) N p) := hgr
            clear hlf hgr
            by_cases hlt : i < cs.length
            · have i2 : (i : Int) < (cs.length : Int) := by omega
              have i1 : (0 : Int) ≤ (i : Int) := by omega
              have hcut := HAL.out.cut
              have hmemc : ∀ c ∈ cs, ∃ x y : Nat, x < y ∧ y < N ∧ hasB es x y = true ∧ c = ((x : Int), (y : Int)) := fun c hc => by
                rw [hcut] at hc
                exact allP_mem.1 (List.mem_filter.1 hc).1
              have hlex : cs.Pairwise lexP := by rw [hcut]; exact List.Pairwise.filter _ (allP_lex _ _)
              obtain ⟨a, b, hab, hbN, hhas, hcab⟩ := hmemc cs[i] (List.getElem_mem hlt)
              have hnot : ((a : Int), (b : Int)) ∉ cs.take i := fun hm => by
                obtain ⟨j, hj, hje⟩ := List.getElem_of_mem hm
                simp at hj
                rw [List.getElem_take] at hje
                have := List.pairwise_iff_getElem.1 hlex j i (by omega) hlt (by omega)
                rw [hje, hcab] at this
                rcases this with h | ⟨_, h⟩ <;> simp at h
              have hpab : p a b = true := (HLF.out.iff a b hab hbN).2 ⟨hhas, hnot⟩
              obtain ⟨_, _, ee, _, _, hcells⟩ := EdgesAt.below HCB.out hbi
              cases ee
              obtain ⟨bc, off, rfl, cx, cy⟩ := hcells i hlt
              rw [hcab] at cx cy
              obtain ⟨_, _, ee, hgrid⟩ := HGR2.out
              cases ee
              obtain ⟨g, br, rfl, cg, crow⟩ := hgrid a (by omega)
              have cab := crow b hbN
              rw [hpab] at cab
              have hprev : ∀ h0 : 0 < i, ∃ a' b' : Nat, wr.cell? ⟨bc, off + (i - 1) * 2, none⟩ = some (.int .i64 (a' : Int)) ∧ wr.cell? ⟨bc, off + (i - 1) * 2 + 1, none⟩ = some (.int .i64 (b' : Int)) ∧ (a' < a ∨ (a' = a ∧ b' < b)) := fun h0 => by
                obtain ⟨a', b', _, _, _, hc'⟩ := hmemc (cs[i - 1]'(by omega)) (List.getElem_mem (by omega))
                obtain ⟨_, _, ee, d1, d2⟩ := hcells (i - 1) (by omega)
                cases ee
                rw [hc'] at d1 d2
                have := List.pairwise_iff_getElem.1 hlex (i - 1) i (by omega) hlt (by omega)
                rw [hc', hcab] at this
                refine ⟨a', b', d1, d2, ?_⟩
                rcases this with h | ⟨h1, h2⟩
                · simp at h; exact Or.inl h
                · simp at h1 h2; exact Or.inr ⟨by omega, by omega⟩
              have z3c := two_next z3b hbi
              obtain ⟨p2, p3⟩ := cell_two z3c
              have HPR : Hid (∀ h0 : 0 < i, ∃ a' b' : Nat, wr.cell? ⟨bc, off + (i - 1) * 2, none⟩ = some (.int .i64 (a' : Int)) ∧ wr.cell? ⟨bc, off + (i - 1) * 2 + 1, none⟩ = some (.int .i64 (b' : Int)) ∧ (a' < a ∨ (a' = a ∧ b' < b))) := hprev
              have HC? : Hid (cs[i]? = some ((a : Int), (b : Int))) := by show _ = _; rw [List.getElem?_eq_getElem hlt, hcab]
              have j1 : (0 : Int) ≤ (a : Int) := by omega
              have j2 : (a : Int) < (N : Int) := by omega
              have j3 : (0 : Int) ≤ (b : Int) := by omega
              have j4 : (b : Int) < (N : Int) := by omega
              have j5 : ¬ (a : Int) < 0 := by omega
              have j6 : ¬ (b : Int) ≥ (N : Int) := by omega
              have j7 : ¬ (a : Int) ≥ (b : Int) := by omega
              clear hcut hmemc hlex hcab hhas hnot hpab hcells hgrid crow hprev z3c
              go_upto_region 30 with (fail)
              go_quiet (fail)
              have cx2 : (wr.drewN nq).cell? ⟨bc, off + i * 2, none⟩ = some (.int .i64 (a : Int)) := cx
              have cy2 : (wr.drewN nq).cell? ⟨bc, off + i * 2 + 1, none⟩ = some (.int .i64 (b : Int)) := cy
              have cg2 : (wr.drewN nq).cell? ⟨g, a, none⟩ = some (.slice (some ⟨br, 0, none⟩) N N) := cg
              have cab2 : (wr.drewN nq).cell? ⟨br, b, none⟩ = some (.bool true) := cab
              have p22 : (wr.drewN nq).cell? ⟨w.heap.size, 0, none⟩ = some (.int .i64 (N : Int)) := p2
              have HPR2 : Hid (∀ h0 : 0 < i, ∃ a' b' : Nat, (wr.drewN nq).cell? ⟨bc, off + (i - 1) * 2, none⟩ = some (.int .i64 (a' : Int)) ∧ (wr.drewN nq).cell? ⟨bc, off + (i - 1) * 2 + 1, none⟩ = some (.int .i64 (b' : Int)) ∧ (a' < a ∨ (a' = a ∧ b' < b))) := HPR.out
              have HGR3 : Hid (GridAt (wr.drewN nq) (.slice (some ⟨g, 0, none⟩) N lcp) N p) := GridAt.below HGR2.out (drewN_below wr nq)
              have hbq := below_drewN hbi nq
              generalize wr.drewN nq = Wq at cx2 cy2 cg2 cab2 p22 HPR2 HGR3 hbq ⊢
              clear cx cy cg cab p2 p3 HPR HGR2 hbi
              go_upto_region 31 with (fail)
              go_cut [206] from 150 to 206 (fun s206 wd => s206 = .bool false ∧ Wq = wd)
              case first =>
                by_cases hi0 : i = 0
                · subst hi0
                  have k1 : ¬ ((0 : Nat) : Int) > 0 := by omega
                  go_wp2_with fail
                  go_meet
                  case rel => exact ⟨rfl, rfl⟩
                · obtain ⟨a', b', d1, d2, hd⟩ := HPR2.out (by omega)
                  obtain ⟨i', hi'⟩ : ∃ i', i = i' + 1 := ⟨i - 1, by omega⟩
                  rw [hi', Nat.add_sub_cancel] at d1 d2
                  have k1 : (i : Int) > 0 := by omega
                  have k2 : IntKind.i64.wrap ((i : Int) - 1) = (i' : Int) := by rw [IntKind.wrap_i64]; omega
                  have k3 : (0 : Int) ≤ (i' : Int) := by omega
                  have k4 : (i' : Int) < (cs.length : Int) := by omega
                  have k5 : ¬ (a' : Int) > (a : Int) := by omega
                  clear hi'
                  by_cases haa : a' = a
                  · subst haa
                    have k6 : ¬ (b' : Int) ≥ (b : Int) := by omega
                    go_wp2_with fail
                    go_meet
                    case rel => exact ⟨rfl, rfl⟩
                  · have k6 : ((a' : Int) == (a : Int)) = false := by rw [beq_eq_false_iff_ne]; omega
                    go_wp2_with fail
                    go_meet
                    case rel => exact ⟨rfl, rfl⟩
              case rest =>
                obtain ⟨rfl, hWq⟩ := hcut
                subst hWq
                have h19 := without_call N (some ⟨g, 0, none⟩) lcp p Wq HGR3.out hN (Nat.le_trans HLF.out.len hl) (x := (a : Int)) (y := (b : Int)) ⟨by omega, by omega⟩ ⟨by omega, by omega⟩
                have H19 : Hid (Calls Try.prog 19 #[.slice (some ⟨g, 0, none⟩) N lcp, .agg #[.int .i64 (a : Int), .int .i64 (b : Int)]] Wq fun r w' => ∃ to0 tc, r = .returned (.slice to0 N tc) ∧ GridAt w' (.slice to0 N tc) N (hasB (lessL (allP N p) ((a : Int), (b : Int)))) ∧ Below Wq.heap.size Wq w') := h19
                clear h19 cg2 cab2 p22 HPR2 HGR3
                go_wp2_with (first | (go_at_call 19; refine Calls.mono H19.out ?_; rintro r W12 ⟨lo2, lc2, rfl, hG12, hb12⟩; have HG12 : Hid (GridAt W12 (.slice lo2 N lc2) N (hasB (lessL (allP N p) ((a : Int), (b : Int))))) := hG12; clear hG12) | go_in)
                go_roundw
                case rel => exact ⟨i + 1, by omega, by go_num, lo2, lc2, _, rfl, HG12.out, HLF.out.step HC?.out, below_next hbq hb12⟩
                case measure => simp [numOf]; omega
            · have i2 : ¬ (i : Int) < (cs.length : Int) := by omega
              have h20 := reach_call N lo lcp p wr HGR2.out hN hu (shutAt_nil wr N)
              have H20 : Hid (Calls Try.prog 20 #[.slice lo N lcp, .int .i64 (u : Int), .slice none 0 0] wr fun r w' => ∃ b, r = .returned (.slice (some ⟨b, 0, none⟩) N N) ∧ wr.heap.size ≤ b ∧ ∃ I : Nat → Bool, RowB w' b N I ∧ (∀ x, x < N → (I x = true ↔ Star (St N (pn p) (openB (fun _ => false))) u x)) ∧ Below wr.heap.size wr w') := h20
              have HSH : Hid (¬ Star (St N (pn p) (openB (fun _ => false))) u z) := LeftI.shut (by have := HLF.out; rw [HAL.out.cut] at this; exact this) (by rw [← HAL.out.cut]; omega) hu HAL.out.src HAL.out.snk
              have j1 : (0 : Int) ≤ (z : Int) := by omega
              have j2 : (z : Int) < (N : Int) := by omega
              clear h20
              go_wp2_with (first | (go_at_call 20; refine Calls.mono H20.out ?_; rintro r W12 ⟨bi, rfl, hge, I, hrow, hI, hb12⟩; have cz := hrow.cell hz; have hIz : I z = false := (by cases hq : I z; rfl; exact absurd ((hI z hz).1 hq) HSH.out); rw [hIz] at cz; clear hI) | go_in)
              go_ret
              exact ⟨rfl, below_next hBa (below_next hbi hb12)⟩
end Go.Proofs.Ytkakmaalmhofmaa
