/- FlowTree's walk: whatever graph and weights it is given, it answers true. -/
import Derived.Test.YtkakmaalmhofmaaTreeA
import Derived.Deep.Cut
import Derived.Deep.CutRange
import Derived.Deep.RegionLaw
namespace Go.Proofs.Ytkakmaalmhofmaa
open Go.RowKit Go.Maps
attribute [local go_sem ↓] Go.wp_at_zero Go.wp_at_succ

set_option maxRecDepth 4000 in
set_option maxHeartbeats 8000000 in
theorem treeLaw : TreeLaw := by
  intro n ao no ca nc es l w hE hI hca hlb
  obtain ⟨i0, hi, hz0, hz1, hz2⟩ := info_parts Try.info3
  have HE : Hid _ := hE
  have HI : Hid _ := hI
  clear hE hI
  go_enter Try.func6, Try.ntmps6
  go_upto_region 1 with (fail)
  have t2 := two_new w (.int .i64 n) (.slice ao es.length ca) 40
  have hB0 := below_alloc (Below.refl _ w) (Obj.cells #[.int .i64 n, .slice ao es.length ca] 40)
  generalize w.alloc (Obj.cells #[.int .i64 n, .slice ao es.length ca] 40) = W0 at t2 hB0 ⊢
  obtain ⟨q0, q1⟩ := cell_two t2
  go_upto_region 2 with (first | (go_at_call 13; refine (own_any n ao ca es _ (EdgesAt.below HE.out hB0)).mono ?_; rintro e W1 ⟨hb1, o1, c1, rfl, hE1, hc1⟩) | go_in)
  have t5 := two_new W1 (.int .i64 n) (.slice o1 es.length c1) 40
  have hb1a := below_alloc hb1 (Obj.cells #[.int .i64 n, .slice o1 es.length c1] 40)
  have t2' := two_next t2 hb1a
  have hE5 := hE1.below (below_alloc (Below.refl _ W1) (Obj.cells #[.int .i64 n, .slice o1 es.length c1] 40))
  have hB1 := below_next hB0 hb1a
  obtain ⟨b5, hb5⟩ : ∃ b, b = W1.heap.size := ⟨_, rfl⟩
  rw [← hb5] at t5 ⊢
  generalize W1.alloc (Obj.cells #[.int .i64 n, .slice o1 es.length c1] 40) = W2 at t5 t2' hE5 hB1 ⊢
  clear t2 hB0 q0 q1 hb1 hb1a hE1 hb5
  have hIW := IntsAt.below HI.out hB1
  go_cut [6] from 19 to 20 (fun s6 wc => Below W2.heap.size W2 wc ∧ ∃ mo mc, s6 = .slice mo l.length mc ∧ IntsAt wc (.slice mo l.length mc) l)
  case first =>
    by_cases hl0 : l = []
    · subst hl0
      cases no with
      | none =>
        go_wp2_with fail
        go_meet
        case rel => exact ⟨Below.refl _ _, none, 0, rfl, intsAt_none _⟩
      | some a =>
        go_wp2_with fail
        go_meet
        case rel => exact ⟨Below.refl _ _, none, 0, rfl, intsAt_none _⟩
    · have hpos : 0 < l.length := List.length_pos_iff.2 hl0
      obtain ⟨_, _, e', _, hi64, hcells⟩ := hIW
      cases e'
      obtain ⟨b, off, hno, _⟩ := hcells 0 hpos
      cases hno
      have H64 : Hid _ := hi64
      have hn1 := ints_news (IntsAt.below HI.out hB1)
      have HN1 : Hid _ := hn1
      clear hi64 hcells hn1
      go_wp2_with (first | (at_builtin; refine wpList_append_own _ rfl _ _ 30 rfl W2.heap.size 3 i0 (.int .i64 0) 1 8 Try.underlying30 hi hz0 hz1 hz2 rfl (by decide) _ _ _ rfl (World.ownsRow_nil _ _ _ _) ⟨b, off, none⟩ l.length nc (l.map (Value.int .i64)) rfl ?n0 ?n1 ?n2 ?n3 ?n4 ?n5 ?_) | go_in)
      case n0 => simp
      case n1 => exact HN1.out
      case n2 => intro u hu; simp at hu; obtain ⟨x, _, rfl⟩ := hu; rfl
      case n3 => unfold maxLen; omega
      case n4 => omega
      case n5 => exact Nat.le_refl _
      intro v' w2 hown hgrow _
      try simp only [Nat.zero_add, List.nil_append] at hown
      obtain ⟨mo, mc, rfl⟩ := form_row hown
      go_wp2_with fail
      go_meet
      case rel => exact ⟨⟨hgrow.os, hgrow.tape, hgrow.output, hgrow.size, fun k hk => hgrow.block k hk (by simp [Value.ownBlock])⟩, mo, mc, rfl, intsAt_own hown H64.out (by omega)⟩
  case rest =>
    obtain ⟨hbc, mo, mc, rfl, hIm⟩ := hcut
    have v2 := two_next t2' hbc
    have v5 := two_next t5 hbc
    have hE6 := hE5.below hbc
    have hB2 := below_next hB1 hbc
    obtain ⟨m1, m2, hm⟩ : ∃ m1 m2, chk n es = (m1, m2) := ⟨_, _, rfl⟩
    have h14 := refCheck_as (EdgesAt.below HE.out hB2) hca hm
    have H14 : Hid _ := h14
    have HM : Hid _ := hm
    clear t2' t5 hE5 hB1 hbc hIW h14 hm
    obtain ⟨q0, q1⟩ := cell_two v2
    go_upto_region 4 with (first | (go_at_call 14; refine Calls.mono H14.out ?_; rintro e W3 ⟨rfl, hb3⟩) | go_in)
    have x2 := two_next v2 hb3
    have x5 := two_next v5 hb3
    have hE7 := hE6.below hb3
    have hI7 := hIm.below hb3
    have hB3 := below_next hB2 hb3
    obtain ⟨b7, hb7⟩ : ∃ b, b = W3.heap.size := ⟨_, rfl⟩
    have t7 := two_new W3 (.int .i64 m1) (.int .i64 m2) 26
    have hb4 := below_alloc (Below.refl _ W3) (Obj.cells #[.int .i64 m1, .int .i64 m2] 26)
    have hB37 : W3.heap.size ≤ b7 := by omega
    rw [← hb7] at t7 ⊢
    generalize W3.alloc (Obj.cells #[.int .i64 m1, .int .i64 m2] 26) = W4 at t7 hb4 ⊢
    clear v2 v5 hE6 hIm hB2 hb3 q0 q1 H14 hb7
    have y2 := two_next x2 hb4
    go_cut [33] from 23 to 33 (fun s33 wd => ∃ g : Bool, s33 = .bool g ∧ (g = true ↔ m1 = 0 ∧ l.length ≠ es.length) ∧ wd = W4)
    case first =>
      obtain ⟨q0, q1⟩ := cell_two y2
      obtain ⟨q2, q3⟩ := cell_two t7
      by_cases hm0 : m1 = 0
      · have k1 : (m1 == 0) = true := by rw [beq_iff_eq]; exact hm0
        by_cases hle : l.length = es.length
        · have k2 : ((l.length : Int) == (es.length : Int)) = true := by rw [beq_iff_eq]; omega
          go_wp2_with fail
          go_meet
          case rel => exact ⟨false, rfl, by simp [hm0, hle], rfl⟩
        · have k2 : ((l.length : Int) == (es.length : Int)) = false := by rw [beq_eq_false_iff_ne]; omega
          go_wp2_with fail
          go_meet
          case rel => exact ⟨_, rfl, by simp [hm0, hle]; omega, rfl⟩
      · have k1 : (m1 == 0) = false := by rw [beq_eq_false_iff_ne]; exact hm0
        go_wp2_with fail
        go_meet
        case rel => exact ⟨false, rfl, by simp [hm0], rfl⟩
    case rest =>
      obtain ⟨g, rfl, hgi, rfl⟩ := hcut
      go_upto_if 33 with (fail)
      go_cut [] from 34 to 34 (fun wd => ∃ c d, Two wd b7 (.int .i64 c) (.int .i64 d) 26 ∧ Below W3.heap.size W3 wd ∧ WsTo n es l 0 c d)
      case first =>
        cases g with
        | true =>
          have hx := hgi.1 rfl
          have hws := WsTo.size (k := 0) (l := l) (by rw [HM.out]; exact hx.1) hx.2
          have HW : Hid (WsTo n es l 0 6 0) := hws
          clear hws hgi hx
          go_wp2_with (first | (go_at_call 22; refine Calls.mono (refF_any 6 0 _) ?_; rintro e W5 ⟨rfl, hb5⟩; have z7 := two_next t7 hb5; have ff := free_two z7; obtain ⟨b2, b3⟩ := cell_two z7) | go_in)
          go_meet
          case rel => exact ⟨6, 0, two_setN z7, ((below_next hb4 hb5).setCell (by simp; omega) _).setCell (by simp; omega) _, HW.out⟩
        | false =>
          have hx : ¬ (m1 = 0 ∧ l.length ≠ es.length) := fun h => by have := hgi.2 h; cases this
          have hws := WsTo.start HM.out hx
          have HW : Hid (WsTo n es l 0 m1 m2) := hws
          clear hws hgi hx
          go_wp2_with fail
          go_meet
          case rel => exact ⟨m1, m2, t7, hb4, HW.out⟩
      case rest =>
        obtain ⟨c0, d0, tb0, hbc0, hw0⟩ := hcut
        clear t7 hb4 y2
        go_wp2
        go_loopw [8] (fun i wr => ∃ k : Nat, k ≤ l.length ∧ i = .int .i64 (k : Int) ∧ ∃ c d, Two wr b7 (.int .i64 c) (.int .i64 d) 26 ∧ Below W3.heap.size W3 wr ∧ WsTo n es l k c d) (fun i _ => l.length - (numOf i).toNat)
        case atStart => exact ⟨0, Nat.zero_le _, rfl, c0, d0, tb0, hbc0, hw0⟩
        case round =>
          clear tb0 hbc0 hw0
          obtain ⟨k, hk, rfl, c, d, tb, hbc, hwk⟩ := hrel
          have hwB : Below w.heap.size w wr := below_next hB3 hbc
          obtain ⟨qb, qb1⟩ := cell_two tb
          go_upto_region 7 with (fail)
          go_cut [43] from 35 to 43 (fun s43 wd => s43 = .bool (decide (k < l.length ∧ c = 0)) ∧ wr = wd)
          case first =>
            by_cases hlt : k < l.length
            · have i2 : (k : Int) < (l.length : Int) := by omega
              by_cases hc0 : c = 0
              · have k1 : (c == 0) = true := by rw [beq_iff_eq]; exact hc0
                go_wp2_with fail
                go_meet
                case rel => exact ⟨by simp [hlt, hc0], rfl⟩
              · have k1 : (c == 0) = false := by rw [beq_eq_false_iff_ne]; exact hc0
                go_wp2_with fail
                go_meet
                case rel => exact ⟨by simp [hc0], rfl⟩
            · have i2 : ¬ (k : Int) < (l.length : Int) := by omega
              go_wp2_with fail
              go_meet
              case rel => exact ⟨by simp [hlt], rfl⟩
          case rest =>
            obtain ⟨rfl, rfl⟩ := hcut
            by_cases hgo : k < l.length ∧ c = 0
            · have k1 : decide (k < l.length ∧ c = 0) = true := by simpa using hgo
              rw [k1]
              obtain ⟨hlt, rfl⟩ := hgo
              have i1 : (0 : Int) ≤ (k : Int) := by omega
              have i2 : (k : Int) < (l.length : Int) := by omega
              obtain ⟨_, _, e', _, hi64, hcells⟩ := IntsAt.below HI.out hwB
              cases e'
              obtain ⟨b, off, rfl, cx⟩ := hcells k hlt
              obtain ⟨x, hx⟩ : ∃ x, l[k] = x := ⟨_, rfl⟩
              rw [hx] at cx
              have HX : Hid _ := hx
              have HWK : Hid (WsTo n es l k 0 d) := hwk
              clear hi64 hcells hx hwk k1
              by_cases hx0 : x < 0
              · have hb := WsTo.bad HWK.out hlt (by rw [HX.out]; simp [isV]; omega) (k + 1)
                have HB : Hid (WsTo n es l (k + 1) 3 (k : Int)) := hb
                clear hb
                go_wp2_with (first | (go_at_call 22; refine Calls.mono (refF_any 3 (k : Int) _) ?_; rintro e W5 ⟨rfl, hb5⟩; have z7 := two_next tb hb5; have ff := free_two z7; obtain ⟨b2, b3⟩ := cell_two z7) | go_in)
                go_roundw
                case rel => exact ⟨k + 1, by omega, by go_num, 3, (k : Int), two_setN z7, ((below_next hbc hb5).setCell (by simp; omega) _).setCell (by simp; omega) _, HB.out⟩
                case measure => simp [numOf]; omega
              · by_cases hx1 : x > 1000000
                · have hb := WsTo.bad HWK.out hlt (by rw [HX.out]; simp [isV]; omega) (k + 1)
                  have HB : Hid (WsTo n es l (k + 1) 3 (k : Int)) := hb
                  clear hb
                  go_wp2_with (first | (go_at_call 22; refine Calls.mono (refF_any 3 (k : Int) _) ?_; rintro e W5 ⟨rfl, hb5⟩; have z7 := two_next tb hb5; have ff := free_two z7; obtain ⟨b2, b3⟩ := cell_two z7) | go_in)
                  go_roundw
                  case rel => exact ⟨k + 1, by omega, by go_num, 3, (k : Int), two_setN z7, ((below_next hbc hb5).setCell (by simp; omega) _).setCell (by simp; omega) _, HB.out⟩
                  case measure => simp [numOf]; omega
                · have hb := WsTo.good HWK.out hlt (by rw [HX.out]; simp [isV]; omega)
                  have HB : Hid (WsTo n es l (k + 1) 0 d) := hb
                  clear hb
                  go_wp2_with fail
                  go_roundw
                  case rel => exact ⟨k + 1, by omega, by go_num, 0, d, tb, hbc, HB.out⟩
                  case measure => simp [numOf]; omega
            · have k1 : decide (k < l.length ∧ c = 0) = false := by simpa using hgo
              rw [k1]
              have htf := hwk.last hgo
              have HTF : Hid (treeF n es l = (c, d)) := htf
              have u5 := two_next x5 hbc
              have u2 := two_next x2 hbc
              have hE8 := hE7.below hbc
              have hI8 := hI7.below hbc
              have h24 := tree_any n (.slice o1 es.length c1) es mo mc l wr hE8 hI8
              rw [htf] at h24
              have H24 : Hid _ := h24
              clear htf hwk hgo k1 h24 qb qb1
              generalize wr = Wr at tb u5 u2 hE8 hI8 H24 hwB ⊢
              clear x2 x5 hE7 hI7 hB3 hbc
              obtain ⟨q0, q1⟩ := cell_two u5
              go_upto_region 12 with (first | (go_at_call 24; refine Calls.mono H24.out ?_; rintro r W6 ⟨uv, cv, c', d', rfl, hcd, hans, hb6⟩; cases hcd) | go_in)
              obtain ⟨b11, hb11⟩ : ∃ b, b = W6.heap.size := ⟨_, rfl⟩
              have v11 := two_new W6 (.int .i64 c) (.int .i64 d) 26
              have hb6a := below_alloc hb6 (Obj.cells #[.int .i64 c, .int .i64 d] 26)
              have v7 := two_next tb hb6a
              have v5 := two_next u5 hb6a
              have v2 := two_next u2 hb6a
              have hE9 := hE8.below hb6a
              have hI9 := hI8.below hb6a
              have hB6 := below_next hwB hb6a
              have hans2 : (c ≠ 0 ∧ uv = .slice none 0 0 ∧ cv = .slice none 0 0) ∨ (c = 0 ∧ d = 0 ∧ ∃ N : Nat, n = N ∧ N ≤ 100 ∧ es.length ≤ 1000 ∧ (∀ e ∈ es, 0 ≤ e.1 ∧ e.1 < N ∧ 0 ≤ e.2 ∧ e.2 < N) ∧ l.length = es.length ∧ (∀ x ∈ l, isV x = true) ∧ ∃ uo uc co cc, uv = .slice uo N uc ∧ cv = .slice co N cc ∧ UpCut N es l (W6.alloc (Obj.cells #[.int .i64 c, .int .i64 d] 26)) uo uc co cc) := by
                rcases hans with h | ⟨h0, h1, N, h2, h3, h4, h5, h6, h7, h8⟩
                · exact Or.inl h
                · obtain ⟨uo, uc, co, cc, e1, e2, h9⟩ := h8.upcut
                  exact Or.inr ⟨h0, h1, N, h2, h3, h4, h5, h6, h7, uo, uc, co, cc, e1, e2, h9.below (below_alloc (Below.refl _ W6) _)⟩
              rw [← hb11] at v11 ⊢
              generalize W6.alloc (Obj.cells #[.int .i64 c, .int .i64 d] 26) = W7 at v11 v7 v5 v2 hE9 hI9 hB6 hans2 ⊢
              have HAN : Hid _ := hans2
              clear tb u5 u2 hE8 hI8 hwB hans hans2 hb6 hb6a H24 hb11 q0 q1
              have hE9' := EdgesAt.below HE.out hB6
              have hI9' := IntsAt.below HI.out hB6
              have HE9 : Hid _ := hE9
              have HI9 : Hid _ := hI9
              have HE9' : Hid _ := hE9'
              have HI9' : Hid _ := hI9'
              clear hE9 hI9 hE9' hI9'
              have hne := neq26 c d
              go_upto_if 85 with (first
                | (go_at_call 9; refine Calls.mono (begun_call _) ?_; rintro e Wa ⟨rfl, hba⟩; have a7 := two_next v7 hba; have a11 := two_next v11 hba; have a5 := two_next v5 hba; have a2 := two_next v2 hba; obtain ⟨p0, p1⟩ := cell_two a7; obtain ⟨p2, p3⟩ := cell_two a11; obtain ⟨p4, p5⟩ := cell_two a5; obtain ⟨p6, p7⟩ := cell_two a2)
                | (go_at_call 16; refine Calls.mono (kept_true n _ _ es _ (EdgesAt.below HE9.out hba) (EdgesAt.below HE9'.out hba)) ?_; rintro e Wb ⟨rfl, hbb⟩; have hbb' := below_next hba hbb)
                | (go_at_call 25; refine Calls.mono (ints_true _ _ l _ (IntsAt.below HI9.out hbb') (IntsAt.below HI9'.out hbb')) ?_; rintro e Wc ⟨rfl, hbc⟩; have hbc' := below_next hbb' hbc)
                | go_in)
              have z7 := two_next v7 hbc'
              have z2 := two_next v2 hbc'
              have hB8 := below_next hB6 hbc'
              rcases HAN.out with ⟨hc0, rfl, rfl⟩ | ⟨rfl, rfl, N, rfl, hN, hl, hg, hle, hws, uo, uc, co, cc, rfl, rfl, huc⟩
              · have k1 : (c == 0) = false := by rw [beq_eq_false_iff_ne]; exact hc0
                obtain ⟨p0, p1⟩ := cell_two z7
                clear HAN
                go_wp2
                go_ret
                exact ⟨rfl, hB8⟩
              · have huc2 := huc.below hbc'
                have HUC : Hid (UpCut N es l Wc uo uc co cc) := huc2
                have HG : Hid _ := hg
                have HWS : Hid (∀ x ∈ l, isV x = true) := hws
                have HLE : Hid _ := hle
                clear HAN huc huc2 hg hws hle a7 a11 a5 a2 p0 p1 p2 p3 p4 p5 p6 p7 hba hbb hbb' hbc hbc' v7 v11 v5 v2 hne HE9 HI9 HE9' HI9' hB6 HTF
                obtain ⟨p0, p1⟩ := cell_two z7
                obtain ⟨p2, p3⟩ := cell_two z2
                go_wp2
                clear p0 p1 p2 p3
                go_loopw [4, 12] (fun _ i wr => ∃ v : Nat, v ≤ N ∧ i = .int .i64 (v : Int) ∧ Below Wc.heap.size Wc wr) (fun _ i _ => N - (numOf i).toNat)
                case atStart => exact ⟨0, Nat.zero_le _, rfl, Below.refl _ _⟩
                case round =>
                  obtain ⟨v, hv, rfl, hbv⟩ := hrel
                  have w2 := two_next z2 hbv
                  obtain ⟨p2, p3⟩ := cell_two w2
                  by_cases hlt : v < N
                  · obtain ⟨bu, bc, rfl, rfl, rfl, rfl, f, up, cz, hf, hti, hru, hrc⟩ := UpCut.below HUC.out hbv (by omega)
                    have i1 : (0 : Int) ≤ (v : Int) := by omega
                    have i2 : (v : Int) < (N : Int) := by omega
                    have cu := hru.cell hlt
                    have cc := hrc.cell hlt
                    have HTI : Hid _ := hti
                    have HRU : Hid _ := hru
                    have hz := hti.zero
                    have hupN : ∀ u, 0 < u → u < N → up u < u := fun u h1 h2 => hti.lt u h1 h2
                    have HUP : Hid _ := hupN
                    clear hf hti hru hrc hupN
                    go_upto_region 21 with (fail)
                    go_cut [148] from 113 to 148 (fun s wd => s = .bool false ∧ Below Wc.heap.size Wc wd)
                    case first =>
                      by_cases hv0 : v = 0
                      · subst hv0
                        have cu0 : wr.cell? ⟨bu, 0, none⟩ = some (.int .i64 (-1)) := cu
                        have cc0 : wr.cell? ⟨bc, 0, none⟩ = some (.int .i64 0) := by rw [hz] at cc; exact cc
                        clear cu cc
                        go_quiet (fail)
                        go_wp2_with fail
                        go_meet
                        case rel => exact ⟨rfl, below_drewN hbv _⟩
                      · have hpos : 0 < v := by omega
                        have j1 : ((v : Int) == 0) = false := by rw [beq_eq_false_iff_ne]; omega
                        have j2 : (v : Int) > 0 := by omega
                        have cu0 : wr.cell? ⟨bu, v, none⟩ = some (.int .i64 (up v : Int)) := by rw [cu]; simp [upz, hv0]
                        have h4 := HUP.out v hpos hlt
                        have j3 : ¬ (up v : Int) < 0 := by omega
                        have j4 : ¬ (up v : Int) ≥ (N : Int) := by omega
                        clear cu cc
                        go_quiet (fail)
                        go_wp2_with fail
                        go_meet
                        case rel => exact ⟨rfl, below_drewN hbv _⟩
                    case rest =>
                      clear cu cc p2 p3 hz HRU w2 hbv
                      obtain ⟨rfl, hbv2⟩ := hcut
                      go_wp2
                      go_loopw [13, 14] (fun kv sv wr => ∃ k st : Nat, k < N ∧ st + k ≤ v ∧ kv = .int .i64 (k : Int) ∧ sv = .int .i64 (st : Int) ∧ Below Wc.heap.size Wc wr) (fun kv _ _ => (numOf kv).toNat)
                      case atStart => exact ⟨v, 0, hlt, by omega, rfl, rfl, hbv2⟩
                      case round =>
                        clear hbv2
                        obtain ⟨k, st, hkN, hst, rfl, rfl, hbk⟩ := hrel
                        by_cases hk0 : 0 < k
                        · have w2 := two_next z2 hbk
                          obtain ⟨p2, p3⟩ := cell_two w2
                          obtain ⟨bu', bc', e1, _, e2, _, f', up', cz', _, hti', hru', _⟩ := UpCut.below HUC.out hbk (by omega)
                          cases e1
                          have h4 := hti'.lt k hk0 hkN
                          have cu := hru'.cell hkN
                          have cu0 : wr.cell? ⟨bu, k, none⟩ = some (.int .i64 (up' k : Int)) := by rw [cu]; simp [upz]; omega
                          have j1 : (k : Int) > 0 := by omega
                          have j2 : ¬ (st : Int) > (N : Int) := by omega
                          have j3 : (0 : Int) ≤ (k : Int) := by omega
                          have j4 : (k : Int) < (N : Int) := by omega
                          clear cu hru' hti'
                          go_wp2
                          go_roundw
                          case rel => exact ⟨up' k, st + 1, by omega, by omega, rfl, by go_num, hbk⟩
                          case measure => simp [numOf]; omega
                        · have j1 : ¬ (k : Int) > 0 := by omega
                          go_wp2
                          go_roundw
                          case rel => exact ⟨v + 1, by omega, by go_num, hbk⟩
                          case measure => simp [numOf]; omega
                  · have i2 : ¬ (v : Int) < (N : Int) := by omega
                    by_cases h9 : N ≤ 9
                    · have j9 : ¬ (N : Int) > 9 := by omega
                      go_wp2
                      go_loopw [4, 15] (fun _ i wr => ∃ a : Nat, a ≤ N ∧ i = .int .i64 (a : Int) ∧ Below Wc.heap.size Wc wr) (fun _ i _ => N - (numOf i).toNat)
                      case atStart => exact ⟨0, Nat.zero_le _, rfl, hbv⟩
                      case round =>
                        clear p2 p3 w2 hbv
                        obtain ⟨a, ha, rfl, hba⟩ := hrel
                        have w2 := two_next z2 hba
                        obtain ⟨p2, p3⟩ := cell_two w2
                        by_cases hlt : a < N
                        · have i3 : (a : Int) < (N : Int) := by omega
                          go_wp2
                          go_loopw [4, 16] (fun _ i wr => ∃ b : Nat, b ≤ a ∧ i = .int .i64 (b : Int) ∧ Below Wc.heap.size Wc wr) (fun _ i _ => a - (numOf i).toNat)
                          case atStart => exact ⟨0, Nat.zero_le _, rfl, hba⟩
                          case round =>
                            clear p2 p3 w2 hba
                            obtain ⟨b, hb, rfl, hbb⟩ := hrel
                            have w2 := two_next z2 hbb
                            obtain ⟨p2, p3⟩ := cell_two w2
                            by_cases hlt2 : b < a
                            · have i4 : (b : Int) < (a : Int) := by omega
                              obtain ⟨bu, bc, rfl, rfl, rfl, rfl, f, up, cz, hf, hti, hru, hrc⟩ := UpCut.below HUC.out hbb (by omega)
                              have hws' := wtE_range HWS.out
                              rw [HLE.out] at hws'
                              have hx : f a b = f a b := rfl
                              have h26 := leastCut' (a := a) (b := b) (wc0 := nc) HLE.out (EdgesAt.below HE.out (below_next hB8 hbb)) (IntsAt.below HI.out (below_next hB8 hbb)).nums h9 hl HLE.out HG.out (fun x hx => by have := HWS.out x hx; simpa [isV] using this) hf hlt (by omega) (by omega)
                              have H26 : Hid _ := h26
                              have h27 : ∀ Wd, Below wr.heap.size wr Wd → Calls Try.prog 27 #[sl bu N, sl bc N, .int .i64 (a : Int), .int .i64 (b : Int)] Wd fun r w' => r = .returned (.int .i64 (f a b)) ∧ Below Wd.heap.size Wd w' := fun Wd hbd => between_call hti hf (fun a b _ _ h3 => (hf.range hws' hl h3).2) (fun a b _ _ h3 => (hf.range hws' hl h3).1) hN (hru.block (hbd.block _ hru.lt)) (hrc.block (hbd.block _ hrc.lt)) hlt (by omega) (by omega)
                              have H27 : Hid (∀ Wd, Below wr.heap.size wr Wd → Calls Try.prog 27 #[sl bu N, sl bc N, .int .i64 (a : Int), .int .i64 (b : Int)] Wd fun r w' => r = .returned (.int .i64 (f a b)) ∧ Below Wd.heap.size Wd w') := h27
                              clear hws' hx h26 h27 hf hti hru hrc
                              go_wp2_with (first
                                | (go_at_call 26; refine Calls.mono H26.out ?_; rintro e Wd ⟨rfl, hbd⟩)
                                | (go_at_call 27; refine Calls.mono (H27.out _ hbd) ?_; rintro e We ⟨rfl, hbe⟩; have hbe' := below_next (below_next hbb hbd) hbe)
                                | go_in)
                              go_roundw
                              case rel => exact ⟨b + 1, by omega, by go_num, hbe'⟩
                              case measure => simp [numOf]; omega
                            · have i4 : ¬ (b : Int) < (a : Int) := by omega
                              go_wp2
                              go_roundw
                              case rel => exact ⟨a + 1, by omega, by go_num, hbb⟩
                              case measure => simp [numOf]; omega
                        · have i3 : ¬ (a : Int) < (N : Int) := by omega
                          go_wp2
                          go_ret
                          exact ⟨rfl, below_next hB8 hba⟩
                    · have j9 : (N : Int) > 9 := by omega
                      go_wp2
                      go_ret
                      exact ⟨rfl, below_next hB8 hbv⟩
end Go.Proofs.Ytkakmaalmhofmaa
