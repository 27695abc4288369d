/- The document's Reads, whole: it tells what Read tells. -/
import Derived.Test.YtbaghbodjpehpaaDoorReadsBad
namespace Go.Proofs.YtbaghbodjpehpaaDoor
open Go.RowKit Go.Maps
attribute [local go_sem ↓] Go.wp_at_zero Go.wp_at_succ

theorem own_cap {w : World} {base e size n : Nat} {ao : Option Addr} {l cap : Nat} {xs : List Value} (h : w.ownsRow base e size (.slice ao l cap) n xs) : n ≤ cap := by
  rcases h.2 with ⟨h1, h2⟩ | ⟨g, c, cur, h1, _, _, h2, _⟩
  · omega
  · cases h1; exact h2

set_option maxRecDepth 100000 in
set_option maxHeartbeats 8000000 in
theorem reads_go (s : ByteArray) (w : World) (hs : s.size ≤ 20000) (h : numOk s 0 (runEnd s 0)) (hc : runEnd s 0 < s.size ∧ byteAt s (runEnd s 0) = 58) {R : Got × Nat} (hR : endS s (numAt s 0) (parseE s (s.size + 1) (runEnd s 0 + 1) []) = R) {A : Ans} (hA : ansOf R = A) :
    Tells 16 #[.string s] w A := by
  obtain ⟨i0, hi, hz0, hz1, hz2⟩ := info_parts Tryd.info39
  have g0 := rs0 w
  have h1 : ¬ (20000 : Int) < (s.size : Int) := by omega
  have hn9 := numAt_bd s 0 (Nat.zero_le _) h
  have HR : Hid _ := hR
  have HA : Hid _ := hA
  clear hR hA
  unfold Tells
  go_enter Tryd.func16, Tryd.ntmps16
  go_upto_region 1 with fail
  generalize (w.alloc (Obj.cells #[.int .i64 0, .slice none 0 0] 24)).alloc (Obj.cells #[.int .i64 0, .int .i64 0] 27) = W at g0 ⊢
  have G := g0
  clear g0
  go_upto_region 5 with (go_at_call 36; refine (figure_yes s 0 _ _ (by rfl) hs (Nat.zero_le _) h).mono ?_; rintro e w1 ⟨rfl, rfl⟩)
  obtain ⟨P, hP⟩ : ∃ P, parseE s (s.size + 1) (runEnd s 0 + 1) [] = P := ⟨_, rfl⟩
  have hRL := HR.out
  rw [hP] at hRL
  have HRL : Hid _ := hRL
  have HP : Hid _ := hP
  clear hRL hP HR h
  generalize numAt s 0 = N at hn9 HRL ⊢
  generalize runEnd s 0 = E at HP hc ⊢
  obtain ⟨hlt, hc58⟩ := hc
  have k0 : ¬ (E : Int) < 0 := by omega
  have k1 : (0 : Int) ≤ (E : Int) := by omega
  have k2 : (E : Int) < (s.size : Int) := by omega
  have k3 : (E : Int) ≠ (s.size : Int) := by omega
  have k4 : s[E].toNat = 58 := (byteAt_get s E hlt).trans hc58
  have hsz := G.size
  go_upto_region 11 with fail
  have g1 : RS w (w1.alloc (Obj.cells #[.int .i64 N, .slice none 0 0] 24)) N (.slice none 0 0) [] := by
    refine ⟨two_alloc G.r0 _, two_alloc G.r1 _, ?_, World.ownsRow_nil _ _ _ _, below_alloc G.below _⟩
    have := two_new w1 (.int .i64 N) (.slice none 0 0) 24
    rw [hsz] at this
    exact this
  generalize w1.alloc (Obj.cells #[.int .i64 N, .slice none 0 0] 24) = W1 at g1 ⊢
  clear k0 k1 k2 k3 k4 hsz G
  go_loopw [6] (fun i wr => ∃ (k f : Nat) (v : Value) (acc : List Pair), i = .int .i64 k ∧ k ≤ s.size ∧ s.size < f + k ∧ acc.length ≤ k ∧ (∀ e ∈ acc, (0 ≤ e.1 ∧ e.1 ≤ 999) ∧ 0 ≤ e.2 ∧ e.2 ≤ 999) ∧ parseE s f k acc = P ∧ RS w wr N v acc) (fun i _ => s.size - (intOf i).toNat)
  case atStart => exact ⟨E + 1, s.size + 1, _, [], rfl, by omega, by omega, by simp, by simp, HP.out, g1⟩
  case round =>
    obtain ⟨k, f, v, acc, rfl, hk, hf, hal, hin, hp, G2⟩ := hrel
    clear g1
    obtain ⟨vo, vc, rfl⟩ := form_row G2.own
    have HIN : Hid _ := hin
    clear hin
    have k0 : (0 : Int) ≤ (k : Int) := by omega
    by_cases hke : k = s.size
    · have hPe : P = .edges acc k := by
        rw [← hp]
        cases f with
        | zero => rfl
        | succ f => rw [parseE, if_neg (by omega)]
      subst hPe
      have hRR := HRL.out
      simp only [endS] at hRR
      rw [if_neg (by omega)] at hRR
      subst hRR
      have hAA := HA.out
      subst hAA
      have k3 : ((k : Int) == (s.size : Int)) = true := by simp; omega
      clear hp HP HRL hke
      go_wp2_with (go_at_call 35; refine (bad_any _ _).mono ?_; rintro e w9 ⟨rfl, hb9⟩; obtain ⟨g0, g1, g2⟩ := kk (two_next G2.r0 hb9); obtain ⟨m0, m1, m2⟩ := kapart (two_next G2.r1 hb9) (show w.heap.size ≠ w.heap.size + 1 by omega))
      obtain ⟨⟨r3, r4, r5, r6⟩, hb2⟩ := ends (two_next G2.r0 hb9) (two_next G2.r1 hb9) (below_next G2.below hb9) (.int .i64 0) (.slice none 0 0) (.int .i64 1) (.int .i64 k)
      exact bodyPost_ret (v := .tuple #[.agg #[.int .i64 0, .slice none 0 0], .agg #[.int .i64 1, .int .i64 k]]) (by simp [results, Tryd.results16, go_sem, r3, r4, r5, r6]) rfl ⟨hb2, none, 0, rfl, edgesAt_nil _, fun x h => by cases h⟩
    · have hlt : k < s.size := by omega
      have k2 : (k : Int) < (s.size : Int) := by omega
      have k3 : ((k : Int) == (s.size : Int)) = false := by simp; omega
      have hX := byteAt_get s k hlt
      by_cases hsp : byteAt s k = 32
      · obtain ⟨f', rfl⟩ : ∃ f', f = f' + 1 := ⟨f - 1, by omega⟩
        rw [parseE, if_pos ⟨hlt, hsp⟩] at hp
        rw [hsp] at hX
        go_upto_region 16 with fail
        have hk1 : k + 1 ≤ s.size := hlt
        clear k3 hke hX
        by_cases hn1 : numOk s (k + 1) (runEnd s (k + 1))
        · rw [if_pos hn1] at hp
          have hb1 := numAt_bd s (k + 1) hk1 hn1
          have hr1 := run_at s (k + 1) hk1
          have le1 := hr1.le
          have le2 := hr1.end_le
          go_upto_region 17 with (go_at_call 36; refine (figure_yes s (k + 1) _ _ (by omega) hs hk1 hn1).mono ?_; rintro e w4 ⟨rfl, rfl⟩)
          clear hr1 hn1
          generalize runEnd s (k + 1) = e1 at hp le1 le2 ⊢
          generalize numAt s (k + 1) = x1 at hp hb1 ⊢
          have l0 : ¬ (e1 : Int) < 0 := by omega
          have l1 : (0 : Int) ≤ (e1 : Int) := by omega
          by_cases hd : e1 < s.size ∧ byteAt s e1 = 45
          · rw [if_pos hd] at hp
            have hk2 : e1 + 1 ≤ s.size := hd.1
            have hd1 : e1 < s.size := hd.1
            have l2 : (e1 : Int) < (s.size : Int) := by omega
            have l3 : ((e1 : Int) == (s.size : Int)) = false := by simp; omega
            have hY : s[e1].toNat = 45 := (byteAt_get s e1 hd1).trans hd.2
            go_upto_region 21 with fail
            clear l3 hY
            by_cases hn2 : numOk s (e1 + 1) (runEnd s (e1 + 1))
            · rw [if_pos hn2] at hp
              have hb2 := numAt_bd s (e1 + 1) hk2 hn2
              have hr2 := run_at s (e1 + 1) hk2
              have le3 := hr2.le
              have le4 := hr2.end_le
              go_upto_region 22 with (go_at_call 36; refine (figure_yes s (e1 + 1) _ _ (by omega) hs hk2 hn2).mono ?_; rintro e w5 ⟨rfl, rfl⟩)
              clear hr2 hn2
              generalize runEnd s (e1 + 1) = e2 at hp le3 le4 ⊢
              generalize numAt s (e1 + 1) = x2 at hp hb2 ⊢
              have m0 : ¬ (e2 : Int) < 0 := by omega
              obtain ⟨c0, c1, c2⟩ := kk G2.gb
              have lg := lt_of_block G2.gb
              go_wp2_with (at_builtin; refine wpList_append_own _ rfl _ _ 22 rfl (w.heap.size + 3) 39 i0 (.agg #[.int .i64 0, .int .i64 0]) 2 16 Tryd.underlying22 hi hz0 hz1 hz2 rfl (by decide) _ _ _ rfl (G2.own.alloc _) ⟨w5.heap.size, 0, none⟩ 1 1 [.int .i64 x1, .int .i64 x2] rfl rfl ?n1 ?n2 ?n3 ?n4 ?n5 ?_)
              case n2 => first | exact ⟨rfl, rfl⟩ | (intro x hx; simp at hx; rcases hx with rfl | rfl <;> rfl)
              case n3 => unfold maxLen; omega
              case n4 => omega
              case n5 => first | omega | (simp; omega)
              intro v' w7 hown' hgrow _
              obtain ⟨vo', vc', rfl⟩ := form_row hown'
              obtain ⟨tg7, g8⟩ := G2.push hown' hgrow
              obtain ⟨d0, d1, d2⟩ := kk tg7
              clear hown' hgrow c0 c1 c2
              go_wp2
              go_roundw
              case rel =>
                refine ⟨e2, f', _, acc ++ [((x1 : Int), (x2 : Int))], rfl, le4, by omega, by simp; omega, ?_, hp, g8⟩
                intro e he
                rcases List.mem_append.1 he with he | he
                · exact HIN.out e he
                · simp at he; subst he; simp; omega
              case measure => simp [intOf]; omega
            · rw [if_neg hn2] at hp
              subst hp
              have hRR := HRL.out
              subst hRR
              have hAA := HA.out
              subst hAA
              go_upto_region 22 with (go_at_call 36; refine (figure_not s (e1 + 1) _ _ (by omega) hs hk2 hn2).mono ?_; rintro e w5 ⟨rfl, rfl⟩)
              go_wp2_with (go_at_call 35; refine (bad_any _ _).mono ?_; rintro e w9 ⟨rfl, hb9⟩; obtain ⟨g0, g1, g2⟩ := kk (two_next G2.r0 hb9); obtain ⟨m0, m1, m2⟩ := kapart (two_next G2.r1 hb9) (show w.heap.size ≠ w.heap.size + 1 by omega))
              obtain ⟨⟨r3, r4, r5, r6⟩, hb2⟩ := ends (two_next G2.r0 hb9) (two_next G2.r1 hb9) (below_next G2.below hb9) (.int .i64 0) (.slice none 0 0) (.int .i64 1) (.int .i64 ((e1 : Int) + 1))
              exact bodyPost_ret (v := .tuple #[.agg #[.int .i64 0, .slice none 0 0], .agg #[.int .i64 1, .int .i64 ((e1 : Int) + 1)]]) (by simp [results, Tryd.results16, go_sem, r3, r4, r5, r6]) rfl ⟨hb2, none, 0, rfl, edgesAt_nil _, fun x h => by cases h⟩
          · rw [if_neg hd] at hp
            have hm := miss le2 hd
            subst hp
            have hRR := HRL.out
            subst hRR
            have hAA := HA.out
            subst hAA
            clear hd
            rcases hm with hm | ⟨hd1, hm⟩
            · have l3 : ((e1 : Int) == (s.size : Int)) = true := by simp; omega
              clear hm
              go_wp2_with (go_at_call 35; refine (bad_any _ _).mono ?_; rintro e w9 ⟨rfl, hb9⟩; obtain ⟨g0, g1, g2⟩ := kk (two_next G2.r0 hb9); obtain ⟨m0, m1, m2⟩ := kapart (two_next G2.r1 hb9) (show w.heap.size ≠ w.heap.size + 1 by omega))
              obtain ⟨⟨r3, r4, r5, r6⟩, hb2⟩ := ends (two_next G2.r0 hb9) (two_next G2.r1 hb9) (below_next G2.below hb9) (.int .i64 0) (.slice none 0 0) (.int .i64 1) (.int .i64 e1)
              exact bodyPost_ret (v := .tuple #[.agg #[.int .i64 0, .slice none 0 0], .agg #[.int .i64 1, .int .i64 e1]]) (by simp [results, Tryd.results16, go_sem, r3, r4, r5, r6]) rfl ⟨hb2, none, 0, rfl, edgesAt_nil _, fun x h => by cases h⟩
            · have l2 : (e1 : Int) < (s.size : Int) := by omega
              have l3 : ((e1 : Int) == (s.size : Int)) = false := by simp; omega
              have l4 : ((s[e1].toNat : Int) != 45) = true := by simp; omega
              go_wp2_with (go_at_call 35; refine (bad_any _ _).mono ?_; rintro e w9 ⟨rfl, hb9⟩; obtain ⟨g0, g1, g2⟩ := kk (two_next G2.r0 hb9); obtain ⟨m0, m1, m2⟩ := kapart (two_next G2.r1 hb9) (show w.heap.size ≠ w.heap.size + 1 by omega))
              obtain ⟨⟨r3, r4, r5, r6⟩, hb2⟩ := ends (two_next G2.r0 hb9) (two_next G2.r1 hb9) (below_next G2.below hb9) (.int .i64 0) (.slice none 0 0) (.int .i64 1) (.int .i64 e1)
              exact bodyPost_ret (v := .tuple #[.agg #[.int .i64 0, .slice none 0 0], .agg #[.int .i64 1, .int .i64 e1]]) (by simp [results, Tryd.results16, go_sem, r3, r4, r5, r6]) rfl ⟨hb2, none, 0, rfl, edgesAt_nil _, fun x h => by cases h⟩
        · rw [if_neg hn1] at hp
          subst hp
          have hRR := HRL.out
          subst hRR
          have hAA := HA.out
          subst hAA
          go_upto_region 17 with (go_at_call 36; refine (figure_not s (k + 1) _ _ (by omega) hs hk1 hn1).mono ?_; rintro e w5 ⟨rfl, rfl⟩)
          go_wp2_with (go_at_call 35; refine (bad_any _ _).mono ?_; rintro e w9 ⟨rfl, hb9⟩; obtain ⟨g0, g1, g2⟩ := kk (two_next G2.r0 hb9); obtain ⟨m0, m1, m2⟩ := kapart (two_next G2.r1 hb9) (show w.heap.size ≠ w.heap.size + 1 by omega))
          obtain ⟨⟨r3, r4, r5, r6⟩, hb2⟩ := ends (two_next G2.r0 hb9) (two_next G2.r1 hb9) (below_next G2.below hb9) (.int .i64 0) (.slice none 0 0) (.int .i64 1) (.int .i64 ((k : Int) + 1))
          exact bodyPost_ret (v := .tuple #[.agg #[.int .i64 0, .slice none 0 0], .agg #[.int .i64 1, .int .i64 ((k : Int) + 1)]]) (by simp [results, Tryd.results16, go_sem, r3, r4, r5, r6]) rfl ⟨hb2, none, 0, rfl, edgesAt_nil _, fun x h => by cases h⟩
      · have hPe : P = .edges acc k := by
          rw [← hp]
          cases f with
          | zero => rfl
          | succ f => rw [parseE, if_neg (fun h => hsp h.2)]
        subst hPe
        have hRR := HRL.out
        simp only [endS] at hRR
        clear hp HP HRL
        by_cases hnl : byteAt s k = 10
        · rw [if_pos ⟨hlt, hnl⟩] at hRR
          rw [hnl] at hX
          go_upto_region 26 with fail
          by_cases hmore : k + 1 < s.size
          · rw [if_pos hmore] at hRR
            subst hRR
            have hAA := HA.out
            subst hAA
            have hm1 : (k : Int) + 1 < (s.size : Int) := by omega
            go_wp2_with (go_at_call 35; refine (bad_any _ _).mono ?_; rintro e w9 ⟨rfl, hb9⟩; obtain ⟨g0, g1, g2⟩ := kk (two_next G2.r0 hb9); obtain ⟨m0, m1, m2⟩ := kapart (two_next G2.r1 hb9) (show w.heap.size ≠ w.heap.size + 1 by omega))
            obtain ⟨⟨r3, r4, r5, r6⟩, hb2⟩ := ends (two_next G2.r0 hb9) (two_next G2.r1 hb9) (below_next G2.below hb9) (.int .i64 0) (.slice none 0 0) (.int .i64 1) (.int .i64 ((k : Int) + 1))
            exact bodyPost_ret (v := .tuple #[.agg #[.int .i64 0, .slice none 0 0], .agg #[.int .i64 1, .int .i64 ((k : Int) + 1)]]) (by simp [results, Tryd.results16, go_sem, r3, r4, r5, r6]) rfl ⟨hb2, none, 0, rfl, edgesAt_nil _, fun x h => by cases h⟩
          · rw [if_neg hmore] at hRR
            subst hRR
            have hm1 : ¬ (k : Int) + 1 < (s.size : Int) := by omega
            go_upto_region 28 with fail
            obtain ⟨c0, c1, c2⟩ := kk G2.gb
            have hE := edgesAt_row G2.own (fun e he => by have := HIN.out e he; constructor <;> constructor <;> omega) (by omega)
            have hcap := own_cap G2.own
            obtain ⟨cc, dd, hck⟩ : ∃ c d, chk N acc = (c, d) := ⟨_, _, rfl⟩
            go_upto_region 29 with (go_at_call 6; refine (refCheck_as hE hcap hck).mono ?_; rintro e w2 ⟨rfl, hb2⟩)
            have hb3 := below_alloc hb2 (Obj.cells #[.int .i64 cc, .int .i64 dd] 27)
            have tf := two_new w2 (.int .i64 cc) (.int .i64 dd) 27
            have t0 := two_next G2.r0 hb3
            have t1 := two_next G2.r1 hb3
            have tg := two_next G2.gb hb3
            have hE3 := hE.below hb3
            have hB3 := below_next G2.below hb3
            have hlt3 : w.heap.size + 2 < w2.heap.size := by have := lt_of_block G2.gb; have := hb2.size; omega
            clear c0 c1 c2 hb3 hb2 hE
            generalize w2.alloc (Obj.cells #[.int .i64 cc, .int .i64 dd] 27) = W3 at tf t0 t1 tg hE3 hB3 ⊢
            generalize w2.heap.size = bf at tf hlt3 ⊢
            obtain ⟨f0, f1, f2⟩ := kk tf
            by_cases h0 : cc = 0
            · subst h0
              obtain ⟨_, n0, n1, hl, hgood⟩ := chk_good (n := (N : Int)) (es := acc) (by rw [hck])
              have hfs := formS_good (m := N) (es := acc) (by rw [hck])
              have hAA : A = ⟨N, allP N (hasB acc), 0, 0⟩ := HA.out.symm.trans hfs
              subst hAA
              have HG : Hid _ := hgood
              clear hgood
              obtain ⟨a0, a1, a2⟩ := kk tg
              go_wp2_with (first | (go_at_call 23; refine (gridOf_any N _ acc _ hE3 (by omega) hl HG.out).mono ?_; rintro e w5 ⟨hb5, to, tc, rfl, hGr⟩) | (go_at_call 25; refine (ofGrid_new N _ _ (hasB acc) _ hGr (by omega)).mono ?_; rintro e w6 ⟨hb6, oo, oc, rfl, hL, hfr⟩; have hq := below_next hb5 hb6; obtain ⟨g0, g1, g2⟩ := kk (two_next t0 hq); obtain ⟨m0, m1, m2⟩ := kapart (two_next t1 hq) (show w.heap.size ≠ w.heap.size + 1 by omega)))
              obtain ⟨⟨r3, r4, r5, r6⟩, hb9⟩ := ends (two_next t0 hq) (two_next t1 hq) (below_next hB3 hq) (.int .i64 N) (.slice oo (allP N (hasB acc)).length oc) (.int .i64 0) (.int .i64 0)
              have hfr2 : ∀ x, oo = some x → w.heap.size + 1 < x.block := fun x hx => by have := hfr x hx; have := hb5.size; have := lt_of_block t1; omega
              exact bodyPost_ret (v := .tuple #[.agg #[.int .i64 N, .slice oo (allP N (hasB acc)).length oc], .agg #[.int .i64 0, .int .i64 0]]) (by simp [results, Tryd.results16, go_sem, r3, r4, r5, r6]) rfl ⟨hb9, oo, oc, rfl, (((hL.setCell (fun x hx => by have := hfr2 x hx; simp; omega) _).setCell (fun x hx => by have := hfr2 x hx; simp; omega) _).setCell (fun x hx => by have := hfr2 x hx; simp; omega) _).setCell (fun x hx => by have := hfr2 x hx; simp; omega) _, fun x hx => by have := hfr2 x hx; omega⟩
            · have hfs : formS N acc = ⟨0, [], cc, dd⟩ := by unfold formS; rw [hck, if_neg h0]
              have hAA : A = ⟨0, [], cc, dd⟩ := HA.out.symm.trans hfs
              subst hAA
              have h0' : (cc != 0) = true := by simpa using h0
              obtain ⟨g0, g1, g2⟩ := kk t0
              obtain ⟨m0, m1, m2⟩ := kapart t1 (show w.heap.size ≠ w.heap.size + 1 by omega)
              go_upto_region 30 with fail
              go_region
              go_wp2
              obtain ⟨⟨r3, r4, r5, r6⟩, hb9⟩ := ends t0 t1 hB3 (.int .i64 0) (.slice none 0 0) (.int .i64 cc) (.int .i64 dd)
              refine bodyPost_ret (v := .tuple #[.agg #[.int .i64 0, .slice none 0 0], .agg #[.int .i64 cc, .int .i64 dd]]) ?_ rfl ⟨?_, none, 0, rfl, edgesAt_nil _, fun x h => by cases h⟩
              · simp [results, Tryd.results16, go_sem, r3, r4, r5, r6]
              · exact hb9.drew
        · rw [if_neg (fun h => hnl h.2)] at hRR
          subst hRR
          have hAA := HA.out
          subst hAA
          have l4 : ((s[k].toNat : Int) != 32) = true := by simp; omega
          have l5 : ((s[k].toNat : Int) == 10) = false := by simp; omega
          go_wp2_with (go_at_call 35; refine (bad_any _ _).mono ?_; rintro e w9 ⟨rfl, hb9⟩; obtain ⟨g0, g1, g2⟩ := kk (two_next G2.r0 hb9); obtain ⟨m0, m1, m2⟩ := kapart (two_next G2.r1 hb9) (show w.heap.size ≠ w.heap.size + 1 by omega))
          obtain ⟨⟨r3, r4, r5, r6⟩, hb2⟩ := ends (two_next G2.r0 hb9) (two_next G2.r1 hb9) (below_next G2.below hb9) (.int .i64 0) (.slice none 0 0) (.int .i64 1) (.int .i64 k)
          exact bodyPost_ret (v := .tuple #[.agg #[.int .i64 0, .slice none 0 0], .agg #[.int .i64 1, .int .i64 k]]) (by simp [results, Tryd.results16, go_sem, r3, r4, r5, r6]) rfl ⟨hb2, none, 0, rfl, edgesAt_nil _, fun x h => by cases h⟩

theorem reads_tells (s : ByteArray) (w : World) : Tells 16 #[.string s] w (readS s) := by
  by_cases hs : s.size ≤ 20000
  · rw [readS_eq hs]
    by_cases h : numOk s 0 (runEnd s 0)
    · by_cases hc : runEnd s 0 < s.size ∧ byteAt s (runEnd s 0) = 58
      · refine reads_go s w hs h hc rfl ?_
        unfold lineS
        rw [if_pos h, if_pos hc]
      · have e : lineS s = (.fault (runEnd s 0), 0) := by unfold lineS; rw [if_pos h, if_neg hc]
        rw [e]
        exact reads_bad1 s w hs h rfl hc
    · have e : lineS s = (.fault 0, 0) := by unfold lineS; rw [if_neg h]
      rw [e]
      exact reads_bad0 s w hs h
  · have e : readS s = ⟨0, [], 2, 0⟩ := by unfold readS; rw [if_pos (by omega)]
    rw [e]
    exact reads_long s w (by omega)

theorem read_tells (s : ByteArray) (w : World) : Tells 14 #[.string s] w (readS s) := by
  by_cases hs : s.size ≤ 20000
  · rw [readS_eq hs]
    cases hl : lineS s with
    | mk a b =>
      cases a with
      | fault p => exact read_fault s w hs p b hl
      | edges es k => exact read_good s w hs es k b hl
  · have e : readS s = ⟨0, [], 2, 0⟩ := by unfold readS; rw [if_pos (by omega)]
    rw [e]
    exact read_long s w (by omega)
end Go.Proofs.YtbaghbodjpehpaaDoor
