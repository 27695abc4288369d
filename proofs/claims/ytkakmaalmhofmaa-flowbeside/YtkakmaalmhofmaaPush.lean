/- send's literal push: what it sends, and what it leaves. -/
import Derived.Test.YtkakmaalmhofmaaPipe
namespace Go.Proofs.Ytkakmaalmhofmaa
open Go.RowKit Go.Maps
attribute [local go_sem ↓] Go.wp_at_zero Go.wp_at_succ

theorem enter64 (args : Array Value) (w : World) : (callFunc 64 args).run Try.prog w = .ok (.enter 64 args) w := by
  simp [callFunc, Try.func64, go_sem]
  rw [if_neg (of_decide_eq_true (by kernel_rfl)), if_neg (by intro h; have : Try.f64.body.isSome = true := (by kernel_rfl); rw [h] at this; cases this)]

def cellZ : Option Value → Nat
  | some (.int _ z) => z.toNat
  | _ => 0

theorem mn_facts {a b : Int} (ha : 0 < a) (hb : 0 < b) : ∃ mn, (if a < b then a else b) = mn ∧ 0 < mn ∧ mn ≤ a ∧ mn ≤ b ∧ (mn = a ∨ mn = b) := by
  refine ⟨_, rfl, ?_⟩
  split <;> omega

/-- Less than most could be sent: there is no way left. -/
def Ends (x most : Int) (v t : Nat) (fu : Nat → Nat) (ls : Nat → List Nat) : Prop := x < most → v ≠ t ∧ fu v = (ls v).length


set_option maxRecDepth 4000 in
set_option maxHeartbeats 4000000 in
theorem push_call {c : Pp} {q : QC} (hn : Net c.N c.M c.T c.ls) (hN : c.N ≤ 1000) (hF : ∀ v, v < c.N → -1 ≤ q.F v ∧ q.F v < c.N) : ∀ (n : Nat) (w : World) (R : Nat → Int) (fu : Nat → Nat) (v : Nat) (most : Int), v < c.N → 0 ≤ q.F v → (c.N : Int) - q.F v < n → 0 < most → most ≤ 9223372036854775807 → QS c q w R fu → Ok c.M R → Inv c.N c.T c.ls q.F q.t R fu →
    Calls Try.prog 64 #[.int .i64 (v : Int), .int .i64 most, ptr q.b6, ptr q.b9, ptr q.b4, ptr q.b7, ptr q.b10] w fun r w' => ∃ x, r = .returned (.int .i64 x) ∧ 0 ≤ x ∧ x ≤ most ∧ ∃ R' fu', Sent c.N c.M c.T c.ls q.F q.t v x R fu R' fu' ∧ Ends x most v q.t fu' c.ls ∧ QS c q w' R' fu' ∧ Turns (fun k => k = c.br ∨ k = q.bu) w w' := by
  have hF64 := enter64
  intro n
  induction n with
  | zero => intro w R fu v most hv _ h; have := hF v hv; omega
  | succ n ih =>
    intro w R fu v most hv hv0 hvn hm0 hm1 hqs hok hinv
    have IH : Hid _ := ih
    clear ih
    have HQ0 : Hid _ := hqs
    have HOK : Hid _ := hok
    have HIV : Hid _ := hinv
    have HN : Hid _ := hn
    have HF : Hid _ := hF
    have c6 := cell_of_one hqs.o6
    clear hqs hok hinv hn hF
    by_cases hvt : v = q.t
    · have e1 : ((v : Int) == (q.t : Int)) = true := by rw [hvt]; simp
      go_enter Try.func64, Try.ntmps64
      go_wp2
      go_ret
      exact ⟨most, rfl, by omega, Int.le_refl _, R, fu, by rw [hvt]; exact Sent.there (fun p hp => (HOK.out p hp).1) HIV.out most, fun h => by omega, HQ0.out, Turns.refl _ _⟩
    · have e1 : ((v : Int) == (q.t : Int)) = false := by rw [beq_eq_false_iff_ne]; omega
      go_enter Try.func64, Try.ntmps64
      go_wp2
      clear c6
      go_loopw [10] (fun sv wr => ∃ (x : Int) (R1 : Nat → Int) (fu1 : Nat → Nat), sv = .int .i64 x ∧ 0 ≤ x ∧ x < most ∧ Sent c.N c.M c.T c.ls q.F q.t v x R fu R1 fu1 ∧ QS c q wr R1 fu1 ∧ Turns (fun k => k = c.br ∨ k = q.bu) w wr) (fun _ wr => (c.ls v).length - cellZ (wr.cell? ⟨q.bu, v, none⟩))
      case atStart => exact ⟨0, R, fu, rfl, Int.le_refl _, hm0, Sent.start (fun p hp => (HOK.out p hp).1) HIV.out, HQ0.out, Turns.refl _ _⟩
      case round =>
        obtain ⟨x, R1, fu1, rfl, hx0, hxm, hs, hq, hT⟩ := hrel
        have HS : Hid _ := hs
        have HQ : Hid _ := hq
        have HT : Hid _ := hT
        have c9 := cell_of_one hq.o9
        have c4 := cell_of_one hq.o4
        have cu := hq.ful.cell hv
        have cb0 := box_cell hq.ps.box (i := 0) rfl
        obtain ⟨xo, xc, co, ho⟩ := hq.ps.near.2.2 v hv
        have HO : Hid _ := ho
        have CU : Hid _ := cu
        have hle := hs.inv.le v hv
        have hlen := HN.out.len v hv
        have i1 : (0 : Int) ≤ (v : Int) := by omega
        have i2 : (v : Int) < (c.N : Int) := by omega
        clear hs hq hT ho
        by_cases hlt : fu1 v < (c.ls v).length
        · obtain ⟨p, hp⟩ : ∃ p, (c.ls v)[fu1 v]? = some p := ⟨(c.ls v)[fu1 v], List.getElem?_eq_getElem hlt⟩
          have hmem := (HN.out.mem v p hv).1 (List.mem_of_getElem? hp)
          have hpM := hmem.1
          have hTp := HN.out.lt p hpM
          have hMM := HN.out.many
          obtain ⟨bo, _, _, rfl, cp⟩ := HO.out (fu1 v) p hp
          have j1 : (0 : Int) ≤ (fu1 v : Int) := by omega
          have j2 : (fu1 v : Int) < ((c.ls v).length : Int) := by omega
          have j3 : (0 : Int) ≤ (p : Int) := by omega
          have j4 : (p : Int) < (c.M : Int) := by omega
          have j5 : (0 : Int) ≤ (c.T p : Int) := by omega
          have j6 : (c.T p : Int) < (c.N : Int) := by omega
          have HP : Hid _ := hp
          have HM : Hid _ := hmem
          clear hp hmem HO
          go_upto_region 4 with (fail)
          go_quiet (fail)
          generalize nq = n1
          go_upto_region 6 with (fail)
          go_quiet (fail)
          have hq1 := HQ.out.below (below_drewN (below_drewN (Below.refl _ wr) n1) nq)
          have hT1 := HT.out.trans (Turns.of_below (below_drewN (below_drewN (Below.refl _ wr) n1) nq) _)
          generalize (wr.drewN n1).drewN nq = W1 at hq1 hT1 ⊢
          clear c9 c4 cu cb0 co cp
          have hok1 := Ok.go HOK.out HS.out.go
          have c4 := cell_of_one hq1.o4
          have c7 := cell_of_one hq1.o7
          have cb1 := box_cell hq1.ps.box (i := 1) rfl
          have cb2 := box_cell hq1.ps.box (i := 2) rfl
          have h0M : 0 < c.M := by omega
          rw [(hq1.ps.to h0M).1] at cb1
          rw [(hq1.ps.room h0M).1] at cb2
          have ct := (hq1.ps.to h0M).2.cell hpM
          have cr := (hq1.ps.room h0M).2.cell hpM
          have cf := hq1.far.cell hTp
          have cfv := hq1.far.cell hv
          have hRp := hok1.le HN.out.even hpM
          have hFv := HF.out v hv
          have hFp := HF.out _ hTp
          have k0 : IntKind.i64.wrap (q.F v + 1) = q.F v + 1 := by rw [IntKind.wrap_i64]; omega
          have HQ1 : Hid _ := hq1
          have HT1 : Hid _ := hT1
          have HOK1 : Hid _ := hok1
          clear hq1 hT1 hok1
          by_cases hR0 : R1 p = 0
          · have k1 : (R1 p == 0) = true := by rw [beq_iff_eq]; exact hR0
            have HR0 : Hid _ := hR0
            clear hR0
            go_upto_region 7 with (fail)
            go_quiet (fail)
            have hq2 := HQ1.out.below (below_drewN (Below.refl _ W1) nq)
            have hT2 := HT1.out.trans (Turns.of_below (below_drewN (Below.refl _ W1) nq) _)
            generalize W1.drewN nq = W2 at hq2 hT2 ⊢
            clear c4 c7 cb1 cb2 ct cr cf cfv k0 k1 HQ1 HT1
            have c9 := cell_of_one hq2.o9
            have cu := hq2.ful.cell hv
            have fz := hq2.ful.free v
            have hq3 := hq2.bump v
            have hz := hq3.ful.cell hv
            have hT3 := hT2.trans ((setCell_turns W2 q.bu v (.int .i64 ((fu1 v : Int) + 1))).mono (fun k _ e => Or.inr e))
            have HQ3 : Hid _ := hq3
            have HT3 : Hid _ := hT3
            have HZ : Hid _ := hz
            clear hq2 hq3 hT2 hT3 hz
            go_wp2
            go_roundw
            case rel => exact ⟨x, R1, bump fu1 v, rfl, hx0, hxm, Sent.skip HS.out HP.out (Or.inl HR0.out), HQ3.out, HT3.out⟩
            case measure => rw [CU.out, HZ.out, bump_at]; simp [cellZ]; omega
          · have k1 : (R1 p == 0) = false := by rw [beq_eq_false_iff_ne]; exact hR0
            have HR0 : Hid _ := hR0
            clear hR0
            by_cases hlev : q.F (c.T p) = q.F v + 1
            · have k2 : (q.F (c.T p) == q.F v + 1) = true := by rw [beq_iff_eq]; exact hlev
              have HLV : Hid _ := hlev
              clear hlev
              go_upto_region 7 with (fail)
              go_quiet (fail)
              have hq2 := HQ1.out.below (below_drewN (Below.refl _ W1) nq)
              have hT2 := HT1.out.trans (Turns.of_below (below_drewN (Below.refl _ W1) nq) _)
              generalize W1.drewN nq = W2 at hq2 hT2 ⊢
              clear c4 c7 cb1 cb2 ct cr cf cfv k0 HQ1 HT1
              have c10 := cell_of_one hq2.o10
              have c4 := cell_of_one hq2.o4
              have cb1 := box_cell hq2.ps.box (i := 1) rfl
              have cb2 := box_cell hq2.ps.box (i := 2) rfl
              rw [(hq2.ps.to h0M).1] at cb1
              rw [(hq2.ps.room h0M).1] at cb2
              have ct := (hq2.ps.to h0M).2.cell hpM
              have cr := (hq2.ps.room h0M).2.cell hpM
              have k3 : IntKind.i64.wrap (most - x) = most - x := by rw [IntKind.wrap_i64]; omega
              have y0 := And.intro c10 (And.intro c4 (And.intro cb1 (And.intro cb2 (And.intro ct cr))))
              obtain ⟨mn, hmn, hmn0⟩ := mn_facts (a := R1 p) (b := most - x) (by rcases Int.lt_or_eq_of_le hRp.1 with h | h; exact h; exact absurd h.symm HR0.out) (by omega)
              have hc := IH.out W2.drew R1 fu1 (c.T p) mn hTp (by have := HLV.out; omega) (by have := HLV.out; omega) hmn0.1 (by omega) (hq2.below (Below.refl _ W2).drew) HOK1.out HS.out.inv
              have hen : ∀ y, 0 ≤ y → y ≤ mn → y ≤ R1 p := fun y _ h => by omega
              have HC : Hid _ := hc
              have HEN : Hid _ := hen
              have HMN : Hid _ := hmn0
              have HQ2 : Hid _ := hq2
              have HT2 : Hid _ := hT2
              clear hq2 hT2 hc hmn0 hen
              go_upto_region 8 with (fail)
              go_region_held3 (fun w' => w'.cell? ⟨q.b10, 0, none⟩ = some (.func (.func 64) #[] #[.pointer (some ⟨q.b6, 0, none⟩), .pointer (some ⟨q.b9, 0, none⟩), .pointer (some ⟨q.b4, 0, none⟩), .pointer (some ⟨q.b7, 0, none⟩), .pointer (some ⟨q.b10, 0, none⟩)]) ∧ w'.cell? ⟨q.b4, 0, none⟩ = some (.pointer (some ⟨c.bp, 0, none⟩)) ∧ w'.cell? ⟨c.bp, 1, none⟩ = some (.slice (some ⟨c.bt, 0, none⟩) c.M c.tc) ∧ w'.cell? ⟨c.bp, 2, none⟩ = some (.slice (some ⟨c.br, 0, none⟩) c.M c.rc) ∧ w'.cell? ⟨c.bt, p, none⟩ = some (.int .i64 (c.T p : Int)) ∧ w'.cell? ⟨c.br, p, none⟩ = some (.int .i64 (R1 p)))
                (first | exact hkk | exact y0 | assumption | go_keep)
                ((go_at_call 64; refine Calls.mono HC.out ?_; rintro r W3 ⟨y, rfl, hy0, hy1, R2, fu2, hs2, hen, hq3, hT3⟩; obtain ⟨hsn, hfe, hr1, hr2⟩ := Sent.push HN.out hv HS.out hx0 HP.out HLV.out hs2 hy0 (HEN.out y hy0 hy1); have hkk := hq3.reads h0M hpM hr1))
              have hmn0 := HMN.out
              have hyR := HEN.out y hy0 hy1
              have hT4 := (HT2.out.trans (Turns.of_below (Below.refl _ W2).drew _)).trans hT3
              have hok3 : Ok c.M R2 := Ok.go HOK1.out hs2.go
              have hqM := tw_lt HN.out.even hpM
              have hR2q := hok3.le HN.out.even hqM
              have hR2s := (hok3 p hpM).2
              have hq5 := hq3.setRoom hpM (R2 p - y)
              have hT5 := hT4.trans ((setCell_turns W3 c.br p (.int .i64 (R2 p - y))).mono (fun k _ e => Or.inl e))
              have HSN : Hid _ := hsn
              have HFE : Hid _ := hfe
              have HEE : Hid _ := hen
              rw [hr1] at hq5 hT5
              have HR1 : Hid _ := hr1
              have HQ5 : Hid _ := hq5
              have HT5 : Hid _ := hT5
              clear c10 c4 cb1 cb2 ct cr k3 y0 hsn hfe hen hr1 hr2 hs2 hT3 hT4 hq5 hT5 HC HQ2 HT2 hmn HMN
              obtain ⟨_, c4, _, cb2, _, cr⟩ := hkk
              have fr := (hq3.ps.room h0M).2.free p
              clear hq3 hok3
              go_upto_region 10 with (fail)
              generalize W3.setCell ⟨c.br, p, none⟩ (.int .i64 (R1 p - y)) = W4 at HQ5 HT5 ⊢
              clear c4 cb2 cr fr
              have hq5 := HQ5.out
              have c4 := cell_of_one hq5.o4
              have cb2 := box_cell hq5.ps.box (i := 2) rfl
              rw [(hq5.ps.room h0M).1] at cb2
              have crq := (hq5.ps.room h0M).2.cell hqM
              rw [if_neg (tw_ne p)] at crq
              have fr := (hq5.ps.room h0M).2.free (tw p)
              have k5 : IntKind.i64.wrap (R2 (tw p) + y) = R2 (tw p) + y := by rw [IntKind.wrap_i64]; omega
              have l1 : (0 : Int) ≤ (tw p : Int) := by omega
              have l2 : (tw p : Int) < (c.M : Int) := by omega
              have hlt5 := hq5.lt
              have hne5 := hq5.ps.ne
              have hbr5 := (hq5.ps.ne.2.2 h0M).2.2
              have hq6 := ((hq5.setRoom hqM (R2 (tw p) + y)).below (Below.refl _ _).drew).congr (R' := mv R2 p y) (fu' := fu2) (fun k _ => by
                have hr1 := HR1.out
                show (if k = tw p then R2 (tw p) + y else if k = p then R1 p - y else R2 k) = _
                unfold mv
                by_cases e1 : k = p
                · rw [if_pos e1, if_neg (fun e => tw_ne p (by rw [← e, e1])), if_pos e1, hr1]
                · rw [if_neg e1, if_neg e1]) (fun _ _ => rfl)
              have hT6 := (HT5.out.trans ((setCell_turns W4 c.br (tw p) (.int .i64 (R2 (tw p) + y))).mono (fun k _ e => Or.inl e))).trans (Turns.of_below (Below.refl _ (W4.setCell ⟨c.br, tw p, none⟩ (.int .i64 (R2 (tw p) + y)))).drew _)
              have HQ6 : Hid _ := hq6
              have HT6 : Hid _ := hT6
              clear hq5 hq6 hT6 hlt5 hne5 hbr5
              go_region_with ((go_at_call 62; refine Calls.mono (twin_call (p := p) (by omega) _) ?_; rintro e w' ⟨rfl, rfl⟩))
              all_goals
                generalize (W4.setCell ⟨c.br, tw p, none⟩ (.int .i64 (R2 (tw p) + y))).drew = W6 at HQ6 HT6 ⊢
                clear c4 cb2 crq fr k5 HQ5 HT5
                have hsum : 0 ≤ x + y ∧ x + y ≤ most := by omega
                by_cases hxy : x + y = most
                · have k6 : (x + y == most) = true := by rw [beq_iff_eq]; exact hxy
                  have HXY : Hid _ := hxy
                  clear hxy
                  go_wp2
                  go_ret
                  exact ⟨x + y, rfl, hsum.1, hsum.2, mv R2 p y, fu2, HSN.out, fun h => absurd HXY.out (by omega), HQ6.out, HT6.out⟩
                · have k6 : (x + y == most) = false := by rw [beq_eq_false_iff_ne]; exact hxy
                  have hdead : Dead c.T c.ls q.F q.t (mv R2 p y) fu2 p v := by
                    by_cases hy : y < mn
                    · exact Or.inr (Or.inr (HEE.out hy))
                    · left
                      rw [mv_at, HR1.out]
                      omega
                  have hp2 : (c.ls v)[fu2 v]? = some p := by rw [HFE.out]; exact HP.out
                  have hsk := Sent.skip HSN.out hp2 hdead
                  have hq7 := HQ6.out
                  have c9 := cell_of_one hq7.o9
                  have cu := hq7.ful.cell hv
                  have fz := hq7.ful.free v
                  have hfe := HFE.out
                  rw [hfe] at cu
                  have hq8 := hq7.bump v
                  have hz := hq8.ful.cell hv
                  rw [bump_at, hfe] at hz
                  rw [hfe] at hq8
                  have hT8 := HT6.out.trans ((setCell_turns W6 q.bu v (.int .i64 ((fu1 v : Int) + 1))).mono (fun k _ e => Or.inr e))
                  have HQ8 : Hid _ := hq8
                  have HT8 : Hid _ := hT8
                  have HZ : Hid _ := hz
                  have HSK : Hid _ := hsk
                  have hxl : x + y < most := by omega
                  clear hq7 hq8 hT8 hz hsk hxy hdead hp2 hfe
                  go_wp2
                  go_roundw
                  case rel => exact ⟨x + y, mv R2 p y, bump fu2 v, rfl, hsum.1, hxl, HSK.out, HQ8.out, HT8.out⟩
                  case measure => rw [CU.out, HZ.out]; simp [cellZ]; omega
            · have k2 : (q.F (c.T p) == q.F v + 1) = false := by rw [beq_eq_false_iff_ne]; exact hlev
              have HLV : Hid _ := hlev
              clear hlev
              go_upto_region 7 with (fail)
              go_quiet (fail)
              have hq2 := HQ1.out.below (below_drewN (Below.refl _ W1) nq)
              have hT2 := HT1.out.trans (Turns.of_below (below_drewN (Below.refl _ W1) nq) _)
              generalize W1.drewN nq = W2 at hq2 hT2 ⊢
              clear c4 c7 cb1 cb2 ct cr cf cfv k0 HQ1 HT1
              have c9 := cell_of_one hq2.o9
              have cu := hq2.ful.cell hv
              have fz := hq2.ful.free v
              have hq3 := hq2.bump v
              have hz := hq3.ful.cell hv
              have hT3 := hT2.trans ((setCell_turns W2 q.bu v (.int .i64 ((fu1 v : Int) + 1))).mono (fun k _ e => Or.inr e))
              have HQ3 : Hid _ := hq3
              have HT3 : Hid _ := hT3
              have HZ : Hid _ := hz
              clear hq2 hq3 hT2 hT3 hz
              go_wp2
              go_roundw
              case rel => exact ⟨x, R1, bump fu1 v, rfl, hx0, hxm, Sent.skip HS.out HP.out (Or.inr (Or.inl HLV.out)), HQ3.out, HT3.out⟩
              case measure => rw [CU.out, HZ.out, bump_at]; simp [cellZ]; omega
        · have e2 : ¬ ((fu1 v : Int) < ((c.ls v).length : Int)) := by omega
          go_upto_region 4 with (fail)
          go_quiet (fail)
          go_wp2
          go_ret
          exact ⟨x, rfl, hx0, by omega, R1, fu1, HS.out, fun _ => ⟨hvt, by omega⟩, HQ.out.below (below_drewN (Below.refl _ _) _), HT.out.trans (Turns.of_below (below_drewN (Below.refl _ _) _) _)⟩
end Go.Proofs.Ytkakmaalmhofmaa
