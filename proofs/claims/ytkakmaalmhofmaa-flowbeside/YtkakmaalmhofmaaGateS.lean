/- gateSteps: from which gate to which one something goes. -/
import Derived.Test.YtkakmaalmhofmaaGates
namespace Go.Proofs.Ytkakmaalmhofmaa
open Go.RowKit Go.Maps
attribute [local go_sem ↓] Go.wp_at_zero Go.wp_at_succ

def gateP (T : Nat → Nat) (R : Nat → Int) (v u p : Nat) : Bool := decide (T p / 2 = u ∧ T p / 2 ≠ v ∧ 0 < R (tw p))
def gateB (ls : Nat → List Nat) (T : Nat → Nat) (R : Nat → Int) (a b : Nat) : Bool := (ls (2 * a + 1)).any (gateP T R a b)

set_option maxRecDepth 4000 in
set_option maxHeartbeats 1500000 in
theorem gateSteps_call {c : Pp} {w : World} {R : Nat → Int} {N : Nat} (hps : PS c w R) (hn : Net c.N c.M c.T c.ls) (hcN : c.N = 2 * N) (hM : c.M ≤ 10000) (hN : N ≤ 100) :
    Calls Try.prog 46 #[ptr c.bp, .int .i64 (N : Int)] w fun r w' => ∃ ao, r = .returned (.slice ao N N) ∧ ∃ bl, NearsAt w' ao N bl (gateB c.ls c.T R) ∧ (∀ i, i < N → w.heap.size ≤ bl i) ∧ Below w.heap.size w w' := by
  have HPS : Hid (PS c w R) := hps
  have HNT : Hid (Net c.N c.M c.T c.ls) := hn
  have HCN : Hid (c.N = 2 * N) := hcN
  have HM : Hid (c.M ≤ 10000) := hM
  clear hps hn hcN hM
  go_enter Try.func46, Try.ntmps46
  go_upto_region 2 with (first | (go_at_call 59; refine (empties_call N _ (by omega)).mono ?_; rintro r W1 ⟨ao, rfl, hge, bl, hnr, hbl, hB1⟩) | go_in)
  have HNR : Hid (NearsAt W1 ao N bl (fun _ _ => false)) := hnr
  have HBL : Hid (∀ i, i < N → w.heap.size ≤ bl i) := hbl
  clear hnr hbl hge
  go_wp2
  go_loopw [13] (fun iv wr => ∃ v : Nat, iv = .int .i64 (v : Int) ∧ v ≤ N ∧ NearsAt wr ao N bl (fun a b => decide (a < v) && gateB c.ls c.T R a b) ∧ Below w.heap.size w wr) (fun iv _ => N - (numOf iv).toNat)
  case atStart => exact ⟨0, rfl, Nat.zero_le _, NearsAt.congr HNR.out (fun i j _ _ => by simp), hB1⟩
  case round =>
    obtain ⟨v, rfl, hv, hnr, hB⟩ := hrel
    clear HNR hB1
    by_cases hlt : v < N
    · have i2 : (v : Int) < (N : Int) := by omega
      have hcN := HCN.out
      obtain ⟨lv, hlv⟩ : ∃ z, z = 2 * v + 1 := ⟨_, rfl⟩
      have hlvN : lv < c.N := by omega
      have l1 := leaves_call (v := v) (by omega)
      rw [← hlv] at l1
      have L1 : Hid (∀ w : World, Calls Try.prog 44 #[.int .i64 (v : Int)] w fun e w' => e = .returned (.int .i64 (lv : Int)) ∧ w' = w) := l1
      have hps := PS.below HPS.out hB
      have cb0 := box_cell hps.box (i := 0) rfl
      obtain ⟨_, _, hnear⟩ := HPS.out.near
      obtain ⟨xo, xc, hcg0, hel⟩ := hnear lv hlvN
      have hcg := (hB.cell (World.block_lt_of_cell? w _ hcg0)).trans hcg0
      have j1 : (0 : Int) ≤ (lv : Int) := by omega
      have j2 : (lv : Int) < (c.N : Int) := by omega
      have HLV : Hid (lv = 2 * v + 1) := hlv
      have HNR : Hid (NearsAt wr ao N bl (fun a b => decide (a < v) && gateB c.ls c.T R a b)) := hnr
      have hz := And.intro cb0 hcg
      clear l1 hps hnear hlv hnr hcN
      have HEL : Hid (∀ W, Below w.heap.size w W → ∀ k u : Nat, (c.ls lv)[k]? = some u → ∃ b, xo = some ⟨b, 0, none⟩ ∧ W.cell? ⟨b, k, none⟩ = some (.int .i64 (u : Int))) := fun W hW k u hu => by
        obtain ⟨b, _, _, e, hc⟩ := hel k u hu
        exact ⟨b, e, (hW.cell (World.block_lt_of_cell? w _ hc)).trans hc⟩
      clear hcg0
      clear hel
      go_upto_region 5 with (fail)
      go_cut [23, 24, 25] from 16 to 25 (fun s23 s24 s25 wd => s23 = .slice xo (c.ls lv).length xc ∧ s24 = .int .i64 ((c.ls lv).length : Int) ∧ s25 = .int .i64 0 ∧ wd = wr.drew)
      case first =>
        go_region_with ((go_at_call 44; refine (L1.out _).mono ?_; rintro r w2 ⟨rfl, hw2⟩; rw [hw2]; clear hw2))
        all_goals
          go_wp2_with fail
          try simp [Act.put]
          go_meet
          case rel => exact ⟨rfl, rfl, rfl, rfl⟩
      case rest =>
        obtain ⟨rfl, rfl, rfl, rfl⟩ := hcut
        have HN0 : Hid (NearsAt wr.drew ao N bl (fun a b => decide (a < v) && gateB c.ls c.T R a b)) := NearsAt.below HNR.out (Below.refl _ wr).drew
        have hBd : Below w.heap.size w wr.drew := hB.drew
        generalize wr.drew = Wd at HN0 hBd ⊢
        clear HNR hB cb0 hcg hz
        obtain ⟨ll, hll⟩ : ∃ ll, ll = c.ls lv := ⟨_, rfl⟩
        have HLL : Hid (ll = c.ls lv) := hll
        rw [← hll] at HEL ⊢
        clear hll
        have hlen : ll.length ≤ 1000000 := by rw [HLL.out]; exact HNT.out.len lv hlvN
        have HBB : Hid (∀ b, gateB c.ls c.T R v b = ll.any (gateP c.T R v b)) := fun b => by rw [HLL.out, HLV.out]; rfl
        go_wp2
        go_loopw [25] (fun iv wz => ∃ i : Nat, iv = .int .i64 (i : Int) ∧ i ≤ ll.length ∧ NearsAt wz ao N bl (fun a b => (decide (a = v) && (ll.take i).any (gateP c.T R v b)) || (decide (a < v) && gateB c.ls c.T R a b)) ∧ Below w.heap.size w wz) (fun iv _ => ll.length - (numOf iv).toNat)
        case atStart => exact ⟨0, rfl, Nat.zero_le _, NearsAt.congr HN0.out (fun a b _ _ => by simp), hBd⟩
        case round =>
          clear HN0 hBd
          obtain ⟨i, rfl, hi, hnz, hBz⟩ := hrel
          have HNZ : Hid (NearsAt wr ao N bl (fun a b => (decide (a = v) && (ll.take i).any (gateP c.T R v b)) || (decide (a < v) && gateB c.ls c.T R a b))) := hnz
          clear hnz
          by_cases hli : i < ll.length
          · have k1 : (0 : Int) ≤ (i : Int) := by omega
            have k2 : (i : Int) < (ll.length : Int) := by omega
            obtain ⟨q, hq⟩ : ∃ q, ll[i]? = some q := ⟨ll[i], List.getElem?_eq_getElem hli⟩
            obtain ⟨bx, rfl, cq⟩ := HEL.out wr hBz i q hq
            have hqm := (HNT.out.mem lv q hlvN).1 (by rw [← HLL.out]; exact List.mem_of_getElem? hq)
            have hqM := hqm.1
            have hMM := HM.out
            have hps := PS.below HPS.out hBz
            have cb1 := box_cell hps.box (i := 1) rfl
            have cb2 := box_cell hps.box (i := 2) rfl
            rw [(hps.to (by omega)).1] at cb1
            rw [(hps.room (by omega)).1] at cb2
            have ct := (hps.to (by omega)).2.cell hqM
            have htwM := tw_lt HNT.out.even hqM
            have cr := (hps.room (by omega)).2.cell htwM
            have hTN := HNT.out.lt q hqM
            have hcN := HCN.out
            obtain ⟨u, hu⟩ : ∃ u, u = c.T q / 2 := ⟨_, rfl⟩
            have huN : u < N := by omega
            have k3 : (0 : Int) ≤ (q : Int) := by omega
            have k4 : (q : Int) < (c.M : Int) := by omega
            have k5 : Int.tdiv (c.T q : Int) 2 = (u : Int) := by rw [hu]; exact Int.ofNat_tdiv _ _
            obtain ⟨tq, htq⟩ : ∃ tq, tq = tw q := ⟨_, rfl⟩
            have htw := twin_call (p := q) (by omega)
            rw [← htq] at htw cr htwM
            have HTW : Hid (∀ w : World, Calls Try.prog 62 #[.int .i64 (q : Int)] w fun e w' => e = .returned (.int .i64 (tq : Int)) ∧ w' = w) := htw
            have k6 : (0 : Int) ≤ (tq : Int) := by omega
            have k7 : (tq : Int) < (c.M : Int) := by omega
            have HQ : Hid (ll[i]? = some q ∧ u = c.T q / 2 ∧ tq = tw q) := ⟨hq, hu, htq⟩
            clear hq hqm hps htw hu htq hTN hcN hMM
            go_upto_region 9 with (fail)
            clear ct cb1 cq
            go_cut [50] from 37 to 50 (fun s50 wd => ∃ g : Bool, s50 = .bool g ∧ (g = true ↔ u ≠ v ∧ 0 < R tq) ∧ Below wr.heap.size wr wd)
            case first =>
              by_cases huv : u = v
              · have m1 : ((u : Int) != (v : Int)) = false := by simp [huv]
                have HUV : Hid (u = v) := huv
                clear huv
                go_quiet ((go_at_call 62; exact Calls.quiet_of_same (HTW.out _)))
                go_wp2_with fail
                go_meet
                case rel => exact ⟨false, rfl, by simp [HUV.out], below_drewN (Below.refl _ wr) _⟩
              · have m1 : ((u : Int) != (v : Int)) = true := by simp; omega
                have hz := And.intro cb2 cr
                have HUV : Hid (u ≠ v) := huv
                clear huv
                by_cases hr : 0 < R tq
                · have m2 : R tq > 0 := hr
                  have HR : Hid (0 < R tq) := hr
                  clear hr
                  go_quiet ((go_at_call 62; exact Calls.quiet_of_same (HTW.out _)))
                  go_wp2_with fail
                  go_meet
                  case rel => exact ⟨true, rfl, by simp [HUV.out, HR.out], below_drewN (Below.refl _ wr) _⟩
                · have m2 : ¬ R tq > 0 := hr
                  have HR : Hid (¬ 0 < R tq) := hr
                  clear hr
                  go_quiet ((go_at_call 62; exact Calls.quiet_of_same (HTW.out _)))
                  go_wp2_with fail
                  go_meet
                  case rel => exact ⟨false, rfl, by simp [HR.out], below_drewN (Below.refl _ wr) _⟩
            case rest =>
              obtain ⟨g, rfl, hg, hbd⟩ := hcut
              have hnd := NearsAt.below HNZ.out hbd
              have hBd := below_next hBz hbd
              have HST : Hid (∀ b, (ll.take (i + 1)).any (gateP c.T R v b) = ((g && b == u) || (ll.take i).any (gateP c.T R v b))) := fun b => by
                obtain ⟨g1, g2⟩ := List.getElem?_eq_some_iff.1 HQ.out.1
                rw [List.take_succ_eq_append_getElem g1, g2, List.any_append, Bool.or_comm]
                congr 1
                simp only [List.any_cons, List.any_nil, Bool.or_false, gateP]
                rw [← HQ.out.2.1, ← HQ.out.2.2, Bool.eq_iff_iff]
                simp
                rw [hg]
                constructor
                · rintro ⟨rfl, h1, h2⟩; exact ⟨⟨h1, h2⟩, rfl⟩
                · rintro ⟨⟨h1, h2⟩, rfl⟩; exact ⟨rfl, h1, h2⟩
              have HND : Hid (NearsAt wc ao N bl (fun a b => (decide (a = v) && (ll.take i).any (gateP c.T R v b)) || (decide (a < v) && gateB c.ls c.T R a b))) := hnd
              clear hg hbd hnd HNZ cb2 cr hBz
              cases g with
              | false =>
                have HN9 : Hid (NearsAt wc ao N bl (fun a b => (decide (a = v) && (ll.take (i + 1)).any (gateP c.T R v b)) || (decide (a < v) && gateB c.ls c.T R a b))) := NearsAt.congr HND.out (fun a b _ _ => by rw [HST.out b]; simp)
                clear HND
                go_wp2
                go_roundw
                case rel => exact ⟨i + 1, by go_num, by omega, HN9.out, hBd⟩
                case measure => simp [numOf]; omega
              | true =>
                obtain ⟨gx, rfl, cg⟩ := HND.out.row v hlt
                have m1 : (0 : Int) ≤ (v : Int) := by omega
                have h60 := add_call (HND.out.sets v hlt) (u := u) (by omega) huN
                have H60 : Hid _ := h60
                clear h60
                go_wp2_with (first | (go_at_call 60; refine Calls.mono H60.out ?_; rintro r W9 ⟨rfl, hs9, ht9⟩; have hn9 := NearsAt.put HND.out hlt hs9 ht9; have HN9 : Hid (NearsAt W9 (some ⟨gx, 0, none⟩) N bl (fun a b => (decide (a = v) && (ll.take (i + 1)).any (gateP c.T R v b)) || (decide (a < v) && gateB c.ls c.T R a b))) := NearsAt.congr hn9 (fun a b _ _ => (by rw [HST.out b]; by_cases hav : a = v <;> simp [hav])); have hB9 := ht9.below hBd hBd.size (fun k hk => (by rw [hk]; exact HBL.out v hlt)); clear hn9 hs9 ht9) | go_in)
                go_roundw
                case rel => exact ⟨i + 1, by go_num, by omega, HN9.out, hB9⟩
                case measure => simp [numOf]; omega
          · have k2 : ¬ (i : Int) < (ll.length : Int) := by omega
            have HN9 : Hid (NearsAt wr ao N bl (fun a b => decide (a < v + 1) && gateB c.ls c.T R a b)) := NearsAt.congr HNZ.out (fun a b _ _ => by
              rw [List.take_of_length_le (by omega), ← HBB.out b]
              by_cases hav : a = v
              · subst hav; simp
              · have : decide (a < v + 1) = decide (a < v) := by rw [Bool.eq_iff_iff]; simp; omega
                simp [hav, this])
            clear HNZ
            go_wp2
            go_roundw
            case rel => exact ⟨v + 1, by go_num, by omega, HN9.out, hBz⟩
            case measure => simp [numOf]; omega
    · have i2 : ¬ (v : Int) < (N : Int) := by omega
      have hvN : v = N := by omega
      subst hvN
      have HN9 : Hid (NearsAt wr ao v bl (gateB c.ls c.T R)) := NearsAt.congr hnr (fun i j hi _ => by simp [hi])
      clear hnr
      go_wp2
      go_ret
      exact ⟨ao, rfl, bl, HN9.out, HBL.out, hB⟩
end Go.Proofs.Ytkakmaalmhofmaa
