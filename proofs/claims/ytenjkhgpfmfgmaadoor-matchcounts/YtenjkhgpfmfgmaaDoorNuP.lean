/- How many pairs there are at most among some nodes: the document's search, which keeps what it has found. How many matchings go to all nodes of a set: the document's search, which keeps what it has found. -/
import Derived.Laws.Shifts
import Derived.Laws.BitsLemmas
import Derived.Test.YtenjkhgpfmfgmaaDoorNuM
import Derived.Test.YtenjkhgpfmfgmaaDoorRefMatch
import Derived.Deep.RegionHeld3
namespace Go.Proofs.YtenjkhgpfmfgmaaDoor
open Go.RowKit Go.Maps
attribute [local go_sem ↓] Go.wp_at_zero Go.wp_at_succ

theorem and1 (n : Int) : bits .and .i64 n 1 = n % 2 := by
  have h1 : (BitVec.ofInt 64 1).toNat = 2 ^ 1 - 1 := by decide
  have key : (BitVec.ofInt 64 n &&& BitVec.ofInt 64 1).toNat = (n % ((2 ^ 64 : Nat) : Int)).toNat % 2 ^ 1 := by
    rw [BitVec.toNat_and, BitVec.toNat_ofInt, h1, Nat.and_two_pow_sub_one_eq_mod]
  show IntKind.i64.wrap ((BitVec.ofInt 64 n &&& BitVec.ofInt 64 1).toNat : Nat) = n % 2
  rw [key, IntKind.wrap_i64]
  omega
theorem bit_at (S k : Nat) : bits .and .i64 ((S : Int) / 2 ^ k) 1 = if S.testBit k = true then 1 else 0 := by
  rw [and1]
  have e : (S : Int) / 2 ^ k % 2 = ((S / 2 ^ k % 2 : Nat) : Int) := by push_cast; rfl
  rw [e, Nat.testBit_eq_decide_div_mod_eq]
  rcases Nat.mod_two_eq_zero_or_one (S / 2 ^ k) with h | h <;> simp [h]
theorem pow_le14 {k N : Nat} (hk : k < N) (hN : N ≤ 14) : 2 ^ k ≤ 8192 := by
  have : 2 ^ k ≤ 2 ^ 13 := Nat.pow_le_pow_right (by omega) (by omega)
  simpa using this
theorem wrap_pow {k N : Nat} (hk : k < N) (hN : N ≤ 14) : wrap64 ((2 : Int) ^ k) = ((2 ^ k : Nat) : Int) := by
  have h1 := pow_le14 hk hN
  have e : (2 : Int) ^ k = ((2 ^ k : Nat) : Int) := by push_cast; rfl
  rw [e]
  unfold wrap64
  generalize 2 ^ k = P at h1 ⊢
  omega
theorem wrap_sub {a b : Nat} (h : b ≤ a) (ha : a < 16384) : wrap64 ((a : Int) - (b : Int)) = ((a - b : Nat) : Int) := by
  unfold wrap64
  omega
theorem bit_le {S k : Nat} (h : S.testBit k = true) : 2 ^ k ≤ S := Nat.ge_two_pow_of_testBit h
theorem bit_out {S k : Nat} (h : S.testBit k = true) : (S - 2 ^ k).testBit = outB S.testBit k := by
  have hd : S / 2 ^ k % 2 = 1 := by rw [Nat.testBit_eq_decide_div_mod_eq] at h; simpa using h
  have h1 : S = 2 ^ (k + 1) * (S / 2 ^ (k + 1)) + S % 2 ^ (k + 1) := (Nat.div_add_mod _ _).symm
  have h2 : S % 2 ^ (k + 1) = 2 ^ k + S % 2 ^ k := by
    have q1 := Nat.mod_pow_succ (b := 2) (x := S) (k := k)
    rw [q1, hd]; omega
  have hlt : S % 2 ^ k < 2 ^ k := Nat.mod_lt _ (Nat.two_pow_pos k)
  have hp : 2 ^ (k + 1) = 2 ^ k + 2 ^ k := by rw [Nat.pow_succ]; omega
  have e0 : S - 2 ^ k = 2 ^ (k + 1) * (S / 2 ^ (k + 1)) + S % 2 ^ k := by omega
  funext z
  have a1 := Nat.testBit_two_pow_mul_add (S / 2 ^ (k + 1)) (i := k + 1) (b := S % 2 ^ k) (by omega) z
  have a2 := Nat.testBit_two_pow_mul_add (S / 2 ^ (k + 1)) (i := k + 1) (b := S % 2 ^ (k + 1)) (by omega) z
  rw [← e0] at a1
  rw [← h1] at a2
  rw [a1]
  unfold outB
  rw [a2]
  by_cases hz : z < k + 1
  · rw [if_pos hz, if_pos hz, Nat.testBit_mod_two_pow, Nat.testBit_mod_two_pow]
    by_cases hzk : z = k
    · subst hzk; simp
    · have b1 : (z == k) = false := by simpa using hzk
      have h3 : z < k := by omega
      simp [hz, h3, b1]
  · rw [if_neg hz, if_neg hz]
    have b1 : (z == k) = false := by simp; omega
    simp [b1]
theorem bit_none {S N : Nat} (hS : S < 2 ^ N) {z : Nat} (hz : N ≤ z) : S.testBit z = false := Nat.testBit_lt_two_pow (Nat.lt_of_lt_of_le hS (Nat.pow_le_pow_right (by omega) hz))

theorem FarAt.hit {w : World} {b N : Nat} {F : Nat → Option Nat} (h : FarAt w b N F) (hN : N ≤ 1000000) {k d : Nat} (hk : k < N) (hd : F k = some d) :
    (Instr.lookup 43 (.map (some b)) (.int .i64 (k : Int)) true).run Tryd.prog w = .ok (.tuple #[.int .i64 (d : Int), .bool true]) w := by
  obtain ⟨D, h1, h2, h3⟩ := h
  obtain ⟨x, ps, hrun, hx⟩ := h1.look_ok Tryd.lawI Tryd.underlying43 (Tryd.zero3 w) (plainElem_int Tryd.underlying3 (by decide)) (hkeyI (natI hN hk))
  rw [h3 k d hk hd] at hx
  obtain ⟨c, rfl, hc, _⟩ := plainElem_int_inv Tryd.underlying3 hx
  simp at hc
  have hh : Maps.has D (.int .i64 (k : Int)) = true := by rw [h2 _ (natI hN hk)]; simp [hd, hk]
  rw [hh, ← hc.1] at hrun
  exact hrun
theorem FarAt.miss {w : World} {b N : Nat} {F : Nat → Option Nat} (h : FarAt w b N F) (hN : N ≤ 1000000) {k : Nat} (hk : k < N) (hd : F k = none) :
    (Instr.lookup 43 (.map (some b)) (.int .i64 (k : Int)) true).run Tryd.prog w = .ok (.tuple #[.int .i64 0, .bool false]) w := by
  obtain ⟨D, h1, h2, h3⟩ := h
  obtain ⟨x, ps, hrun, hx⟩ := h1.look_ok Tryd.lawI Tryd.underlying43 (Tryd.zero3 w) (plainElem_int Tryd.underlying3 (by decide)) (hkeyI (natI hN hk))
  have hno : Maps.has D (.int .i64 (k : Int)) = false := by rw [h2 _ (natI hN hk)]; simp [hd]
  rw [atKey_of_not_has hno] at hx
  obtain ⟨c, rfl, hc, _⟩ := plainElem_int_inv Tryd.underlying3 hx
  simp at hc
  rw [hno, ← hc.1] at hrun
  exact hrun
theorem FarAt.ne {w : World} {b N : Nat} {F : Nat → Option Nat} (h : FarAt w b N F) {p : Addr} {x : Value} (hc : w.cell? p = some x) : p.block ≠ b := by
  intro e
  obtain ⟨D, ⟨es, clock, h1, _⟩, _⟩ := h
  obtain ⟨bl, o, i⟩ := p
  simp at e
  subst e
  simp [World.cell?, h1] at hc

/-- What is kept is right. -/
structure Kn (N : Nat) (E : Nat → Nat → Prop) (w : World) (b : Nat) (F : Nat → Option Nat) : Prop where
  far : FarAt w b 16384 F
  ok : ∀ k d, F k = some d → IsNu N E k.testBit d

theorem isNu_le {N : Nat} {E : Nat → Nat → Prop} {s : Nat → Bool} {k : Nat} (h : IsNu N E s k) : 2 * k ≤ N := by
  obtain ⟨⟨m', _, _, h3⟩, _⟩ := h
  rw [← h3]
  have := lone_sz N m'
  omega

set_option maxRecDepth 8000 in
set_option maxHeartbeats 8000000 in
theorem nu_call {ao : Option Addr} {cap N b : Nat} {es : List Pair} (hN : N ≤ 14) (hnb : Nbs N (nbOf es) (Ef N es)) : ∀ (n S : Nat), S < n → S < 2 ^ N → ∀ (w : World) (F : Nat → Option Nat), GridAt w (.slice ao N cap) N (hasB es) → Kn N (Ef N es) w b F →
    Calls Tryd.prog 17 #[.slice ao N cap, .int .i64 (S : Int), .map (some b)] w fun r w' => ∃ (d : Nat) (F' : Nat → Option Nat), r = .returned (.int .i64 (d : Int)) ∧ IsNu N (Ef N es) S.testBit d ∧ Kn N (Ef N es) w' b F' ∧ Turns (fun k => k = b) w w'
  | 0, S, hn, _, _, _, _, _ => absurd hn (Nat.not_lt_zero _)
  | n + 1, S, hn, hS, w, F, hG, hK => by
    have hS14 : S < 16384 := Nat.lt_of_lt_of_le hS (by have : 2 ^ N ≤ 2 ^ 14 := Nat.pow_le_pow_right (by omega) hN; simpa using this)
    have IH := nu_call (ao := ao) (cap := cap) (b := b) hN hnb n
    cases hF : F S with
    | some d =>
      have hl := hK.far.hit (by omega) hS14 hF
      have HK : Hid _ := hK
      have hok := hK.ok S d hF
      clear hK IH hG
      go_enter Tryd.func17, Tryd.ntmps17
      go_wp2
      go_ret
      exact ⟨d, F, rfl, hok, HK.out, Turns.refl _ _⟩
    | none =>
      have hl := hK.far.miss (by omega) hS14 hF
      obtain ⟨ao', cap', e0, hgrid⟩ := hG
      cases e0
      have HK : Hid _ := hK
      have HG : Hid _ := hgrid
      have HIH : Hid _ := IH
      have HNB : Hid _ := hnb
      clear hK IH hgrid hnb
      go_enter Tryd.func17, Tryd.ntmps17
      go_wp2
      clear hl
      obtain ⟨W, hW⟩ : ∃ W, W = w := ⟨_, rfl⟩
      rw [← hW] at HK HG ⊢
      have HW : Hid _ := hW
      clear hW
      go_loopw [9] (fun i wr => ∃ k : Nat, k ≤ N ∧ i = .int .i64 (k : Int) ∧ wr = W ∧ ∀ z, z < k → S.testBit z = false) (fun i _ => N - (numOf i).toNat)
      case atStart => exact ⟨0, Nat.zero_le _, rfl, rfl, fun z hz => absurd hz (Nat.not_lt_zero _)⟩
      case round =>
        obtain ⟨k, hk, rfl, hwr, hlow⟩ := hrel
        have hwr' := hwr.symm
        subst hwr'
        by_cases hkN : k < N
        · have i1 : (0 : Int) ≤ (k : Int) := by omega
          have i2 : (k : Int) < (N : Int) := by omega
          have hb1 := bit_at S k
          cases hbit : S.testBit k with
          | false =>
            rw [hbit] at hb1
            simp at hb1
            have HLW : Hid _ := hlow
            have HBT : Hid _ := hbit
            clear hlow hbit
            go_wp2
            go_roundw
            case rel => exact ⟨k + 1, by omega, by go_num, trivial, fun z hz => by by_cases e : z = k; · rw [e]; exact HBT.out
                                                                                   · exact HLW.out z (by omega)⟩
            case measure => simp [numOf]; omega
          | true =>
            rw [hbit] at hb1
            simp at hb1
            obtain ⟨P, hP⟩ : ∃ P, P = 2 ^ k := ⟨_, rfl⟩
            have hwp := wrap_pow hkN hN
            have hPS := bit_le hbit
            have hout := bit_out hbit
            have hP0 := Nat.two_pow_pos k
            rw [← hP] at hwp hPS hout hP0
            obtain ⟨S1, hS1⟩ : ∃ S1, S1 = S - P := ⟨_, rfl⟩
            have hsub : wrap64 ((S : Int) - (P : Int)) = (S1 : Int) := by rw [hS1]; exact wrap_sub hPS hS14
            rw [← hS1] at hout
            have hS1S : S1 < S := by rw [hS1]; exact Nat.sub_lt (Nat.lt_of_lt_of_le hP0 hPS) hP0
            have HC : Hid _ := HIH.out S1 (Nat.lt_of_lt_of_le hS1S (Nat.le_of_lt_succ hn)) (Nat.lt_trans hS1S hS) W F ⟨_, _, rfl, HG.out⟩ HK.out
            have HLW : Hid _ := hlow
            have HBT : Hid _ := hbit
            have HOU : Hid _ := hout
            clear hlow hbit hout hPS hP hS1
            go_upto_region 11 with (first | (go_at_call 17; refine Calls.mono HC.out ?_; rintro e W1 ⟨d0, F1, rfl, hnu0, hK1, hT1⟩) | go_in)
            have hst0 : NuTo N (Ef N es) S.testBit k (k + 1) d0 := nuTo_start HNB.out.irr HLW.out (by rw [← HOU.out]; exact hnu0)
            have HST : Hid _ := hst0
            have HK1 : Hid _ := hK1
            clear hnu0 hst0 hK1 HC hb1
            go_wp2
            go_loopw [10, 12] (fun s10 s12 wx => ∃ (j best : Nat) (F2 : Nat → Option Nat), k < j ∧ j ≤ N ∧ s12 = .int .i64 (j : Int) ∧ s10 = .int .i64 (best : Int) ∧ NuTo N (Ef N es) S.testBit k j best ∧ Kn N (Ef N es) wx b F2 ∧ Turns (fun k => k = b) W wx) (fun _ i _ => N - (numOf i).toNat)
            case atStart => exact ⟨k + 1, d0, F1, by omega, by omega, by go_num, rfl, HST.out, HK1.out, hT1⟩
            case round =>
              obtain ⟨j, best, F2, hkj, hjN, rfl, rfl, hto, hK2, hT2⟩ := hrel
              have hbst : 2 * best ≤ N := by
                obtain ⟨⟨m', _, _, h3⟩, _⟩ := hto
                rw [← h3]
                have := lone_sz N m'
                omega
              by_cases hjl : j < N
              · have j1 : (0 : Int) ≤ (j : Int) := by omega
                have j2 : (j : Int) < (N : Int) := by omega
                have hb2 := bit_at S j
                obtain ⟨gg, gb, hgo, g0w, g1w⟩ := HG.out k hkN
                have g0 := cell_turns g0w hT2 (HK.out.far.ne g0w)
                have g1 := cell_turns (g1w j hjl) hT2 (HK.out.far.ne (g1w j hjl))
                subst hgo
                cases hbj : S.testBit j with
                | false =>
                  rw [hbj] at hb2
                  simp at hb2
                  have hto' := nuTo_skip hto (fun h => by rw [hbj] at h; cases h.1)
                  have HTO : Hid _ := hto'
                  have HK2 : Hid _ := hK2
                  clear hto hto' hK2 g0w g1w hbj g0 g1
                  go_wp2
                  go_roundw
                  case rel => exact ⟨j + 1, best, F2, by omega, by omega, by go_num, rfl, HTO.out, HK2.out, hT2⟩
                  case measure => simp [numOf]; omega
                | true =>
                  rw [hbj] at hb2
                  simp at hb2
                  cases hpj : hasB es k j with
                  | false =>
                    rw [hpj] at g1
                    have hto' := nuTo_skip hto (fun h => by have h1 : hasB es k j = true := h.2.2.2; rw [hpj] at h1; cases h1)
                    have HTO : Hid _ := hto'
                    have HK2 : Hid _ := hK2
                    clear hto hto' hK2 g0w g1w hbj hpj
                    go_wp2
                    go_roundw
                    case rel => exact ⟨j + 1, best, F2, by omega, by omega, by go_num, rfl, HTO.out, HK2.out, hT2⟩
                    case measure => simp [numOf]; omega
                  | true =>
                    rw [hpj] at g1
                    have hE : Ef N es k j := ⟨hkN, hjl, hpj⟩
                    obtain ⟨Pj, hPj⟩ : ∃ P, P = 2 ^ j := ⟨_, rfl⟩
                    have hwpj := wrap_pow hjl hN
                    have hbj1 : S1.testBit j = true := by
                      rw [HOU.out]
                      have : (j == k) = false := by simp; omega
                      simp [outB, hbj, this]
                    have hPS := bit_le hbj1
                    have hout2 := bit_out hbj1
                    have hP0 := Nat.two_pow_pos j
                    rw [← hPj] at hwpj hPS hout2 hP0
                    obtain ⟨S2, hS2⟩ : ∃ S2, S2 = S1 - Pj := ⟨_, rfl⟩
                    have hsub2 : wrap64 ((S1 : Int) - (Pj : Int)) = (S2 : Int) := by rw [hS2]; exact wrap_sub hPS (Nat.lt_trans hS1S hS14)
                    have hS2S : S2 < S := Nat.lt_of_le_of_lt (by rw [hS2]; exact Nat.sub_le _ _) hS1S
                    rw [← hS2] at hout2
                    have hGx : GridAt wr (.slice (some ⟨gg, 0, none⟩) N cap) N (hasB es) := ⟨_, _, rfl, fun i hi => by
                      obtain ⟨a1, a2, a3, a4, a5⟩ := HG.out i hi
                      exact ⟨a1, a2, a3, cell_turns a4 hT2 (HK.out.far.ne a4), fun q hq => cell_turns (a5 q hq) hT2 (HK.out.far.ne (a5 q hq))⟩⟩
                    have HC : Hid _ := HIH.out S2 (Nat.lt_of_lt_of_le hS2S (Nat.le_of_lt_succ hn)) (Nat.lt_trans hS2S hS) wr F2 hGx hK2
                    have HTO : Hid _ := hto
                    have HHE : Hid _ := hE
                    have HBJ : Hid _ := hbj
                    have HO2 : Hid _ := hout2
                    clear hto hK2 g0w g1w hbj hpj hE hbj1 hPS hout2 hPj hS2 hGx
                    go_upto_region 16 with (first | (go_at_call 17; refine Calls.mono HC.out ?_; rintro e W3 ⟨d2, F3, rfl, hnu2, hK3, hT3⟩; have hd2 := isNu_le hnu2) | go_in)
                    have hto3 := nuTo_take HNB.out.sym HNB.out.irr HNB.out.lt HTO.out HBT.out HBJ.out HHE.out (k := d2) (by rw [← HOU.out, ← HO2.out]; exact hnu2)
                    have HT3 : Hid _ := hto3
                    have HK3 : Hid _ := hK3
                    have hT4 := hT2.trans hT3
                    clear hto3 hK3 hnu2 HC hT3
                    by_cases hgt : best < 1 + d2
                    · have q1 : (best : Int) < 1 + (d2 : Int) := by omega
                      have hmx : max best (1 + d2) = 1 + d2 := by omega
                      have HMX : Hid _ := hmx
                      clear hmx
                      go_wp2
                      go_roundw
                      case rel => exact ⟨j + 1, 1 + d2, F3, by omega, by omega, by go_num, by go_num, by rw [← HMX.out]; exact HT3.out, HK3.out, hT4⟩
                      case measure => simp [numOf]; omega
                    · have q1 : ¬ (best : Int) < 1 + (d2 : Int) := by omega
                      have hmx : max best (1 + d2) = best := by omega
                      have HMX : Hid _ := hmx
                      clear hmx
                      go_wp2
                      go_roundw
                      case rel => exact ⟨j + 1, best, F3, by omega, by omega, by go_num, rfl, by rw [HMX.out] at HT3; exact HT3.out, HK3.out, hT4⟩
                      case measure => simp [numOf]; omega
              · have hje : N = j := by omega
                subst hje
                have j2 : ¬ (N : Int) < (N : Int) := by omega
                have hnu := nuTo_end hto
                obtain ⟨w1, hst, hfar1, htn⟩ := hK2.far.store (by omega) hS14 (d := best) (by omega) (c := (best : Int)) rfl
                have HFR : Hid (FarAt w1 b 16384 (fun x => if x = S then some best else F2 x)) := hfar1
                have HNU : Hid _ := hnu
                have HK2 : Hid _ := hK2
                clear hfar1 hnu hto hK2
                go_wp2
                go_ret
                rw [← HW.out]
                refine ⟨best, rfl, HNU.out, ⟨_, HFR.out, fun q d hq => ?_⟩, hT2.trans (turned_turns htn)⟩
                by_cases e : q = S
                · subst e
                  rw [if_pos rfl] at hq; cases hq
                  exact HNU.out
                · rw [if_neg e] at hq
                  exact HK2.out.ok q d hq
        · have hke : N = k := by omega
          subst hke
          have i2 : ¬ (N : Int) < (N : Int) := by omega
          obtain ⟨w1, hst, hfar1, htn⟩ := HK.out.far.store (by omega) hS14 (d := 0) (by omega) (c := 0) rfl
          have HFR : Hid (FarAt w1 b 16384 (fun x => if x = S then some 0 else F x)) := hfar1
          have HLW : Hid _ := hlow
          clear hfar1 hlow
          go_wp2
          go_ret
          rw [← HW.out]
          refine ⟨0, rfl, isNu_none HLW.out, ⟨_, HFR.out, fun q d hq => ?_⟩, turned_turns htn⟩
          by_cases e : q = S
          · subst e
            rw [if_pos rfl] at hq; cases hq
            exact isNu_none HLW.out
          · rw [if_neg e] at hq
            exact HK.out.ok q d hq
end Go.Proofs.YtenjkhgpfmfgmaaDoor

namespace Go.Proofs.YtenjkhgpfmfgmaaDoor
open Go.RowKit Go.Maps
attribute [local go_sem ↓] Go.wp_at_zero Go.wp_at_succ

theorem sumN_le {f : Nat → Nat} {p : Nat → Bool} {M : Nat} : ∀ {N : Nat}, (∀ z, z < N → p z = true → f z ≤ M) → sumN N (fun z => if p z then f z else 0) ≤ cnt N p * M
  | 0, _ => by simp [sumN]
  | n + 1, h => by
    have ih := sumN_le (f := f) (p := p) (M := M) (N := n) (fun z hz => h z (by omega))
    rw [sumN, cnt_succ, Nat.add_mul]
    cases e : p n with
    | false => simpa using ih
    | true => have := h n (by omega) e; simp; omega
theorem sumN_mono {f : Nat → Nat} {j : Nat} : ∀ {N : Nat}, j ≤ N → sumN j f ≤ sumN N f
  | 0, h => by rw [show j = 0 by omega]; exact Nat.le_refl _
  | n + 1, h => by
    by_cases e : j = n + 1
    · rw [e]; exact Nat.le_refl _
    · have := sumN_mono (f := f) (N := n) (j := j) (by omega)
      rw [sumN]; omega
theorem sumN_cut {f : Nat → Nat} {j : Nat} : ∀ {N : Nat}, j ≤ N → (∀ z, j ≤ z → z < N → f z = 0) → sumN N f = sumN j f
  | 0, h, _ => by rw [show j = 0 by omega]
  | n + 1, h, hz => by
    by_cases e : j = n + 1
    · rw [e]
    · rw [sumN, hz n (by omega) (by omega), sumN_cut (by omega) (fun z h1 h2 => hz z h1 (by omega))]; omega
theorem wrap_eq (n : Int) : IntKind.i64.wrap n = wrap64 n := by rw [IntKind.wrap_i64]; unfold wrap64; rfl
theorem wrap_add {a b : Nat} (h : a + b ≤ 135135) : IntKind.i64.wrap ((a : Int) + (b : Int)) = ((a + b : Nat) : Int) := by
  rw [wrap_eq]
  unfold wrap64
  omega
def dfac : Nat → Nat
  | 0 => 1
  | 1 => 1
  | n + 2 => (n + 1) * dfac n
theorem pm_le (N : Nat) (e : Nat → Nat → Bool) : ∀ (n : Nat) (s : Nat → Bool), cnt N s ≤ n → pm N e s ≤ dfac (cnt N s)
  | n, s, hn => by
    cases hl : lowB N s with
    | none =>
      have h0 : cnt N s = 0 := cnt_zero fun z hz => lowB_none hl hz
      rw [pm_none (fun z hz => lowB_none hl hz), h0]
      exact Nat.le_refl _
    | some l =>
      obtain ⟨hlN, hls⟩ := lowB_some hl
      have h1 := cnt_out hlN hls
      rw [pm_low hl]
      by_cases hc : cnt N s = 1
      · rw [hc, sumN_zero]
        · simp [dfac]
        · intro w hw
          have h0 : cnt N (outB s l) = 0 := by omega
          have : outB s l w = false := by
            cases e2 : outB s l w with
            | false => rfl
            | true => have := cnt_pos hw e2; omega
          unfold outB at this
          simp [this]
      · obtain ⟨c, hcc⟩ : ∃ c, cnt N s = c + 2 := ⟨cnt N s - 2, by omega⟩
        rw [hcc, dfac]
        have hle := sumN_le (N := N) (f := fun w => pm N e (outB (outB s l) w)) (p := fun w => s w && !(w == l) && e l w) (M := dfac c) (fun w hw hp => by
          have hin : outB s l w = true := by
            simp only [Bool.and_eq_true] at hp
            unfold outB
            simp only [Bool.and_eq_true]
            exact hp.1
          have h2 := cnt_out hw hin
          have h3 : cnt N (outB (outB s l) w) = c := by omega
          match n, hn with
          | 0, hn => omega
          | n + 1, hn =>
            have := pm_le N e n (outB (outB s l) w) (by omega)
            rw [h3] at this
            exact this)
        have hcn : cnt N (fun w => s w && !(w == l) && e l w) ≤ c + 1 := by
          have := cnt_le (N := N) (p := fun w => s w && !(w == l) && e l w) (q := outB s l) (fun z _ h => by
            unfold outB
            simp only [Bool.and_eq_true] at h ⊢
            exact h.1)
          omega
        exact Nat.le_trans hle (Nat.mul_le_mul_right _ hcn)
theorem dfac_14 {c : Nat} (h : c ≤ 14) : dfac c ≤ 135135 := by
  have : ∀ c : Fin 15, dfac c.val ≤ 135135 := by decide +kernel
  exact this ⟨c, by omega⟩
theorem pm_14 {N : Nat} (hN : N ≤ 14) (e : Nat → Nat → Bool) (s : Nat → Bool) : pm N e s ≤ 135135 := by
  have h1 := pm_le N e (cnt N s) s (Nat.le_refl _)
  have h2 : cnt N s ≤ N := Nat.le_trans (List.length_filter_le _ _) (by simp)
  exact Nat.le_trans h1 (dfac_14 (by omega))

/-- What is kept is right. -/
structure Kp (N : Nat) (e : Nat → Nat → Bool) (w : World) (b : Nat) (F : Nat → Option Nat) : Prop where
  far : FarAt w b 16384 F
  ok : ∀ k d, F k = some d → d = pm N e k.testBit

set_option maxRecDepth 8000 in
set_option maxHeartbeats 8000000 in
theorem perf_call {ao : Option Addr} {cap N b : Nat} {es : List Pair} (hN : N ≤ 14) : ∀ (n S : Nat), S < n → S < 2 ^ N → ∀ (w : World) (F : Nat → Option Nat), GridAt w (.slice ao N cap) N (hasB es) → Kp N (pn (hasB es)) w b F →
    Calls Tryd.prog 24 #[.slice ao N cap, .int .i64 (S : Int), .map (some b)] w fun r w' => ∃ F' : Nat → Option Nat, r = .returned (.int .i64 (pm N (pn (hasB es)) S.testBit : Int)) ∧ Kp N (pn (hasB es)) w' b F' ∧ Turns (fun k => k = b) w w'
  | 0, S, hn, _, _, _, _, _ => absurd hn (Nat.not_lt_zero _)
  | n + 1, S, hn, hS, w, F, hG, hK => by
    have hS14 : S < 16384 := Nat.lt_of_lt_of_le hS (by have : 2 ^ N ≤ 2 ^ 14 := Nat.pow_le_pow_right (by omega) hN; simpa using this)
    have IH := perf_call (ao := ao) (cap := cap) (b := b) (es := es) hN n
    by_cases hS0 : S = 0
    · subst hS0
      have hpm : pm N (pn (hasB es)) (Nat.testBit 0) = 1 := pm_none fun z _ => Nat.zero_testBit z
      have HK : Hid _ := hK
      have HPM : Hid _ := hpm
      clear hK IH hG hpm
      go_enter Tryd.func24, Tryd.ntmps24
      go_wp2
      go_ret
      exact ⟨F, by rw [HPM.out]; rfl, HK.out, Turns.refl _ _⟩
    have hS1 : ((S : Int) == 0) = false := by simp; omega
    cases hF : F S with
    | some d =>
      have hl := hK.far.hit (by omega) hS14 hF
      have HK : Hid _ := hK
      have HOK : Hid _ := hK.ok S d hF
      clear hK IH hG
      go_enter Tryd.func24, Tryd.ntmps24
      go_wp2
      go_ret
      exact ⟨F, congrArg (fun x : Nat => Ending.returned (Value.int .i64 (x : Int))) HOK.out, HK.out, Turns.refl _ _⟩
    | none =>
      have hl := hK.far.miss (by omega) hS14 hF
      obtain ⟨ao', cap', e0, hgrid⟩ := hG
      cases e0
      have hN1 : 1 ≤ N := by
        by_cases h0 : N = 0
        · subst h0; simp at hS; omega
        · omega
      have HK : Hid _ := hK
      have HG : Hid _ := hgrid
      have HIH : Hid _ := IH
      clear hK IH hgrid
      go_enter Tryd.func24, Tryd.ntmps24
      go_wp2
      clear hl
      obtain ⟨W, hW⟩ : ∃ W, W = w := ⟨_, rfl⟩
      rw [← hW] at HK HG ⊢
      have HW : Hid _ := hW
      clear hW
      go_loopw [9] (fun i wr => ∃ k : Nat, k < N ∧ i = .int .i64 (k : Int) ∧ wr = W ∧ ∀ z, k < z → S.testBit z = false) (fun i _ => (numOf i).toNat)
      case atStart => exact ⟨N - 1, by omega, by congr 1; omega, rfl, fun z hz => bit_none hS (by omega)⟩
      case round =>
        obtain ⟨k, hkN, rfl, hwr, hhi⟩ := hrel
        have hwr' := hwr.symm
        subst hwr'
        have i1 : (0 : Int) ≤ (k : Int) := by omega
        have i2 : (k : Int) < (N : Int) := by omega
        have hb1 := bit_at S k
        cases hbit : S.testBit k with
        | false =>
          rw [hbit] at hb1
          simp at hb1
          have hk1 : 1 ≤ k := by
            by_cases h0 : k = 0
            · exfalso
              refine hS0 (Nat.eq_of_testBit_eq fun z => ?_)
              rw [Nat.zero_testBit]
              by_cases hz : z = k
              · rw [hz]; exact hbit
              · exact hhi z (by omega)
            · omega
          have hnew : ∀ z, k - 1 < z → S.testBit z = false := fun z hz => by
            by_cases e : z = k
            · rw [e]; exact hbit
            · exact hhi z (by omega)
          have HHI : Hid _ := hnew
          clear hhi hbit hnew
          go_wp2
          go_roundw
          case rel => exact ⟨k - 1, by omega, by congr 1; omega, trivial, HHI.out⟩
          case measure => simp [numOf]; omega
        | true =>
          rw [hbit] at hb1
          simp at hb1
          obtain ⟨P, hP⟩ : ∃ P, P = 2 ^ k := ⟨_, rfl⟩
          have hwp := wrap_pow hkN hN
          have hPS := bit_le hbit
          have hout := bit_out hbit
          have hP0 := Nat.two_pow_pos k
          rw [← hP] at hwp hPS hout hP0
          obtain ⟨S1, hS1e⟩ : ∃ S1, S1 = S - P := ⟨_, rfl⟩
          have hsub : wrap64 ((S : Int) - (P : Int)) = (S1 : Int) := by rw [hS1e]; exact wrap_sub hPS hS14
          rw [← hS1e] at hout
          have hS1S : S1 < S := by rw [hS1e]; exact Nat.sub_lt (Nat.lt_of_lt_of_le hP0 hPS) hP0
          have htot := pm_any (N := N) (e := pn (hasB es)) (fun a b => by unfold pn; rw [hasB_comm]) (cnt N S.testBit) S.testBit k (Nat.le_refl _) hkN hbit
          have hcut := sumN_cut (f := fun w => if S.testBit w && !(w == k) && pn (hasB es) k w then pm N (pn (hasB es)) (outB (outB S.testBit k) w) else 0) (j := k) (N := N) (by omega) (fun z h1 h2 => by
            by_cases e : z = k
            · simp [e]
            · simp [hhi z (by omega)])
          rw [hcut] at htot
          have hmax := pm_14 hN (pn (hasB es)) S.testBit
          have HBT : Hid _ := hbit
          have HOU : Hid _ := hout
          have HTOT : Hid _ := htot
          clear hhi hbit hout hPS hP hS1e hcut htot
          obtain ⟨f, hf⟩ : ∃ f, f = fun w => if S.testBit w && !(w == k) && pn (hasB es) k w then pm N (pn (hasB es)) (outB (outB S.testBit k) w) else 0 := ⟨_, rfl⟩
          rw [← hf] at HTOT
          have HF : Hid _ := hf
          clear hf
          go_wp2
          clear hb1
          go_loopw [10, 11] (fun s10 s11 wx => ∃ (j : Nat) (F2 : Nat → Option Nat), j ≤ k ∧ s11 = .int .i64 (j : Int) ∧ s10 = .int .i64 (sumN j f : Int) ∧ Kp N (pn (hasB es)) wx b F2 ∧ Turns (fun k => k = b) W wx) (fun _ i _ => k - (numOf i).toNat)
          case atStart => exact ⟨0, F, Nat.zero_le _, rfl, rfl, HK.out, Turns.refl _ _⟩
          case round =>
            obtain ⟨j, F2, hjk, rfl, rfl, hK2, hT2⟩ := hrel
            have hsj : sumN j f ≤ 135135 := Nat.le_trans (sumN_mono hjk) (by rw [← HTOT.out]; exact hmax)
            obtain ⟨sj, hsje⟩ : ∃ sj, sj = sumN j f := ⟨_, rfl⟩
            rw [← hsje] at hsj ⊢
            have HSJ : Hid _ := hsje
            clear hsje
            by_cases hjl : j < k
            · have j1 : (0 : Int) ≤ (j : Int) := by omega
              have j2 : (j : Int) < (k : Int) := by omega
              have j3 : (j : Int) < (N : Int) := by omega
              have hjN : j < N := by omega
              have hb2 := bit_at S j
              obtain ⟨gg, gb, hgo, g0w, g1w⟩ := HG.out k hkN
              have g0 := cell_turns g0w hT2 (HK.out.far.ne g0w)
              have g1 := cell_turns (g1w j hjN) hT2 (HK.out.far.ne (g1w j hjN))
              subst hgo
              cases hbj : S.testBit j with
              | false =>
                rw [hbj] at hb2
                simp at hb2
                have hs1 : sumN (j + 1) f = sj := by rw [sumN, ← HSJ.out, HF.out]; simp [hbj]
                have HS1 : Hid _ := hs1
                have HK2 : Hid _ := hK2
                clear hs1 hK2 g0w g1w hbj g0 g1
                go_wp2
                go_roundw
                case rel => exact ⟨j + 1, F2, by omega, by go_num, by rw [HS1.out], HK2.out, hT2⟩
                case measure => simp [numOf]; omega
              | true =>
                rw [hbj] at hb2
                simp at hb2
                cases hpj : hasB es k j with
                | false =>
                  rw [hpj] at g1
                  have hs1 : sumN (j + 1) f = sj := by rw [sumN, ← HSJ.out, HF.out]; simp [pn, hpj]
                  have HS1 : Hid _ := hs1
                  have HK2 : Hid _ := hK2
                  clear hs1 hK2 g0w g1w hbj hpj
                  go_wp2
                  go_roundw
                  case rel => exact ⟨j + 1, F2, by omega, by go_num, by rw [HS1.out], HK2.out, hT2⟩
                  case measure => simp [numOf]; omega
                | true =>
                  rw [hpj] at g1
                  obtain ⟨Pj, hPj⟩ : ∃ P, P = 2 ^ j := ⟨_, rfl⟩
                  have hwpj := wrap_pow hjN hN
                  have hjk' : (j == k) = false := by simp; omega
                  have hbj1 : S1.testBit j = true := by
                    rw [HOU.out]
                    simp [outB, hbj, hjk']
                  have hPS := bit_le hbj1
                  have hout2 := bit_out hbj1
                  rw [← hPj] at hwpj hPS hout2
                  obtain ⟨S2, hS2⟩ : ∃ S2, S2 = S1 - Pj := ⟨_, rfl⟩
                  have hsub2 : wrap64 ((S1 : Int) - (Pj : Int)) = (S2 : Int) := by rw [hS2]; exact wrap_sub hPS (Nat.lt_trans hS1S hS14)
                  have hS2S : S2 < S := Nat.lt_of_le_of_lt (by rw [hS2]; exact Nat.sub_le _ _) hS1S
                  rw [← hS2] at hout2
                  obtain ⟨q, hq⟩ : ∃ q, q = pm N (pn (hasB es)) S2.testBit := ⟨_, rfl⟩
                  have hs1 : sumN (j + 1) f = sj + q := by
                    rw [sumN, ← HSJ.out, HF.out, hq, hout2, HOU.out]
                    simp [pn, hpj, hbj, hjk']
                  have hs2 : sj + q ≤ 135135 := by
                    rw [← hs1]
                    exact Nat.le_trans (sumN_mono (by omega : j + 1 ≤ k)) (by rw [← HTOT.out]; exact hmax)
                  have hGx : GridAt wr (.slice (some ⟨gg, 0, none⟩) N cap) N (hasB es) := ⟨_, _, rfl, fun i hi => by
                    obtain ⟨a1, a2, a3, a4, a5⟩ := HG.out i hi
                    exact ⟨a1, a2, a3, cell_turns a4 hT2 (HK.out.far.ne a4), fun q hq => cell_turns (a5 q hq) hT2 (HK.out.far.ne (a5 q hq))⟩⟩
                  have HC : Hid (∀ W', Below wr.heap.size wr W' → Calls Tryd.prog 24 #[.slice (some ⟨gg, 0, none⟩) N cap, .int .i64 (S2 : Int), .map (some b)] W' fun r w' => ∃ F' : Nat → Option Nat, r = .returned (.int .i64 (q : Int)) ∧ Kp N (pn (hasB es)) w' b F' ∧ Turns (fun k => k = b) W' w') := fun W' hb' => by
                    rw [hq]
                    exact HIH.out S2 (Nat.lt_of_lt_of_le hS2S (Nat.le_of_lt_succ hn)) (Nat.lt_trans hS2S hS) W' F2 (hGx.below hb') ⟨hK2.far.block (hb'.block _ hK2.far.lt), hK2.ok⟩
                  have hw2 : IntKind.i64.wrap (IntKind.i64.wrap ((S : Int) - IntKind.i64.wrap (2 ^ k)) - IntKind.i64.wrap (2 ^ j)) = (S2 : Int) := by rw [wrap_eq, wrap_eq, wrap_eq, wrap_eq, hwp, hsub, hwpj, hsub2]
                  have HWW : Hid _ := hw2
                  have HS1 : Hid _ := hs1
                  have HS2 : Hid _ := hs2
                  clear hK2 g0w g1w hbj hpj hbj1 hPS hout2 hPj hS2 hGx hs1 hq hw2
                  go_upto_region 14 with (fail)
                  clear g0 g1 hb2
                  go_region_held3 (fun _ => True)
                    (first | trivial | assumption | go_keep)
                    ((first
                      | (go_at_call 24; rw [HWW.out]; refine (HC.out _ (Below.refl _ _).drew).mono ?_; rintro r wx ⟨F3, rfl, hK3, hT3⟩)))
                  rw [wrap_add HS2.out]
                  have hT4 : Turns (fun k => k = b) W wx := (hT2.trans (Turns.of_below (Below.refl _ _).drew _)).trans hT3
                  have HK3 : Hid _ := hK3
                  clear hK3 hT3
                  go_wp2
                  go_roundw
                  case rel => exact ⟨j + 1, F3, by omega, by go_num, by rw [HS1.out], HK3.out, hT4⟩
                  case measure => simp [numOf]; omega
            · have hje : j = k := by omega
              subst hje
              have j2 : ¬ (j : Int) < (j : Int) := by omega
              have hpm : pm N (pn (hasB es)) S.testBit = sj := by rw [HTOT.out, ← HSJ.out]
              obtain ⟨w1, hst, hfar1, htn⟩ := hK2.far.store (by omega) hS14 (d := sj) (by omega) (c := (sj : Int)) rfl
              have HFR : Hid (FarAt w1 b 16384 (fun x => if x = S then some sj else F2 x)) := hfar1
              have HPM : Hid _ := hpm
              have HK2 : Hid _ := hK2
              clear hfar1 hK2 hpm
              go_wp2
              go_ret
              rw [← HW.out, HPM.out]
              refine ⟨rfl, ⟨_, HFR.out, fun q d hq => ?_⟩, hT2.trans (turned_turns htn)⟩
              by_cases e : q = S
              · subst e
                rw [if_pos rfl] at hq; cases hq
                exact HPM.out.symm
              · rw [if_neg e] at hq
                exact HK2.out.ok q d hq
end Go.Proofs.YtenjkhgpfmfgmaaDoor
