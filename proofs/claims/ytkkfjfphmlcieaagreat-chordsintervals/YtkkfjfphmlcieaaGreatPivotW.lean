/- pivotOf: a node of either set. -/
import Derived.Test.YtkkfjfphmlcieaaGreatSiftW
namespace Go.Proofs.YtkkfjfphmlcieaaGreat
set_option maxRecDepth 4000
open Go.RowKit Go.Maps
attribute [local go_sem ↓] Go.wp_at_zero Go.wp_at_succ
/-- What has been found: none as yet, and then no node was seen; or one. -/
def PvI (N : Nat) (P X : Nat → Bool) (seen : Prop) (pv ms : Int) : Prop := (pv = -1 ∧ ms = -1 ∧ seen) ∨ ∃ p : Nat, pv = (p : Int) ∧ p < N ∧ (P p = true ∨ X p = true) ∧ -1 ≤ ms ∧ ms ≤ 1000000
set_option maxHeartbeats 4000000 in
theorem pivotOf_call {w : World} {ao : Option Addr} {cap N bP bX : Nat} {bl : Nat → Nat} {e : Nat → Nat → Bool} {P X : Nat → Bool} (hnear : NearsAt w ao N bl e) (hN : N ≤ 1000) (hP : SetN w bP N P) (hX : SetN w bX N X) (hne : ∃ z, z < N ∧ (P z = true ∨ X z = true)) :
    Calls Tryz.prog 64 #[.slice ao N cap, .map (some bP), .map (some bX)] w fun r w' => ∃ pv : Nat, r = .returned (.int .i64 (pv : Int)) ∧ pv < N ∧ (P pv = true ∨ X pv = true) ∧ Below w.heap.size w w' := by
  have hN6 : N ≤ 1000000 := by omega
  have h42 : ∀ args w', (callFunc 42 args).run Tryz.prog w' = .ok (.enter 42 args) w' := enters_of Tryz.func42 (by kernel_rfl) rfl
  have HNR : Hid (NearsAt w ao N bl e) := hnear
  have HP : Hid (SetN w bP N P) := hP
  have HX : Hid (SetN w bX N X) := hX
  have HNE : Hid (∃ z, z < N ∧ (P z = true ∨ X z = true)) := hne
  clear hnear hP hX hne
  go_enter Tryz.func64, Tryz.ntmps64
  go_upto_region 3 with (fail)
  have t0 := two_new w (.map (some bP)) (.map (some bX)) 71
  have hB0 := below_alloc (Below.refl _ w) (Obj.cells #[.map (some bP), .map (some bX)] 71)
  obtain ⟨b0, hb0⟩ : ∃ b, b = w.heap.size := ⟨_, rfl⟩
  rw [← hb0] at t0 ⊢
  generalize w.alloc (Obj.cells #[.map (some bP), .map (some bX)] 71) = W0 at t0 hB0 ⊢
  have HT0 : Hid (Two W0 b0 (.map (some bP)) (.map (some bX)) 71) := t0
  clear t0 hb0
  go_loopw [7, 8, 17] (fun s7 s8 s17 wr => ∃ (k : Nat) (pv ms : Int), k ≤ 2 ∧ s7 = .int .i64 pv ∧ s8 = .int .i64 ms ∧ s17 = .int .i64 (k : Int) ∧ PvI N P X ((0 < k → ∀ x, x < N → P x = false) ∧ (1 < k → ∀ x, x < N → X x = false)) pv ms ∧ Below W0.heap.size W0 wr) (fun _ _ s17 _ => 2 - (numOf s17).toNat)
  case atStart => exact ⟨0, -1, -1, by omega, rfl, rfl, rfl, Or.inl ⟨rfl, rfl, fun h => by omega, fun h => by omega⟩, Below.refl _ _⟩
  case round =>
    obtain ⟨k, pv, ms, hk, rfl, rfl, rfl, hpv, hB⟩ := hrel
    have HPV : Hid (PvI N P X ((0 < k → ∀ x, x < N → P x = false) ∧ (1 < k → ∀ x, x < N → X x = false)) pv ms) := hpv
    clear hpv
    have hBw := below_next hB0 hB
    obtain ⟨c0, c1⟩ := cell_two (two_next HT0.out hB)
    by_cases hlt : k < 2
    · obtain ⟨bN, SN, cN, hSN, hin, hk0, hk1⟩ : ∃ (bN : Nat) (SN : Nat → Bool), wr.cell? ⟨b0, k, none⟩ = some (.map (some bN)) ∧ SetN wr bN N SN ∧ (∀ x, SN x = true → P x = true ∨ X x = true) ∧ (k = 0 → SN = P) ∧ (k = 1 → SN = X) := by
        by_cases e0 : k = 0
        · subst e0; exact ⟨bP, P, c0, HP.out.below hBw HP.out.lt, fun x h => Or.inl h, fun _ => rfl, fun h => by omega⟩
        · have e1 : k = 1 := by omega
          subst e1; exact ⟨bX, X, c1, HX.out.below hBw HX.out.lt, fun x h => Or.inr h, fun h => by omega, fun _ => rfl⟩
      have HIN : Hid (∀ x, SN x = true → P x = true ∨ X x = true) := hin
      have HK0 : Hid ((k = 0 → SN = P) ∧ (k = 1 → SN = X)) := ⟨hk0, hk1⟩
      have i1 : (0 : Int) ≤ (k : Int) := by omega
      have i2 : (k : Int) < (2 : Int) := by omega
      clear c0 c1 hin hk0 hk1
      go_wp2_with (first | (at_range; refine wpList_rangeS hN6 rfl _ rfl rfl hSN ?_; intro w5 cnt0 hrg0 hB5) | go_in)
      go_frame
      obtain ⟨r, hr⟩ : ∃ r, r = wr.heap.size := ⟨_, rfl⟩
      rw [← hr] at hrg0 ⊢
      have hB05 := below_next hB hB5
      have hrge : W0.heap.size ≤ r := by have := hB.size; omega
      clear hr cN hSN hB5 hB hBw
      go_loopw [7, 8] (fun s7 s8 wz => ∃ (lf : Nat → Bool) (cnt : Nat) (pv ms : Int), s7 = .int .i64 pv ∧ s8 = .int .i64 ms ∧ RgN wz bN r N SN lf cnt ∧ PvI N P X (((0 < k → ∀ x, x < N → P x = false) ∧ (1 < k → ∀ x, x < N → X x = false)) ∧ ∀ x, x < N → SN x = true → lf x = true) pv ms ∧ Below W0.heap.size W0 wz) (fun _ _ wz => wz.rangeLeft bN r)
      case atStart => exact ⟨_, _, pv, ms, rfl, rfl, hrg0, by
        rcases HPV.out with ⟨h1, h2, h3⟩ | h
        · exact Or.inl ⟨h1, h2, h3, fun x _ h => h⟩
        · exact Or.inr h, hB05⟩
      case round =>
        obtain ⟨lf, cnt, pv, ms, rfl, rfl, hrgz, hpv, hBz⟩ := hrel
        have HPV2 : Hid (PvI N P X (((0 < k → ∀ x, x < N → P x = false) ∧ (1 < k → ∀ x, x < N → X x = false)) ∧ ∀ x, x < N → SN x = true → lf x = true) pv ms) := hpv
        have HLZ : Hid (wr.rangeLeft bN r = cnt) := hrgz.left
        clear hpv hrg0 hB05 HPV
        go_wp2_with (first | (at_next; refine wpList_nextS rfl _ rfl rfl hrgz ?_ ?_) | go_in)
        · intro hl0
          have HNX : Hid (PvI N P X ((0 < k + 1 → ∀ x, x < N → P x = false) ∧ (1 < k + 1 → ∀ x, x < N → X x = false)) pv ms) := by
            rcases HPV2.out with ⟨h1, h2, ⟨h3, h4⟩, h5⟩ | h
            · have hem : ∀ x, x < N → SN x = false := fun x hx => by
                cases hc : SN x with
                | false => rfl
                | true => have := h5 x hx hc; rw [hl0 x hx] at this; cases this
              refine Or.inl ⟨h1, h2, fun _ x hx => ?_, fun hk' x hx => ?_⟩
              · by_cases e0 : k = 0
                · rw [← HK0.out.1 e0]; exact hem x hx
                · exact h3 (by omega) x hx
              · have e1 : k = 1 := by omega
                rw [← HK0.out.2 e1]; exact hem x hx
            · exact Or.inr h
          go_wp2
          go_roundw
          case rel => exact ⟨k + 1, pv, ms, by omega, rfl, rfl, by go_num, HNX.out, hBz⟩
          case measure => simp [numOf]; omega
        · intro y w6 cnt6 hyN hSy hly hrg6 hcl hg6 hen
          have hB6 := hBz.grown hg6 hBz.size (fun k hk => by cases hk; omega)
          have hBw6 := below_next hB0 hB6
          have HIY : Hid (P y = true ∨ X y = true) := HIN.out y hSy
          have HRG6 : Hid (RgN w6 bN r N SN (fun z => lf z && z != y) cnt6) := hrg6
          have HCL : Hid (cnt6 < cnt) := hcl
          have hnr := HNR.out.below hBw6
          obtain ⟨gn, rfl, cn⟩ := hnr.row y hyN
          have h47 := siftB_call (HP.out.below hBw6 HP.out.lt) hN6 (f := e y) 42 (.map (some (bl y))) h42 (fun W hW x hx => has_call ((hnr.below hW).sets y hyN) hN6 hx)
          have H47 : Hid (Calls Tryz.prog 65 #[.map (some bP), .func (.func 42) #[.map (some (bl y))] #[]] w6 fun r w' => ∃ b, r = .returned (.map (some b)) ∧ w6.heap.size ≤ b ∧ SetN w' b N (fun x => P x && e y x) ∧ Below w6.heap.size w6 w') := h47
          have j1 : (0 : Int) ≤ (y : Int) := by omega
          have j2 : (y : Int) < (N : Int) := by omega
          clear hrgz hcl hg6 hBz hrg6 hnr h47 hBw6
          go_upto_region 9 with (first
            | (go_at_call 65; refine Calls.mono H47.out ?_; rintro r' w7 ⟨b7, rfl, hb7, hS7, hB7⟩)
            | (at_len; refine wpList_lenS rfl _ rfl rfl hS7 hN6 ?_; intro n hn hn0)
            | go_in)
          have hB07 := below_next hB6 hB7
          have HRG7 : Hid (RgN w7 bN r N SN (fun z => lf z && z != y) cnt6) := HRG6.out.below hB7
          clear hS7 hn0 hb7 hB6 hB7 H47 cn hen
          by_cases hgt : (n : Int) > ms
          · have HG : Hid (PvI N P X (((0 < k → ∀ x, x < N → P x = false) ∧ (1 < k → ∀ x, x < N → X x = false)) ∧ ∀ x, x < N → SN x = true → (lf x && x != y) = true) (y : Int) (n : Int)) := Or.inr ⟨y, rfl, hyN, HIY.out, by omega, by omega⟩
            go_wp2
            go_roundw
            case rel => exact ⟨_, _, (y : Int), (n : Int), rfl, rfl, HRG7.out, HG.out, hB07⟩
            case measure => rw [HRG7.out.left, HLZ.out]; exact HCL.out
          · have HG : Hid (PvI N P X (((0 < k → ∀ x, x < N → P x = false) ∧ (1 < k → ∀ x, x < N → X x = false)) ∧ ∀ x, x < N → SN x = true → (lf x && x != y) = true) pv ms) := by
              rcases HPV2.out with ⟨_, h2, _⟩ | h
              · omega
              · exact Or.inr h
            go_wp2
            go_roundw
            case rel => exact ⟨_, _, pv, ms, rfl, rfl, HRG7.out, HG.out, hB07⟩
            case measure => rw [HRG7.out.left, HLZ.out]; exact HCL.out
    · have i2 : ¬ (k : Int) < (2 : Int) := by omega
      have hfin : ∃ p : Nat, pv = (p : Int) ∧ p < N ∧ (P p = true ∨ X p = true) := by
        rcases HPV.out with ⟨_, _, h3, h4⟩ | ⟨p, h1, h2, h3, _⟩
        · obtain ⟨z, hz, h | h⟩ := HNE.out
          · rw [h3 (by omega) z hz] at h; cases h
          · rw [h4 (by omega) z hz] at h; cases h
        · exact ⟨p, h1, h2, h3⟩
      obtain ⟨p, rfl, hp1, hp2⟩ := hfin
      clear c0 c1
      go_wp2
      go_ret
      exact ⟨p, rfl, hp1, hp2, hBw⟩
end Go.Proofs.YtkkfjfphmlcieaaGreat
