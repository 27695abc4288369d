/- isFirst: whether a way leads from v to each node in left from which one leads to v. -/
import Derived.Test.YtgepibidhebbiabPartOf
namespace Go.Proofs.Ytgepibidhebbiab
open Go.RowKit Go.Maps
attribute [local go_sem ↓] Go.wp_at_zero Go.wp_at_succ

theorem grown_of_below {w w' : World} (hb : Below w.heap.size w w') : w.grownBy w' none := ⟨hb.os, hb.tape, hb.output, hb.size, fun k hk _ => hb.block k hk⟩

set_option maxHeartbeats 2000000 in
theorem isFirst_call {w : World} {ao : Option Addr} {N cap : Nat} {R : Nat → Nat → Bool} (h : ReachAt w ao N R) {bL : Nat} {L : Nat → Bool} (hS : SetN w bL N L) (hN : N ≤ 1000) {v : Nat} (hv : v < N) {q : Bool} (hq : q = true ↔ ∀ u, u < N → L u = true → R u v = true → R v u = true) :
    Calls Try.prog 65 #[.slice ao N cap, .map (some bL), .int .i64 (v : Int)] w fun e w' => e = .returned (.bool q) ∧ Below w.heap.size w w' := by
  have hm6 : N ≤ 1000000 := by omega
  have hbl := hS.lt
  obtain ⟨DN, hownN, hhasN⟩ := hS
  have HR : Hid _ := h
  have HQ : Hid _ := hq
  clear h hq
  go_enter Try.func65, Try.ntmps65
  go_wp2_with (first
    | (at_range; refine wpList_range_own _ rfl _ 72 rfl 3 108 Try.lawI Try.underlying72 _ bL N DN rfl hownN ?_; intro w5 hrg0 hg0 hs0)
    | go_in)
  go_frame
  have hB5 : Below w.heap.size w w5 := (Below.refl _ _).grown hg0 (Nat.le_refl _) (fun k hk => by cases hk)
  obtain ⟨r, hr⟩ : ∃ r, r = w.heap.size := ⟨_, rfl⟩
  rw [← hr] at hrg0 ⊢
  have hrge : w.heap.size ≤ r := by omega
  clear hg0 hs0 hownN hr
  go_loopw [7] (fun _ wz => ∃ (lf : Lit → Bool) (cnt : Nat), wz.ranges Try.prog 3 unitElem bL r N DN lf cnt ∧ (∀ u, u < N → L u = true → lf (.int .i64 (u : Int)) = false → R u v = true → R v u = true) ∧ Below w.heap.size w wz) (fun _ wz => wz.rangeLeft bL r)
  case atStart =>
    refine ⟨_, _, hrg0, fun u hu hL hlf => ?_, hB5⟩
    rw [hhasN u (natI hm6 hu)] at hlf
    simp [hu, hL] at hlf
  case round =>
    obtain ⟨lf, cnt, hrgz, hsf, hBz⟩ := hrel
    have HSF : Hid _ := hsf
    clear hrg0 hB5 hsf
    go_wp2_with (first | (at_next; refine wpList_next_ranges _ rfl _ rfl 3 Try.lawI unitElem encZ (fun _ : Unit => .agg #[]) (fun key kl hk => by obtain ⟨x, hx, _⟩ := Maps.keyOf_i64 Try.underlying3 hk; exact ⟨x, hx⟩) (fun v _ hv => ⟨(), (unitElem_inv hv).1⟩) bL r N _ _ _ rfl hrgz ?_ ?_) | go_in)
    · intro hc0 hl0
      have hqt : q = true := HQ.out.2 (fun u hu hL => HSF.out u hu hL (hl0 _))
      subst hqt
      go_wp2
      go_ret
      exact ⟨rfl, hBz⟩
    · intro x kl yd yp w6 cnt6 hkey hlk hvv hat hrg6 hcl hg6 hs6 hen
      obtain ⟨x', ex, rfl, hwf⟩ := Maps.keyOf_i64 Try.underlying3 hkey
      obtain rfl : x = x' := encZ_inj ex
      have hhas := has_true_of_atKey hat
      have hxI : I64 x := ⟨(wf_bounds hwf).1, (wf_bounds hwf).2⟩
      rw [hhasN x hxI] at hhas
      simp only [Bool.and_eq_true, decide_eq_true_eq] at hhas
      obtain ⟨⟨hx0, hxN⟩, hex⟩ := hhas
      obtain ⟨y, rfl⟩ : ∃ y : Nat, x = y := ⟨x.toNat, by omega⟩
      have hym : y < N := by omega
      have hLy : L y = true := by simpa using hex
      have hB6 := hBz.grown hg6 hBz.size (fun k hk => by cases hk; omega)
      have hre := ReachAt.below HR.out hB6
      have HLY : Hid _ := hLy
      have HCL2 : Hid _ := hcl
      have hrk := fun (w' : World) (hb : Below w6.heap.size w6 w') => hrg6.kept (w' := w') (grown_of_below hb) (by simp) (by simp)
      have HRG : Hid _ := hrk
      clear hs6 hex hat hkey hvv hlk hcl hLy hrk
      have hkeep : (R y v = true → R v y = true) → ∀ w', Below w6.heap.size w6 w' → ∃ (lf' : Lit → Bool) (cnt' : Nat), w'.ranges Try.prog 3 unitElem bL r N DN lf' cnt' ∧ (∀ u, u < N → L u = true → lf' (.int .i64 (u : Int)) = false → R u v = true → R v u = true) ∧ Below w.heap.size w w' := by
        intro hok w' hb
        refine ⟨_, _, HRG.out _ hb, fun u hu hL hlf => ?_, below_self hB6 hb hB6.size⟩
        by_cases e : u = y
        · subst e; exact hok
        · rw [strike_ne lf e] at hlf; exact HSF.out u hu hL hlf
      have HK : Hid _ := hkeep
      clear hkeep
      have l1 := fun (w' : World) (hb : Below w6.heap.size w6 w') => leads_call (cap := cap) (hre.below hb) hN hym hv
      have l2 := fun (w' : World) (hb : Below w6.heap.size w6 w') => leads_call (cap := cap) (hre.below hb) hN hv hym
      by_cases hok : R y v = true → R v y = true
      · have HOK : Hid _ := hok
        by_cases h1 : R y v = true
        · have h2 := hok h1
          simp only [h1] at l1
          simp only [h2] at l2
          have H1 : Hid _ := l1
          have H2 : Hid _ := l2
          clear l1 l2 h1 h2 hok hre hrg6
          go_wp2_with (first
            | (go_at_call 72; (fail_if_success (have hh := hbA)); refine (H1.out _ (Below.refl _ _)).mono ?_; rintro r' wa ⟨rfl, hbA⟩)
            | (go_at_call 72; refine (H2.out _ hbA).mono ?_; rintro r' wb ⟨rfl, hbB⟩)
            | go_in)
          have hr7 := HRG.out _ (below_next hbA hbB)
          go_roundw
          case rel => exact HK.out HOK.out _ (below_next hbA hbB)
          case measure => rw [hr7.left_eq, hrgz.left_eq]; exact HCL2.out
        · have h1' : R y v = false := by simpa using h1
          simp only [h1'] at l1
          have H1 : Hid _ := l1
          clear l1 l2 h1 h1' hok hre hrg6
          go_wp2_with (first
            | (go_at_call 72; refine (H1.out _ (Below.refl _ _)).mono ?_; rintro r' wa ⟨rfl, hbA⟩)
            | go_in)
          have hr7 := HRG.out _ hbA
          go_roundw
          case rel => exact HK.out HOK.out _ hbA
          case measure => rw [hr7.left_eq, hrgz.left_eq]; exact HCL2.out
      · have h1 : R y v = true := Classical.byContradiction fun h => hok fun h' => absurd h' h
        have h2 : R v y = false := by
          cases h : R v y
          · rfl
          · exact absurd (fun _ => h) hok
        have hqf : q = false := by
          cases hh : q
          · rfl
          · exact absurd (HQ.out.1 hh y hym HLY.out) hok
        subst hqf
        simp only [h1] at l1
        simp only [h2] at l2
        have H1 : Hid _ := l1
        have H2 : Hid _ := l2
        clear l1 l2 h1 h2 hok hre hrg6
        go_wp2_with (first
          | (go_at_call 72; (fail_if_success (have hh := hbA)); refine (H1.out _ (Below.refl _ _)).mono ?_; rintro r' wa ⟨rfl, hbA⟩)
          | (go_at_call 72; refine (H2.out _ hbA).mono ?_; rintro r' wb ⟨rfl, hbB⟩)
          | go_in)
        go_ret
        exact ⟨rfl, below_self hB6 (below_next hbA hbB) hB6.size⟩
end Go.Proofs.Ytgepibidhebbiab
