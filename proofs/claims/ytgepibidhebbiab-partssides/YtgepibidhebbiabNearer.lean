/- nearer: a node with an edge to v that is a step less far. -/
import Derived.Test.YtgepibidhebbiabFarFirst
namespace Go.Proofs.Ytgepibidhebbiab
open Go.RowKit Go.Maps
attribute [local go_sem ↓] Go.wp_at_zero Go.wp_at_succ

theorem grown_of_below' {w w' : World} (hb : Below w.heap.size w w') : w.grownBy w' none := ⟨hb.os, hb.tape, hb.output, hb.size, fun k hk _ => hb.block k hk⟩
theorem castMin (u v : Nat) : ((min u v : Nat) : Int) = min (u : Int) (v : Int) := by omega

set_option maxHeartbeats 2000000 in
theorem nearer_call {w : World} {N : Nat} {ao : Option Addr} {cap : Nat} {bl : Nat → Nat} {e : Nat → Nat → Bool} (hnear : NearsAt w ao N bl e) (hN : N ≤ 1000) {bf : Nat} {far : Nat → Nat} (hrow : RowV w bf 3 N (fun x => .int .i64 (far x : Nat))) (hfar : ∀ x, x < N → far x ≤ 1000) {v : Nat} (hv : v < N)
    (hex : ∃ p, p < N ∧ e v p = true ∧ far p + 1 = far v) :
    Calls Try.prog 63 #[.slice ao N cap, .slice (some ⟨bf, 0, none⟩) N N, .int .i64 (v : Int)] w fun r w' => ∃ u : Nat, r = .returned (.int .i64 (u : Int)) ∧ u < N ∧ e v u = true ∧ far u + 1 = far v ∧ Below w.heap.size w w' := by
  have hm6 : N ≤ 1000000 := by omega
  obtain ⟨g, rfl, c1⟩ := hnear.row v hv
  have hset := hnear.sets v hv
  have hbl := hset.lt
  obtain ⟨bL, hbL⟩ : ∃ bL, bL = bl v := ⟨_, rfl⟩
  rw [← hbL] at c1 hset hbl
  obtain ⟨DN, hownN, hhasN⟩ := hset
  have HX : Hid _ := hex
  have HFR : Hid _ := hfar
  have hfv := hfar v hv
  have i1 : (0 : Int) ≤ (v : Int) := by omega
  have i2 : (v : Int) < (N : Int) := by omega
  clear hnear hex hfar hbL
  go_enter Try.func63, Try.ntmps63
  go_wp2_with (first
    | (at_range; refine wpList_range_own _ rfl _ 72 rfl 3 108 Try.lawI Try.underlying72 _ bL N DN rfl hownN ?_; intro w5 hrg0 hg0 hs0)
    | go_in)
  go_frame
  have hB5 : Below w.heap.size w w5 := (Below.refl _ _).grown hg0 (Nat.le_refl _) (fun k hk => by cases hk)
  obtain ⟨r, hr⟩ : ∃ r, r = w.heap.size := ⟨_, rfl⟩
  rw [← hr] at hrg0 ⊢
  have hrge : w.heap.size ≤ r := by omega
  clear hg0 hs0 hownN hr c1
  go_loopw [7] (fun a wz => ∃ (lf : Lit → Bool) (cnt z : Nat), a = .int .i64 (z : Int) ∧ z ≤ N ∧ (z < N → e v z = true ∧ far z + 1 = far v) ∧ wz.ranges Try.prog 3 unitElem bL r N DN lf cnt ∧ (∀ u, u < N → e v u = true → lf (.int .i64 (u : Int)) = false → far u + 1 = far v → z ≤ u) ∧ Below w.heap.size w wz) (fun _ wz => wz.rangeLeft bL r)
  case atStart =>
    refine ⟨_, _, N, rfl, Nat.le_refl _, fun h => by omega, hrg0, fun u hu hL hlf => ?_, hB5⟩
    rw [hhasN u (natI hm6 hu)] at hlf
    simp [hu, hL] at hlf
  case round =>
    obtain ⟨lf, cnt, z, rfl, hzN, hz, hrgz, hsf, hBz⟩ := hrel
    have HZ : Hid _ := hz
    have HSF : Hid _ := hsf
    clear hrg0 hB5 hz hsf
    go_wp2_with (first | (at_next; refine wpList_next_ranges _ rfl _ rfl 3 Try.lawI unitElem encZ (fun _ : Unit => .agg #[]) (fun key kl hk => by obtain ⟨x, hx, _⟩ := Maps.keyOf_i64 Try.underlying3 hk; exact ⟨x, hx⟩) (fun v _ hv => ⟨(), (unitElem_inv hv).1⟩) bL r N _ _ _ rfl hrgz ?_ ?_) | go_in)
    · intro hc0 hl0
      have hzz : z < N := by
        obtain ⟨p, h1, h2, h3⟩ := HX.out
        have := HSF.out p h1 h2 (hl0 _) h3
        omega
      have h4 := HZ.out hzz
      have H4 : Hid _ := h4
      clear h4
      go_wp2
      go_ret
      exact ⟨z, rfl, hzz, H4.out.1, H4.out.2, hBz⟩
    · intro x kl yd yp w6 cnt6 hkey hlk hvv hat hrg6 hcl hg6 hs6 hen
      obtain ⟨x', ex, rfl, hwf⟩ := Maps.keyOf_i64 Try.underlying3 hkey
      obtain rfl : x = x' := encZ_inj ex
      have hhas := has_true_of_atKey hat
      have hxI : I64 x := ⟨(wf_bounds hwf).1, (wf_bounds hwf).2⟩
      rw [hhasN x hxI] at hhas
      simp only [Bool.and_eq_true, decide_eq_true_eq] at hhas
      obtain ⟨⟨hx0, hxN⟩, hex⟩ := hhas
      obtain ⟨y, rfl⟩ : ∃ y : Nat, x = y := ⟨x.toNat, by omega⟩
      have hym : y < N := by omega
      have hLy : e v y = true := by simpa using hex
      have hB6 := hBz.grown hg6 hBz.size (fun k hk => by cases hk; omega)
      have hrow6 : RowV w6 bf 3 N (fun x => .int .i64 (far x : Nat)) := hrow.block (hB6.block _ hrow.lt)
      have cy := hrow6.cell hym
      have cv := hrow6.cell hv
      have hfy := HFR.out y hym
      have HLY : Hid _ := hLy
      have HCL2 : Hid _ := hcl
      have HRG : Hid (∀ w', Below w6.heap.size w6 w' → w'.ranges Try.prog 3 unitElem bL r N DN (fun z => lf z && !z.sameKey (.int .i64 (y : Int))) cnt6) := fun w' hb => hrg6.kept (w' := w') (grown_of_below' hb) (by simp) (by simp)
      clear hs6 hex hat hkey hvv hlk hcl hLy hrg6 hrow6
      have j1 : (0 : Int) ≤ (y : Int) := by omega
      have j2 : (y : Int) < (N : Int) := by omega
      have hsub : -9223372036854775808 ≤ (far v : Int) - 1 := by omega
      by_cases hok : far y + 1 = far v
      · have he1 : (far y : Int) = (far v : Int) - 1 := by omega
        have HOK : Hid _ := hok
        clear hok
        go_upto_region 5 with (fail)
        go_region
        all_goals
          go_wp2
          have hr7 := HRG.out _ (Below.refl _ _).drew
          go_roundw
          case rel =>
            refine ⟨_, _, min z y, by rw [castMin], by omega, fun h => ?_, hr7, fun u hu hL hlf hfu => ?_, hB6.drew⟩
            · by_cases c : z ≤ y
              · rw [Nat.min_eq_left c] at h ⊢; exact HZ.out h
              · rw [Nat.min_eq_right (by omega)]; exact ⟨HLY.out, HOK.out⟩
            · by_cases c : u = y
              · subst c; omega
              · rw [strike_ne lf c] at hlf
                have := HSF.out u hu hL hlf hfu
                omega
          case measure => rw [hr7.left_eq, hrgz.left_eq]; exact HCL2.out
      · have he1 : ¬ (far y : Int) = (far v : Int) - 1 := by omega
        have HOK : Hid _ := hok
        clear hok
        go_upto_region 5 with (fail)
        go_region
        all_goals
          go_wp2
          have hr7 := HRG.out _ (Below.refl _ _).drew
          go_roundw
          case rel =>
            refine ⟨_, _, z, rfl, hzN, HZ.out, hr7, fun u hu hL hlf hfu => ?_, hB6.drew⟩
            by_cases c : u = y
            · subst c; exact absurd hfu HOK.out
            · rw [strike_ne lf c] at hlf
              exact HSF.out u hu hL hlf hfu
          case measure => rw [hr7.left_eq, hrgz.left_eq]; exact HCL2.out
end Go.Proofs.Ytgepibidhebbiab
