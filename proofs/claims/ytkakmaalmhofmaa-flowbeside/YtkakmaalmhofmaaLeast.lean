/- takeLeast, slices.Index. -/
import Derived.Test.YtkakmaalmhofmaaCutTree
import Derived.Deep.Cut
import Derived.Deep.CutRange
import Derived.Test.YtkakmaalmhofmaaReach
import Derived.Test.YtkakmaalmhofmaaMostB
namespace Go.Proofs.Ytkakmaalmhofmaa
open Go.RowKit Go.Maps
attribute [local go_sem ↓] Go.wp_at_zero Go.wp_at_succ

theorem strike_ne (lf : Lit → Bool) {z y : Nat} (h : ¬ z = y) : (lf (.int .i64 (z : Int)) && !(Lit.int .i64 (z : Int)).sameKey (.int .i64 (y : Int))) = lf (.int .i64 (z : Int)) := by
  rw [sameKey_ne (show (Lit.int .i64 (z : Int)) ≠ .int .i64 (y : Int) from fun e => h (by injection e with _ e; omega))]
  exact Bool.and_true _
/-- What takeLeast has seen: nothing, or the least of all that has come. -/
def Seen1 (N : Nat) (S : Nat → Bool) (lf : Lit → Bool) (lv : Value) : Prop :=
  (lv = .int .i64 (-1) ∧ ∀ u, u < N → S u = true → lf (.int .i64 (u : Int)) = true) ∨ ∃ m : Nat, m < N ∧ lv = .int .i64 (m : Int) ∧ S m = true ∧ ∀ u, u < N → S u = true → lf (.int .i64 (u : Int)) = false → m ≤ u
theorem Seen1.put {N : Nat} {S : Nat → Bool} {lf : Lit → Bool} {lv : Value} {y : Nat} (h : Seen1 N S lf lv) (hy : y < N) (hS : S y = true) (hl : lv = .int .i64 (-1) ∨ ∃ m : Nat, lv = .int .i64 (m : Int) ∧ y < m) :
    Seen1 N S (fun z => lf z && !z.sameKey (.int .i64 (y : Int))) (.int .i64 (y : Int)) := by
  refine Or.inr ⟨y, hy, rfl, hS, fun u hu hSu hlf => ?_⟩
  by_cases e : u = y
  · omega
  · replace hlf := (strike_ne lf e).symm.trans hlf
    rcases h with ⟨_, h2⟩ | ⟨m, h1, h2, h3, h4⟩
    · rw [h2 u hu hSu] at hlf; cases hlf
    · have := h4 u hu hSu hlf
      rcases hl with hl | ⟨m', hl, hm⟩
      · rw [h2] at hl; injection hl with _ hl; omega
      · rw [h2] at hl; injection hl with _ hl; omega
theorem Seen1.pass {N : Nat} {S : Nat → Bool} {lf : Lit → Bool} {m y : Nat} (h : Seen1 N S lf (.int .i64 (m : Int))) (hy : m ≤ y) :
    Seen1 N S (fun z => lf z && !z.sameKey (.int .i64 (y : Int))) (.int .i64 (m : Int)) := by
  rcases h with ⟨h1, _⟩ | ⟨m', h1, h2, h3, h4⟩
  · injection h1 with _ h1; omega
  · injection h2 with _ h2
    have e : m' = m := by omega
    subst e
    refine Or.inr ⟨m', h1, rfl, h3, fun u hu hSu hlf => ?_⟩
    by_cases e : u = y
    · omega
    · replace hlf := (strike_ne lf e).symm.trans hlf
      exact h4 u hu hSu hlf

set_option maxHeartbeats 1000000 in
theorem takeLeast_call {w : World} {bL N : Nat} {S : Nat → Bool} (hS : SetN w bL N S) (hN : N ≤ 1000) {u0 : Nat} (hu0 : u0 < N) (hSu : S u0 = true) :
    Calls Try.prog 68 #[.map (some bL)] w fun e w' => ∃ m : Nat, e = .returned (.int .i64 (m : Int)) ∧ m < N ∧ S m = true ∧ SetN w' bL N (fun k => S k && k != m) ∧ Turns (fun k => k = bL) w w' := by
  have hm6 : N ≤ 1000000 := by omega
  have hbl := hS.lt
  have HSN : Hid (SetN w bL N S) := hS
  obtain ⟨DN, hownN, hhasN⟩ := hS
  go_enter Try.func68, Try.ntmps68
  go_wp2_with (first
    | (at_range; refine wpList_range_own _ rfl _ 101 rfl 3 116 Try.lawI Try.underlying101 _ bL N DN rfl hownN ?_; intro w5 hrg0 hg0 hs0)
    | go_in)
  go_frame
  have hB5 : Below w.heap.size w w5 := (Below.refl _ _).grown hg0 (Nat.le_refl _) (fun k hk => by cases hk)
  obtain ⟨r, hr⟩ : ∃ r, r = w.heap.size := ⟨_, rfl⟩
  rw [← hr] at hrg0 ⊢
  have hrge : w.heap.size ≤ r := by omega
  clear hg0 hs0 hownN hr
  go_loopw [3, 4] (fun lv _ wz => ∃ (lf : Lit → Bool) (cnt : Nat), wz.ranges Try.prog 3 unitElem bL r N DN lf cnt ∧ Seen1 N S lf lv ∧ Below w.heap.size w wz) (fun _ _ wz => wz.rangeLeft bL r)
  case atStart =>
    refine ⟨_, _, hrg0, Or.inl ⟨rfl, fun u hu hL => ?_⟩, hB5⟩
    rw [hhasN u (natI hm6 hu)]
    simp [hu, hL]
  case round =>
    obtain ⟨lf, cnt, hrgz, hsf, hBz⟩ := hrel
    have HSF : Hid (Seen1 N S lf u3) := hsf
    clear hrg0 hB5 hsf
    go_wp2_with (first | (at_next; refine wpList_next_ranges _ rfl _ rfl 3 Try.lawI unitElem encZ (fun _ : Unit => .agg #[]) (fun key kl hk => by obtain ⟨x, hx, _⟩ := Maps.keyOf_i64 Try.underlying3 hk; exact ⟨x, hx⟩) (fun v _ hv => ⟨(), (unitElem_inv hv).1⟩) bL r N _ _ _ rfl hrgz ?_ ?_) | go_in)
    · intro hc0 hl0
      rcases HSF.out with ⟨_, h2⟩ | ⟨m, h1, rfl, h3, h4⟩
      · have := h2 u0 hu0 hSu
        rw [hl0] at this; cases this
      · obtain ⟨w6, hrun, hS6, ht6⟩ := (SetN.below HSN.out hBz hbl).drop hm6 h1 (0 : TypeId)
        have hT : Turns (fun k => k = bL) w w6 := (Turns.of_below hBz _).trans (turned_turns ht6)
        have HT : Hid (Turns (fun k => k = bL) w w6) := hT
        have HS6 : Hid (SetN w6 bL N (fun k => S k && k != m)) := hS6
        clear hS6 ht6 hT h4 hrgz
        go_wp2
        go_ret
        exact ⟨m, rfl, h1, h3, HS6.out, HT.out⟩
    · intro x kl yd yp w6 cnt6 hkey hlk hvv hat hrg6 hcl hg6 hs6 hen
      obtain ⟨x', ex, rfl, hwf⟩ := Maps.keyOf_i64 Try.underlying3 hkey
      obtain rfl : x = x' := encZ_inj ex
      have hhas := has_true_of_atKey hat
      have hxI : I64 x := ⟨(wf_bounds hwf).1, (wf_bounds hwf).2⟩
      rw [hhasN x hxI] at hhas
      simp only [Bool.and_eq_true, decide_eq_true_eq] at hhas
      obtain ⟨⟨hx0, hxN⟩, hex⟩ := hhas
      obtain ⟨y, rfl⟩ : ∃ y : Nat, x = y := ⟨x.toNat, by omega⟩
      have hym : y < N := by omega
      have hLy : S y = true := by simpa using hex
      have hB6 := hBz.grown hg6 hBz.size (fun k hk => by cases hk; omega)
      have HLY : Hid (S y = true) := hLy
      have HCL2 : Hid (cnt6 < cnt) := hcl
      have hput := fun hl => Seen1.put HSF.out hym hLy hl
      have HPUT : Hid ((u3 = .int .i64 (-1) ∨ ∃ m : Nat, u3 = .int .i64 (m : Int) ∧ y < m) → Seen1 N S (fun z => lf z && !z.sameKey (.int .i64 (y : Int))) (.int .i64 (y : Int))) := hput
      have HRG : Hid (w6.ranges Try.prog 3 unitElem bL r N DN (fun z => lf z && !z.sameKey (.int .i64 (y : Int))) cnt6) := hrg6
      clear hs6 hex hat hkey hvv hlk hcl hLy hput hrg6
      rcases HSF.out with ⟨rfl, _⟩ | ⟨m, _, rfl, _, _⟩
      · go_wp2
        go_roundw
        case rel => exact ⟨_, _, HRG.out, HPUT.out (Or.inl rfl), hB6⟩
        case measure => rw [HRG.out.left_eq, hrgz.left_eq]; exact HCL2.out
      · have j1 : ¬ (m : Int) < 0 := by omega
        by_cases hlt : y < m
        · have j2 : (y : Int) < (m : Int) := by omega
          go_wp2
          go_roundw
          case rel => exact ⟨_, _, HRG.out, HPUT.out (Or.inr ⟨m, rfl, hlt⟩), hB6⟩
          case measure => rw [HRG.out.left_eq, hrgz.left_eq]; exact HCL2.out
        · have j2 : ¬ (y : Int) < (m : Int) := by omega
          go_wp2
          go_roundw
          case rel => exact ⟨_, _, HRG.out, Seen1.pass HSF.out (by omega), hB6⟩
          case measure => rw [HRG.out.left_eq, hrgz.left_eq]; exact HCL2.out
/-- slices.Index of numbers. -/
theorem index_call {w : World} {lo : Option Addr} {c : Nat} {L : List Nat} (h : NumsAt w lo L) (hl : L.length ≤ 100000) (v : Nat) :
    Calls Try.prog 69 #[.slice lo L.length c, .int .i64 (v : Int)] w fun e w' => (∃ k : Int, e = .returned (.int .i64 k) ∧ ((k = -1 ∧ v ∉ L) ∨ ∃ i : Nat, k = i ∧ L[i]? = some v)) ∧ w' = w := by
  have H : Hid (NumsAt w lo L) := h
  clear h
  go_enter Try.func69, Try.ntmps69
  go_wp2
  go_loop [5, 8] (fun _ i => ∃ k : Nat, k ≤ L.length ∧ i = .int .i64 (k : Int) ∧ v ∉ L.take k) (fun _ i => L.length - (numOf i).toNat)
  case atStart => exact ⟨0, Nat.zero_le _, rfl, by simp⟩
  case round =>
    obtain ⟨k, hk, rfl, hn⟩ := hrel
    have HN : Hid (v ∉ L.take k) := hn
    clear hn
    by_cases hlt : k < L.length
    · obtain ⟨x, hx⟩ : ∃ x, L[k]? = some x := ⟨L[k], List.getElem?_eq_getElem hlt⟩
      obtain ⟨b, rfl, hc⟩ := H.out k x hx
      have i1 : (0 : Int) ≤ (k : Int) := by omega
      have i2 : (k : Int) < (L.length : Int) := by omega
      have HX : Hid (L[k]? = some x) := hx
      clear hx
      by_cases hv : v = x
      · subst hv
        go_wp2
        go_ret
        exact ⟨⟨(k : Int), rfl, Or.inr ⟨k, rfl, HX.out⟩⟩, rfl⟩
      · have j1 : ((v : Int) == (x : Int)) = false := by rw [beq_eq_false_iff_ne]; omega
        have hn2 : v ∉ L.take (k + 1) := by
          obtain ⟨g1, g2⟩ := List.getElem?_eq_some_iff.1 HX.out
          rw [List.take_succ_eq_append_getElem g1, g2]
          intro hm
          rcases List.mem_append.1 hm with hm | hm
          · exact HN.out hm
          · simp at hm; exact hv hm
        have HN2 : Hid (v ∉ L.take (k + 1)) := hn2
        clear hn2
        go_wp2
        go_round
        case rel => exact ⟨k + 1, by omega, by go_num, HN2.out⟩
        case measure => simp [numOf]; omega
    · have i2 : ¬ (k : Int) < (L.length : Int) := by omega
      have hn2 : v ∉ L := by have := HN.out; rwa [List.take_of_length_le (by omega)] at this
      have HN2 : Hid (v ∉ L) := hn2
      clear hn2
      go_wp2
      go_ret
      exact ⟨⟨-1, rfl, Or.inl ⟨rfl, HN2.out⟩⟩, rfl⟩
end Go.Proofs.Ytkakmaalmhofmaa
