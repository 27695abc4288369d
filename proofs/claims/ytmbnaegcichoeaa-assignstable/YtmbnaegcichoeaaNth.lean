/- nthOf: the list of a number, of two slices of lists. -/
import Derived.Test.YtmbnaegcichoeaaNames
namespace Go.Proofs.Ytmbnaegcichoeaa
open Go.RowKit Go.Maps
attribute [local go_sem ↓] Go.wp_at_zero Go.wp_at_succ

set_option maxHeartbeats 600000 in
theorem nthOf_call {w : World} {va vb : Value} {la lb : List (List Int)} {t : Nat} (hA : RowsAt w va la) (hB : RowsAt w vb lb) {l : List Int} (hl : (la ++ lb)[t]? = some l) :
    Calls Try.prog 31 #[va, vb, .int .i64 (t : Int)] w fun e w' => (∃ x, e = .returned x ∧ IntsAt w x l) ∧ w' = w := by
  obtain ⟨ao, ac, rfl, _, _, hrA⟩ := hA
  obtain ⟨bo, bc, rfl, _, hbb, hrB⟩ := hB
  by_cases h : t < la.length
  · rw [List.getElem?_append_left h] at hl
    obtain ⟨_, e⟩ := List.getElem?_eq_some_iff.1 hl
    obtain ⟨b, off, x, rfl, cx, hx⟩ := hrA t h
    rw [e] at hx
    have HX : Hid (IntsAt w x l) := hx
    obtain ⟨xo, xc, rfl, _⟩ := hx
    have i1 : (0 : Int) ≤ (t : Int) := by omega
    have i2 : (t : Int) < (la.length : Int) := by omega
    clear hrA hrB hl e
    go_enter Try.func31, Try.ntmps31
    go_wp2
    go_ret
    exact ⟨⟨_, rfl, HX.out⟩, rfl⟩
  · rw [List.getElem?_append_right (by omega)] at hl
    obtain ⟨hlt, e⟩ := List.getElem?_eq_some_iff.1 hl
    obtain ⟨b, off, x, rfl, cx, hx⟩ := hrB (t - la.length) hlt
    rw [e] at hx
    have HX : Hid (IntsAt w x l) := hx
    obtain ⟨xo, xc, rfl, _⟩ := hx
    obtain ⟨q, hq⟩ : ∃ q, q = t - la.length := ⟨_, rfl⟩
    rw [← hq] at cx hlt
    have i2 : ¬ (t : Int) < (la.length : Int) := by omega
    have i3 : IntKind.i64.wrap ((t : Int) - (la.length : Int)) = (q : Int) := by rw [IntKind.wrap_i64]; omega
    have i4 : (0 : Int) ≤ (q : Int) := by omega
    have i5 : (q : Int) < (lb.length : Int) := by omega
    clear hrA hrB hl e hq
    go_enter Try.func31, Try.ntmps31
    go_wp2
    go_ret
    exact ⟨⟨_, rfl, HX.out⟩, rfl⟩
end Go.Proofs.Ytmbnaegcichoeaa
