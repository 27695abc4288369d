/- firstPart: the strong part with the least first node of those left to which no way leads from another one left. -/
import Derived.Test.YtgepibidhebbiabIsFirst
namespace Go.Proofs.Ytgepibidhebbiab
open Go.RowKit Go.Maps
attribute [local go_sem ↓] Go.wp_at_zero Go.wp_at_succ

/-- v is left, and a way leads back to each node left from which one leads to v. -/
def Heads (R : Nat → Nat → Bool) (N : Nat) (L : Nat → Bool) (v : Nat) : Prop := L v = true ∧ ∀ u, u < N → L u = true → R u v = true → R v u = true
theorem ex0 (P : Prop) : ∃ q : Bool, q = true ↔ P := by
  rcases Classical.em P with h | h
  · exact ⟨true, by simp [h]⟩
  · exact ⟨false, by simp [h]⟩
theorem SetN.stay {w w' : World} {b N : Nat} {S : Nat → Bool} (h : SetN w b N S) (hb : Below w.heap.size w w') : SetN w' b N S := h.turns (Turns.of_below hb (fun _ => False)) (fun h => h)

set_option maxHeartbeats 1000000 in
theorem firstPart_call {w : World} {ao : Option Addr} {N cap : Nat} {R : Nat → Nat → Bool} (h : ReachAt w ao N R) {bL : Nat} {L : Nat → Bool} (hS : SetN w bL N L) (hN : N ≤ 1000) {v : Nat} (hv : v < N) (hh : Heads R N L v) (hleast : ∀ u, u < v → ¬ Heads R N L u) :
    Calls Try.prog 53 #[.slice ao N cap, .map (some bL)] w fun r w' => ∃ pv, r = .returned pv ∧ w'.ownsRow w.heap.size 3 1 pv (mutTo R v N).length (qv (mutTo R v N)) ∧ Below w.heap.size w w' := by
  have HR : Hid _ := h
  have HS : Hid _ := hS
  have HH : Hid _ := hh
  have HL : Hid _ := hleast
  clear h hS hh hleast
  go_enter Try.func53, Try.ntmps53
  go_wp2
  go_loopw [8] (fun i wr => ∃ k : Nat, k ≤ v ∧ i = .int .i64 (k : Int) ∧ Below w.heap.size w wr) (fun i _ => N - (numOf i).toNat)
  case atStart => exact ⟨0, Nat.zero_le _, rfl, Below.refl _ _⟩
  case round =>
    obtain ⟨k, hk, rfl, hB⟩ := hrel
    have hkN : k < N := by omega
    have hre := ReachAt.below HR.out hB
    have hSr := SetN.stay HS.out hB
    obtain ⟨q, hq⟩ := ex0 (∀ u, u < N → L u = true → R u k = true → R k u = true)
    have l1 := has_call hSr (by omega) hkN
    have l2 := fun (w' : World) (hb : Below wr.heap.size wr w') => isFirst_call (cap := cap) (hre.below hb) (hSr.stay hb) hN hkN hq
    by_cases hkv : k = v
    · subst hkv
      have hq1 : q = true := hq.2 HH.out.2
      subst hq1
      rw [HH.out.1] at l1
      have H1 : Hid _ := l1
      have H2 : Hid _ := l2
      have HE : Hid _ := hre
      clear l1 l2 hre hSr hq
      go_wp2_with (first
        | (go_at_call 55; refine Calls.mono H1.out ?_; rintro r wa ⟨rfl, hbA⟩)
        | (go_at_call 65; refine (H2.out _ hbA).mono ?_; rintro r wb ⟨rfl, hbB⟩)
        | (go_at_call 66; refine (partOf_call (ReachAt.below HE.out (below_next hbA hbB)) hN hkN).mono ?_; rintro r wc ⟨pv, rfl, hpv, hbC⟩)
        | go_in)
      go_ret
      have hs1 := hB.size
      have hs2 := (below_next hbA hbB).size
      exact ⟨pv, rfl, ownsRow_mono hpv (by omega), below_self (below_self hB (below_next hbA hbB) hB.size) hbC (by omega)⟩
    · have hno := HL.out k (by omega)
      by_cases hLk : L k = true
      · have hq1 : q = false := by
          cases hh : q
          · rfl
          · exact absurd ⟨hLk, hq.1 hh⟩ hno
        subst hq1
        rw [hLk] at l1
        have H1 : Hid _ := l1
        have H2 : Hid _ := l2
        clear l1 l2 hre hSr hq hno hLk
        go_wp2_with (first
          | (go_at_call 55; refine Calls.mono H1.out ?_; rintro r wa ⟨rfl, hbA⟩)
          | (go_at_call 65; refine (H2.out _ hbA).mono ?_; rintro r wb ⟨rfl, hbB⟩)
          | go_in)
        go_roundw
        case rel => exact ⟨k + 1, by omega, by go_num, below_self hB (below_next hbA hbB) hB.size⟩
        case measure => simp [numOf]; omega
      · have hLk' : L k = false := by simpa using hLk
        rw [hLk'] at l1
        have H1 : Hid _ := l1
        clear l1 l2 hre hSr hq hno hLk hLk'
        go_wp2_with (first
          | (go_at_call 55; refine Calls.mono H1.out ?_; rintro r wa ⟨rfl, hbA⟩)
          | go_in)
        go_roundw
        case rel => exact ⟨k + 1, by omega, by go_num, below_self hB hbA hB.size⟩
        case measure => simp [numOf]; omega
end Go.Proofs.Ytgepibidhebbiab
