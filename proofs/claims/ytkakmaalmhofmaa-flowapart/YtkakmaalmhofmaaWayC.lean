/- way: a list of nodes is a way from one node to another one. -/
import Derived.Test.YtkakmaalmhofmaaApartC
namespace Go.Proofs.Ytkakmaalmhofmaa
open Go.RowKit Go.Maps
attribute [local go_sem ↓] Go.wp_at_zero Go.wp_at_succ

set_option maxRecDepth 4000 in
set_option maxHeartbeats 2000000 in
theorem way_call {N : Nat} {ao : Option Addr} {cap : Nat} {p : Int → Int → Bool} {w : World} (hG : GridAt w (.slice ao N cap) N p) {lo : Option Addr} {lc : Nat} {L : List Nat} (hL : NumsAt w lo L) (hlt : ∀ u, u ∈ L → u < N) (hst : ∀ i x y : Nat, L[i]? = some x → L[i + 1]? = some y → p x y = true) (hl : L.length ≤ 1000) (h2 : 2 ≤ L.length) {s t : Nat} (hs : L[0]? = some s) (ht : L[L.length - 1]? = some t) (hnd : L.Nodup) :
    Calls Try.prog 18 #[.slice ao N cap, .slice lo L.length lc, .int .i64 (s : Int), .int .i64 (t : Int)] w fun r w' => r = .returned (.bool true) ∧ Below w.heap.size w w' := by
  have h40 := refWalk_call N ao cap p w hG (lc := lc) hL hlt hst (by omega)
  obtain ⟨b, rfl, hc0⟩ := hL 0 s hs
  obtain ⟨b', e, hcl⟩ := hL _ t ht
  cases e
  obtain ⟨m, hm⟩ : ∃ m, L.length = m + 1 := ⟨L.length - 1, by omega⟩
  rw [hm, Nat.add_sub_cancel] at hcl
  rw [hm] at h40 ⊢
  have HL : Hid (NumsAt w (some ⟨b, 0, none⟩) L) := hL
  have HND : Hid (L.Nodup) := hnd
  have HM : Hid (L.length = m + 1) := hm
  have H40 : Hid (Calls Try.prog 40 #[.slice ao N cap, .slice (some ⟨b, 0, none⟩) (m + 1) lc] w fun r w' => r = .returned (.bool true) ∧ Below w.heap.size w w') := h40
  have hm2 : 1 ≤ m ∧ m ≤ 1000 := by omega
  have k1 : ¬ ((m + 1 : Nat) : Int) < 2 := by omega
  have k2 : (0 : Int) < ((m + 1 : Nat) : Int) := by omega
  have k3 : (0 : Int) ≤ ((m + 1 : Nat) : Int) - 1 := by omega
  have k4 : ((m + 1 : Nat) : Int) - 1 < ((m + 1 : Nat) : Int) := by omega
  have k5 : IntKind.i64.wrap (((m + 1 : Nat) : Int) - 1) = (m : Int) := by rw [IntKind.wrap_i64]; omega
  have k6 : (m : Int) < ((m + 1 : Nat) : Int) := by omega
  have k7 : (0 : Int) ≤ (m : Int) := by omega
  clear h40 hG hL hlt hst hs ht hnd hm hl h2
  generalize hmm : m + 1 = M at *
  go_enter Try.func18, Try.ntmps18
  go_upto_if 36 with (first | (go_at_call 40; refine Calls.mono H40.out ?_; rintro r W1 ⟨rfl, hb1⟩) | go_in)
  clear hc0 hcl k2 k3 k4 k5 k6 k7
  go_wp2
  go_loopw [8, 9] (fun _ iv wr => ∃ i : Nat, i ≤ M ∧ iv = .int .i64 (i : Int) ∧ Below w.heap.size w wr) (fun _ iv _ => M - (numOf iv).toNat)
  case atStart => exact ⟨0, Nat.zero_le _, rfl, hb1⟩
  case round =>
    clear hb1
    obtain ⟨i, hi, rfl, hBi⟩ := hrel
    by_cases hlt : i < M
    · have i2 : (i : Int) < (M : Int) := by omega
      go_wp2
      go_loopw [8, 10] (fun _ jv wr => ∃ j : Nat, j ≤ i ∧ jv = .int .i64 (j : Int) ∧ Below w.heap.size w wr) (fun _ jv _ => i - (numOf jv).toNat)
      case atStart => exact ⟨0, Nat.zero_le _, rfl, hBi⟩
      case round =>
        clear hBi
        obtain ⟨j, hj, rfl, hBj⟩ := hrel
        by_cases hlt2 : j < i
        · have i3 : (j : Int) < (i : Int) := by omega
          have hM := HM.out
          obtain ⟨x, hx⟩ : ∃ x, L[i]? = some x := ⟨L[i]'(by omega), List.getElem?_eq_getElem (by omega)⟩
          obtain ⟨y, hy⟩ : ∃ y, L[j]? = some y := ⟨L[j]'(by omega), List.getElem?_eq_getElem (by omega)⟩
          have hxy : x ≠ y := fun e => by
            obtain ⟨g1, g2⟩ := List.getElem?_eq_some_iff.1 hx
            obtain ⟨g3, g4⟩ := List.getElem?_eq_some_iff.1 hy
            exact List.pairwise_iff_getElem.1 HND.out j i g3 g1 hlt2 (by rw [g2, g4, e])
          obtain ⟨_, e1, cx⟩ := NumsAt.below HL.out hBj i x hx
          cases e1
          obtain ⟨_, e1, cy⟩ := NumsAt.below HL.out hBj j y hy
          cases e1
          have k1 : ((x : Int) == (y : Int)) = false := by rw [beq_eq_false_iff_ne]; omega
          have k2 : (0 : Int) ≤ (i : Int) := by omega
          have k3 : (0 : Int) ≤ (j : Int) := by omega
          have k4 : (j : Int) < (M : Int) := by omega
          clear hx hy hxy hM
          go_upto_region 9 with (fail)
          go_quiet (fail)
          go_wp2
          go_roundw
          case rel => exact ⟨j + 1, by omega, by go_num, below_drewN hBj _⟩
          case measure => simp [numOf]; omega
        · have i3 : ¬ (j : Int) < (i : Int) := by omega
          go_wp2
          go_roundw
          case rel => exact ⟨i + 1, by omega, by go_num, hBj⟩
          case measure => simp [numOf]; omega
    · have i2 : ¬ (i : Int) < (M : Int) := by omega
      go_wp2
      go_ret
      exact ⟨rfl, hBi⟩
end Go.Proofs.Ytkakmaalmhofmaa
