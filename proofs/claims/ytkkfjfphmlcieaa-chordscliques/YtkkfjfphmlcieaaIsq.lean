/- The document's IsClique. -/
import Derived.Test.YtkkfjfphmlcieaaCliM
namespace Go.Proofs.Ytkkfjfphmlcieaa
open Go.RowKit Go.Maps
attribute [local go_sem ↓] Go.wp_at_zero Go.wp_at_succ
theorem and1 (n : Int) : bits .and .i64 n 1 = n % 2 := by
  have h1 : (BitVec.ofInt 64 1).toNat = 2 ^ 1 - 1 := by decide
  have key : (BitVec.ofInt 64 n &&& BitVec.ofInt 64 1).toNat = (n % ((2 ^ 64 : Nat) : Int)).toNat % 2 ^ 1 := by
    rw [BitVec.toNat_and, BitVec.toNat_ofInt, h1, Nat.and_two_pow_sub_one_eq_mod]
  show IntKind.i64.wrap ((BitVec.ofInt 64 n &&& BitVec.ofInt 64 1).toNat : Nat) = n % 2
  rw [key, IntKind.wrap_i64]
  omega
theorem bit_at (S k : Nat) : bits .and .i64 ((S : Int) / 2 ^ k) 1 = if tb S k = true then 1 else 0 := by
  unfold tb
  rw [and1]
  have e : (S : Int) / 2 ^ k % 2 = ((S / 2 ^ k % 2 : Nat) : Int) := by push_cast; rfl
  rw [e, Nat.testBit_eq_decide_div_mod_eq]
  rcases Nat.mod_two_eq_zero_or_one (S / 2 ^ k) with h | h <;> simp [h]
theorem or_at {S T : Nat} (hS : S < 2 ^ 24) (hT : T < 2 ^ 24) : bits .or .i64 (S : Int) (T : Int) = ((S ||| T : Nat) : Int) := by
  have hlt : S ||| T < 2 ^ 24 := Nat.or_lt_two_pow hS hT
  have key : (BitVec.ofInt 64 (S : Int) ||| BitVec.ofInt 64 (T : Int)).toNat = S ||| T := by
    rw [BitVec.toNat_or, BitVec.toNat_ofInt, BitVec.toNat_ofInt]
    congr 1 <;> omega
  show IntKind.i64.wrap ((BitVec.ofInt 64 (S : Int) ||| BitVec.ofInt 64 (T : Int)).toNat : Nat) = _
  rw [key, IntKind.wrap_i64]
  omega
set_option maxRecDepth 10000 in
set_option maxHeartbeats 4000000 in
theorem isq_call {N : Nat} {ao : Option Addr} {cap : Nat} {p : Int → Int → Bool} {w : World} (hG : GridAt w (.slice ao N cap) N p) (s : Nat) (hN : N ≤ 11) :
    Calls Try.prog 30 #[.slice ao N cap, .int .i64 (s : Int)] w fun r w' => (∃ b, r = .returned (.bool b) ∧ (b = true ↔ Clq N (fun x y => p x y) s)) ∧ w' = w := by
  obtain ⟨ao', cap', e0, hgrid⟩ := hG
  cases e0
  have HGR : Hid (∀ i : Nat, i < N → ∃ g b, ao = some ⟨g, 0, none⟩ ∧ w.cell? ⟨g, i, none⟩ = some (.slice (some ⟨b, 0, none⟩) N N) ∧ ∀ j : Nat, j < N → w.cell? ⟨b, j, none⟩ = some (.bool (p i j))) := hgrid
  clear hgrid
  go_enter Try.func30, Try.ntmps30
  go_wp2
  go_loopw [5, 6] (fun i _ wr => ∃ k : Nat, k ≤ N ∧ i = .int .i64 (k : Int) ∧ (∀ v, v < k → ∀ x, x < v → tb s v = true → tb s x = true → p v x = true) ∧ wr = w) (fun i _ _ => N - (numOf i).toNat)
  case atStart => exact ⟨0, Nat.zero_le _, rfl, fun v hv => by omega, rfl⟩
  case round =>
    obtain ⟨k, hk, rfl, hall, hwr⟩ := hrel
    have hwr' := hwr.symm
    clear hwr
    subst hwr'
    have HALL : Hid (∀ v, v < k → ∀ x, x < v → tb s v = true → tb s x = true → p v x = true) := hall
    clear hall
    by_cases hkn : k < N
    · have i2 : (k : Int) < (N : Int) := by omega
      have i1 : (0 : Int) ≤ (k : Int) := by omega
      go_wp2
      go_loopw [6] (fun i wq => ∃ t : Nat, t ≤ k ∧ i = .int .i64 (t : Int) ∧ (∀ x, x < t → tb s k = true → tb s x = true → p k x = true) ∧ wq = w) (fun i _ => k - (numOf i).toNat)
      case atStart => exact ⟨0, Nat.zero_le _, rfl, fun v hv => by omega, rfl⟩
      case round =>
        obtain ⟨t, ht, rfl, hin, hwq⟩ := hrel
        have hwq' := hwq.symm
        clear hwq
        subst hwq'
        have HIN : Hid (∀ x, x < t → tb s k = true → tb s x = true → p k x = true) := hin
        clear hin
        by_cases htk : t < k
        · have j0 : (t : Int) < (k : Int) := by omega
          have j1 : (0 : Int) ≤ (t : Int) := by omega
          have j2 : (t : Int) < (N : Int) := by omega
          have m1 : min k 64 = k := by omega
          have m2 : min t 64 = t := by omega
          obtain ⟨g, b, rfl, c1, c2⟩ := HGR.out k hkn
          have c3 := c2 t (by omega)
          clear c2
          by_cases e1 : tb s k = true
          · have b1 : bits .and .i64 ((s : Int) / 2 ^ k) 1 = 1 := by rw [bit_at, if_pos e1]
            by_cases e2 : tb s t = true
            · have b2 : bits .and .i64 ((s : Int) / 2 ^ t) 1 = 1 := by rw [bit_at, if_pos e2]
              cases e3 : p k t with
              | true =>
                rw [e3] at c3
                have HX : Hid (p k t = true) := e3
                clear e1 e2 e3
                go_wp2
                go_roundw
                case rel => exact ⟨t + 1, by omega, by go_num, fun x hx h1 h2 => by
                  by_cases e : x = t
                  · rw [e]; exact HX.out
                  · exact HIN.out x (by omega) h1 h2, trivial⟩
                case measure => simp [numOf]; omega
              | false =>
                rw [e3] at c3
                have HX : Hid (tb s k = true ∧ tb s t = true ∧ p k t = false) := ⟨e1, e2, e3⟩
                clear e1 e2 e3
                go_wp2
                go_ret
                refine ⟨⟨false, rfl, fun h => (by cases h), fun h => ?_⟩, rfl⟩
                have h9 : p k t = true := h k hkn t htk HX.out.1 HX.out.2.1
                rw [HX.out.2.2] at h9
                cases h9
            · have b2 : bits .and .i64 ((s : Int) / 2 ^ t) 1 = 0 := by rw [bit_at, if_neg e2]
              have HX : Hid (¬ tb s t = true) := e2
              clear e1 e2
              go_wp2
              go_roundw
              case rel => exact ⟨t + 1, by omega, by go_num, fun x hx h1 h2 => by
                by_cases e : x = t
                · rw [e] at h2; exact absurd h2 HX.out
                · exact HIN.out x (by omega) h1 h2, trivial⟩
              case measure => simp [numOf]; omega
          · have b1 : bits .and .i64 ((s : Int) / 2 ^ k) 1 = 0 := by rw [bit_at, if_neg e1]
            have HX : Hid (¬ tb s k = true) := e1
            clear e1
            go_wp2
            go_roundw
            case rel => exact ⟨t + 1, by omega, by go_num, fun x hx h1 h2 => absurd h1 HX.out, trivial⟩
            case measure => simp [numOf]; omega
        · have hte : k = t := by omega
          subst hte
          go_wp2
          go_roundw
          case rel => exact ⟨k + 1, by omega, by go_num, fun v hv x hx h1 h2 => by
            by_cases e : v = k
            · rw [e] at hx h1 ⊢; exact HIN.out x hx h1 h2
            · exact HALL.out v (by omega) x hx h1 h2, trivial⟩
          case measure => simp [numOf]; omega
    · have hke : N = k := by omega
      subst hke
      go_wp2
      go_ret
      exact ⟨⟨true, rfl, fun _ v hv x hx h1 h2 => HALL.out v hv x hx h1 h2, fun _ => rfl⟩, rfl⟩
end Go.Proofs.Ytkkfjfphmlcieaa
