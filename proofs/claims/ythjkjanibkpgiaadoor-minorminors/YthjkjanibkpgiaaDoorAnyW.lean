/- nearAny. -/
import Derived.Test.YthjkjanibkpgiaaDoorFitC
namespace Go.Proofs.YthjkjanibkpgiaaDoor
set_option maxRecDepth 8000
open Go.RowKit Go.Maps
attribute [local go_sem ↓] Go.wp_at_zero Go.wp_at_succ
/-- The nodes that have an edge with one of s. -/
def anyN (near : Nat → Nat) : Nat → Nat → Nat
  | 0, _ => 0
  | N + 1, s => anyN near N s ||| (if s.testBit N = true then near N else 0)
theorem anyN_bit (near : Nat → Nat) (s x : Nat) : ∀ N, (anyN near N s).testBit x = (List.range N).any fun i => s.testBit i && (near i).testBit x
  | 0 => by simp [anyN]
  | N + 1 => by
    rw [anyN, Nat.testBit_or, anyN_bit near s x N, List.range_succ, List.any_append]
    congr 1
    simp only [List.any_cons, List.any_nil, Bool.or_false]
    by_cases h : s.testBit N = true
    · rw [if_pos h, h, Bool.true_and]
    · rw [if_neg h, Nat.zero_testBit]
      have h' : s.testBit N = false := by simpa using h
      rw [h', Bool.false_and]
theorem anyN_lt {near : Nat → Nat} {K : Nat} (h : ∀ v, near v < 2 ^ K) (s : Nat) : ∀ N, anyN near N s < 2 ^ K
  | 0 => Nat.two_pow_pos K
  | N + 1 => by
    rw [anyN]
    refine Nat.or_lt_two_pow (anyN_lt h s N) ?_
    cases s.testBit N with
    | true => exact h N
    | false => exact Nat.two_pow_pos K
/-- What is gathered when r is left. -/
def gth (near : Nat → Nat) (N s r x : Nat) : Bool := (List.range N).any fun i => s.testBit i && !r.testBit i && (near i).testBit x
theorem gth_start (near : Nat → Nat) (N s x : Nat) : gth near N s s x = false := by
  unfold gth
  rw [List.any_eq_false]
  intro i _
  cases s.testBit i <;> simp
theorem gth_end (near : Nat → Nat) (N s x : Nat) : gth near N s 0 x = (anyN near N s).testBit x := by
  rw [anyN_bit]
  unfold gth
  simp
theorem gth_step {near : Nat → Nat} {N s r r' u : Nat} (hu : u < N) (hs : s.testBit u = true) (h' : r'.testBit = outB r.testBit u) (x : Nat) : gth near N s r' x = (gth near N s r x || (near u).testBit x) := by
  unfold gth
  rw [Bool.eq_iff_iff, Bool.or_eq_true, List.any_eq_true, List.any_eq_true]
  constructor
  · rintro ⟨i, hi, h⟩
    rw [h'] at h
    unfold outB at h
    by_cases e : i = u
    · subst e
      right
      simp at h
      exact h.2
    · left
      have e' : (i == u) = false := by simpa using e
      rw [e'] at h
      exact ⟨i, hi, by simpa using h⟩
  · rintro (⟨i, hi, h⟩ | h)
    · refine ⟨i, hi, ?_⟩
      rw [h']
      unfold outB
      revert h
      cases s.testBit i <;> cases r.testBit i <;> cases (i == u) <;> simp
    · refine ⟨u, List.mem_range.2 hu, ?_⟩
      rw [h', hs]
      unfold outB
      simp [h]
set_option maxHeartbeats 8000000 in
theorem any_call {w : World} {nb N s : Nat} {near : Nat → Nat} (hn : RowV w nb 53 N (nv near)) (hT : T32 w) (nl : ∀ v, near v < 2 ^ N) (hN : N ≤ 12) (hs : s < 2 ^ N) :
    Calls Tryd.prog 42 #[sl nb N, .int .u32 (s : Int)] w fun e w' => e = .returned (.int .u32 (anyN near N s : Nat)) ∧ Below w.heap.size w w' := by
  have h24 : (2 : Nat) ^ N ≤ 4096 := (Nat.pow_le_pow_right (by decide) hN : 2 ^ N ≤ 2 ^ 12)
  obtain ⟨Z, hZ⟩ : ∃ Z, Z = anyN near N s := ⟨_, rfl⟩
  have HH : Hid (RowV w nb 53 N (nv near) ∧ T32 w ∧ (∀ v, near v < 2 ^ N) ∧ s < 2 ^ N ∧ 2 ^ N ≤ 4096 ∧ Z = anyN near N s) := ⟨hn, hT, nl, hs, h24, hZ⟩
  have hs' : s < 4096 := Nat.lt_of_lt_of_le hs h24
  rw [← hZ]
  clear hn hT nl hs h24 hZ
  go_enter Tryd.func42, Tryd.ntmps42
  go_upto_region 2 with (fail)
  go_loopw [1, 5] (fun s1 s5 wz => ∃ r o : Nat, s1 = .int .u32 (r : Int) ∧ s5 = .int .u32 (o : Int) ∧ r < 4096 ∧ o < 4096 ∧ Hid ((∀ i, r.testBit i = true → s.testBit i = true) ∧ (∀ x, o.testBit x = gth near N s r x) ∧ Below w.heap.size w wz)) (fun s1 _ _ => (numOf s1).toNat)
  case atStart => exact ⟨s, 0, rfl, rfl, hs', by omega, fun i h => h, fun x => by rw [gth_start, Nat.zero_testBit], Below.refl _ _⟩
  case round =>
    obtain ⟨r, o, rfl, rfl, hr, ho, hJ⟩ := hrel
    by_cases hz : r = 0
    · have k2 : ((r : Int) != 0) = false := by simp; omega
      have HZ : Hid (o = Z) := by
        show o = Z
        rw [HH.out.2.2.2.2.2]
        refine Nat.eq_of_testBit_eq fun x => ?_
        rw [hJ.out.2.1, hz, gth_end]
      clear hz
      go_wp2
      go_ret
      exact ⟨by rw [HZ.out]; rfl, hJ.out.2.2⟩
    · obtain ⟨u, hu⟩ : ∃ u, u = Lib.ctz 32 r := ⟨_, rfl⟩
      obtain ⟨d1, d2, d3⟩ := ctz_bits hz (by omega)
      rw [← hu] at d1 d2 d3
      have hsu := hJ.out.1 u d1
      have huN : u < N := bit_lt HH.out.2.2.2.1 hsu
      have C39 : Hid (∀ D, T32 D → Calls Tryd.prog 39 #[.int .u32 (r : Int)] D fun e w' => e = .returned (.int .i64 (u : Int)) ∧ w' = D) := fun D hD => by
        rw [hu]
        exact least_call r (by omega) hD
      obtain ⟨r2, hr2⟩ : ∃ q, q = r &&& (r - 1) := ⟨_, rfl⟩
      rw [← hr2] at d2
      have a5 : bits BinOp.and IntKind.u32 (r : Int) ((r : Int) - 1) = (r2 : Int) := by
        have e1 : (r : Int) - 1 = ((r - 1 : Nat) : Int) := by omega
        rw [e1, and_u32 (by omega) (by omega), hr2]
      have hr2l : r2 < r := by
        have : r &&& (r - 1) ≤ r - 1 := Nat.and_le_right
        omega
      have z3 : wr.cell? ⟨nb, u, none⟩ = some (.int .u32 (near u : Int)) := (HH.out.1.block (hJ.out.2.2.block _ HH.out.1.lt)).cell huN
      obtain ⟨Nx, hNx⟩ : ∃ q, q = near u := ⟨_, rfl⟩
      rw [← hNx] at z3
      have hNl : Nx < 2 ^ 12 := by rw [hNx]; exact Nat.lt_of_lt_of_le (HH.out.2.2.1 u) HH.out.2.2.2.2.1
      obtain ⟨o2, ho2⟩ : ∃ q, q = o ||| Nx := ⟨_, rfl⟩
      have a2 := or_u32 (a := o) (b := Nx) (by omega) (by omega)
      rw [← ho2] at a2
      have ho2l : o2 < 2 ^ 12 := by rw [ho2]; exact Nat.or_lt_two_pow ho hNl
      have HNX : Hid ((∀ i, r2.testBit i = true → s.testBit i = true) ∧ (∀ x, o2.testBit x = gth near N s r2 x) ∧ Below w.heap.size w wr ∧ T32 wr) := by
        refine ⟨fun i hi => hJ.out.1 i ?_, fun x => ?_, hJ.out.2.2, HH.out.2.1.below hJ.out.2.2⟩
        · rw [d2] at hi
          unfold outB at hi
          simp at hi
          exact hi.1
        · rw [gth_step huN hsu d2, ho2, Nat.testBit_or, hJ.out.2.1, hNx]
      have i1 : (0 : Int) ≤ (u : Int) := by omega
      have i2 : (u : Int) < (N : Int) := by omega
      have o0 : (0 : Int) ≤ (r : Int) - 1 := by omega
      have o1 : (r : Int) - 1 < 4294967296 := by omega
      have k3 : ((r : Int) != 0) = true := by simp; omega
      clear d1 d2 d3 hsu hr2 hNx ho2 hJ hz hu
      go_wp2_with (first | (go_at_call 39; refine Calls.mono (C39.out _ HNX.out.2.2.2) ?_; rintro e w2 ⟨rfl, rfl⟩) | fail)
      go_roundw
      case rel => exact ⟨r2, o2, rfl, rfl, by omega, ho2l, HNX.out.1, HNX.out.2.1, HNX.out.2.2.1⟩
      case measure => simp [numOf]; omega
end Go.Proofs.YthjkjanibkpgiaaDoor
