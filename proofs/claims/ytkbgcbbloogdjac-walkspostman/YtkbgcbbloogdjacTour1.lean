/- firstWithEdge, hangTogether, oddNodes. -/
import Derived.Test.YtkbgcbbloogdjacHome
namespace Go.Proofs.Ytkbgcbbloogdjac
open Go.RowKit Go.Maps
attribute [local go_sem ↓] Go.wp_at_zero Go.wp_at_succ

set_option maxHeartbeats 400000 in
theorem someEdge_call (xo : Option Addr) (n xc : Nat) (w : World) : Calls Try.prog 53 #[.slice xo n xc] w fun e w' => e = .returned (.bool (decide (0 < n))) ∧ w' = w := by
  go_enter Try.func53, Try.ntmps53
  go_wp2
  go_ret
  exact ⟨by simp, rfl⟩
theorem enter53 (args : Array Value) (w : World) : (callFunc 53 args).run Try.prog w = .ok (.enter 53 args) w := by
  simp [callFunc, Try.func53, go_sem]
  rw [if_neg (of_decide_eq_true (by kernel_rfl)), if_neg (by intro h; have : Try.f53.body.isSome = true := (by kernel_rfl); rw [h] at this; cases this)]

set_option maxHeartbeats 1000000 in
theorem indexRows_call {w : World} {ao : Option Addr} {N cap : Nat} {ls : Nat → List Nat} (hn : NearR w ao N ls) (hN : N ≤ 100) :
    Calls Try.prog 52 #[.slice ao N cap, .func (.func 53) #[] #[]] w fun e w' => ∃ z : Int, e = .returned (.int .i64 z) ∧ ((z = -1 ∧ ∀ i, i < N → ls i = []) ∨ ∃ K : Nat, z = K ∧ K < N ∧ ls K ≠ [] ∧ ∀ j, j < K → ls j = []) ∧ w' = w := by
  have hF := enter53
  have HR : Hid _ := hn
  clear hn
  go_enter Try.func52, Try.ntmps52
  go_wp2
  go_loopw [8] (fun i wr => ∃ k : Nat, k ≤ N ∧ i = .int .i64 (k : Int) ∧ (∀ j, j < k → ls j = []) ∧ wr = w) (fun i _ => N - (numOf i).toNat)
  case atStart => exact ⟨0, Nat.zero_le _, rfl, fun j h => by omega, rfl⟩
  case round =>
    obtain ⟨k, hk, rfl, hno, rfl⟩ := hrel
    have HNO : Hid _ := hno
    clear hno
    by_cases hkN : k < N
    · obtain ⟨g, xo, xc, rfl, c1, _⟩ := HR.out k hkN
      have i1 : (0 : Int) ≤ (k : Int) := by omega
      have i2 : (k : Int) < (N : Int) := by omega
      have hcall := someEdge_call xo (ls k).length xc wr
      by_cases h0 : 0 < (ls k).length
      · rw [decide_eq_true h0] at hcall
        have HC : Hid _ := hcall
        have H0 : Hid _ := h0
        clear hcall h0
        go_wp2_with (first
          | (go_at_call 53; refine Calls.mono HC.out ?_; rintro r wa ⟨rfl, rfl⟩)
          | go_in)
        go_ret
        exact ⟨k, rfl, Or.inr ⟨k, rfl, hkN, fun h => by have := H0.out; rw [h] at this; simp at this, HNO.out⟩, rfl⟩
      · rw [decide_eq_false h0] at hcall
        have HC : Hid _ := hcall
        have H0 : Hid _ := h0
        clear hcall h0
        go_wp2_with (first
          | (go_at_call 53; refine Calls.mono HC.out ?_; rintro r wa ⟨rfl, rfl⟩)
          | go_in)
        go_roundw
        case rel =>
          refine ⟨k + 1, by omega, by go_num, fun j hj => ?_, trivial⟩
          by_cases c : j = k
          · subst c
            have := H0.out
            cases hl : ls j with
            | nil => rfl
            | cons a l => rw [hl] at this; simp at this
          · exact HNO.out j (by omega)
        case measure => simp [numOf]; omega
    · have hke : N = k := by omega
      subst hke
      go_wp2
      go_ret
      exact ⟨-1, rfl, Or.inl ⟨rfl, HNO.out⟩, rfl⟩

set_option maxHeartbeats 400000 in
theorem firstEdge_call {w : World} {ao : Option Addr} {N cap : Nat} {ls : Nat → List Nat} (hn : NearR w ao N ls) (hN : N ≤ 100) :
    Calls Try.prog 37 #[.slice ao N cap] w fun e w' => ∃ z : Int, e = .returned (.int .i64 z) ∧ ((z = -1 ∧ ∀ i, i < N → ls i = []) ∨ ∃ K : Nat, z = K ∧ K < N ∧ ls K ≠ [] ∧ ∀ j, j < K → ls j = []) ∧ w' = w := by
  have hcall := indexRows_call (cap := cap) hn hN
  have HC : Hid _ := hcall
  clear hcall hn
  go_enter Try.func37, Try.ntmps37
  go_wp2_with (first
    | (go_at_call 52; refine Calls.mono HC.out ?_; rintro r wa ⟨z, rfl, hz, rfl⟩)
    | go_in)
  go_ret
  exact ⟨z, rfl, hz, rfl⟩

set_option maxHeartbeats 1000000 in
theorem hang_call {w : World} {ao : Option Addr} {N cap : Nat} {ls : Nat → List Nat} {e : Nat → Nat → Bool} (hn : NearR w ao N ls) (hr : Rows N ls e) (hN : N ≤ 100) {v : Nat} (hv : v < N) :
    Calls Try.prog 39 #[.slice ao N cap, .int .i64 (v : Int)] w fun r w' => ∃ (q : Bool) (o : Nat → Option Nat), r = .returned (.bool q) ∧ Dist N e v o ∧ (q = true ↔ ∀ x, x < N → o x = none → ls x = []) ∧ Below w.heap.size w w' := by
  have HN : Hid _ := hn
  have HR : Hid _ := hr
  clear hn hr
  go_enter Try.func39, Try.ntmps39
  go_wp2_with (first
    | (go_at_call 29; refine (farFrom_call HN.out HR.out hN hv).mono ?_; rintro r wa ⟨b, o, rfl, hb, hrow, hd, hbA⟩)
    | go_in)
  have HD : Hid _ := hd
  clear hd
  go_loopw [11] (fun i wr => ∃ k : Nat, k ≤ N ∧ i = .int .i64 (k : Int) ∧ (∀ j, j < k → o j = none → ls j = []) ∧ wr = wa) (fun i _ => N - (numOf i).toNat)
  case atStart => exact ⟨0, Nat.zero_le _, rfl, fun j h => by omega, rfl⟩
  case round =>
    obtain ⟨k, hk, rfl, hno, rfl⟩ := hrel
    have HNO : Hid _ := hno
    clear hno
    by_cases hkN : k < N
    · obtain ⟨g, xo, xc, rfl, c1, _⟩ := NearR.below HN.out hbA k hkN
      have ck := hrow.cell hkN
      have i1 : (0 : Int) ≤ (k : Int) := by omega
      have i2 : (k : Int) < (N : Int) := by omega
      by_cases h1 : o k = none
      · have z1 : farZ (o k) < 0 := farZ_neg.2 h1
        by_cases h2 : 0 < (ls k).length
        · have z2 : (0 : Int) < ((ls k).length : Int) := by omega
          have H1 : Hid _ := h1
          have H2 : Hid _ := h2
          clear h1 h2
          go_wp2
          go_ret
          refine ⟨false, o, rfl, HD.out, ?_, hbA⟩
          constructor
          · intro h; cases h
          · intro h
            have := h k hkN H1.out
            have h2 := H2.out
            rw [this] at h2
            simp at h2
        · have z2 : ¬ (0 : Int) < ((ls k).length : Int) := by omega
          have H2 : Hid _ := h2
          clear h1 h2
          go_wp2
          go_roundw
          case rel =>
            refine ⟨k + 1, by omega, by go_num, fun j hj hoj => ?_, trivial⟩
            by_cases c : j = k
            · subst c
              have := H2.out
              cases hl : ls j with
              | nil => rfl
              | cons a l => rw [hl] at this; simp at this
            · exact HNO.out j (by omega) hoj
          case measure => simp [numOf]; omega
      · have z1 : ¬ farZ (o k) < 0 := fun h => h1 (farZ_neg.1 h)
        have H1 : Hid _ := h1
        clear h1
        go_wp2
        go_roundw
        case rel =>
          refine ⟨k + 1, by omega, by go_num, fun j hj hoj => ?_, trivial⟩
          by_cases c : j = k
          · subst c; exact absurd hoj H1.out
          · exact HNO.out j (by omega) hoj
        case measure => simp [numOf]; omega
    · have hke : N = k := by omega
      subst hke
      go_wp2
      go_ret
      exact ⟨true, o, rfl, HD.out, ⟨fun _ => HNO.out, fun _ => rfl⟩, hbA⟩

/-- The nodes with an odd number of edges, below k. -/
def oddTo (ls : Nat → List Nat) (k : Nat) : List Nat := (List.range k).filter fun v => (ls v).length % 2 == 1
theorem oddTo_succ (ls : Nat → List Nat) (k : Nat) : oddTo ls (k + 1) = oddTo ls k ++ (if (ls k).length % 2 = 1 then [k] else []) := by
  unfold oddTo
  rw [List.range_succ, List.filter_append]
  congr 1
  by_cases h : (ls k).length % 2 = 1
  · simp [h]
  · simp [h]
theorem oddTo_le (ls : Nat → List Nat) (k : Nat) : (oddTo ls k).length ≤ k := Nat.le_trans (List.length_filter_le _ _) (by simp)

set_option maxHeartbeats 1000000 in
theorem oddNodes_call {w : World} {ao : Option Addr} {N cap : Nat} {ls : Nat → List Nat} (hn : NearR w ao N ls) (hl : ∀ u, u < N → (ls u).length ≤ 1000) (hN : N ≤ 100) :
    Calls Try.prog 38 #[.slice ao N cap] w fun r w' => ∃ pv, r = .returned pv ∧ w'.ownsRow w.heap.size 3 1 pv (oddTo ls N).length (qv (oddTo ls N)) ∧ Below w.heap.size w w' := by
  have HN : Hid _ := hn
  have HL : Hid _ := hl
  clear hn hl
  go_enter Try.func38, Try.ntmps38
  go_wp2
  go_loopw [3, 8] (fun p i wr => ∃ k : Nat, k ≤ N ∧ i = .int .i64 (k : Int) ∧ wr.ownsRow w.heap.size 3 1 p (oddTo ls k).length (qv (oddTo ls k)) ∧ Below w.heap.size w wr) (fun _ i _ => N - (numOf i).toNat)
  case atStart => exact ⟨0, Nat.zero_le _, rfl, by simpa [oddTo, qv] using World.ownsRow_nil _ _ _ _, Below.refl _ _⟩
  case round =>
    obtain ⟨k, hk, rfl, hown, hB⟩ := hrel
    obtain ⟨po, pc, rfl⟩ := form_row hown
    have hol := oddTo_le ls k
    by_cases hkN : k < N
    · obtain ⟨g, xo, xc, rfl, c1, _⟩ := NearR.below HN.out hB k hkN
      have hlk := HL.out k hkN
      have i1 : (0 : Int) ≤ (k : Int) := by omega
      have i2 : (k : Int) < (N : Int) := by omega
      have hsz := hB.size
      by_cases h1 : (ls k).length % 2 = 1
      · have hmod : ((ls k).length : Int) % 2 = 1 := by omega
        have HS : Hid (oddTo ls (k + 1) = oddTo ls k ++ [k]) := show oddTo ls (k + 1) = oddTo ls k ++ [k] by rw [oddTo_succ, if_pos h1]
        clear h1
        go_wp2_with (first
          | (at_builtin; refine wpList_push (x := k) rfl _ _ rfl rfl rfl hown (by omega) (by omega) ?_; intro v' w3 hown1 hgr1)
          | go_in)
        have T1 := (alloc_turns wr (Obj.cells #[.int .i64 (k : Int)] 3) _).trans (Turns.of_grown hgr1)
        have hB3 := T1.below hB hsz (fun j hj => (hown.lt j hj.symm).1)
        go_roundw
        case rel => exact ⟨k + 1, by omega, by go_num, by rw [HS.out]; exact hown1, hB3⟩
        case measure => simp [numOf]; omega
      · have hmod : ¬ ((ls k).length : Int) % 2 = 1 := by omega
        have HS : Hid (oddTo ls (k + 1) = oddTo ls k) := show oddTo ls (k + 1) = oddTo ls k by rw [oddTo_succ, if_neg h1, List.append_nil]
        clear h1
        go_wp2
        go_roundw
        case rel => exact ⟨k + 1, by omega, by go_num, by rw [HS.out]; exact hown, hB⟩
        case measure => simp [numOf]; omega
    · have hke : N = k := by omega
      subst hke
      go_wp2
      go_ret
      exact ⟨_, rfl, hown, hB⟩
end Go.Proofs.Ytkbgcbbloogdjac
