/- partOf: the nodes to which a way leads from v, and from which one leads to v. -/
import Derived.Test.YtgepibidhebbiabLeads
namespace Go.Proofs.Ytgepibidhebbiab
open Go.RowKit Go.Maps
attribute [local go_sem ↓] Go.wp_at_zero Go.wp_at_succ

/-- The nodes below k in one strong part with v. -/
def mutTo (R : Nat → Nat → Bool) (v k : Nat) : List Nat := (List.range k).filter fun u => R u v && R v u
theorem mutTo_succ (R : Nat → Nat → Bool) (v k : Nat) : mutTo R v (k + 1) = mutTo R v k ++ (if (R k v && R v k) = true then [k] else []) := by
  unfold mutTo
  rw [List.range_succ, List.filter_append]
  by_cases h : (R k v && R v k) = true
  · rw [if_pos h]; simp only [List.filter_cons, h, if_true, List.filter_nil]
  · rw [if_neg h]; simp only [List.filter_cons, h, List.filter_nil]; rfl
theorem mutTo_le (R : Nat → Nat → Bool) (v k : Nat) : (mutTo R v k).length ≤ k := Nat.le_trans (List.length_filter_le _ _) (by simp)

theorem isNode_call (n x : Int) (w : World) : Calls Try.prog 50 #[.int .i64 n, .int .i64 x] w fun e w' => e = .returned (.bool (decide (0 ≤ x) && decide (x < n))) ∧ Below w.heap.size w w' := by
  by_cases h : 0 ≤ x
  · go_enter Try.func50, Try.ntmps50
    go_wp2
    go_ret
    exact ⟨by simp [h], Below.refl _ _⟩
  · go_enter Try.func50, Try.ntmps50
    go_wp2
    go_ret
    exact ⟨by simp; omega, Below.refl _ _⟩

set_option maxHeartbeats 1000000 in
theorem partOf_call {w : World} {ao : Option Addr} {N cap : Nat} {R : Nat → Nat → Bool} (h : ReachAt w ao N R) (hN : N ≤ 1000) {v : Nat} (hv : v < N) :
    Calls Try.prog 66 #[.slice ao N cap, .int .i64 (v : Int)] w fun r w' => ∃ pv, r = .returned pv ∧ w'.ownsRow w.heap.size 3 1 pv (mutTo R v N).length (qv (mutTo R v N)) ∧ Below w.heap.size w w' := by
  obtain ⟨i3, hi3, hy0, hy1, hy2⟩ := info_parts Try.info3
  have HR : Hid _ := h
  clear h
  go_enter Try.func66, Try.ntmps66
  go_wp2
  go_loopw [5, 9] (fun pv i wr => ∃ k : Nat, k ≤ N ∧ i = .int .i64 (k : Int) ∧ wr.ownsRow w.heap.size 3 1 pv (mutTo R v k).length (qv (mutTo R v k)) ∧ Below w.heap.size w wr) (fun _ i _ => N - (numOf i).toNat)
  case atStart => exact ⟨0, Nat.zero_le _, rfl, by simpa [mutTo, qv] using World.ownsRow_nil _ _ _ _, Below.refl _ _⟩
  case round =>
    obtain ⟨k, hk, rfl, hown, hB⟩ := hrel
    obtain ⟨po, pc, rfl⟩ := form_row hown
    have hml := mutTo_le R v k
    by_cases hkN : k < N
    · have hre := ReachAt.below HR.out hB
      by_cases h1 : R k v = true
      · by_cases h2 : R v k = true
        · have HP : Hid (R k v = true ∧ R v k = true) := ⟨h1, h2⟩
          have l1 := fun (w' : World) (hb : Below wr.heap.size wr w') => leads_call (cap := cap) (hre.below hb) hN hkN hv
          have l2 := fun (w' : World) (hb : Below wr.heap.size wr w') => leads_call (cap := cap) (hre.below hb) hN hv hkN
          simp only [h1] at l1
          simp only [h2] at l2
          have H1 : Hid _ := l1
          have H2 : Hid _ := l2
          clear l1 l2 h1 h2 hre
          go_upto_region 6 with (first
            | (go_at_call 72; (fail_if_success (have hh := hbA)); refine (H1.out _ (Below.refl _ _)).mono ?_; rintro r wa ⟨rfl, hbA⟩)
            | (go_at_call 72; refine (H2.out _ hbA).mono ?_; rintro r wb ⟨rfl, hbB⟩)
            | go_in)
          have hbw := below_next hbA hbB
          have how := row_on hown hbw
          have hBw := below_self hB hbw hB.size
          clear hbA hbB hbw
          go_wp2_with (first | (at_builtin; refine wpList_append_own _ rfl _ _ 34 rfl w.heap.size 3 i3 (.int .i64 0) 1 8 Try.underlying34 hi3 hy0 hy1 hy2 rfl (by decide) _ _ _ rfl (how.alloc _) ⟨wb.heap.size, 0, none⟩ 1 1 [.int .i64 (k : Int)] rfl rfl ?r1 ?r2 ?r3 ?r4 ?r5 ?_) | go_in)
          case r1 => exact cell_one_new _ _ _
          case r2 => first | rfl | (intro y hy; simp at hy; subst hy; rfl)
          case r3 => unfold maxLen; omega
          case r4 => omega
          case r5 => have := hBw.size; simp; omega
          intro v' w3 hown' hgrow _
          have hB5 := (hBw.alloc hBw.size _).grown hgrow (by have := hBw.size; simp; omega) (fun k hk => (how.lt k hk).1)
          clear hgrow
          go_wp2
          go_roundw
          case rel => exact ⟨k + 1, by omega, by go_num, by rw [mutTo_succ, if_pos (by rw [HP.out.1, HP.out.2]; rfl)]; simpa [qv] using hown', hB5⟩
          case measure => simp [numOf]; omega
        · have h2' : R v k = false := by simpa using h2
          have HP : Hid (R v k = false) := h2'
          have l1 := fun (w' : World) (hb : Below wr.heap.size wr w') => leads_call (cap := cap) (hre.below hb) hN hkN hv
          have l2 := fun (w' : World) (hb : Below wr.heap.size wr w') => leads_call (cap := cap) (hre.below hb) hN hv hkN
          simp only [h1] at l1
          simp only [h2'] at l2
          have H1 : Hid _ := l1
          have H2 : Hid _ := l2
          clear l1 l2 h1 h2 h2' hre
          go_wp2_with (first
            | (go_at_call 72; (fail_if_success (have hh := hbA)); refine (H1.out _ (Below.refl _ _)).mono ?_; rintro r wa ⟨rfl, hbA⟩)
            | (go_at_call 72; refine (H2.out _ hbA).mono ?_; rintro r wb ⟨rfl, hbB⟩)
            | go_in)
          go_roundw
          case rel => exact ⟨k + 1, by omega, by go_num, by rw [mutTo_succ, if_neg (by rw [HP.out, Bool.and_false]; decide), List.append_nil]; exact row_on hown (below_next hbA hbB), below_self hB (below_next hbA hbB) hB.size⟩
          case measure => simp [numOf]; omega
      · have h1' : R k v = false := by simpa using h1
        have HP : Hid (R k v = false) := h1'
        have l1 := fun (w' : World) (hb : Below wr.heap.size wr w') => leads_call (cap := cap) (hre.below hb) hN hkN hv
        simp only [h1'] at l1
        have H1 : Hid _ := l1
        clear l1 h1 h1' hre
        go_wp2_with (first
          | (go_at_call 72; refine (H1.out _ (Below.refl _ _)).mono ?_; rintro r wa ⟨rfl, hbA⟩)
          | go_in)
        go_roundw
        case rel => exact ⟨k + 1, by omega, by go_num, by rw [mutTo_succ, if_neg (by rw [HP.out, Bool.false_and]; decide), List.append_nil]; exact row_on hown hbA, below_self hB hbA hB.size⟩
        case measure => simp [numOf]; omega
    · have hkE : k = N := by omega
      subst hkE
      go_wp2
      go_ret
      exact ⟨_, rfl, hown, hB⟩
end Go.Proofs.Ytgepibidhebbiab
