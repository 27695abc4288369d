/- figure of the law's texts: a number at a place. -/
import Derived.Test.YtbaghbodjpehpaaDoorRead
namespace Go.Proofs.YtbaghbodjpehpaaDoor
open Go.RowKit Go.Maps
attribute [local go_sem ↓] Go.wp_at_zero Go.wp_at_succ

theorem numV_bd4 (s : ByteArray) (k : Nat) (j : Nat) (h : ∀ i, i < j → byteAt s (k + i) ≤ 57) (hj : j ≤ 4) : numV s k j ≤ 9999 := by
  match j, h, hj with
  | 0, h, hj => simp [numV]
  | j + 1, h, hj =>
    have h1 := numV_bd s k j (fun i hi => h i (by omega)) (by omega)
    have h2 := h j (by omega)
    simp only [numV]
    omega

def figE (s : ByteArray) (k : Nat) : Ending :=
  if numOk s k (runEnd s k) then .returned (.tuple #[.int .i64 (numAt s k), .int .i64 (runEnd s k)]) else .returned (.tuple #[.int .i64 0, .int .i64 (-1)])

set_option maxRecDepth 100000 in
set_option maxHeartbeats 2000000 in
theorem figure_any (s : ByteArray) (k E : Nat) (w : World) (hs : s.size ≤ 20000) (hr : RunAt s k E) {F : Ending} (hF : (numOk s k E ∧ F = .returned (.tuple #[.int .i64 (numV s k (E - k)), .int .i64 E])) ∨ (¬ numOk s k E ∧ F = .returned (.tuple #[.int .i64 0, .int .i64 (-1)]))) :
    Calls Tryd.prog 36 #[.string s, .int .i64 k] w fun e w' => e = F ∧ w' = w := by
  have hkE := hr.le
  have hEs := hr.end_le
  have HR : Hid _ := hr
  have HF : Hid _ := hF
  clear hr hF
  go_enter Tryd.func36, Tryd.ntmps36
  go_upto_region 3 with fail
  go_loop [6, 7] (fun s6 s7 => ∃ i : Nat, k ≤ i ∧ i ≤ E ∧ s6 = .int .i64 i ∧ s7 = .int .i64 (numV s k (min (i - k) 4))) (fun i _ => E - (intOf i).toNat)
  case atStart => exact ⟨k, Nat.le_refl _, hkE, rfl, by rw [Nat.sub_self]; rfl⟩
  case round =>
    obtain ⟨i, hi1, hi2, rfl, rfl⟩ := hrel
    by_cases hlt : i < E
    · have h1 : i < s.size := by omega
      have k1 : (0 : Int) ≤ (i : Int) := by omega
      have k2 : (i : Int) < (s.size : Int) := by omega
      have hX := byteAt_get s i h1
      have hd := digB_iff.1 (HR.out.digs i hi1 hlt)
      by_cases h4 : i < k + 4
      · have e1 : min (i - k) 4 = i - k := by omega
        have e2 : min (i + 1 - k) 4 = (i - k) + 1 := by omega
        have hnv : numV s k ((i - k) + 1) = 10 * numV s k (i - k) + (byteAt s (k + (i - k)) - 48) := rfl
        rw [show k + (i - k) = i by omega] at hnv
        have hb := numV_bd s k (i - k) (fun a ha => (digB_iff.1 (HR.out.digs (k + a) (by omega) (by omega))).2) (by omega)
        rw [e1]
        have HNV : Hid _ := And.intro e2 hnv
        clear hnv e1 e2
        generalize byteAt s i = X at hX hd HNV
        generalize numV s k (i - k) = Z at hb HNV ⊢
        obtain ⟨d1, d2⟩ := hd
        go_wp2
        go_round
        case rel => exact ⟨i + 1, by omega, by omega, by go_num, by rw [HNV.out.1, HNV.out.2]; go_num⟩
        case measure => simp [intOf]; omega
      · have e1 : min (i - k) 4 = 4 := by omega
        have e2 : min (i + 1 - k) 4 = 4 := by omega
        rw [e1]
        generalize byteAt s i = X at hX hd
        obtain ⟨d1, d2⟩ := hd
        go_wp2
        go_round
        case rel => exact ⟨i + 1, by omega, by omega, by go_num, by rw [e2]⟩
        case measure => simp [intOf]; omega
    · have hie : i = E := by omega
      subst hie
      have k1 : (0 : Int) ≤ (i : Int) := by omega
      have hX : i = s.size ∨ ∃ h : i < s.size, (s[i].toNat : Int) < 48 ∨ (48 ≤ (s[i].toNat : Int) ∧ 57 < (s[i].toNat : Int)) := by
        rcases HR.out.stop with h | h
        · exact Or.inl h
        · by_cases hh : i < s.size
          · right
            refine ⟨hh, ?_⟩
            rw [byteAt_get s i hh]
            have : ¬ (48 ≤ byteAt s i ∧ byteAt s i ≤ 57) := fun h' => by rw [digB_iff.2 h'] at h; cases h
            omega
          · left; omega
      have hk2 : ¬ k + 1 < i → i = k ∨ i = k + 1 := fun h => by omega
      have tail : ∀ {F : Ending}, ((numOk s k i ∧ F = .returned (.tuple #[.int .i64 (numV s k (i - k)), .int .i64 i])) ∨ (¬ numOk s k i ∧ F = .returned (.tuple #[.int .i64 0, .int .i64 (-1)]))) → (i = k ∧ F = .returned (.tuple #[.int .i64 0, .int .i64 (-1)])) ∨ (i ≠ k ∧ k + 3 < i ∧ F = .returned (.tuple #[.int .i64 0, .int .i64 (-1)])) ∨ (∃ h : k < s.size, i ≠ k ∧ i ≤ k + 3 ∧ (s[k].toNat : Int) = 48 ∧ k + 1 < i ∧ F = .returned (.tuple #[.int .i64 0, .int .i64 (-1)])) ∨ (∃ h : k < s.size, i ≠ k ∧ i ≤ k + 3 ∧ ((s[k].toNat : Int) ≠ 48 ∨ ((s[k].toNat : Int) = 48 ∧ ¬ k + 1 < i)) ∧ F = .returned (.tuple #[.int .i64 (numV s k (min (i - k) 4)), .int .i64 i])) := by
        intro F hF
        by_cases c1 : i = k
        · left
          rcases hF with ⟨⟨h1, _⟩, _⟩ | ⟨_, h⟩
          · exact absurd c1 h1
          · exact ⟨c1, h⟩
        · right
          by_cases c2 : k + 3 < i
          · left
            rcases hF with ⟨⟨_, h1, _⟩, _⟩ | ⟨_, h⟩
            · omega
            · exact ⟨c1, c2, h⟩
          · right
            have hk : k < s.size := by omega
            have e1 : min (i - k) 4 = i - k := by omega
            by_cases c3 : byteAt s k = 48 ∧ k + 1 < i
            · left
              rcases hF with ⟨⟨_, _, h1⟩, _⟩ | ⟨_, h⟩
              · exact absurd c3 h1
              · exact ⟨hk, c1, by omega, by rw [byteAt_get s k hk, c3.1]; rfl, c3.2, h⟩
            · right
              rcases hF with ⟨_, h⟩ | ⟨h1, _⟩
              · refine ⟨hk, c1, by omega, ?_, by rw [e1]; exact h⟩
                rw [byteAt_get s k hk]
                omega
              · exact absurd ⟨c1, by omega, c3⟩ h1
      have HF2 := tail HF.out
      clear tail HF HR hk2
      generalize numV s k (min (i - k) 4) = Z at HF2 ⊢
      have kk0 : (0 : Int) ≤ (k : Int) := by omega
      rcases hX with hX | ⟨h1, hX | ⟨hX, hX2⟩⟩
      all_goals first | (have k2 : ¬ (i : Int) < (s.size : Int) := (by omega); clear hX) | (have k2 : (i : Int) < (s.size : Int) := by omega)
      all_goals first | (have hX' : ¬ (48 : Int) ≤ (s[i].toNat : Int) := by omega) | (have hX' : ¬ (s[i].toNat : Int) ≤ 57 := by omega) | skip
      all_goals
        go_upto_region 7 with fail
        rcases HF2 with ⟨c1, rfl⟩ | ⟨c1, c2, rfl⟩ | ⟨hk, c1, c2, c3, c4, rfl⟩ | ⟨hk, c1, c2, c3 | ⟨c3, c4⟩, rfl⟩
        · subst c1
          go_wp2
          refine bodyPost_ret (v := .tuple _) (by simp [results, Tryd.results36, go_sem]; rfl) rfl ?_
          exact ⟨rfl, rfl⟩
        · have b1 : (i : Int) ≠ (k : Int) := by omega
          have b2 : (k : Int) + 3 < (i : Int) := by omega
          go_wp2
          refine bodyPost_ret (v := .tuple _) (by simp [results, Tryd.results36, go_sem]; rfl) rfl ?_
          exact ⟨rfl, rfl⟩
        · have b1 : (i : Int) ≠ (k : Int) := by omega
          have b2 : ¬ (k : Int) + 3 < (i : Int) := by omega
          have b3 : (k : Int) < (s.size : Int) := by omega
          have b4 : (k : Int) + 1 < (i : Int) := by omega
          go_wp2
          refine bodyPost_ret (v := .tuple _) (by simp [results, Tryd.results36, go_sem]; rfl) rfl ?_
          exact ⟨rfl, rfl⟩
        · have b1 : (i : Int) ≠ (k : Int) := by omega
          have b2 : ¬ (k : Int) + 3 < (i : Int) := by omega
          have b3 : (k : Int) < (s.size : Int) := by omega
          go_wp2
          refine bodyPost_ret (v := .tuple _) (by simp [results, Tryd.results36, go_sem]; rfl) rfl ?_
          exact ⟨rfl, rfl⟩
        · have b1 : (i : Int) ≠ (k : Int) := by omega
          have b2 : ¬ (k : Int) + 3 < (i : Int) := by omega
          have b3 : (k : Int) < (s.size : Int) := by omega
          have b4 : ¬ (k : Int) + 1 < (i : Int) := by omega
          go_wp2
          refine bodyPost_ret (v := .tuple _) (by simp [results, Tryd.results36, go_sem]; rfl) rfl ?_
          exact ⟨rfl, rfl⟩

theorem figure_ok (s : ByteArray) (k : Nat) (w : World) (hs : s.size ≤ 20000) (hk : k ≤ s.size) (h : numOk s k (runEnd s k)) :
    Calls Tryd.prog 36 #[.string s, .int .i64 k] w fun e w' => e = .returned (.tuple #[.int .i64 (numAt s k), .int .i64 (runEnd s k)]) ∧ w' = w :=
  figure_any s k (runEnd s k) w hs (run_at s k hk) (Or.inl ⟨h, rfl⟩)
theorem figure_no (s : ByteArray) (k : Nat) (w : World) (hs : s.size ≤ 20000) (hk : k ≤ s.size) (h : ¬ numOk s k (runEnd s k)) :
    Calls Tryd.prog 36 #[.string s, .int .i64 k] w fun e w' => e = .returned (.tuple #[.int .i64 0, .int .i64 (-1)]) ∧ w' = w :=
  figure_any s k (runEnd s k) w hs (run_at s k hk) (Or.inr ⟨h, rfl⟩)
end Go.Proofs.YtbaghbodjpehpaaDoor
