/- Names of nodes: isLetter, isDigit, isName, and the document's HouseName. -/
import Derived.Test.YtfdlndljpmamgaaRegX
namespace Go.Proofs.Ytfdlndljpmamgaa
set_option maxRecDepth 8000
open Go.RowKit Go.Maps
attribute [local go_sem ↓] Go.wp_at_zero Go.wp_at_succ
def byteAt (s : ByteArray) (i : Nat) : Nat := (s.data.toList.getD i 0).toNat
theorem byteAt_get (s : ByteArray) (i : Nat) (h : i < s.size) : s[i].toNat = byteAt s i := by
  unfold byteAt
  rw [List.getD_eq_getElem?_getD]
  have : s.data.toList[i]? = some s[i] := by
    rw [List.getElem?_eq_getElem (by rw [Array.length_toList]; exact h)]
    rfl
  rw [this]
  rfl
def letB (x : Nat) : Bool := decide (97 ≤ x) && decide (x ≤ 122)
def digB (x : Nat) : Bool := decide (48 ≤ x) && decide (x ≤ 57)
def okB (s : ByteArray) (i : Nat) : Bool := letB (byteAt s i) || (digB (byteAt s i) && decide (0 < i))
def nameTo (s : ByteArray) (k : Nat) : Bool := (List.range k).all (okB s)
/-- Is a text a name? -/
def nameB (s : ByteArray) : Bool := decide (0 < s.size) && decide (s.size ≤ 20) && nameTo s s.size
theorem nameTo_succ (s : ByteArray) (k : Nat) : nameTo s (k + 1) = (nameTo s k && okB s k) := by
  simp [nameTo, List.range_succ]
theorem nameTo_bad {s : ByteArray} {k n : Nat} (h : okB s k = false) (hk : k < n) : nameTo s n = false :=
  List.all_eq_false.2 ⟨k, List.mem_range.2 hk, by simp [h]⟩
theorem letter_call (X : Nat) (w : World) : Calls Try.prog 46 #[.int .u8 (X : Int)] w fun e w' => e = .returned (.bool (letB X)) ∧ w' = w := by
  have e : letB X = (decide (97 ≤ (X : Int)) && decide ((X : Int) ≤ 122)) := by
    unfold letB
    rw [Bool.eq_iff_iff]
    simp
    omega
  rw [e]
  by_cases h1 : 97 ≤ X
  · have g1 : decide (97 ≤ (X : Int)) = true := by simp; omega
    rw [g1]
    go_enter Try.func46, Try.ntmps46
    go_wp2
    go_ret
    exact ⟨by simp, rfl⟩
  · have g1 : decide (97 ≤ (X : Int)) = false := by simp; omega
    rw [g1]
    go_enter Try.func46, Try.ntmps46
    go_wp2
    go_ret
    exact ⟨by simp, rfl⟩
theorem digit_call (X : Nat) (w : World) : Calls Try.prog 47 #[.int .u8 (X : Int)] w fun e w' => e = .returned (.bool (digB X)) ∧ w' = w := by
  have e : digB X = (decide (48 ≤ (X : Int)) && decide ((X : Int) ≤ 57)) := by
    unfold digB
    rw [Bool.eq_iff_iff]
    simp
    omega
  rw [e]
  by_cases h1 : 48 ≤ X
  · have g1 : decide (48 ≤ (X : Int)) = true := by simp; omega
    rw [g1]
    go_enter Try.func47, Try.ntmps47
    go_wp2
    go_ret
    exact ⟨by simp, rfl⟩
  · have g1 : decide (48 ≤ (X : Int)) = false := by simp; omega
    rw [g1]
    go_enter Try.func47, Try.ntmps47
    go_wp2
    go_ret
    exact ⟨by simp, rfl⟩
set_option maxHeartbeats 1000000 in
theorem name_call (s : ByteArray) (w : World) : Calls Try.prog 22 #[.string s] w fun e w' => e = .returned (.bool (nameB s)) ∧ w' = w := by
  by_cases h0 : s.size = 0
  · have e : nameB s = false := by simp [nameB, h0]
    rw [e]
    have hz : ((s.size : Int) == 0) = true := by simp [h0]
    go_enter Try.func22, Try.ntmps22
    go_wp2
    go_ret
    exact ⟨rfl, rfl⟩
  · have hz : ((s.size : Int) == 0) = false := by simp [h0]
    by_cases h1 : s.size ≤ 20
    · have k1 : (0 : Int) < (s.size : Int) := by omega
      have hX := byteAt_get s 0 (by omega)
      have e0 : nameB s = nameTo s s.size := by simp [nameB, h1]; omega
      rw [e0]
      obtain ⟨X, hx⟩ : ∃ X, byteAt s 0 = X := ⟨_, rfl⟩
      rw [hx] at hX
      have L1 : Hid _ := letter_call X
      by_cases hl : letB X = true
      · have hs0 : okB s 0 = true := by simp [okB, hx, hl]
        have HS : Hid _ := hs0
        clear hs0
        have HL : Hid _ := hl
        clear hl hx
        go_enter Try.func22, Try.ntmps22
        go_wp2_with (first | (go_at_call 46; refine (L1.out _).mono ?_; (rw [HL.out]; rintro e w' ⟨rfl, rfl⟩)) | go_in)
        go_loopw [20] (fun i wr => ∃ k : Nat, k ≤ s.size ∧ i = .int .i64 (k : Int) ∧ nameTo s k = true ∧ wr = w') (fun i _ => s.size - (numOf i).toNat)
        case atStart => exact ⟨0, Nat.zero_le _, rfl, rfl, by first | rfl | trivial⟩
        case round =>
          obtain ⟨k, hk, rfl, hnt, rfl⟩ := hrel
          have HN : Hid _ := hnt
          clear hnt
          by_cases hlt : k < s.size
          · have i1 : (0 : Int) ≤ (k : Int) := by omega
            have i2 : (k : Int) < (s.size : Int) := by omega
            have hY := byteAt_get s k hlt
            obtain ⟨Y, hy⟩ : ∃ Y, byteAt s k = Y := ⟨_, rfl⟩
            rw [hy] at hY
            have HY : Hid _ := hy
            clear hy
            have L2 : Hid _ := letter_call Y
            have L3 : Hid _ := digit_call Y
            by_cases hl2 : letB Y = true
            · have HL2 : Hid _ := hl2
              clear hl2
              go_wp2_with (first | (go_at_call 46; refine (L2.out _).mono ?_; (rw [HL2.out]; rintro e w' ⟨rfl, rfl⟩)) | go_in)
              go_roundw
              case rel => exact ⟨k + 1, by omega, by go_num, by rw [nameTo_succ, HN.out]; simp [okB, HY.out, HL2.out], by first | rfl | trivial⟩
              case measure => simp [numOf]; omega
            · have hl2 : letB Y = false := by simpa using hl2
              have HL2 : Hid _ := hl2
              clear hl2
              by_cases hd2 : digB Y = true
              · have HD2 : Hid _ := hd2
                clear hd2
                go_wp2_with (first | (go_at_call 46; refine (L2.out _).mono ?_; (rw [HL2.out]; rintro e w' ⟨rfl, rfl⟩)) | (go_at_call 47; refine (L3.out _).mono ?_; (rw [HD2.out]; rintro e w' ⟨rfl, rfl⟩)) | go_in)
                go_roundw
                case rel =>
                  refine ⟨k + 1, by omega, by go_num, ?_, by first | rfl | trivial⟩
                  rw [nameTo_succ, HN.out]
                  by_cases hk0 : k = 0
                  · subst hk0; simpa using HS.out
                  · simp [okB, HY.out, HD2.out]; exact Or.inr (by omega)
                case measure => simp [numOf]; omega
              · have hd2 : digB Y = false := by simpa using hd2
                have HD2 : Hid _ := hd2
                clear hd2
                go_wp2_with (first | (go_at_call 46; refine (L2.out _).mono ?_; (rw [HL2.out]; rintro e w' ⟨rfl, rfl⟩)) | (go_at_call 47; refine (L3.out _).mono ?_; (rw [HD2.out]; rintro e w' ⟨rfl, rfl⟩)) | go_in)
                go_ret
                exact ⟨by rw [nameTo_bad (k := k) (by simp [okB, HY.out, HL2.out, HD2.out]) hlt]; rfl, rfl⟩
          · have hke : k = s.size := by omega
            subst hke
            go_wp2
            go_ret
            exact ⟨by rw [HN.out]; rfl, rfl⟩
      · have hl : letB X = false := by simpa using hl
        have hs0 : nameTo s s.size = false := nameTo_bad (k := 0) (by simp [okB, hx, hl]) (by omega)
        have HS : Hid _ := hs0
        clear hs0
        have HL : Hid _ := hl
        clear hl hx
        go_enter Try.func22, Try.ntmps22
        go_wp2_with (first | (go_at_call 46; refine (L1.out _).mono ?_; (rw [HL.out]; rintro e w' ⟨rfl, rfl⟩)) | go_in)
        go_ret
        exact ⟨by rw [HS.out]; rfl, rfl⟩
    · have e : nameB s = false := by simp [nameB, h1]
      rw [e]
      have k1 : (20 : Int) < (s.size : Int) := by omega
      go_enter Try.func22, Try.ntmps22
      go_wp2
      go_ret
      exact ⟨rfl, rfl⟩
set_option maxHeartbeats 1000000 in
theorem house_call (s : ByteArray) (w : World) : Calls Try.prog 28 #[.string s] w fun e w' => e = .returned (.bool (nameB s)) ∧ w' = w := by
  by_cases h0 : s.size = 0
  · have e : nameB s = false := by simp [nameB, h0]
    rw [e]
    have hz : ((s.size : Int) == 0) = true := by simp [h0]
    go_enter Try.func28, Try.ntmps28
    go_wp2
    go_ret
    exact ⟨rfl, rfl⟩
  · have hz : ((s.size : Int) == 0) = false := by simp [h0]
    by_cases h1 : s.size ≤ 20
    · have e0 : nameB s = nameTo s s.size := by simp [nameB, h1]; omega
      rw [e0]
      go_enter Try.func28, Try.ntmps28
      go_wp2
      go_loopw [3] (fun i wr => ∃ k : Nat, k ≤ s.size ∧ i = .int .i64 (k : Int) ∧ nameTo s k = true ∧ wr = w) (fun i _ => s.size - (numOf i).toNat)
      case atStart => exact ⟨0, Nat.zero_le _, rfl, rfl, by first | rfl | trivial⟩
      case round =>
        obtain ⟨k, hk, rfl, hnt, rfl⟩ := hrel
        have HN : Hid _ := hnt
        clear hnt
        by_cases hlt : k < s.size
        · have i1 : (0 : Int) ≤ (k : Int) := by omega
          have i2 : (k : Int) < (s.size : Int) := by omega
          have hY := byteAt_get s k hlt
          obtain ⟨Y, hy⟩ : ∃ Y, byteAt s k = Y := ⟨_, rfl⟩
          rw [hy] at hY
          have HY : Hid _ := hy
          clear hy
          have hnot : ∀ (x : Bool) (w : World), (Op.unary .not (.bool x)).run Try.prog w = .ok (.bool (!x)) w := fun _ _ => rfl
          by_cases a1 : 97 ≤ Y <;> by_cases a2 : Y ≤ 122 <;> by_cases a3 : 48 ≤ Y <;> by_cases a4 : Y ≤ 57 <;> by_cases a5 : 0 < k
          all_goals first | (exfalso; omega) | skip
          all_goals
            have b1 : (97 ≤ (Y : Int)) ↔ 97 ≤ Y := by omega
            have b2 : ((Y : Int) ≤ 122) ↔ Y ≤ 122 := by omega
            have b3 : (48 ≤ (Y : Int)) ↔ 48 ≤ Y := by omega
            have b4 : ((Y : Int) ≤ 57) ↔ Y ≤ 57 := by omega
            have b5 : ((0 : Int) < (k : Int)) ↔ 0 < k := by omega
            simp only [a1, a2, a3, a4, a5, iff_true, iff_false] at b1 b2 b3 b4 b5
            go_wp2
            first
              | (go_roundw
                 case rel => exact ⟨k + 1, by omega, by go_num, by rw [nameTo_succ, HN.out]; simp [okB, HY.out, letB, digB, a1, a2, a3, a4, a5], by first | rfl | trivial⟩
                 case measure => simp [numOf]; omega)
              | (go_ret
                 exact ⟨by rw [nameTo_bad (k := k) (by simp [okB, HY.out, letB, digB]; omega) hlt]; rfl, rfl⟩)
        · have hke : k = s.size := by omega
          subst hke
          go_wp2
          go_ret
          exact ⟨by rw [HN.out]; rfl, rfl⟩
    · have e : nameB s = false := by simp [nameB, h1]
      rw [e]
      have k1 : (20 : Int) < (s.size : Int) := by omega
      go_enter Try.func28, Try.ntmps28
      go_wp2
      go_ret
      exact ⟨rfl, rfl⟩
end Go.Proofs.Ytfdlndljpmamgaa
