/- The document's Digits, and the head of a code. -/
import Derived.Test.YtbaghbodjpehpaaDoorPacked
import Derived.Lib.ItoaNum
namespace Go.Proofs.YtbaghbodjpehpaaDoor
open Go.RowKit Go.Maps
attribute [local go_sem ↓] Go.wp_at_zero Go.wp_at_succ

def strB (l : List UInt8) : ByteArray := ⟨l.toArray⟩
theorem strB_append (a b : List UInt8) : strB a ++ strB b = strB (a ++ b) := by
  apply ByteArray.ext
  simp [strB]
theorem strOfNums_one (x : Int) : strOfNums [x] = strB [UInt8.ofNat x.toNat] := rfl
theorem strOfNums_append (a b : List Int) : strOfNums a ++ strOfNums b = strOfNums (a ++ b) := by
  apply ByteArray.ext
  simp [strOfNums]

theorem conv_one (w : World) (x : Int) : (convert 43 9 (.slice (some ⟨w.heap.size, 0, none⟩) 1 1)).run Tryd.prog (w.alloc (Obj.cells #[.int .u8 x] 5)) = .ok (.string (strOfNums [x])) (w.alloc (Obj.cells #[.int .u8 x] 5)) :=
  run_convert_row (base := 0) (X := [x]) (World.ownsRow_lit (base := 0) (e := 5) (size := 1) w #[.int .u8 x] 1 (Nat.zero_le _) (by decide) rfl) Tryd.underlying43 Tryd.underlying5 Tryd.underlying9

theorem dec_step {n : Nat} (h : ¬ n < 10) : Lib.decDigits n = Lib.decDigits (n / 10) ++ [UInt8.ofNat (48 + n % 10)] := by
  rw [Lib.decDigits, dif_neg h]

set_option maxHeartbeats 400000 in
theorem digits_any (n0 : Nat) (w : World) (hn : n0 ≤ 1000) : Calls Tryd.prog 24 #[.int .i64 n0] w fun e w' => e = .returned (.string (strB (Lib.decDigits n0))) ∧ Below w.heap.size w w' := by
  have hcv := conv_one
  go_enter Tryd.func24, Tryd.ntmps24
  go_wp2
  go_loopw [0, 3] (fun s0 s3 wr => ∃ (n : Nat) (l : List UInt8), l.length + n ≤ 1000 ∧ s0 = .int .i64 n ∧ s3 = .string (strB l) ∧ Lib.decDigits n ++ l = Lib.decDigits n0 ∧ Below w.heap.size w wr) (fun s _ _ => (intOf s).toNat)
  case atStart => exact ⟨n0, [], by simpa using hn, rfl, rfl, by simp, Below.refl _ _⟩
  case round =>
    obtain ⟨n, l, hn1, rfl, rfl, hd, hb⟩ := hrel
    have HD : Hid _ := hd
    clear hd
    have hsz : ¬ 9223372036854775807 < (strOfNums [48 + (n : Int) % 10]).size + (strB l).size := by
      have e : (strB l).size = l.length := by simp [strB, ByteArray.size]
      rw [strOfNums_size, e]
      simp
      omega
    have hstr : strOfNums [48 + (n : Int) % 10] ++ strB l = strB (UInt8.ofNat (48 + n % 10) :: l) := by
      rw [strOfNums_one, strB_append]
      have e : (48 + (n : Int) % 10).toNat = 48 + n % 10 := by omega
      rw [e]
      rfl
    have HS : Hid _ := hstr
    clear hstr
    by_cases h10 : n < 10
    · have hq : ((n : Int) / 10 == 0) = true := by simp; omega
      go_wp2
      go_ret
      refine ⟨?_, below_alloc hb _⟩
      have h := HD.out
      rw [Lib.decDigits_one h10] at h
      rw [← h, HS.out, Nat.mod_eq_of_lt h10]
      rfl
    · have hq : ((n : Int) / 10 == 0) = false := by simp; omega
      go_wp2
      go_roundw
      case rel =>
        refine ⟨n / 10, UInt8.ofNat (48 + n % 10) :: l, by simp; omega, by go_num, by rw [HS.out], ?_, below_alloc hb _⟩
        have h := HD.out
        rw [dec_step h10] at h
        rw [← h]
        simp
      case measure => simp [intOf]; omega
end Go.Proofs.YtbaghbodjpehpaaDoor
