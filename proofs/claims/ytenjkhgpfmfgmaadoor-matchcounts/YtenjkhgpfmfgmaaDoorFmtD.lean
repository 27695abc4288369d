/- The document's Digits. FormatUint at base ten. -/
import Derived.Test.YtenjkhgpfmfgmaaDoorNuP
import Derived.Lib.ItoaNum
import Derived.Lib.ItoaMem
import Derived.Lib.AppendIntMem
import Derived.Lib.OwnBridge
import Derived.Test.YtenjkhgpfmfgmaaDoorCntP
namespace Go.Proofs.YtenjkhgpfmfgmaaDoor
open Go.RowKit Go.Maps
attribute [local go_sem ↓] Go.wp_at_zero Go.wp_at_succ

abbrev u8s (L : List Int) : List Value := L.map (Value.int .u8)
theorem run_convert_row {w : World} {base : Nat} {v : Value} {X : List Int} (h : w.ownsRow base 5 1 v X.length (u8s X)) {src dst : TypeId} (hs : Tryd.prog.underlying src = some (.slice 5)) (he : Tryd.prog.underlying 5 = some (.int .u8)) (hd : Tryd.prog.underlying dst = some .string) :
    (convert src dst v).run Tryd.prog w = .ok (.string (strOfNums X)) w := by
  rcases h.2 with ⟨rfl, e⟩ | ⟨g, cap, cur, rfl, hx⟩
  · rw [run_convert_bytes_nil w src 5 hs he 0 0 dst hd]
    have : X = [] := List.length_eq_zero_iff.1 e
    subst this
    rfl
  · refine run_convert_bytes_arg w src 5 hs he g 0 X.length cap X rfl (fun i hi => ?_) dst hd
    have := h.cellAt i (by omega)
    rw [Nat.zero_add, this, List.getElem?_map, List.getElem?_eq_getElem hi]
    simp [List.getD_eq_getElem?_getD, List.getElem?_eq_getElem hi]

def strB (l : List UInt8) : ByteArray := ⟨l.toArray⟩
theorem strB_append (a b : List UInt8) : strB a ++ strB b = strB (a ++ b) := by
  apply ByteArray.ext
  simp [strB]
theorem strOfNums_one (x : Int) : strOfNums [x] = strB [UInt8.ofNat x.toNat] := rfl
theorem strOfNums_append (a b : List Int) : strOfNums a ++ strOfNums b = strOfNums (a ++ b) := by
  apply ByteArray.ext
  simp [strOfNums]

theorem conv_one (w : World) (x : Int) : (convert 73 9 (.slice (some ⟨w.heap.size, 0, none⟩) 1 1)).run Tryd.prog (w.alloc (Obj.cells #[.int .u8 x] 5)) = .ok (.string (strOfNums [x])) (w.alloc (Obj.cells #[.int .u8 x] 5)) :=
  run_convert_row (base := 0) (X := [x]) (World.ownsRow_lit (base := 0) (e := 5) (size := 1) w #[.int .u8 x] 1 (Nat.zero_le _) (by decide) rfl) Tryd.underlying73 Tryd.underlying5 Tryd.underlying9

theorem dec_step {n : Nat} (h : ¬ n < 10) : Lib.decDigits n = Lib.decDigits (n / 10) ++ [UInt8.ofNat (48 + n % 10)] := by
  rw [Lib.decDigits, dif_neg h]

set_option maxHeartbeats 400000 in
theorem digits_any (n0 : Nat) (w : World) (hn : n0 ≤ 200000) : Calls Tryd.prog 23 #[.int .i64 n0] w fun e w' => e = .returned (.string (strB (Lib.decDigits n0))) ∧ Below w.heap.size w w' := by
  have hcv := conv_one
  go_enter Tryd.func23, Tryd.ntmps23
  go_wp2
  go_loopw [0, 3] (fun s0 s3 wr => ∃ (n : Nat) (l : List UInt8), l.length + n ≤ 200000 ∧ s0 = .int .i64 n ∧ s3 = .string (strB l) ∧ Lib.decDigits n ++ l = Lib.decDigits n0 ∧ Below w.heap.size w wr) (fun s _ _ => (numOf s).toNat)
  case atStart => exact ⟨n0, [], by simpa using hn, rfl, rfl, by simp, Below.refl _ _⟩
  case round =>
    obtain ⟨n, l, hn1, rfl, rfl, hd, hb⟩ := hrel
    have HD : Hid _ := hd
    clear hd
    have hsz : ¬ 9223372036854775807 < (strOfNums [48 + (n : Int) % 10]).size + (strB l).size := by
      have e : (strB l).size = l.length := by simp [strB, ByteArray.size]
      rw [strOfNums_size, e]
      simp
      omega
    have hstr : strOfNums [48 + (n : Int) % 10] ++ strB l = strB (UInt8.ofNat (48 + n % 10) :: l) := by
      rw [strOfNums_one, strB_append]
      have e : (48 + (n : Int) % 10).toNat = 48 + n % 10 := by omega
      rw [e]
      rfl
    have HS : Hid _ := hstr
    clear hstr
    by_cases h10 : n < 10
    · have hq : ((n : Int) / 10 == 0) = true := by simp; omega
      go_wp2
      go_ret
      refine ⟨?_, below_alloc hb _⟩
      have h := HD.out
      rw [Lib.decDigits_one h10] at h
      rw [← h, HS.out, Nat.mod_eq_of_lt h10]
      rfl
    · have hq : ((n : Int) / 10 == 0) = false := by simp; omega
      go_wp2
      go_roundw
      case rel =>
        refine ⟨n / 10, UInt8.ofNat (48 + n % 10) :: l, by simp; omega, by go_num, by rw [HS.out], ?_, below_alloc hb _⟩
        have h := HD.out
        rw [dec_step h10] at h
        rw [← h]
        simp
      case measure => simp [numOf]; omega
end Go.Proofs.YtenjkhgpfmfgmaaDoor

namespace Go.Proofs.YtenjkhgpfmfgmaaDoor
open Go.RowKit Go.Maps Go.Sort Go.Lib Go.Shelf
attribute [local go_sem ↓] Go.wp_at_zero Go.wp_at_succ

theorem holds_zero0 (w : World) (T : TypeId) (nd : Nat) (hs : nd ≤ 24) : Holds (fun (b : UInt8) => Value.int .u8 (b.toNat : Int)) (w.alloc (.cells zeros24 T)) w.heap.size 0 (Array.replicate nd (0 : UInt8)) := fun j hj => by
  have hj' : j < nd := by simpa using hj
  refine ⟨?_, World.frozen?_alloc_new _ _ _ _⟩
  rw [World.cell?_alloc_new, zeros24_at _ (by omega), getElem!_pos _ j hj]
  simp

theorem fin_pos0 (w : World) (o : Obj) (dk : Array UInt8) (k : Nat) : ∃ os, (putRow (fun (b : UInt8) => Value.int .u8 (b.toNat : Int)) (w.alloc o) w.heap.size 0 dk).drewN k = grow (w.drewN k) os := by
  rw [alloc_eq_grow]
  obtain ⟨os', _, e⟩ := putRow_grow_new (fun (b : UInt8) => Value.int .u8 (b.toNat : Int)) w #[o] w.heap.size 0 dk (Nat.le_refl _)
  exact ⟨os', by rw [e]; rfl⟩

set_option maxHeartbeats 6400000 in
set_option maxRecDepth 100000 in
theorem fmtU_call (u : Nat) (hu64 : u < 18446744073709551616) (w : World) (htab : Lib.TabIs Tryd.prog w "internal/strconv.uint64pow10" .u64 Lib.pow10Tab) :
    Calls Tryd.prog 48 #[.int .u64 (u : Int), .int .i64 10] w fun e w' => e = .returned (.string ⟨(Lib.decDigits u).toArray⟩) ∧ Below w.heap.size w w' := by
  by_cases hs : u < 100
  · have h1 : (u : Int) < 100 := by omega
    have hsm := fun W => Any.internal_strconv_small Tryd.lays283 u hs W
    have HSM : Hid (∀ W, Calls Tryd.prog 76 #[.int .i64 (u : Int)] W fun e w' => e = .returned (.string ⟨(Lib.decDigits u).toArray⟩) ∧ w' = W) := hsm
    clear hsm htab
    go_enter Tryd.func48, Tryd.ntmps48
    go_wp2_with (first | (go_at_call 76; refine Calls.mono (HSM.out _) ?_; rintro e w' ⟨rfl, rfl⟩) | go_in)
    go_ret
    exact ⟨rfl, Below.refl _ _⟩
  · have h1 : ¬ (u : Int) < 100 := by omega
    have hu1 : 1 ≤ u := by omega
    have hnd20 : Lib.nDigits u ≤ 20 := by have := Lib.numDigits_eq u hu1 hu64; split at this <;> omega
    have hal : Tryd.prog.arrayLen 120 = 24 := by simp [Program.arrayLen, Tryd.underlying120]
    have hsl : ∀ W, (Instr.sliceAt 120 (.pointer (some ⟨w.heap.size, 0, none⟩)) none (some (.int .i64 (Lib.nDigits u : Int))) none).run Tryd.prog W = .ok (.slice (some ⟨w.heap.size, 0, none⟩) (Lib.nDigits u) 24) W := fun W => by
      rw [run_sliceAt_array_h W 120 ⟨w.heap.size, 0, none⟩ (by simp [Program.arrayLen, Program.elem, Tryd.underlying120]) .i64 (Lib.nDigits u : Int) (by omega) (by rw [hal]; omega)]
      go_simp
    have hH0 := holds_zero0 w 120 (Lib.nDigits u) (by omega)
    have hfmt := Any.internal_strconv_formatBase10 Tryd.lays285 w.heap.size 0 24 u (Array.replicate (Lib.nDigits u) 0) (w.alloc (.cells Lib.zeros24 120)) hH0 (by rw [Array.size_replicate]; exact Lib.lt_pow_nDigits u) hu64 (by rw [Array.size_replicate]; omega)
    rw [Array.size_replicate] at hfmt
    have hnum := Any.internal_strconv_numDigits Tryd.laysM284 u hu1 hu64 (w.alloc (.cells Lib.zeros24 120)) (Lib.tabIs_alloc htab _)
    have HNU : Hid (Calls Tryd.prog 77 #[.int .u64 (u : Int)] (w.alloc (.cells Lib.zeros24 120)) fun e w' => e = .returned (.int .i64 (Lib.nDigits u : Int)) ∧ w' = w.alloc (.cells Lib.zeros24 120)) := hnum
    have HFM : Hid (Calls Tryd.prog 78 #[.slice (some ⟨w.heap.size, 0, none⟩) (Lib.nDigits u) 24, .int .u64 (u : Int)] (w.alloc (.cells Lib.zeros24 120)) fun e w' => e = .returned (.tuple #[]) ∧ ∃ (n v' : Nat) (dk : Array UInt8), w' = (putRow (fun (b : UInt8) => Value.int .u8 (b.toNat : Int)) (w.alloc (.cells Lib.zeros24 120)) w.heap.size 0 dk).drewN n ∧ FmtInv (Lib.nDigits u) u 0 v' dk) := hfmt
    have HH0 : Hid _ := hH0
    clear hH0 hal hfmt hnum htab
    go_enter Tryd.func48, Tryd.ntmps48
    go_upto_region 7 with (first
      | (go_at_call 77; refine Calls.mono HNU.out ?_; rintro e w' ⟨rfl, rfl⟩)
      | (go_at_call 78; refine Calls.mono HFM.out ?_; rintro e w' ⟨rfl, k, v', dk, rfl, hF⟩)
      | go_in)
    have hcv : (convert 73 9 (.slice (some ⟨w.heap.size, 0, none⟩) (Lib.nDigits u) 24)).run Tryd.prog ((putRow (fun (b : UInt8) => Value.int .u8 (b.toNat : Int)) (w.alloc (.cells Lib.zeros24 120)) w.heap.size 0 dk).drewN k) = .ok (.string ⟨(Lib.decDigits u).toArray⟩) ((putRow (fun (b : UInt8) => Value.int .u8 (b.toNat : Int)) (w.alloc (.cells Lib.zeros24 120)) w.heap.size 0 dk).drewN k) := by
      have h := run_convert_bytes_back (P := Tryd.prog) ((putRow (fun (b : UInt8) => Value.int .u8 (b.toNat : Int)) (w.alloc (.cells Lib.zeros24 120)) w.heap.size 0 dk).drewN k) 73 9 5 ⟨w.heap.size, 0, none⟩ 24 (Lib.decDigits u) Tryd.underlying73 Tryd.underlying5 Tryd.underlying9 (fun j hj => by
        rw [Lib.row_is_numeral hF j hj, Lib.add_plain, World.cell?_drewN]
        exact cell?_putRow (fun (b : UInt8) => Value.int .u8 (b.toNat : Int)) _ w.heap.size 0 _ dk HH0.out (by rw [hF.size, Array.size_replicate]) j (by rw [hF.size]; rw [Lib.decDigits_length] at hj; exact hj))
      rw [Lib.decDigits_length] at h
      exact h
    have hB : Below w.heap.size w ((putRow (fun (b : UInt8) => Value.int .u8 (b.toNat : Int)) (w.alloc (.cells Lib.zeros24 120)) w.heap.size 0 dk).drewN k) := by
      obtain ⟨os, e⟩ := fin_pos0 w (.cells Lib.zeros24 120) dk k
      rw [e]
      exact Lib.below_grow _ w (Nat.le_refl _) k os
    clear hF
    generalize (putRow (fun (b : UInt8) => Value.int .u8 (b.toNat : Int)) (w.alloc (.cells Lib.zeros24 120)) w.heap.size 0 dk).drewN k = W at hcv hB ⊢
    go_wp2
    go_ret
    exact ⟨rfl, hB⟩
theorem fmtUint_call (u : Nat) (hu64 : u < 18446744073709551616) (w : World) (htab : Lib.TabIs Tryd.prog w "internal/strconv.uint64pow10" .u64 Lib.pow10Tab) :
    Calls Tryd.prog 36 #[.int .u64 (u : Int), .int .i64 10] w fun e w' => e = .returned (.string (strB (Lib.decDigits u))) ∧ Below w.heap.size w w' := by
  have HF : Hid _ := fmtU_call u hu64 w htab
  go_enter Tryd.func36, Tryd.ntmps36
  go_wp2_with (first | (go_at_call 48; refine Calls.mono HF.out ?_; rintro e w' ⟨rfl, hb⟩) | go_in)
  go_ret
  exact ⟨rfl, hb⟩
end Go.Proofs.YtenjkhgpfmfgmaaDoor
