/- The document's Digits, and the head of a code. -/
import Derived.Test.YtbaghbodjpehpabDoorPacked
import Derived.Lib.ItoaNum
namespace Go.Proofs.YtbaghbodjpehpabDoor
open Go.RowKit Go.Maps
attribute [local go_sem ↓] Go.wp_at_zero Go.wp_at_succ

def strB (l : List UInt8) : ByteArray := ⟨l.toArray⟩
theorem strB_append (a b : List UInt8) : strB a ++ strB b = strB (a ++ b) := by
  apply ByteArray.ext
  simp [strB]
theorem strOfNums_one (x : Int) : strOfNums [x] = strB [UInt8.ofNat x.toNat] := rfl
theorem strOfNums_append (a b : List Int) : strOfNums a ++ strOfNums b = strOfNums (a ++ b) := by
  apply ByteArray.ext
  simp [strOfNums]

theorem conv_one (w : World) (x : Int) : (convert 51 9 (.slice (some ⟨w.heap.size, 0, none⟩) 1 1)).run Tryd.prog (w.alloc (Obj.cells #[.int .u8 x] 5)) = .ok (.string (strOfNums [x])) (w.alloc (Obj.cells #[.int .u8 x] 5)) :=
  run_convert_row (base := 0) (X := [x]) (World.ownsRow_lit (base := 0) (e := 5) (size := 1) w #[.int .u8 x] 1 (Nat.zero_le _) (by decide) rfl) Tryd.underlying51 Tryd.underlying5 Tryd.underlying9

theorem dec_step {n : Nat} (h : ¬ n < 10) : Lib.decDigits n = Lib.decDigits (n / 10) ++ [UInt8.ofNat (48 + n % 10)] := by
  rw [Lib.decDigits, dif_neg h]

end Go.Proofs.YtbaghbodjpehpabDoor
