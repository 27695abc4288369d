/- strings.Clone answers the same text. -/
import Derived.Shelf.Pu.Clone
import Derived.Test.YtfdlndljpmamgaaPairW
namespace Go.Proofs
open Go.Shelf
set_option maxRecDepth 100000
def Try.clone48_ren : Go.Shelf.Ren := ⟨fun | 25 => 48 | n => n, fun | 37 => 109 | 47 => 110 | n => n, fun | n => n⟩
theorem Try.clone48 : Go.Proofs.LaysPu.n25 Try.prog Try.clone48_ren := {
  mixed := by kernel_rfl
  f25 := Try.func48.trans (congrArg some (by kernel_rfl))
  t0 := Try.underlying0
  a0 := Try.isAgg0
  z0 := Try.sizeOf0
  v0 := Try.zeroValue0
  i0 := by kernel_rfl
  t3 := Try.underlying3
  a3 := Try.isAgg3
  z3 := Try.sizeOf3
  v3 := Try.zeroValue3
  i3 := by kernel_rfl
  t4 := Try.underlying4
  a4 := Try.isAgg4
  z4 := Try.sizeOf4
  v4 := Try.zeroValue4
  i4 := by kernel_rfl
  t5 := Try.underlying5
  a5 := Try.isAgg5
  z5 := Try.sizeOf5
  v5 := Try.zeroValue5
  i5 := by kernel_rfl
  t9 := Try.underlying9
  a9 := Try.isAgg9
  z9 := Try.sizeOf9
  v9 := Try.zeroValue9
  i9 := by kernel_rfl
  t37 := Try.underlying109
  a37 := Try.isAgg109
  z37 := Try.sizeOf109
  v37 := Try.zeroValue109
  i37 := by kernel_rfl
  t47 := Try.underlying110
  a47 := Try.isAgg110
  z47 := Try.sizeOf110
  v47 := Try.zeroValue110
  i47 := by kernel_rfl }
end Go.Proofs
namespace Go.Proofs.Ytfdlndljpmamgaa
open Go.RowKit Go.Maps Go.Shelf
theorem clone_str (s : ByteArray) (w : World) (hs : s.size ≤ 100) : Calls Try.prog 23 #[.string s] w fun e w' => e = .returned (.string s) ∧ Below w.heap.size w w' := by
  have H : Hid (∀ w : World, Calls Try.prog 48 #[.string s] w fun e w' => e = .returned (.string s) ∧ Below w.heap.size w w') := fun w => AnyPu.stringslite_Clone Try.clone48 s w (by omega)
  go_enter Try.func23, Try.ntmps23
  go_wp2_with (go_at_call 48; refine (H.out _).mono ?_; rintro e w1 ⟨rfl, hb⟩)
  go_ret
  exact ⟨rfl, hb⟩
end Go.Proofs.Ytfdlndljpmamgaa
