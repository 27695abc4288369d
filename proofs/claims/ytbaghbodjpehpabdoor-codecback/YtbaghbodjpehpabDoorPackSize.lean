/- packSize of package codec. -/
import Derived.Test.YtbaghbodjpehpabDoorDigits
import Derived.Deep.Cut
namespace Go.Proofs.YtbaghbodjpehpabDoor
open Go.RowKit Go.Maps
attribute [local go_sem ↓] Go.wp_at_zero Go.wp_at_succ

def headL (m : Nat) : List Int := [126, 63 + m / 4096, 63 + m / 64 % 64, 63 + m % 64]

theorem and63 : ∀ x : Nat, x < 101 → bits .and .i64 (x : Int) 63 = (x : Int) % 64 := by decide

set_option maxRecDepth 100000 in
set_option maxHeartbeats 1000000 in
theorem packSize_any (m : Nat) (w : World) (hm : m ≤ 100) : Calls Tryd.prog 11 #[.int .i64 m] w fun e w' => e = .returned (.string (strOfNums (headB m))) ∧ Below w.heap.size w w' := by
  obtain ⟨i1, hi1, hy0, hy1, hy2⟩ := info_parts Tryd.info5
  by_cases h62 : m ≤ 62
  · have h63 : (m : Int) < 63 := by omega
    have hcv := conv_one
    go_enter Tryd.func11, Tryd.ntmps11
    go_wp2
    go_ret
    refine ⟨?_, below_alloc (Below.refl _ _) _⟩
    rw [headB, if_pos h62, Int.add_comm]
    rfl
  · have h63 : ¬ (m : Int) < 63 := by omega
    have hhd : headB m = headL m := by rw [headB, if_neg h62, headL]
    rw [hhd]
    go_enter Tryd.func11, Tryd.ntmps11
    go_wp2
    go_loopw [3, 4] (fun s3 s4 wr => ∃ c : Nat, c ≤ 3 ∧ s4 = .int .i64 (2 - c) ∧ Below w.heap.size w wr ∧ wr.ownsRow w.heap.size 5 1 s3 (c + 1) (u8s ((headL m).take (c + 1)))) (fun _ s _ => (intOf s + 1).toNat)
    case atStart => exact ⟨0, by omega, rfl, below_alloc (Below.refl _ _) _, World.ownsRow_lit (base := w.heap.size) (e := 5) (size := 1) w #[.int .u8 126] 1 (Nat.le_refl _) (by decide) rfl⟩
    case round =>
      obtain ⟨c, hc, rfl, hb, hown⟩ := hrel
      obtain ⟨oo, oc, rfl⟩ := form_row hown
      match c, hc with
      | 0, _ =>
        have hz := hb.size
        have hbt := and63 (m / 4096) (by omega)
        push_cast at hbt
        go_wp2_with (at_builtin; refine wpList_append_own _ rfl _ _ 51 rfl w.heap.size 5 i1 (.int .u8 0) 1 1 Tryd.underlying51 hi1 hy0 hy1 hy2 rfl (by decide) _ _ _ rfl (hown.alloc _) ⟨wr.heap.size, 0, none⟩ 1 1 [.int .u8 (63 + (m : Int) / 4096 % 64)] rfl rfl ?n10 ?n20 ?n30 ?n40 ?n50 ?_)
        case n10 =>
          intro j x hj
          match j, hj with
          | 0, hj => simp at hj; subst hj; simp [Addr.add]; omega
        case n20 => first | rfl | (intro x hx; simp at hx; subst hx; rfl)
        case n30 => unfold maxLen; omega
        case n40 => omega
        case n50 => simp; omega
        intro v' w3 hown' hgrow _
        rw [show (m : Int) / 4096 % 64 = m / 4096 by omega] at hown'
        obtain ⟨vo', vc', rfl⟩ := form_row hown'
        have hb3 := below_row hb hz _ hgrow (fun q hq => (hown.lt q hq).1)
        go_wp2
        go_roundw
        case rel => exact ⟨1, by omega, by go_num, hb3, by simpa [headL] using hown'⟩
        case measure => simp [intOf]
      | 1, _ =>
        have hz := hb.size
        have hbt := and63 (m / 64) (by omega)
        push_cast at hbt
        go_wp2_with (at_builtin; refine wpList_append_own _ rfl _ _ 51 rfl w.heap.size 5 i1 (.int .u8 0) 1 1 Tryd.underlying51 hi1 hy0 hy1 hy2 rfl (by decide) _ _ _ rfl (hown.alloc _) ⟨wr.heap.size, 0, none⟩ 1 1 [.int .u8 (63 + (m : Int) / 64 % 64)] rfl rfl ?n11 ?n21 ?n31 ?n41 ?n51 ?_)
        case n11 =>
          intro j x hj
          match j, hj with
          | 0, hj => simp at hj; subst hj; simp [Addr.add]; omega
        case n21 => first | rfl | (intro x hx; simp at hx; subst hx; rfl)
        case n31 => unfold maxLen; omega
        case n41 => omega
        case n51 => simp; omega
        intro v' w3 hown' hgrow _
        obtain ⟨vo', vc', rfl⟩ := form_row hown'
        have hb3 := below_row hb hz _ hgrow (fun q hq => (hown.lt q hq).1)
        go_wp2
        go_roundw
        case rel => exact ⟨2, by omega, by go_num, hb3, by simpa [headL] using hown'⟩
        case measure => simp [intOf]
      | 2, _ =>
        have hz := hb.size
        have hbt := and63 (m) (by omega)
        push_cast at hbt
        go_wp2_with (at_builtin; refine wpList_append_own _ rfl _ _ 51 rfl w.heap.size 5 i1 (.int .u8 0) 1 1 Tryd.underlying51 hi1 hy0 hy1 hy2 rfl (by decide) _ _ _ rfl (hown.alloc _) ⟨wr.heap.size, 0, none⟩ 1 1 [.int .u8 (63 + (m : Int) % 64)] rfl rfl ?n12 ?n22 ?n32 ?n42 ?n52 ?_)
        case n12 =>
          intro j x hj
          match j, hj with
          | 0, hj => simp at hj; subst hj; simp [Addr.add]; omega
        case n22 => first | rfl | (intro x hx; simp at hx; subst hx; rfl)
        case n32 => unfold maxLen; omega
        case n42 => omega
        case n52 => simp; omega
        intro v' w3 hown' hgrow _
        obtain ⟨vo', vc', rfl⟩ := form_row hown'
        have hb3 := below_row hb hz _ hgrow (fun q hq => (hown.lt q hq).1)
        go_wp2
        go_roundw
        case rel => exact ⟨3, by omega, by go_num, hb3, by simpa [headL] using hown'⟩
        case measure => simp [intOf]
      | 3, _ =>
        have hcv := run_convert_row (X := headL m) (by simpa [headL] using hown) Tryd.underlying51 Tryd.underlying5 Tryd.underlying9
        go_wp2
        go_ret
        exact ⟨rfl, hb⟩
end Go.Proofs.YtbaghbodjpehpabDoor
