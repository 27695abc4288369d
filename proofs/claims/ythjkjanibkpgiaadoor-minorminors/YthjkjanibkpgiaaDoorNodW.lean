/- set.nodes. -/
import Derived.Test.YthjkjanibkpgiaaDoorSizW
import Derived.Test.YthjkjanibkpgiaaDoorFitC
namespace Go.Proofs.YthjkjanibkpgiaaDoor
set_option maxRecDepth 8000
open Go.RowKit Go.Maps
attribute [local go_sem ↓] Go.wp_at_zero Go.wp_at_succ
theorem bl_zero : bl 0 = [] := by
  unfold bl
  rw [List.filter_eq_nil_iff]
  intro x _
  rw [Nat.zero_testBit]
  decide
/-- The least node, then the others. -/
theorem bl_step {r r2 u : Nat} (hu : u < 32) (h1 : r.testBit u = true) (h2 : r2.testBit = outB r.testBit u) (h3 : ∀ x, x < u → r.testBit x = false) : bl r = u :: bl r2 := by
  have h32 : 32 = u + ((31 - u) + 1) := by omega
  have hn : ∀ x, x ≠ u → r2.testBit x = r.testBit x := fun x hx => by
    rw [h2]
    unfold outB
    have : (x == u) = false := by simpa using hx
    rw [this]
    simp
  have hu2 : r2.testBit u = false := by rw [h2]; unfold outB; simp
  unfold bl
  rw [h32, List.range_add, List.filter_append, List.filter_append, List.range_succ_eq_map, List.map_cons, Nat.add_zero]
  have e1 : (List.range u).filter r.testBit = [] := List.filter_eq_nil_iff.2 fun x hx => by rw [h3 x (List.mem_range.1 hx)]; decide
  have e2 : (List.range u).filter r2.testBit = [] := List.filter_eq_nil_iff.2 fun x hx => by
    have := List.mem_range.1 hx
    rw [hn x (by omega), h3 x this]; decide
  rw [e1, e2, List.nil_append, List.nil_append, List.filter_cons_of_pos h1, List.filter_cons_of_neg (by rw [hu2]; decide)]
  congr 1
  refine List.filter_congr fun x hx => ?_
  obtain ⟨y, hy, rfl⟩ := List.mem_map.1 hx
  obtain ⟨z, _, rfl⟩ := List.mem_map.1 hy
  exact (hn _ (by omega)).symm
theorem bl_len_le (r : Nat) : (bl r).length ≤ 32 := by
  have := List.length_filter_le r.testBit (List.range 32)
  rw [List.length_range] at this
  exact this
set_option maxHeartbeats 8000000 in
theorem nodes_call {w : World} {s : Nat} (hT : T32 w) (hs : s < 4294967296) :
    Calls Tryd.prog 24 #[.int .u32 (s : Int)] w fun e w' => (∃ vo vc, e = .returned (.slice vo (bl s).length vc) ∧ w'.ownsRow w.heap.size 3 1 (.slice vo (bl s).length vc) (bl s).length (qv (bl s))) ∧ Below w.heap.size w w' := by
  obtain ⟨R, hR⟩ : ∃ R, R = bl s := ⟨_, rfl⟩
  have HH : Hid (T32 w ∧ R = bl s ∧ R.length ≤ 32) := ⟨hT, hR, hR ▸ bl_len_le s⟩
  rw [← hR]
  clear hT hR
  go_enter Tryd.func24, Tryd.ntmps24
  go_upto_region 2 with (fail)
  go_loopw [0, 3] (fun s0 s3 wz => ∃ (r : Nat) (l : List Nat) (vo : Option Addr) (vc : Nat), s0 = .int .u32 (r : Int) ∧ s3 = .slice vo l.length vc ∧ r < 4294967296 ∧ Hid (wz.ownsRow w.heap.size 3 1 (.slice vo l.length vc) l.length (qv l)) ∧ Hid (R = l ++ bl r) ∧ Hid (Below w.heap.size w wz)) (fun s0 _ _ => (numOf s0).toNat)
  case atStart => exact ⟨s, [], none, 0, rfl, rfl, hs, World.ownsRow_nil _ _ _ _, HH.out.2.1, Below.refl _ _⟩
  case round =>
    obtain ⟨r, l, vo, vc, rfl, rfl, hr, ho, hl, hB⟩ := hrel
    by_cases hz : r = 0
    · have k2 : ((r : Int) != 0) = false := by simp; omega
      have e : R = l := by rw [hl.out, hz, bl_zero, List.append_nil]
      rw [← e] at ho ⊢
      clear hz e hl
      go_wp2
      go_ret
      exact ⟨⟨vo, vc, rfl, ho.out⟩, hB.out⟩
    · obtain ⟨u, hu⟩ : ∃ u, u = Lib.ctz 32 r := ⟨_, rfl⟩
      obtain ⟨d1, d2, d3⟩ := ctz_bits hz hr
      have d4 := ctz_low hz hr
      rw [← hu] at d1 d2 d3 d4
      have C39 : Hid (∀ D, T32 D → Calls Tryd.prog 39 #[.int .u32 (r : Int)] D fun e w' => e = .returned (.int .i64 (u : Int)) ∧ w' = D) := fun D hD => by
        rw [hu]
        exact least_call r hr hD
      obtain ⟨r2, hr2⟩ : ∃ q, q = r &&& (r - 1) := ⟨_, rfl⟩
      rw [← hr2] at d2
      have a5 : bits BinOp.and IntKind.u32 (r : Int) ((r : Int) - 1) = (r2 : Int) := by
        have e1 : (r : Int) - 1 = ((r - 1 : Nat) : Int) := by omega
        rw [e1, and_u32 (by omega) (by omega), hr2]
      have hr2l : r2 < r := by
        have : r &&& (r - 1) ≤ r - 1 := Nat.and_le_right
        omega
      have HL : Hid (R = (l ++ [u]) ++ bl r2) := by
        show R = (l ++ [u]) ++ bl r2
        rw [hl.out, bl_step d3 d1 d2 d4]
        simp
      have hll : l.length ≤ 32 := by
        have h1 := HH.out.2.2
        rw [hl.out, List.length_append] at h1
        omega
      have HT : Hid (T32 wr) := HH.out.1.below hB.out
      have HBb : Hid (w.heap.size ≤ wr.heap.size) := hB.out.size
      have o0 : (0 : Int) ≤ (r : Int) - 1 := by omega
      have o1 : (r : Int) - 1 < 4294967296 := by omega
      have k3 : ((r : Int) != 0) = true := by simp; omega
      clear d1 d2 d3 d4 hr2 hz hu hl
      go_wp2_with (first | (go_at_call 39; refine Calls.mono (C39.out _ HT.out) ?_; rintro e w2 ⟨rfl, rfl⟩) | (at_builtin; refine wpList_pushA rfl _ _ rfl rfl rfl ho.out (by omega) HBb.out ?_; intro g2 c2 w3 h2 h3 h4) | fail)
      have hB2 : Below w.heap.size w w3 := by
        refine Turns.below (below_alloc hB.out (Obj.cells #[.int .i64 (u : Int)] 3)) (Turns.of_grown h3) (by have := hB.out.size; simp; omega) (fun k e => ?_)
        exact (ho.out.lt k e.symm).1
      have HB2 : Hid (Below w.heap.size w w3) := hB2
      have HO2 : Hid _ := h2
      clear hB2 h2 h3 h4
      go_roundw
      case rel => exact ⟨r2, l ++ [u], some ⟨g2, 0, none⟩, c2, rfl, by simp, by omega, HO2.out, HL.out, HB2.out⟩
      case measure => simp [numOf]; omega
end Go.Proofs.YthjkjanibkpgiaaDoor
