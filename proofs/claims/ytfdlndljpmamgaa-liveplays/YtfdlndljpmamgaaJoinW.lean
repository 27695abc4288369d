/- join: one component of two. -/
import Derived.Test.YtfdlndljpmamgaaFndM
import Derived.Test.YtfdlndljpmamgaaSetlW
import Derived.Test.YtfdlndljpmamgaaOnceW
namespace Go.Proofs.Ytfdlndljpmamgaa
set_option maxRecDepth 8000
open Go.RowKit Go.Maps
attribute [local go_sem ↓] Go.wp_at_zero Go.wp_at_succ
theorem hid' {p : Prop} (h : p) : Hid p := h
/-- A component's number is replaced in the first k places. -/
def relabTo (M m k : Nat) (lab : List Nat) (i : Nat) : Nat := if i < k ∧ lab.getD i 0 = M then m else lab.getD i 0
abbrev numV (x : Nat) : Value := .int .i64 (x : Int)
set_option maxHeartbeats 2000000 in
theorem join_call {w : World} {tb g cap : Nat} {lab : List Nat} {c a b : Nat} (hb : Box w tb (on5 (.int .u32 0) (.int .i32 1) (.int .u32 0) (.int .i64 (c : Int)) (.slice (some ⟨g, 0, none⟩) lab.length cap)) 78)
    (hr : RowC w g 3 lab.length (fun i => numV (lab.getD i 0))) (hl : lab.length ≤ 1000) (hla : ∀ i, i < lab.length → lab.getD i 0 ≤ 1000) (ha : a ≤ 1000) (hbb : b ≤ 1000) (hc : 0 < c) (hc2 : c ≤ 1000) :
    Calls Try.prog 59 #[ptr tb, .int .i64 (a : Int), .int .i64 (b : Int)] w fun e w' => e = .returned (.tuple #[]) ∧ Box w' tb (on5 (.int .u32 0) (.int .i32 1) (.int .u32 0) (.int .i64 ((c - 1 : Nat) : Int)) (.slice (some ⟨g, 0, none⟩) lab.length cap)) 78 ∧
      RowC w' g 3 lab.length (fun i => numV (relabTo (max a b) (min a b) lab.length lab i)) ∧ Turns (fun k => k = tb ∨ k = g) w w' := by
  obtain ⟨M, hM⟩ : ∃ M, max a b = M := ⟨_, rfl⟩
  obtain ⟨m, hm⟩ : ∃ m, min a b = m := ⟨_, rfl⟩
  have eM : max (a : Int) (b : Int) = (M : Int) := by omega
  have em : min (a : Int) (b : Int) = (m : Int) := by omega
  have eM2 : (if (a : Int) < (b : Int) then (b : Int) else (a : Int)) = (M : Int) := by split <;> omega
  have em2 : (if (b : Int) < (a : Int) then (b : Int) else (a : Int)) = (m : Int) := by split <;> omega
  rw [hM, hm]
  have hgt : g ≠ tb := fun e => by
    obtain ⟨cur, h1, _⟩ := hr
    rw [e, hb] at h1; cases h1
  obtain ⟨N, hN⟩ : ∃ N, lab.length = N := ⟨_, rfl⟩
  rw [hN] at hb hr hl hla ⊢
  have HB := hid' hb
  have HR := hid' hr
  have HLA := hid' hla
  have HX : Hid (N ≤ 1000 ∧ 0 < c ∧ c ≤ 1000 ∧ M ≤ 1000 ∧ m ≤ 1000 ∧ g ≠ tb) := ⟨hl, hc, hc2, by omega, by omega, hgt⟩
  have c4 : w.cell? ⟨tb, 4, none⟩ = some (.slice (some ⟨g, 0, none⟩) N cap) := box_cell hb rfl
  clear hb hr hla hM hm hc hc2 hN hgt ha hbb
  go_enter Try.func59, Try.ntmps59
  go_upto_region 1 with (fail)
  clear c4
  go_loopw [13] (fun i wr => ∃ k : Nat, k ≤ N ∧ i = .int .i64 (k : Int) ∧ Hid (RowC wr g 3 N (fun i => numV (relabTo M m k lab i)) ∧ Turns (fun k => k = g) w wr)) (fun i _ => N - (numOf i).toNat)
  case atStart => exact ⟨0, Nat.zero_le _, rfl, ⟨HR.out.congr fun j _ => by simp [relabTo], Turns.refl _ _⟩⟩
  case round =>
    obtain ⟨k, hk, rfl, hJ⟩ := hrel
    have c4 : wr.cell? ⟨tb, 4, none⟩ = some (.slice (some ⟨g, 0, none⟩) N cap) := box_cell (box_turns HB.out hJ.out.2 (fun e => HX.out.2.2.2.2.2 e.symm)) rfl
    by_cases hlt : k < N
    · have i1 : (0 : Int) ≤ (k : Int) := by omega
      have i2 : (k : Int) < (N : Int) := by omega
      have d0 := hJ.out.1.cell hlt
      have f0 := hJ.out.1.free k
      have hk' : relabTo M m k lab k = lab.getD k 0 := by simp [relabTo]
      rw [hk'] at d0
      have HXV : Hid (∀ i, relabTo M m (k + 1) lab i = if i = k then (if lab.getD k 0 = M then m else lab.getD k 0) else relabTo M m k lab i) := fun i => by
        unfold relabTo
        by_cases e : i = k
        · subst e; simp
        · by_cases e1 : i < k
          · rw [if_neg e]; simp [e1, show i < k + 1 by omega]
          · rw [if_neg e]; simp [e1, show ¬ i < k + 1 by omega]
      clear hk'
      generalize lab.getD k 0 = x at d0 HXV
      by_cases hx : x = M
      · have t1 : ((x : Int) == (M : Int)) = true := by simp [hx]
        subst hx
        go_wp2
        go_roundw
        case rel =>
          refine ⟨k + 1, by omega, by go_num, ⟨(hJ.out.1.set k (numV m)).congr fun j _ => ?_, hJ.out.2.trans (setCell_turns wr g k _)⟩⟩
          rw [HXV.out j]
          by_cases e : j = k <;> simp [e]
        case measure => simp [numOf]; omega
      · have t1 : ((x : Int) == (M : Int)) = false := by simp; omega
        have t2 : ¬ (x : Int) = (M : Int) := by omega
        go_wp2
        go_roundw
        case rel =>
          refine ⟨k + 1, by omega, by go_num, ⟨hJ.out.1.congr fun j hj => ?_, hJ.out.2⟩⟩
          rw [HXV.out j]
          by_cases e : j = k
          · subst e
            rw [if_pos rfl, if_neg hx]
            have h2 := hJ.out.1.cell hlt
            rw [d0] at h2
            exact (Option.some.inj h2).symm
          · rw [if_neg e]
        case measure => simp [numOf]; omega
    · have hke : k = N := by omega
      subst hke
      have hbx := box_turns HB.out hJ.out.2 (fun e => HX.out.2.2.2.2.2 e.symm)
      have d3 : wr.cell? ⟨tb, 3, none⟩ = some (.int .i64 (c : Int)) := box_cell hbx rfl
      have f3 := box_free hbx 3
      have j1 : (c : Int) ≤ 1000 := by have := HX.out.2.2.1; omega
      have j2 : (0 : Int) < (c : Int) := by have := HX.out.2.1; omega
      have HBX := hid' hbx
      clear hbx
      go_wp2
      go_end0
      have ec : (c : Int) - 1 = ((c - 1 : Nat) : Int) := by have := HX.out.2.1; omega
      rw [ec]
      refine ⟨rfl, box_set HBX.out 3 _, hJ.out.1.turns (setCell_turns wr tb 3 _) HX.out.2.2.2.2.2, (hJ.out.2.mono fun k _ h => Or.inr h).trans ((setCell_turns wr tb 3 _).mono fun k _ h => Or.inl h)⟩
end Go.Proofs.Ytfdlndljpmamgaa
