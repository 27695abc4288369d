/- pairs: the edges of the matching. -/
import Derived.Test.YtenjkhgpfmfgmaaDoorSeekW
namespace Go.Proofs.YtenjkhgpfmfgmaaDoor
open Go.RowKit Go.Maps
attribute [local go_sem ↓] Go.wp_at_zero Go.wp_at_succ

/-- v is the lesser one of a pair. -/
def upB (m : Nat → Option Nat) (v : Nat) : Bool := match m v with | some u => decide (v < u) | none => false
def prs (m : Nat → Option Nat) (k : Nat) : List Pair := ((List.range k).filter (upB m)).map fun (v : Nat) => ((v : Int), (((m v).getD 0 : Nat) : Int))
theorem prs_succ (m : Nat → Option Nat) (k : Nat) : prs m (k + 1) = prs m k ++ (if upB m k = true then [((k : Int), (((m k).getD 0 : Nat) : Int))] else []) := by
  unfold prs
  rw [List.range_succ, List.filter_append, List.map_append]
  congr 1
  by_cases h : upB m k = true
  · rw [if_pos h]; simp [h]
  · rw [if_neg h]; simp [h]
theorem prs_len (m : Nat → Option Nat) (k : Nat) : (prs m k).length ≤ k := by
  unfold prs
  rw [List.length_map]
  exact Nat.le_trans (List.length_filter_le _ _) (by simp)

set_option maxRecDepth 4000 in
set_option maxHeartbeats 2000000 in
theorem pairs_call {w : World} {bp g bm N : Nat} {ls : Nat → List Nat} {m : Nat → Option Nat} (h : PB w bp g bm N ls m) (hN : N ≤ 1000) :
    Calls Tryd.prog 29 #[.pointer (some ⟨bp, 0, none⟩)] w fun e w' => ∃ v, e = .returned v ∧ w'.ownsRow w.heap.size 50 2 v (prs m N).length (flat (prs m N)) ∧ Below w.heap.size w w' := by
  obtain ⟨eo, en, ec, fo, fn, fc, bo, bn, bc, qo, qn, qc, hbox⟩ := h.box
  obtain ⟨i0, hi, hz0, hz1, hz2⟩ := info_parts Tryd.info50
  have hmate := h.mate
  have c1 := box_cell hbox (i := 1) rfl
  clear h
  go_enter Tryd.func29, Tryd.ntmps29
  go_wp2
  clear c1
  go_loopw [3, 11] (fun s3 i wr => ∃ k : Nat, k ≤ N ∧ i = .int .i64 (k : Int) ∧ wr.ownsRow w.heap.size 50 2 s3 (prs m k).length (flat (prs m k)) ∧ Below w.heap.size w wr) (fun _ i _ => N - (numOf i).toNat)
  case atStart => exact ⟨0, Nat.zero_le _, rfl, World.ownsRow_nil _ _ _ _, Below.refl _ _⟩
  case round =>
    obtain ⟨k, hk, rfl, hown, hB⟩ := hrel
    obtain ⟨so, sc, rfl⟩ := form_row hown
    by_cases hlt : k < N
    · have hm1 := RowV.block hmate (w' := wr) (hB.block _ hmate.lt)
      have ck := hm1.cell hlt
      have i1 : (0 : Int) ≤ (k : Int) := by omega
      have i2 : (k : Int) < (N : Int) := by omega
      have hpl := prs_len m k
      have hps := prs_succ m k
      have HPS : Hid _ := hps
      clear hps
      by_cases hup : upB m k = true
      · obtain ⟨u, hu⟩ : ∃ u, m k = some u := by
          cases e : m k with
          | none => simp [upB, e] at hup
          | some u => exact ⟨u, rfl⟩
        have hku : k < u := by simpa [upB, hu] using hup
        rw [hu] at ck
        have z1 : farZ (some u) = (u : Int) := rfl
        rw [z1] at ck
        have k1 : (k : Int) < (u : Int) := by omega
        have hgd : (((m k).getD 0 : Nat) : Int) = (u : Int) := by rw [hu]; rfl
        have HGD : Hid _ := hgd
        have HUP : Hid _ := hup
        clear hu z1 hgd hup
        go_wp2_with (first
          | (at_builtin; refine wpList_append_own _ rfl _ _ 22 rfl w.heap.size 50 i0 (.agg #[.int .i64 0, .int .i64 0]) 2 16 Tryd.underlying22 hi hz0 hz1 hz2 rfl (by decide) _ _ _ rfl (hown.alloc _) ⟨wr.heap.size, 0, none⟩ 1 1 [.int .i64 (k : Int), .int .i64 (u : Int)] rfl rfl ?c1 ?c2 ?c3 ?c4 ?c5 ?_)
          | go_in)
        case c1 =>
          intro j x hj
          match j, hj with
          | 0, hj => simp at hj; subst hj; simp [Addr.add]
          | 1, hj => simp at hj; subst hj; simp [Addr.add]
        case c2 => intro x hx; simp at hx; rcases hx with rfl | rfl <;> rfl
        case c3 => unfold maxLen; omega
        case c4 => omega
        case c5 => have := hB.size; simp; omega
        intro v' w3 hown' hgrow _
        have T := (alloc_turns wr (Obj.cells #[.int .i64 (k : Int), .int .i64 (u : Int)] 50) _).trans (Turns.of_grown hgrow)
        have hB3 := T.below hB hB.size (fun j hj => (hown.lt j hj.symm).1)
        have HO : Hid _ := hown'
        clear hown' hgrow
        go_wp2
        go_roundw
        case rel =>
          refine ⟨k + 1, by omega, by go_num, ?_, hB3⟩
          rw [HPS.out, if_pos HUP.out, HGD.out, flat_snoc, List.length_append]
          exact HO.out
        case measure => simp [numOf]; omega
      · have HUP : Hid _ := hup
        cases hmk : m k with
        | none =>
          rw [hmk] at ck
          have z1 : farZ none = -1 := rfl
          rw [z1] at ck
          have k1 : ¬ (k : Int) < -1 := by omega
          clear hmk hup z1
          go_wp2
          go_roundw
          case rel => exact ⟨k + 1, by omega, by go_num, by rw [HPS.out, if_neg HUP.out, List.append_nil]; exact hown, hB⟩
          case measure => simp [numOf]; omega
        | some u =>
          have hku : ¬ k < u := by simpa [upB, hmk] using hup
          rw [hmk] at ck
          have z1 : farZ (some u) = (u : Int) := rfl
          rw [z1] at ck
          have k1 : ¬ (k : Int) < (u : Int) := by omega
          clear hmk hup z1
          go_wp2
          go_roundw
          case rel => exact ⟨k + 1, by omega, by go_num, by rw [HPS.out, if_neg HUP.out, List.append_nil]; exact hown, hB⟩
          case measure => simp [numOf]; omega
    · have hke : N = k := by omega
      subst hke
      go_wp2
      go_ret
      exact ⟨_, rfl, hown, hB⟩
end Go.Proofs.YtenjkhgpfmfgmaaDoor
