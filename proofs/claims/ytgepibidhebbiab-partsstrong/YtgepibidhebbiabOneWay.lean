/- oneWay: of each node the set of those to which an arc leads from it. -/
import Derived.Test.YtgepibidhebbiabRefArcs
namespace Go.Proofs.Ytgepibidhebbiab
open Go.RowKit Go.Maps
attribute [local go_sem ↓] Go.wp_at_zero Go.wp_at_succ

def arcB (es : List Pair) (a b : Nat) : Bool := es.any fun e => e.1 == (a : Int) && e.2 == (b : Int)
theorem arcB_take (es : List Pair) (k : Nat) (hk : k < es.length) (a b x y : Nat) (he : es[k] = ((x : Int), (y : Int))) : arcB (es.take (k + 1)) a b = if a = x then (b == y || arcB (es.take k) x b) else arcB (es.take k) a b := by
  have h1 : arcB (es.take (k + 1)) a b = (arcB (es.take k) a b || ((x : Int) == (a : Int) && (y : Int) == (b : Int))) := by
    unfold arcB
    rw [List.take_succ_eq_append_getElem hk, he, List.any_append]
    simp
  have q : ∀ p q : Nat, ((p : Int) == (q : Int)) = (q == p) := fun p q => by rw [Bool.eq_iff_iff]; simp; omega
  rw [h1, q, q]
  by_cases e : a = x
  · subst e
    rw [if_pos rfl]
    cases arcB (es.take k) a b <;> simp
  · have e' : (a == x) = false := by simpa using e
    rw [if_neg e, e']
    simp

set_option maxHeartbeats 1000000 in
theorem oneWay_call (n : Nat) (v : Value) (es : List Pair) (w : World) (hE : EdgesAt w v es) (hn : n ≤ 1000) (hgood : ∀ e ∈ es, ArcIn n e) :
    Calls Try.prog 52 #[.int .i64 (n : Int), v] w fun r w' => ∃ ao, r = .returned (.slice ao n n) ∧ (∀ g, ao = some g → w.heap.size ≤ g.block) ∧ ∃ bl, NearsAt w' ao n bl (arcB es) ∧ (∀ i, i < n → w.heap.size ≤ bl i) ∧ Below w.heap.size w w' := by
  obtain ⟨eo, cap, rfl, hl2, hI, hcells⟩ := hE
  clear hI
  have HG : Hid _ := hgood
  have HC : Hid _ := hcells
  clear hgood hcells
  go_enter Try.func52, Try.ntmps52
  go_wp2_with (go_at_call 58; refine (empties_call n _ (by omega)).mono ?_; rintro r w1 ⟨ao, rfl, hao, bl, hN1, hbl, hB1⟩)
  go_loopw [12] (fun i wr => ∃ k : Nat, k ≤ es.length ∧ i = .int .i64 (k : Int) ∧ NearsAt wr ao n bl (arcB (es.take k)) ∧ Below w.heap.size w wr) (fun i _ => es.length - (numOf i).toNat)
  case atStart => exact ⟨0, Nat.zero_le _, rfl, hN1.congr (fun i j _ _ => by simp [arcB]), hB1⟩
  case round =>
    obtain ⟨k, hk, rfl, hN, hB⟩ := hrel
    clear hN1 hB1
    by_cases hlt : k < es.length
    · obtain ⟨b, off, rfl, cx, cy⟩ := HC.out k hlt
      obtain ⟨x, y, hxy⟩ : ∃ x y, es[k] = (x, y) := ⟨es[k].1, es[k].2, rfl⟩
      have hgx := HG.out es[k] (List.getElem_mem _)
      rw [hxy] at cx cy hgx
      have hb := World.block_lt_of_cell? w _ cx
      rw [← hB.cell (by exact hb)] at cx cy
      obtain ⟨x0, y0, x1, y1⟩ := hgx
      simp only at x0 y0 x1 y1
      obtain ⟨i, rfl⟩ : ∃ i : Nat, x = i := ⟨x.toNat, by omega⟩
      obtain ⟨j, rfl⟩ : ∃ j : Nat, y = j := ⟨y.toNat, by omega⟩
      have HXY : Hid _ := hxy
      clear hxy
      have hi : i < n := by omega
      have hj : j < n := by omega
      go_upto_region 5 with (fail)
      have t7 := two_new wr (.int .i64 (i : Int)) (.int .i64 (j : Int)) 63
      have hNx := hN.below (below_alloc (Below.refl _ wr) (Obj.cells #[.int .i64 (i : Int), .int .i64 (j : Int)] 63))
      have hBx := hB.alloc hB.size (Obj.cells #[.int .i64 (i : Int), .int .i64 (j : Int)] 63)
      generalize wr.heap.size = b7 at t7 ⊢
      generalize wr.alloc (Obj.cells #[.int .i64 (i : Int), .int .i64 (j : Int)] 63) = wx at t7 hNx hBx ⊢
      obtain ⟨z1, z2⟩ := cell_two t7
      obtain ⟨g, rfl, c1⟩ := hNx.row i hi
      have i1 : (0 : Int) ≤ (i : Int) := by omega
      have i2 : (i : Int) < (n : Int) := by omega
      have hadd := add_call ((hNx.below (Below.refl _ wx).drew).sets i hi) (by omega) hj
      have HA : Hid _ := hadd
      clear hadd
      go_region_with ((go_at_call 60; refine Calls.mono HA.out ?_; rintro r w2 ⟨rfl, hS2, ht2⟩))
      all_goals
        go_wp2
        go_roundw
        case rel =>
          refine ⟨k + 1, by omega, by go_num, ((hNx.below (Below.refl _ wx).drew).put hi hS2 ht2).congr (fun a c _ _ => ?_), ht2.below (hBx.drew) (by have := hBx.size; simpa using this) (fun q hq => by rw [hq]; exact hbl i hi)⟩
          rw [arcB_take es k hlt a c i j HXY.out]
          by_cases e : a = i
          · subst e; simp
          · simp [e]
        case measure => simp [numOf]; omega
    · have : k = es.length := by omega
      subst this
      rw [List.take_length] at hN
      go_wp2
      go_ret
      exact ⟨ao, rfl, hao, bl, hN, hbl, hB⟩
end Go.Proofs.Ytgepibidhebbiab
