/- hangTogetherWithout and change. fork: a node and two near it that nothing hangs on. The first node with fewer edges than the most. Brooks: the three cases of fewColours give each node a colour. -/
import Derived.Test.YtdnmoifbkojnlaaGreatReachW
import Derived.Test.YtdnmoifbkojnlaaGreatSpr
namespace Go.Proofs.YtdnmoifbkojnlaaGreat
open Go.RowKit Go.Maps
attribute [local go_sem ↓] Go.wp_at_zero Go.wp_at_succ
section
variable {w : World}
set_option maxHeartbeats 600000 in
theorem hang1_call {ba bb u a b : Nat} (ha : w.cell? ⟨ba, 0, none⟩ = some (.int .i64 (a : Int))) (hb : w.cell? ⟨bb, 0, none⟩ = some (.int .i64 (b : Int))) :
    Calls Tryz.prog 84 #[.int .i64 (u : Int), ptr ba, ptr bb] w fun e w' => e = .returned (.bool (u != a && u != b)) ∧ Below w.heap.size w w' := by
  refine Calls.mono (R := fun e w' => e = .returned (.bool (u != a && u != b)) ∧ w' = w) ?_ (fun e w' ⟨h1, h2⟩ => ⟨h1, by rw [h2]; exact Below.refl _ _⟩)
  have e1 : ((u : Int) != (a : Int)) = (u != a) := by rw [Bool.eq_iff_iff]; simp; omega
  have e2 : ((u : Int) != (b : Int)) = (u != b) := by rw [Bool.eq_iff_iff]; simp; omega
  by_cases h1 : u = a
  · have k1 : ((u : Int) != (a : Int)) = false := by simp [h1]
    have k2 : (u != a && u != b) = false := by simp [h1]
    rw [k2]
    clear e1 e2
    go_enter Tryz.func84, Tryz.ntmps84
    go_wp2
    go_ret
    exact ⟨rfl, rfl⟩
  · have k1 : ((u : Int) != (a : Int)) = true := by simp; omega
    have k2 : (u != a && u != b) = ((u : Int) != (b : Int)) := by rw [e2]; simp [h1]
    rw [k2]
    clear e1 e2 k2
    go_enter Tryz.func84, Tryz.ntmps84
    go_wp2
    go_ret
    exact ⟨rfl, rfl⟩
theorem enter84 (args : Array Value) (w : World) : (callFunc 84 args).run Tryz.prog w = .ok (.enter 84 args) w := by
  simp [callFunc, Tryz.func84, go_sem]
  rw [if_neg (of_decide_eq_true (by kernel_rfl)), if_neg (by intro h; have : Tryz.f84.body.isSome = true := (by kernel_rfl); rw [h] at this; cases this)]
set_option maxHeartbeats 2000000 in
theorem hang_call {g N v a b : Nat} {ls : Nat → List Nat} {adj : Nat → Nat → Bool} (hn : N ≤ 100) (hnear : NearZ w g N ls) (hls : ∀ x y, x < N → (y ∈ ls x ↔ y < N ∧ adj x y = true)) (hll : ∀ x, x < N → (ls x).length ≤ 1000) (hv : v < N) :
    Calls Tryz.prog 68 #[sl g N, .int .i64 (v : Int), .int .i64 (a : Int), .int .i64 (b : Int)] w fun e w' => (∃ L, Bfo N adj (fun u => u != a && u != b) v L ∧ e = .returned (.bool ((L.length : Int) == (N : Int) - 2))) ∧ Below w.heap.size w w' := by
  obtain ⟨w1, hw1⟩ : ∃ w1, w1 = (w.alloc (Obj.cells #[.int .i64 (a : Int)] 3)).alloc (Obj.cells #[.int .i64 (b : Int)] 3) := ⟨_, rfl⟩
  have hB1 : Below w.heap.size w w1 := by rw [hw1]; exact below_alloc (below_alloc (Below.refl _ w) _) _
  have oa : One w1 w.heap.size (.int .i64 (a : Int)) 3 := by rw [hw1]; exact (Below.heap_alloc _ _ _ (by simp)).trans (one_new w _ 3)
  have ob : One w1 (w.heap.size + 1) (.int .i64 (b : Int)) 3 := by
    have := one_new (w.alloc (Obj.cells #[.int .i64 (a : Int)] 3)) (.int .i64 (b : Int)) 3
    rw [World.size_alloc] at this
    rw [hw1]; exact this
  have hsz : w1.heap.size = w.heap.size + 2 := by rw [hw1, World.size_alloc, World.size_alloc]
  have H59 := reachZ_call (w := w1) (caps := #[ptr w.heap.size, ptr (w.heap.size + 1)]) hn (hnear.below hB1) hls hll hv enter84 (opn := fun u => u != a && u != b) (fun W hW x _ => hang1_call ((hW.cell (p := ⟨w.heap.size, 0, none⟩) (by show w.heap.size < _; omega)).trans (box_cell oa rfl)) ((hW.cell (p := ⟨w.heap.size + 1, 0, none⟩) (by show w.heap.size + 1 < _; omega)).trans (box_cell ob rfl)))
  have H : Hid (Calls Tryz.prog 59 #[sl g N, .int .i64 (v : Int), .func (.func 84) #[] #[ptr w.heap.size, ptr (w.heap.size + 1)]] w1 fun e w' => ∃ po pc L, e = .returned (.slice po L.length pc) ∧ Hid (Bfo N adj (fun u => u != a && u != b) v L) ∧ Hid (Below w.heap.size w w') ∧ (L.length : Int) ≤ 1000) := by
    refine Calls.mono H59 ?_
    rintro e w' ⟨po, pc, L, rfl, _, hb, hB⟩
    have := nodup_lenZ L (List.range N) hb.nodup (fun x hx => List.mem_range.2 (hb.lt x hx))
    rw [List.length_range] at this
    exact ⟨po, pc, L, rfl, hb, below_next hB1 hB, by omega⟩
  subst hw1
  clear H59 oa ob hsz hB1 hnear hls hll
  go_enter Tryz.func68, Tryz.ntmps68
  go_wp2_with (first | (go_at_call 59; refine Calls.mono H.out ?_; rintro e w2 ⟨po, pc, L, rfl, hbf, hB, hl⟩) | go_in)
  go_ret
  refine ⟨⟨L, hbf.out, ?_⟩, hB.out⟩
  first | rfl | (congr 2; rw [Bool.eq_iff_iff]; simp)
end
end Go.Proofs.YtdnmoifbkojnlaaGreat

namespace Go.Proofs.YtdnmoifbkojnlaaGreat
open Go.RowKit Go.Maps
attribute [local go_sem ↓] Go.wp_at_zero Go.wp_at_succ
/-- The search tells whether all but two nodes hang together. -/
def IsFork (N : Nat) (adj : Nat → Nat → Bool) (v a b : Nat) : Prop := adj a b = false ∧ ∃ L, Bfo N adj (fun u => u != a && u != b) v L ∧ (L.length : Int) = (N : Int) - 2
def NoFork (N : Nat) (adj : Nat → Nat → Bool) (v a b : Nat) : Prop := adj a b = true ∨ ∃ L, Bfo N adj (fun u => u != a && u != b) v L ∧ (L.length : Int) ≠ (N : Int) - 2
def NoTo (N : Nat) (adj : Nat → Nat → Bool) (ls : Nat → List Nat) (v i j : Nat) : Prop := ∀ i' j', i' < (ls v).length → j' < i' → (i' < i ∨ (i' = i ∧ j' < j)) → NoFork N adj v ((ls v).getD i' 0) ((ls v).getD j' 0)
section
variable {w : World} {g N : Nat} {ls : Nat → List Nat} {adj : Nat → Nat → Bool}
set_option maxRecDepth 4000 in
set_option maxHeartbeats 6000000 in
theorem fork_call (hn : N ≤ 100) (hnear : NearZ w g N ls) (hls : ∀ x y, x < N → (y ∈ ls x ↔ y < N ∧ adj x y = true)) (hll : ∀ x, x < N → (ls x).length ≤ 1000) (hcap : ∀ x, x < N → ∀ xo xc, w.cell? ⟨g, x, none⟩ = some (.slice xo (ls x).length xc) → (ls x).length ≤ xc) :
    Calls Tryz.prog 41 #[sl g N] w fun e w' => ((∃ v i j, v < N ∧ j < i ∧ i < (ls v).length ∧ IsFork N adj v ((ls v).getD i 0) ((ls v).getD j 0) ∧ e = .returned (.tuple #[.int .i64 (v : Int), .int .i64 ((ls v).getD i 0 : Nat), .int .i64 ((ls v).getD j 0 : Nat)])) ∨
      (e = .returned (.tuple #[.int .i64 (-1), .int .i64 (-1), .int .i64 (-1)]) ∧ ∀ v, v < N → NoTo N adj ls v (ls v).length 0)) ∧ Below w.heap.size w w' := by
  have HN : Hid (NearZ w g N ls) := hnear
  have HLS : Hid (∀ x y, x < N → (y ∈ ls x ↔ y < N ∧ adj x y = true)) := hls
  have HLL : Hid (∀ x, x < N → (ls x).length ≤ 1000) := hll
  have HCAP : Hid (∀ x, x < N → ∀ xo xc, w.cell? ⟨g, x, none⟩ = some (.slice xo (ls x).length xc) → (ls x).length ≤ xc) := hcap
  clear hnear hls hll hcap
  go_enter Tryz.func41, Tryz.ntmps41
  go_wp2
  go_loopw [13] (fun s wr => ∃ v : Nat, v ≤ N ∧ s = .int .i64 (v : Int) ∧ (∀ v', v' < v → NoTo N adj ls v' (ls v').length 0) ∧ Below w.heap.size w wr) (fun s _ => N - (numOf s).toNat)
  case atStart => exact ⟨0, Nat.zero_le _, rfl, fun v' h => by omega, Below.refl _ _⟩
  case round =>
    obtain ⟨v, hv, rfl, hno, hB⟩ := hrel
    have HNO : Hid (∀ v', v' < v → NoTo N adj ls v' (ls v').length 0) := hno
    have HB : Hid (Below w.heap.size w wr) := hB
    clear hno hB
    by_cases hlt : v < N
    · obtain ⟨xo, xc, cn0, hnum⟩ := HN.out v hlt
      have cn := (HB.out.cell (World.block_lt_of_cell? w _ cn0)).trans cn0
      have HNUM : Hid (∀ W : World, Below w.heap.size w W → NumsAt W xo (ls v)) := fun W hW => hnum.below hW
      have hxc := HCAP.out v hlt xo xc cn0
      have hlv := HLL.out v hlt
      have i1 : (0 : Int) ≤ (v : Int) := by omega
      have i2 : (v : Int) < (N : Int) := by omega
      clear hnum cn0
      go_wp2
      go_loopw [20] (fun s wr => ∃ i : Nat, i ≤ (ls v).length ∧ s = .int .i64 (i : Int) ∧ NoTo N adj ls v i 0 ∧ Below w.heap.size w wr) (fun s _ => (ls v).length - (numOf s).toNat)
      case atStart => exact ⟨0, Nat.zero_le _, rfl, fun i' j' h1 h2 h3 => by omega, HB.out⟩
      case round =>
        clear HB cn
        obtain ⟨i, hi, rfl, hno, hB⟩ := hrel
        have HNI : Hid (NoTo N adj ls v i 0) := hno
        have HB : Hid (Below w.heap.size w wr) := hB
        clear hno hB
        by_cases hil : i < (ls v).length
        · obtain ⟨a, ha⟩ : ∃ a, a = (ls v).getD i 0 := ⟨_, rfl⟩
          have hga : (ls v)[i]? = some a := by rw [ha, getD_lt hil, List.getElem?_eq_getElem hil]
          obtain ⟨bx, ex, ca⟩ := (HNUM.out _ HB.out) i a hga
          subst ex
          have haN := ((HLS.out v a hlt).1 (List.mem_of_getElem? hga)).1
          have HA : Hid (a = (ls v).getD i 0) := ha
          have i3 : (0 : Int) ≤ (i : Int) := by omega
          have i4 : (i : Int) < ((ls v).length : Int) := by omega
          have i5 : (i : Int) ≤ (xc : Int) := by omega
          clear ha hga
          go_wp2
          go_loopw [29] (fun s wr => ∃ j : Nat, j ≤ i ∧ s = .int .i64 (j : Int) ∧ NoTo N adj ls v i j ∧ Below w.heap.size w wr) (fun s _ => i - (numOf s).toNat)
          case atStart => exact ⟨0, Nat.zero_le _, rfl, HNI.out, HB.out⟩
          case round =>
            clear HB ca HNI
            obtain ⟨j, hj, rfl, hno, hB⟩ := hrel
            have HNI : Hid (NoTo N adj ls v i j) := hno
            have HB : Hid (Below w.heap.size w wr) := hB
            clear hno hB
            by_cases hjl : j < i
            · obtain ⟨b, hb⟩ : ∃ b, b = (ls v).getD j 0 := ⟨_, rfl⟩
              have hgb : (ls v)[j]? = some b := by rw [hb, getD_lt (by omega), List.getElem?_eq_getElem (by omega)]
              obtain ⟨bx2, ex, cb⟩ := (HNUM.out _ HB.out) j b hgb
              cases ex
              have hbN := ((HLS.out v b hlt).1 (List.mem_of_getElem? hgb)).1
              have HBV : Hid (b = (ls v).getD j 0) := hb
              obtain ⟨ao, ac, cn0, hnum⟩ := HN.out a haN
              have cn := (HB.out.cell (World.block_lt_of_cell? w _ cn0)).trans cn0
              have hla := HLL.out a haN
              obtain ⟨ab, hab⟩ : ∃ ab, ab = (ls a).contains b := ⟨_, rfl⟩
              have HAB : Hid (ab = adj a b) := by
                show _ = _
                rw [hab, Bool.eq_iff_iff, List.contains_iff_mem, HLS.out a b haN]
                exact ⟨fun h => h.2, fun h => ⟨hbN, h⟩⟩
              have h66 := contains_call (vc := ac) (hnum.below HB.out) hla b
              rw [← hab] at h66
              have H66 : Hid (Calls Tryz.prog 66 #[.slice ao (ls a).length ac, .int .i64 (b : Int)] wr fun e w' => e = .returned (.bool ab) ∧ w' = wr) := h66
              have H68 : Hid (Calls Tryz.prog 68 #[sl g N, .int .i64 (v : Int), .int .i64 (a : Int), .int .i64 (b : Int)] wr fun e w' => (∃ L, Bfo N adj (fun u => u != a && u != b) v L ∧ e = .returned (.bool ((L.length : Int) == (N : Int) - 2))) ∧ Below wr.heap.size wr w') := hang_call hn (HN.out.below HB.out) HLS.out HLL.out hlt
              have j1 : (0 : Int) ≤ (j : Int) := by omega
              have j2 : (j : Int) < (i : Int) := by omega
              have j3 : (0 : Int) ≤ (a : Int) := by omega
              have j4 : (a : Int) < (N : Int) := by omega
              clear hb hgb cn0 hnum hab h66
              cases ab with
              | true =>
                go_wp2_with (first | (go_at_call 66; refine Calls.mono H66.out ?_; rintro e w' ⟨rfl, rfl⟩) | go_in)
                go_roundw
                case rel => exact ⟨j + 1, by omega, by go_num, fun i' j' h1 h2 h3 => by
                  by_cases e : i' = i ∧ j' = j
                  · obtain ⟨rfl, rfl⟩ := e
                    rw [← HA.out, ← HBV.out]
                    exact Or.inl HAB.out.symm
                  · exact HNI.out i' j' h1 h2 (by omega), HB.out⟩
                case measure => simp [numOf]; omega
              | false =>
                go_wp2_with (first | (go_at_call 66; refine Calls.mono H66.out ?_; rintro e wA ⟨rfl, rfl⟩) | (go_at_call 68; refine Calls.mono H68.out ?_; rintro e wB ⟨⟨L, hbf, rfl⟩, hB2⟩) | go_in)
                · rename_i hlen
                  go_ret3
                  refine ⟨Or.inl ⟨v, i, j, hlt, hjl, hil, ⟨?_, L, ?_, eq_of_beq hlen⟩, ?_⟩, below_next HB.out hB2⟩
                  · rw [← HA.out, ← HBV.out]; exact HAB.out.symm
                  · rw [← HA.out, ← HBV.out]; exact hbf
                  · rw [← HA.out, ← HBV.out]; rfl
                · rename_i hlen
                  refine ⟨⟨j + 1, by omega, by go_num, fun i' j' h1 h2 h3 => ?_, below_next HB.out hB2⟩, ?_⟩
                  · by_cases e : i' = i ∧ j' = j
                    · obtain ⟨rfl, rfl⟩ := e
                      rw [← HA.out, ← HBV.out]
                      exact Or.inr ⟨L, hbf, fun e => by rw [e] at hlen; simp at hlen⟩
                    · exact HNI.out i' j' h1 h2 (by omega)
                  · simp [numOf]; omega
            · have j2 : ¬ (j : Int) < (i : Int) := by omega
              have hji : j = i := by omega
              subst hji
              go_wp2
              go_roundw
              case rel => exact ⟨j + 1, by omega, by go_num, fun i' j' h1 h2 h3 => HNI.out i' j' h1 h2 (by omega), HB.out⟩
              case measure => simp [numOf]; omega
        · have i4 : ¬ (i : Int) < ((ls v).length : Int) := by omega
          have hie : i = (ls v).length := by omega
          have HNV : Hid (∀ v', v' < v + 1 → NoTo N adj ls v' (ls v').length 0) := fun v' h => by
            by_cases e : v' = v
            · subst e; rw [← hie]; exact HNI.out
            · exact HNO.out v' (by omega)
          go_wp2
          go_roundw
          case rel => exact ⟨v + 1, by omega, by go_num, HNV.out, HB.out⟩
          case measure => simp [numOf]; omega
    · have i2 : ¬ (v : Int) < (N : Int) := by omega
      have hvN : v = N := by omega
      subst hvN
      go_wp2
      go_ret3
      exact ⟨Or.inr ⟨rfl, HNO.out⟩, HB.out⟩
end
end Go.Proofs.YtdnmoifbkojnlaaGreat

namespace Go.Proofs.YtdnmoifbkojnlaaGreat
open Go.RowKit Go.Maps
attribute [local go_sem ↓] Go.wp_at_zero Go.wp_at_succ
section
variable {w : World}
set_option maxHeartbeats 600000 in
theorem few1_call {bm n : Nat} {xo : Option Addr} {xc : Nat} {many : Int} (h : w.cell? ⟨bm, 0, none⟩ = some (.int .i64 many)) :
    Calls Tryz.prog 38 #[.slice xo n xc, ptr bm] w fun e w' => e = .returned (.bool (decide ((n : Int) < many))) ∧ w' = w := by
  go_enter Tryz.func38, Tryz.ntmps38
  go_wp2
  go_ret
  exact ⟨rfl, rfl⟩
theorem enter38 (args : Array Value) (w : World) : (callFunc 38 args).run Tryz.prog w = .ok (.enter 38 args) w := by
  simp [callFunc, Tryz.func38, go_sem]
  rw [if_neg (of_decide_eq_true (by kernel_rfl)), if_neg (by intro h; have : Tryz.f38.body.isSome = true := (by kernel_rfl); rw [h] at this; cases this)]
set_option maxHeartbeats 1000000 in
theorem fewIdx_call {g N bm : Nat} {ls : Nat → List Nat} {many : Nat} (hn : N ≤ 1000) (hnear : NearZ w g N ls) (hm : w.cell? ⟨bm, 0, none⟩ = some (.int .i64 (many : Int))) :
    Calls Tryz.prog 37 #[sl g N, .func (.func 38) #[] #[ptr bm]] w fun e w' => ((e = .returned (.int .i64 (-1)) ∧ ∀ x, x < N → many ≤ (ls x).length) ∨ ∃ x : Nat, e = .returned (.int .i64 (x : Int)) ∧ x < N ∧ (ls x).length < many) ∧ w' = w := by
  have HN : Hid (NearZ w g N ls) := hnear
  have H38 := enter38
  clear hnear
  go_enter Tryz.func37, Tryz.ntmps37
  go_wp2
  go_loopw [8] (fun s wr => ∃ k : Nat, k ≤ N ∧ s = .int .i64 (k : Int) ∧ (∀ x, x < k → many ≤ (ls x).length) ∧ wr = w) (fun s _ => N - (numOf s).toNat)
  case atStart => exact ⟨0, Nat.zero_le _, rfl, fun x h => by omega, rfl⟩
  case round =>
    obtain ⟨k, hk, rfl, hall, hwr⟩ := hrel
    have HA : Hid (∀ x, x < k → many ≤ (ls x).length) := hall
    clear hall
    have hwr' := hwr.symm
    clear hwr
    subst hwr'
    by_cases hlt : k < N
    · obtain ⟨xo, xc, cn, _⟩ := HN.out k hlt
      have i1 : (0 : Int) ≤ (k : Int) := by omega
      have i2 : (k : Int) < (N : Int) := by omega
      have h38 := few1_call (xo := xo) (n := (ls k).length) (xc := xc) hm
      by_cases hc : (ls k).length < many
      · have e1 : decide (((ls k).length : Int) < (many : Int)) = true := by rw [decide_eq_true_iff]; omega
        rw [e1] at h38
        have HC : Hid (Calls Tryz.prog 38 #[.slice xo (ls k).length xc, ptr bm] w fun e w' => e = .returned (.bool true) ∧ w' = w) := h38
        clear h38 e1
        go_wp2_with (first | (go_at_call 38; refine Calls.mono HC.out ?_; rintro e w' ⟨rfl, rfl⟩) | go_in)
        go_ret
        exact ⟨Or.inr ⟨k, rfl, hlt, hc⟩, rfl⟩
      · have e1 : decide (((ls k).length : Int) < (many : Int)) = false := by rw [decide_eq_false_iff_not]; omega
        rw [e1] at h38
        have HC : Hid (Calls Tryz.prog 38 #[.slice xo (ls k).length xc, ptr bm] w fun e w' => e = .returned (.bool false) ∧ w' = w) := h38
        clear h38 e1
        go_wp2_with (first | (go_at_call 38; refine Calls.mono HC.out ?_; rintro e w' ⟨rfl, rfl⟩) | go_in)
        go_roundw
        case rel => exact ⟨k + 1, by omega, by go_num, fun x hx => by
          by_cases e : x = k
          · subst e; omega
          · exact HA.out x (by omega), trivial⟩
        case measure => simp [numOf]; omega
    · have i2 : ¬ (k : Int) < (N : Int) := by omega
      have hkn : k = N := by omega
      subst hkn
      go_wp2
      go_ret
      exact ⟨Or.inl ⟨rfl, HA.out⟩, rfl⟩
end
end Go.Proofs.YtdnmoifbkojnlaaGreat

namespace Go.Proofs.YtdnmoifbkojnlaaGreat
/-- A graph that hangs together, with no more than m edges at a node. -/
structure Gz (N m : Nat) (adj : Nat → Nat → Bool) (ls : Nat → List Nat) : Prop where
  sym : ∀ x y, adj x y = adj y x
  irr : ∀ x, adj x x = false
  lt : ∀ x y, adj x y = true → x < N ∧ y < N
  mem : ∀ x y, x < N → (y ∈ ls x ↔ y < N ∧ adj x y = true)
  nd : ∀ x, x < N → (ls x).Nodup
  le : ∀ x, x < N → (ls x).length ≤ m
  conn : Hang (fun a b => adj a b = true) (fun a => a < N)
/-- All nodes have a colour below m, and no two with an edge the same. -/
def Done (N m : Nat) (adj : Nat → Nat → Bool) (col : Nat → Int) : Prop := Pc N m adj col ∧ ∀ x, x < N → col x ≠ -1
section
variable {N m : Nat} {adj : Nat → Nat → Bool} {ls : Nat → List Nat}
theorem nodup_lenN : ∀ (l m : List Nat), l.Nodup → (∀ e ∈ l, e ∈ m) → l.length ≤ m.length
  | [], _, _, _ => Nat.zero_le _
  | a :: l, m, hn, hs => by
    have hn' := List.nodup_cons.1 hn
    have ha := hs a (by simp)
    have h := nodup_lenN l (m.erase a) hn'.2 (fun e he => (List.mem_erase_of_ne (fun (h : e = a) => hn'.1 (h ▸ he))).2 (hs e (by simp [he])))
    rw [List.length_erase_of_mem ha] at h
    have : 0 < m.length := List.length_pos_of_mem ha
    simp
    omega
theorem pc_bare : Pc N m adj (fun _ => -1) := ⟨fun _ _ => Or.inl rfl, fun _ _ _ _ _ h => absurd rfl h⟩
/-- The last node gets its colour. -/
theorem Gz.last (h : Gz N m adj ls) {v c : Nat} {col : Nat → Int} (hv : v < N) (hp : Pc N m adj col) (ha : ∀ x, x < N → x ≠ v → col x ≠ -1) (hl : Lst (ls v) col c) (hc : c < m) : Done N m adj (updC col v c) := by
  refine ⟨hp.paint h.sym h.irr hv (fun x hx hvx => (h.mem v x hv).2 ⟨hx, hvx⟩) hl hc, fun x hx => ?_⟩
  by_cases e : x = v
  · subst e; rw [updC_same]; omega
  · rw [updC_ne e]; exact ha x hx e
theorem Gz.all (h : Gz N m adj ls) {s : Nat} {L : List Nat} {opn : Nat → Bool} (hs : s < N) (hb : Bfo N adj opn s L) (ho : ∀ x, x < N → opn x = true) : ∀ x, x < N → x ∈ L := fun x hx =>
  hb.mem ((h.conn s x hs hx).mono (fun a ha => ⟨ha, Or.inr (ho a ha)⟩))
/-- What the fill leaves, where all nodes are open. -/
theorem Gz.fill (h : Gz N m adj ls) {s : Nat} {L : List Nat} {col : Nat → Int} (hs : s < N) (hb : Bfo N adj (fun _ => ((-1 : Int) == -1)) s L) (hf : FillI N m adj L (fun _ => -1) (L.length - 1) col) : Pc N m adj col ∧ (∀ x, x < N → x ≠ s → col x ≠ -1) ∧ col s = -1 := by
  obtain ⟨h1, _, h3, h4⟩ := hf.end' hb
  exact ⟨h1, fun x hx hxs => h3 x (h.all hs hb (fun _ _ => rfl) x hx) hxs, h4⟩
theorem Gz.few (h : Gz N m adj ls) {v c : Nat} {L : List Nat} {col : Nat → Int} (hv : v < N) (hlt : (ls v).length < m) (hb : Bfo N adj (fun _ => ((-1 : Int) == -1)) v L) (hf : FillI N m adj L (fun _ => -1) (L.length - 1) col) (hl : Lst (ls v) col c) : Done N m adj (updC col v c) := by
  obtain ⟨h1, h2, _⟩ := h.fill hv hb hf
  exact h.last hv h1 h2 hl (Nat.lt_of_le_of_lt hl.le hlt)
/-- A cut has in no piece all of the nodes near it. -/
theorem Gz.sep (h : Gz N m adj ls) {cut : Nat} (hcut : cut < N) (hc : ¬ Hang (fun a b => adj a b = true) (fun a => a < N ∧ a ≠ cut)) :
    ∀ u ∈ ls cut, ∀ P, Bfo N adj (fun v => v != cut) u P → (P.filter (fun v => (ls cut).contains v)).length < m := by
  intro u hu P hb
  have hsym : ∀ a b, adj a b = true → adj b a = true := fun a b hab => by rw [h.sym]; exact hab
  have huN := ((h.mem cut u hcut).1 hu)
  have huc : u ≠ cut := fun e => by rw [e, h.irr] at huN; cases huN.2
  have inP : ∀ z, Cn (fun a b => adj a b = true) (fun a => a < N ∧ a ≠ cut) u z → z ∈ P := fun z hz =>
    hb.mem (hz.mono (fun a ha => ⟨ha.1, Or.inr (by simpa using ha.2)⟩))
  have ofP : ∀ z, z ∈ P → Cn (fun a b => adj a b = true) (fun a => a < N ∧ a ≠ cut) u z := fun z hz => by
    obtain ⟨i, hi, rfl⟩ := List.getElem_of_mem hz
    have e : P[i] = P.getD i 0 := by simp [List.getD, List.getElem?_eq_getElem hi]
    rw [e]
    refine (hb.cn i hi).mono (fun a ha => ⟨ha.1, ?_⟩)
    rcases ha.2 with rfl | h1
    · exact huc
    · simpa using h1
  -- a node that is not in the piece
  obtain ⟨z, hzN, hzc, hzP⟩ : ∃ z, z < N ∧ z ≠ cut ∧ z ∉ P := by
    apply Classical.byContradiction
    intro hno
    apply hc
    intro x y hx hy
    have h1 : x ∈ P := Classical.byContradiction fun e => hno ⟨x, hx.1, hx.2, e⟩
    have h2 : y ∈ P := Classical.byContradiction fun e => hno ⟨y, hy.1, hy.2, e⟩
    exact ((ofP x h1).symm hsym).trans (ofP y h2)
  obtain ⟨t, ht, htc⟩ := (h.conn z cut hzN hcut).to hzc
  have htP : t ∉ P := fun e => hzP (inP z ((ofP t e).trans (ht.symm hsym)))
  have htl : t ∈ ls cut := (h.mem cut t hcut).2 ⟨ht.right.1, hsym _ _ htc⟩
  have hlen := nodup_lenN (P.filter (fun v => (ls cut).contains v)) ((ls cut).erase t) (hb.nodup.filter _) (fun e he => by
    obtain ⟨h1, h2⟩ := List.mem_filter.1 he
    exact (List.mem_erase_of_ne (fun (e' : e = t) => htP (by rw [← e']; exact h1))).2 (List.contains_iff_mem.1 h2))
  rw [List.length_erase_of_mem htl] at hlen
  have := List.length_pos_of_mem htl
  have := h.le cut hcut
  omega
theorem Gz.cut (h : Gz N m adj ls) (hm : 0 < m) {v c : Nat} {L : List Nat} {col col' : Nat → Int} (hv : v < N) (hc : ¬ Hang (fun a b => adj a b = true) (fun a => a < N ∧ a ≠ v)) (hb : Bfo N adj (fun _ => ((-1 : Int) == -1)) v L) (hf : FillI N m adj L (fun _ => -1) (L.length - 1) col)
    (hsp : SpF N adj (ls v) v (ls v) col col') (hl : Lst (ls v) col' c) : Done N m adj (updC col' v c) := by
  obtain ⟨h1, h2, h3⟩ := h.fill hv hb hf
  have hi : SpI N m adj v [] col := ⟨h1, h3, h2, fun x hx => by simp at hx⟩
  have ho := hsp.ok hi (fun x hx => hx) (fun x hx e => by
    have := (h.mem v x hv).1 hx
    rw [e, h.irr] at this
    cases this.2) h.sym (h.sep hv hc)
  refine h.last hv ho.pc ho.all hl ?_
  apply Classical.byContradiction
  intro hn
  obtain ⟨x, hx, he⟩ := hl.2 0 (by omega)
  exact ho.zero x hx he
/-- The colours ahead of the third case. -/
def colF (a b : Nat) : Nat → Int := updC (updC (fun _ => -1) a 0) b 0
theorem colF_open {a b x : Nat} : (colF a b x == -1) = (x != a && x != b) := by
  unfold colF updC
  by_cases h1 : x = b
  · simp [h1]
  · by_cases h2 : x = a
    · simp [h2]
    · simp [h1, h2]
theorem Gz.fork (h : Gz N m adj ls) {v a b c : Nat} {L : List Nat} {col : Nat → Int} (hv : v < N) (ha : a ∈ ls v) (hb : b ∈ ls v) (hab : a ≠ b) (hf : IsFork N adj v a b) (hB : Bfo N adj (fun x => colF a b x == -1) v L)
    (hfi : FillI N m adj L (colF a b) (L.length - 1) col) (hl : Lst (ls v) col c) : Done N m adj (updC col v c) := by
  obtain ⟨hnab, L', hB', hlen⟩ := hf
  have haN := (h.mem v a hv).1 ha
  have hbN := (h.mem v b hv).1 hb
  have hva : v ≠ a := fun e => by rw [← e, h.irr] at haN; cases haN.2
  have hvb : v ≠ b := fun e => by rw [← e, h.irr] at hbN; cases hbN.2
  obtain ⟨h1, h2, h3, h4⟩ := hfi.end' hB
  have outA : ∀ (K : List Nat) (o : Nat → Bool), Bfo N adj o v K → (∀ x, o x = (x != a && x != b)) → ∀ x ∈ K, x ≠ a ∧ x ≠ b := fun K o hK ho x hx => by
    obtain ⟨i, hi, rfl⟩ := List.getElem_of_mem hx
    have e : K[i] = K.getD i 0 := by simp [List.getD, List.getElem?_eq_getElem hi]
    rw [e]
    by_cases h0 : i = 0
    · subst h0; rw [hK.first]; exact ⟨hva, hvb⟩
    · have := hK.open' i (by omega) hi
      rw [ho] at this
      simpa using this
  -- all others are reached
  have all' : ∀ x, x < N → x ≠ a → x ≠ b → x ∈ L' := fun x hx hxa hxb => by
    apply Classical.byContradiction
    intro hn
    have := nodup_lenN (x :: a :: b :: L') (List.range N) (by
      rw [List.nodup_cons, List.nodup_cons, List.nodup_cons]
      refine ⟨?_, ?_, ?_, hB'.nodup⟩
      · simp only [List.mem_cons, not_or]; exact ⟨hxa, hxb, hn⟩
      · simp only [List.mem_cons, not_or]; exact ⟨hab, fun e => (outA L' _ hB' (fun _ => rfl) a e).1 rfl⟩
      · exact fun e => (outA L' _ hB' (fun _ => rfl) b e).2 rfl) (fun e he => by
      rw [List.mem_range]
      simp only [List.mem_cons] at he
      rcases he with rfl | rfl | rfl | he
      · exact hx
      · exact haN.1
      · exact hbN.1
      · exact hB'.lt e he)
    simp only [List.length_cons, List.length_range] at this
    omega
  have all : ∀ x, x < N → x ≠ a → x ≠ b → x ∈ L := fun x hx hxa hxb => by
    obtain ⟨i, hi, e⟩ := List.getElem_of_mem (all' x hx hxa hxb)
    have e2 : L'.getD i 0 = x := by simp [List.getD, List.getElem?_eq_getElem hi, e]
    have hc := hB'.cn i hi
    rw [e2] at hc
    refine hB.mem (hc.mono (fun y hy => ⟨hy.1, ?_⟩))
    rcases hy.2 with e | e
    · exact Or.inl e
    · refine Or.inr ?_
      show (colF a b y == -1) = true
      rw [colF_open]; exact e
  have haL : a ∉ L := fun e => (outA L _ hB (fun x => colF_open) a e).1 rfl
  have hbL : b ∉ L := fun e => (outA L _ hB (fun x => colF_open) b e).2 rfl
  have ca : col a = 0 := by
    rw [h2 a haL]; unfold colF; rw [updC_ne hab, updC_same]
  have cb : col b = 0 := by
    rw [h2 b hbL]; unfold colF; rw [updC_same]
  refine h.last hv h1 (fun x hx hxv => ?_) hl ?_
  · by_cases e1 : x = a
    · rw [e1, ca]; omega
    · by_cases e2 : x = b
      · rw [e2, cb]; omega
      · exact h3 x (all x hx e1 e2) hxv
  · have := hl.two ha hb hab (by rw [ca, cb])
    have := h.le v hv
    omega
theorem pc_colF {a b : Nat} (hm : 0 < m) (hs : ∀ x y, adj x y = adj y x) (hi : ∀ x, adj x x = false) (hab : adj a b = false) : Pc N m adj (colF a b) := by
  have hv : ∀ x, colF a b x = -1 ∨ (colF a b x = 0 ∧ (x = a ∨ x = b)) := fun x => by
    unfold colF updC
    by_cases h1 : x = b
    · simp [h1]
    · by_cases h2 : x = a
      · simp [h2]
      · simp [h1, h2]
  refine ⟨fun x _ => ?_, fun x y _ _ hxy hne he => ?_⟩
  · rcases hv x with h | ⟨h, _⟩
    · exact Or.inl h
    · exact Or.inr ⟨by omega, by omega⟩
  · rcases hv x with h | ⟨h, hx⟩
    · exact hne h
    · rcases hv y with h' | ⟨h', hy⟩
      · omega
      · rcases hx with rfl | rfl <;> rcases hy with rfl | rfl
        · rw [hi] at hxy; cases hxy
        · rw [hab] at hxy; cases hxy
        · rw [hs, hab] at hxy; cases hxy
        · rw [hi] at hxy; cases hxy
/-- There is a fork. -/
theorem Gz.some (h : Gz N m adj ls) (hm : 3 ≤ m) (hd : ∀ x, x < N → m ≤ (ls x).length) (hcut : ∀ c, c < N → Hang (fun a b => adj a b = true) (fun a => a < N ∧ a ≠ c)) (hnf : ∃ x y, x < N ∧ y < N ∧ x ≠ y ∧ adj x y = false)
    (hno : ∀ v, v < N → NoTo N adj ls v (ls v).length 0) : False := by
  have hsym : ∀ a b, adj a b = true → adj b a = true := fun a b hab => by rw [h.sym]; exact hab
  obtain ⟨x, y, hx, hy, hxy, hn⟩ := hnf
  obtain ⟨v, a, b, hva, hvb, hab, hnab, hH⟩ := fork_some (N := N) (e := fun a b => adj a b = true) hsym (fun a ha => by rw [h.irr] at ha; cases ha) h.lt h.conn hcut (fun z hz a b => by
    apply Classical.byContradiction
    intro hno
    have := nodup_lenN (ls z) [a, b] (h.nd z hz) (fun e he => by
      have he' := ((h.mem z e hz).1 he).2
      by_cases e1 : e = a
      · simp [e1]
      · by_cases e2 : e = b
        · simp [e2]
        · exact absurd ⟨e, he', e1, e2⟩ hno)
    have := hd z hz
    simp at *
    omega) ⟨x, y, hx, hy, hxy, by rw [hn]; simp⟩
  have hv := (h.lt v a hva).1
  have haN := (h.lt v a hva).2
  have hbN := (h.lt v b hvb).2
  have key : ∀ a b, adj v a = true → adj v b = true → a ≠ b → adj a b = false → Hang (fun a b => adj a b = true) (fun x => (x < N ∧ x ≠ a) ∧ x ≠ b) → ∀ i j, i < (ls v).length → j < i → (ls v).getD i 0 = a → (ls v).getD j 0 = b → False := by
    intro a b hva hvb hab hnab hH i j hi hj e1 e2
    have haN := (h.lt v a hva).2
    have hbN := (h.lt v b hvb).2
    have hva' : v ≠ a := fun e => by rw [← e, h.irr] at hva; cases hva
    have hvb' : v ≠ b := fun e => by rw [← e, h.irr] at hvb; cases hvb
    have := hno v hv i j hi hj (Or.inl hi)
    rw [e1, e2] at this
    rcases this with h1 | ⟨L, hB, hlen⟩
    · rw [hnab] at h1; cases h1
    · apply hlen
      have outA : ∀ x ∈ L, x ≠ a ∧ x ≠ b := fun x hx => by
        obtain ⟨i, hi, rfl⟩ := List.getElem_of_mem hx
        have e : L[i] = L.getD i 0 := by simp [List.getD, List.getElem?_eq_getElem hi]
        rw [e]
        by_cases h0 : i = 0
        · subst h0; rw [hB.first]; exact ⟨hva', hvb'⟩
        · have := hB.open' i (by omega) hi
          simpa using this
      have all : ∀ x, x < N → x ≠ a → x ≠ b → x ∈ L := fun x hx hxa hxb =>
        hB.mem ((hH v x ⟨⟨hv, hva'⟩, hvb'⟩ ⟨⟨hx, hxa⟩, hxb⟩).mono (fun y hy => ⟨hy.1.1, Or.inr (by simp [hy.1.2, hy.2])⟩))
      have l1 := nodup_lenN (a :: b :: L) (List.range N) (by
        rw [List.nodup_cons, List.nodup_cons]
        refine ⟨?_, ?_, hB.nodup⟩
        · simp only [List.mem_cons, not_or]; exact ⟨hab, fun e => (outA a e).1 rfl⟩
        · exact fun e => (outA b e).2 rfl) (fun e he => by
        rw [List.mem_range]
        simp only [List.mem_cons] at he
        rcases he with rfl | rfl | he
        · exact haN
        · exact hbN
        · exact hB.lt e he)
      have l2 := nodup_lenN (List.range N) (a :: b :: L) List.nodup_range (fun e he => by
        rw [List.mem_range] at he
        simp only [List.mem_cons]
        by_cases e1 : e = a
        · exact Or.inl e1
        · by_cases e2 : e = b
          · exact Or.inr (Or.inl e2)
          · exact Or.inr (Or.inr (all e he e1 e2)))
      simp only [List.length_cons, List.length_range] at l1 l2
      omega
  have ia := (h.mem v a hv).2 ⟨haN, hva⟩
  have ib := (h.mem v b hv).2 ⟨hbN, hvb⟩
  obtain ⟨i, hi, ei⟩ := List.getElem_of_mem ia
  obtain ⟨j, hj, ej⟩ := List.getElem_of_mem ib
  have ei' : (ls v).getD i 0 = a := by simp [List.getD, List.getElem?_eq_getElem hi, ei]
  have ej' : (ls v).getD j 0 = b := by simp [List.getD, List.getElem?_eq_getElem hj, ej]
  have hnab' : adj a b = false := by simpa using hnab
  rcases Nat.lt_trichotomy i j with hij | hij | hij
  · refine key b a hvb hva (fun e => hab e.symm) (by rw [h.sym]; exact hnab') ?_ j i hj hij ej' ei'
    intro x y hx hy
    exact (hH x y ⟨⟨hx.1.1, hx.2⟩, hx.1.2⟩ ⟨⟨hy.1.1, hy.2⟩, hy.1.2⟩).mono (fun c hc => ⟨⟨hc.1.1, hc.2⟩, hc.1.2⟩)
  · subst hij
    exact hab (ei.symm.trans ej)
  · exact key a b hva hvb hab hnab' hH i j hi hij ei' ej'
end
end Go.Proofs.YtdnmoifbkojnlaaGreat
