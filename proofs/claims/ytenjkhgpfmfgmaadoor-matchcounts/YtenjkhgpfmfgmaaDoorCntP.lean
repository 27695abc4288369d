/- Of each node the set of those that it has an edge with, as a number. The library's contracts that Count uses, laid at this program. How many matchings go to all nodes: the search, which keeps what it has found. How many matchings go to all nodes: the search's walk. -/
import Derived.Laws.BitsAllLaws
import Derived.Laws.Shifts
import Derived.Test.YtenjkhgpfmfgmaaDoorRingM
import Derived.Test.YtenjkhgpfmfgmaaDoorNuP
import Derived.Shelf.Lays7
import Derived.Shelf.LaysM
import Derived.Shelf.Spec.TrailingZeros
import Derived.Shelf.Strconv.Itoa1
import Derived.Shelf.Strconv.Itoa2
import Derived.Test.YtenjkhgpfmfgmaaDoorProg
namespace Go.Proofs.YtenjkhgpfmfgmaaDoor
open Go.RowKit Go.Maps
attribute [local go_sem ↓] Go.wp_at_zero Go.wp_at_succ

def nearStep (v : Nat) (a : Nat) (e : Pair) : Nat := if e.1 = v then a ||| 2 ^ e.2.toNat else if e.2 = v then a ||| 2 ^ e.1.toNat else a
def nearN (L : List Pair) (v : Nat) : Nat := L.foldl (nearStep v) 0
theorem nearN_snoc (L : List Pair) (e : Pair) (v : Nat) : nearN (L ++ [e]) v = nearStep v (nearN L v) e := by simp [nearN, List.foldl_append]
theorem hasB_snoc2 (L : List Pair) (e : Pair) (u v : Int) : hasB (L ++ [e]) u v = (hasB L u v || ((e.1 == u && e.2 == v) || (e.1 == v && e.2 == u))) := by simp [hasB, List.any_append]
theorem snoc_ind {α : Type} {P : List α → Prop} (h0 : P []) (h1 : ∀ l a, P l → P (l ++ [a])) : ∀ l, P l := fun l => by
  have key : ∀ r : List α, P r.reverse := fun r => by
    induction r with
    | nil => exact h0
    | cons a r ih => rw [List.reverse_cons]; exact h1 _ _ ih
  have := key l.reverse
  rwa [List.reverse_reverse] at this
theorem nearN_bit {N : Nat} (v : Nat) : ∀ (L : List Pair), (∀ e ∈ L, (0 ≤ e.1 ∧ e.1 < (N : Int) ∧ 0 ≤ e.2 ∧ e.2 < (N : Int)) ∧ e.1 ≠ e.2) → ∀ z : Nat, (nearN L v).testBit z = hasB L v z := fun L => by
  refine snoc_ind (P := fun L => (∀ e ∈ L, (0 ≤ e.1 ∧ e.1 < (N : Int) ∧ 0 ≤ e.2 ∧ e.2 < (N : Int)) ∧ e.1 ≠ e.2) → ∀ z : Nat, (nearN L v).testBit z = hasB L v z) ?_ ?_ L
  · intro _ z; simp [nearN, hasB]
  · intro L e ih hg z
    have ih' := ih (fun e' he' => hg e' (by simp [he'])) z
    obtain ⟨⟨g1, g2, g3, g4⟩, g5⟩ := hg e (by simp)
    rw [nearN_snoc, hasB_snoc2, ← ih']
    unfold nearStep
    by_cases e1 : e.1 = v
    · have e2 : ¬ e.2 = v := fun h => g5 (e1.trans h.symm)
      rw [if_pos e1, Nat.testBit_or, Nat.testBit_two_pow]
      have b1 : (e.1 == (v : Int)) = true := by simpa using e1
      have b2 : (e.2 == (v : Int)) = false := by simpa using e2
      rw [b1, b2]
      congr 1
      rw [Bool.eq_iff_iff]
      simp
      omega
    · have b1 : (e.1 == (v : Int)) = false := by simpa using e1
      rw [if_neg e1, b1]
      by_cases e2 : e.2 = v
      · have b2 : (e.2 == (v : Int)) = true := by simpa using e2
        rw [if_pos e2, b2, Nat.testBit_or, Nat.testBit_two_pow]
        congr 1
        rw [Bool.eq_iff_iff]
        simp
        omega
      · have b2 : (e.2 == (v : Int)) = false := by simpa using e2
        rw [if_neg e2, b2]
        simp
theorem nearN_lt {N : Nat} (v : Nat) {L : List Pair} (hg : ∀ e ∈ L, (0 ≤ e.1 ∧ e.1 < (N : Int) ∧ 0 ≤ e.2 ∧ e.2 < (N : Int)) ∧ e.1 ≠ e.2) : nearN L v < 2 ^ N := by
  refine Nat.lt_pow_two_of_testBit _ fun z hz => ?_
  rw [nearN_bit v L hg z]
  cases h : hasB L v z with
  | false => rfl
  | true =>
    exfalso
    unfold hasB at h
    obtain ⟨e, he, hh⟩ := List.any_eq_true.1 h
    obtain ⟨⟨g1, g2, g3, g4⟩, g5⟩ := hg e he
    simp at hh
    omega
theorem make71N (N : Nat) (hN : N ≤ 1000) (w : World) : (Instr.makeSlice 71 (.int .i64 (N : Int)) (.int .i64 (N : Int))).run Tryd.prog w = .ok (.slice (some ⟨w.heap.size, 0, none⟩) N N) (w.alloc (.cells (rep N (.int .u32 0)) 92)) := by
  obtain ⟨i3, hi3, hy0, hy1, hy2⟩ := info_parts Tryd.info92
  have hr := run_make (P := Tryd.prog) w 71 92 i3 (.int .u32 0) Tryd.underlying71 hi3 hy0 .i64 .i64 N N (by omega) (Int.le_refl _) (by rw [hy2]; omega) (by omega)
  simpa [hy1, Value.cells] using hr

set_option maxRecDepth 4000 in
set_option maxHeartbeats 4000000 in
theorem nearSets_call {w : World} {vo : Option Addr} {vc N : Nat} {es : List Pair} (hE : EdgesAt w (.slice vo es.length vc) es) (hN : N ≤ 24) (hl : es.length ≤ 1000) (hg : ∀ e ∈ es, (0 ≤ e.1 ∧ e.1 < (N : Int) ∧ 0 ≤ e.2 ∧ e.2 < (N : Int)) ∧ e.1 ≠ e.2) :
    Calls Tryd.prog 38 #[.agg #[.int .i64 (N : Int), .slice vo es.length vc]] w fun e w' => ∃ gn, e = .returned (.slice (some ⟨gn, 0, none⟩) N N) ∧ RowV w' gn 92 N (fun i => .int .u32 (nearN es i : Nat)) ∧ Below w.heap.size w w' := by
  have hmk := make71N N (by omega)
  obtain ⟨R0, hR0⟩ : ∃ R, R = rep N (.int .u32 0) := ⟨_, rfl⟩
  rw [← hR0] at hmk
  have hr0 : RowV ((w.alloc (Obj.cells #[.int .i64 (N : Int), .slice vo es.length vc] 24)).alloc (.cells R0 92)) (w.heap.size + 1) 92 N (fun _ => .int .u32 0) := rowV_rep (by rw [hR0]; simpa using heap_alloc_new (w.alloc (Obj.cells #[.int .i64 (N : Int), .slice vo es.length vc] 24)) (.cells (rep N (.int .u32 0)) 92))
  have hB0 := below_alloc (below_alloc (Below.refl w.heap.size w) (Obj.cells #[.int .i64 (N : Int), .slice vo es.length vc] 24)) (.cells R0 92)
  have t0 : Two ((w.alloc (Obj.cells #[.int .i64 (N : Int), .slice vo es.length vc] 24)).alloc (.cells R0 92)) w.heap.size (.int .i64 (N : Int)) (.slice vo es.length vc) 24 := two_alloc (two_new w _ _ _) _
  have hEc : ∀ k x y : Nat, es[k]? = some ((x : Int), (y : Int)) → ∃ b off, vo = some ⟨b, off, none⟩ ∧ w.cell? ⟨b, off + k * 2, none⟩ = some (.int .i64 (x : Int)) ∧ w.cell? ⟨b, off + k * 2 + 1, none⟩ = some (.int .i64 (y : Int)) := fun k x y hk => by
    obtain ⟨ao, cap, e, _, _, hc⟩ := hE
    cases e
    obtain ⟨h1, h2⟩ := List.getElem?_eq_some_iff.1 hk
    obtain ⟨b, off, e1, c0, c1⟩ := hc k h1
    rw [h2] at c0 c1
    exact ⟨b, off, e1, c0, c1⟩
  have HEC : Hid _ := hEc
  have HG : Hid _ := hg
  clear hE hEc hg hR0
  go_enter Tryd.func38, Tryd.ntmps38
  go_upto_region 2 with (fail)
  generalize (w.alloc (Obj.cells #[.int .i64 (N : Int), .slice vo es.length vc] 24)).alloc (.cells R0 92) = W0 at hr0 hB0 t0 ⊢
  obtain ⟨y1, y2⟩ := cell_two t0
  clear hmk
  go_wp2
  clear y1 y2 t0
  go_loopw [12] (fun i wr => ∃ k : Nat, k ≤ es.length ∧ i = .int .i64 (k : Int) ∧ RowV wr (w.heap.size + 1) 92 N (fun i => .int .u32 (nearN (es.take k) i : Nat)) ∧ Below w.heap.size w wr) (fun i _ => es.length - (numOf i).toNat)
  case atStart => exact ⟨0, by omega, rfl, hr0.congr (fun j _ => by simp [nearN]), hB0⟩
  case round =>
    obtain ⟨k, hk, rfl, hrow, hB⟩ := hrel
    clear hr0 hB0
    by_cases hkl : k < es.length
    · obtain ⟨⟨g1, g2, g3, g4⟩, g5⟩ := HG.out es[k] (List.getElem_mem hkl)
      obtain ⟨x, hx⟩ : ∃ x : Nat, es[k].1 = x := ⟨es[k].1.toNat, by omega⟩
      obtain ⟨y, hy⟩ : ∃ y : Nat, es[k].2 = y := ⟨es[k].2.toNat, by omega⟩
      have hxN : x < N := by omega
      have hyN : y < N := by omega
      have hxy : x ≠ y := fun e => g5 (by rw [hx, hy, e])
      have hek : es[k]? = some ((x : Int), (y : Int)) := by rw [List.getElem?_eq_getElem hkl, ← hx, ← hy]
      obtain ⟨b, off, rfl, cx0, cy0⟩ := HEC.out k x y hek
      have cx := (hB.cell (by exact World.block_lt_of_cell? w _ cx0)).trans cx0
      have cy := (hB.cell (by exact World.block_lt_of_cell? w _ cy0)).trans cy0
      obtain ⟨a, ha⟩ : ∃ a, a = nearN (es.take k) x := ⟨_, rfl⟩
      obtain ⟨c, hc⟩ : ∃ c, c = nearN (es.take k) y := ⟨_, rfl⟩
      have r1 := hrow.cell hxN
      have r2 := hrow.cell hyN
      rw [← ha] at r1
      rw [← hc] at r2
      have f1 := hrow.free x
      have f2 := hrow.free y
      have hgt : ∀ e ∈ es.take k, (0 ≤ e.1 ∧ e.1 < (N : Int) ∧ 0 ≤ e.2 ∧ e.2 < (N : Int)) ∧ e.1 ≠ e.2 := fun e he => HG.out e (List.mem_of_mem_take he)
      have p24 : 2 ^ N ≤ 16777216 := by have : 2 ^ N ≤ 2 ^ 24 := Nat.pow_le_pow_right (by omega) hN; simpa using this
      have hal : a < 4294967296 := by have := nearN_lt x hgt; rw [← ha] at this; omega
      have hcl : c < 4294967296 := by have := nearN_lt y hgt; rw [← hc] at this; omega
      have hpx : 2 ^ x < 4294967296 := by have : 2 ^ x ≤ 2 ^ 24 := Nat.pow_le_pow_right (by omega) (by omega); have e : (2 : Nat) ^ 24 = 16777216 := rfl; omega
      have hpy : 2 ^ y < 4294967296 := by have : 2 ^ y ≤ 2 ^ 24 := Nat.pow_le_pow_right (by omega) (by omega); have e : (2 : Nat) ^ 24 = 16777216 := rfl; omega
      have i1 : (0 : Int) ≤ (k : Int) := by omega
      have i2 : (k : Int) < (es.length : Int) := by omega
      have j1 : (0 : Int) ≤ (x : Int) := by omega
      have j2 : (x : Int) < (N : Int) := by omega
      have j3 : (0 : Int) ≤ (y : Int) := by omega
      have j4 : (y : Int) < (N : Int) := by omega
      have hlw : w.heap.size + 1 < wr.heap.size := hrow.lt
      have hnw : ¬ wr.heap.size = w.heap.size + 1 := by omega
      have hnw' : ¬ w.heap.size + 1 = wr.heap.size := by omega
      obtain ⟨a1, ha1⟩ : ∃ a1, a1 = a ||| 2 ^ y := ⟨_, rfl⟩
      obtain ⟨c1, hc1⟩ : ∃ c1, c1 = c ||| 2 ^ x := ⟨_, rfl⟩
      have q1 : bits BinOp.or IntKind.u32 (a : Int) ((2 : Int) ^ y % 4294967296) = (a1 : Int) := by
        have e : (2 : Int) ^ y % 4294967296 = ((2 ^ y : Nat) : Int) := by
          have e2 : (2 : Int) ^ y = ((2 ^ y : Nat) : Int) := by push_cast; rfl
          rw [e2]
          generalize 2 ^ y = P at hpy ⊢
          omega
        rw [e, u32_or_nat a _ hal hpy, ha1]
      have q2 : bits BinOp.or IntKind.u32 (c : Int) ((2 : Int) ^ x % 4294967296) = (c1 : Int) := by
        have e : (2 : Int) ^ x % 4294967296 = ((2 ^ x : Nat) : Int) := by
          have e2 : (2 : Int) ^ x = ((2 ^ x : Nat) : Int) := by push_cast; rfl
          rw [e2]
          generalize 2 ^ x = P at hpx ⊢
          omega
        rw [e, u32_or_nat c _ hcl hpx, hc1]
      have hrow3 := ((hrow.set x (.int .u32 (a1 : Int))).set y (.int .u32 (c1 : Int))).congr (g := fun i => .int .u32 (nearN (es.take (k + 1)) i : Nat)) (fun j hj => by
        rw [List.take_succ_eq_append_getElem hkl, nearN_snoc]
        unfold nearStep
        rw [hx, hy]
        by_cases e1 : j = y
        · subst e1
          have : ¬ (x : Int) = (j : Int) := by omega
          rw [if_neg this, if_pos rfl]
          simp [hc1, hc]
        · by_cases e2 : j = x
          · subst e2
            rw [if_pos rfl]
            simp [e1, ha1, ha]
          · have n1 : ¬ (x : Int) = (j : Int) := by omega
            have n2 : ¬ (y : Int) = (j : Int) := by omega
            rw [if_neg n1, if_neg n2]
            simp [e1, e2])
      have hB3 := below_alloc ((hB.setCell (p := ⟨w.heap.size + 1, x, none⟩) (by simp) (.int .u32 (a1 : Int))).setCell (p := ⟨w.heap.size + 1, y, none⟩) (by simp) (.int .u32 (c1 : Int))) (Obj.cells #[.int .i64 (x : Int), .int .i64 (y : Int)] 50)
      have hrow4 := hrow3.block (w' := (((wr.setCell ⟨w.heap.size + 1, x, none⟩ (.int .u32 (a1 : Int))).setCell ⟨w.heap.size + 1, y, none⟩ (.int .u32 (c1 : Int))).alloc (Obj.cells #[.int .i64 (x : Int), .int .i64 (y : Int)] 50)).drew.drew) (Below.heap_alloc _ _ _ hrow3.lt)
      have HR3 : Hid _ := hrow4
      have hyx : ¬ y = x := fun e => hxy e.symm
      clear hrow hrow3 hrow4 ha hc hgt hek hx hy cx0 cy0 ha1 hc1 hal hcl hpx hpy p24
      go_upto_region 5 with (fail)
      go_region
      go_upto_region 6 with (fail)
      go_region
      go_wp2
      go_roundw
      case rel => exact ⟨k + 1, by omega, by go_num, HR3.out, hB3.drew.drew⟩
      case measure => simp [numOf]; omega
    · have hke : es.length = k := by omega
      have i2 : ¬ (k : Int) < (es.length : Int) := by omega
      have hrow2 : RowV wr (w.heap.size + 1) 92 N (fun i => .int .u32 (nearN es i : Nat)) := hrow.congr (fun j _ => by rw [← hke, List.take_length])
      have HR : Hid _ := hrow2
      clear hrow hrow2 hke
      go_wp2
      go_ret
      exact ⟨_, rfl, HR.out, hB⟩
end Go.Proofs.YtenjkhgpfmfgmaaDoor

namespace Go.Proofs
open Go.Shelf
def Tryd.lays7_28_ren : Go.Shelf.Ren := ⟨fun | 28 => 50 | n => n, fun | 25 => 91 | 27 => 92 | 53 => 124 | n => n, fun | 0 => 0 | n => n⟩
theorem Tryd.lays7_28 : Go.Proofs.Lays7.n28 Tryd.prog Tryd.lays7_28_ren := {
  mixed := by kernel_rfl
  f28 := Tryd.func50.trans (congrArg some (by kernel_rfl))
  t0 := Tryd.underlying0
  a0 := Tryd.isAgg0
  z0 := Tryd.sizeOf0
  v0 := Tryd.zeroValue0
  i0 := by kernel_rfl
  t3 := Tryd.underlying3
  a3 := Tryd.isAgg3
  z3 := Tryd.sizeOf3
  v3 := Tryd.zeroValue3
  i3 := by kernel_rfl
  t4 := Tryd.underlying4
  a4 := Tryd.isAgg4
  z4 := Tryd.sizeOf4
  v4 := Tryd.zeroValue4
  i4 := by kernel_rfl
  t5 := Tryd.underlying5
  a5 := Tryd.isAgg5
  z5 := Tryd.sizeOf5
  v5 := Tryd.zeroValue5
  i5 := by kernel_rfl
  t25 := Tryd.underlying91
  a25 := Tryd.isAgg91
  z25 := Tryd.sizeOf91
  v25 := Tryd.zeroValue91
  i25 := by kernel_rfl
  t27 := Tryd.underlying92
  a27 := Tryd.isAgg92
  z27 := Tryd.sizeOf92
  v27 := Tryd.zeroValue92
  i27 := by kernel_rfl
  t53 := Tryd.underlying124
  a53 := Tryd.isAgg124
  z53 := Tryd.sizeOf124
  v53 := Tryd.zeroValue124
  i53 := by kernel_rfl
  g0 := by kernel_rfl }
def Tryd.laysM284_ren : Go.Shelf.Ren := ⟨fun | 129 => 75 | 284 => 77 | 317 => 89 | 318 => 90 | n => n, fun | 37 => 73 | 46 => 91 | 51 => 92 | 53 => 69 | 212 => 135 | 171 => 120 | n => n, fun | 17 => 1 | n => n⟩
theorem Tryd.laysM284 : Go.Proofs.LaysM.n284 Tryd.prog Tryd.laysM284_ren := {
  mixed := by kernel_rfl
  f129 := Tryd.func75.trans (congrArg some (by kernel_rfl))
  f284 := Tryd.func77.trans (congrArg some (by kernel_rfl))
  f317 := Tryd.func89.trans (congrArg some (by kernel_rfl))
  f318 := Tryd.func90.trans (congrArg some (by kernel_rfl))
  t0 := Tryd.underlying0
  a0 := Tryd.isAgg0
  z0 := Tryd.sizeOf0
  v0 := Tryd.zeroValue0
  t3 := Tryd.underlying3
  a3 := Tryd.isAgg3
  z3 := Tryd.sizeOf3
  v3 := Tryd.zeroValue3
  t4 := Tryd.underlying4
  a4 := Tryd.isAgg4
  z4 := Tryd.sizeOf4
  v4 := Tryd.zeroValue4
  t5 := Tryd.underlying5
  a5 := Tryd.isAgg5
  z5 := Tryd.sizeOf5
  v5 := Tryd.zeroValue5
  t9 := Tryd.underlying9
  a9 := Tryd.isAgg9
  z9 := Tryd.sizeOf9
  v9 := Tryd.zeroValue9
  t46 := Tryd.underlying91
  a46 := Tryd.isAgg91
  z46 := Tryd.sizeOf91
  v46 := Tryd.zeroValue91
  t53 := Tryd.underlying69
  a53 := Tryd.isAgg69
  z53 := Tryd.sizeOf69
  v53 := Tryd.zeroValue69
  t212 := Tryd.underlying135
  a212 := Tryd.isAgg135
  z212 := Tryd.sizeOf135
  v212 := Tryd.zeroValue135
  g17 := by kernel_rfl
  i0 := by kernel_rfl
  i3 := by kernel_rfl
  i4 := by kernel_rfl
  i5 := by kernel_rfl
  i9 := by kernel_rfl
  i46 := by kernel_rfl
  i53 := by kernel_rfl
  i212 := by kernel_rfl
  m17 := by kernel_rfl }
def Tryd.lays285_ren : Go.Shelf.Ren := ⟨fun | 285 => 78 | n => n, fun | 37 => 73 | 46 => 91 | 51 => 92 | 53 => 69 | 212 => 135 | 171 => 120 | n => n, fun | n => n⟩
theorem Tryd.lays285 : Go.Proofs.Lays.n285 Tryd.prog Tryd.lays285_ren := {
  mixed := by kernel_rfl
  f285 := Tryd.func78.trans (congrArg some (by kernel_rfl))
  t0 := Tryd.underlying0
  a0 := Tryd.isAgg0
  z0 := Tryd.sizeOf0
  v0 := Tryd.zeroValue0
  t3 := Tryd.underlying3
  a3 := Tryd.isAgg3
  z3 := Tryd.sizeOf3
  v3 := Tryd.zeroValue3
  t4 := Tryd.underlying4
  a4 := Tryd.isAgg4
  z4 := Tryd.sizeOf4
  v4 := Tryd.zeroValue4
  t5 := Tryd.underlying5
  a5 := Tryd.isAgg5
  z5 := Tryd.sizeOf5
  v5 := Tryd.zeroValue5
  t9 := Tryd.underlying9
  a9 := Tryd.isAgg9
  z9 := Tryd.sizeOf9
  v9 := Tryd.zeroValue9
  t37 := Tryd.underlying73
  a37 := Tryd.isAgg73
  z37 := Tryd.sizeOf73
  v37 := Tryd.zeroValue73
  t51 := Tryd.underlying92
  a51 := Tryd.isAgg92
  z51 := Tryd.sizeOf92
  v51 := Tryd.zeroValue92
  t53 := Tryd.underlying69
  a53 := Tryd.isAgg69
  z53 := Tryd.sizeOf69
  v53 := Tryd.zeroValue69 }
def Tryd.lays283_ren : Go.Shelf.Ren := ⟨fun | 283 => 76 | n => n, fun | 37 => 73 | 46 => 91 | 51 => 92 | 53 => 69 | 212 => 135 | 171 => 120 | n => n, fun | n => n⟩
theorem Tryd.lays283 : Go.Proofs.Lays.n283 Tryd.prog Tryd.lays283_ren := {
  mixed := by kernel_rfl
  f283 := Tryd.func76.trans (congrArg some (by kernel_rfl))
  t3 := Tryd.underlying3
  a3 := Tryd.isAgg3
  z3 := Tryd.sizeOf3
  v3 := Tryd.zeroValue3
  t4 := Tryd.underlying4
  a4 := Tryd.isAgg4
  z4 := Tryd.sizeOf4
  v4 := Tryd.zeroValue4
  t9 := Tryd.underlying9
  a9 := Tryd.isAgg9
  z9 := Tryd.sizeOf9
  v9 := Tryd.zeroValue9 }
end Go.Proofs

namespace Go.Proofs.YtenjkhgpfmfgmaaDoor
open Go.RowKit Go.Maps
attribute [local go_sem ↓] Go.wp_at_zero Go.wp_at_succ

theorem ctz_bits {O : Nat} (h0 : O ≠ 0) (h : O < 4294967296) : O.testBit (Lib.ctz 32 O) = true ∧ (∀ z, z < Lib.ctz 32 O → O.testBit z = false) ∧ (O &&& (O - 1)).testBit = outB O.testBit (Lib.ctz 32 O) ∧ Lib.ctz 32 O < 32 := by
  obtain ⟨m, hm, hk⟩ := Lib.ctzFrom_spec 32 O (by omega) h
  have e : Lib.ctz 32 O = Lib.ctzFrom 32 O := by simp [Lib.ctz, h0]
  rw [e]
  generalize Lib.ctzFrom 32 O = c at hm hk ⊢
  have hp : 2 ^ (c + 1) = 2 ^ c + 2 ^ c := by rw [Nat.pow_succ]; omega
  have hp0 := Nat.two_pow_pos c
  have e1 : O = 2 ^ (c + 1) * m + 2 ^ c := by rw [hm, Nat.mul_add, Nat.pow_succ, Nat.mul_assoc]; omega
  have e2 : O - 1 = 2 ^ (c + 1) * m + (2 ^ c - 1) := by omega
  have b1 : ∀ z, O.testBit z = if z < c + 1 then (2 ^ c).testBit z else m.testBit (z - (c + 1)) := fun z => by
    have := Nat.testBit_two_pow_mul_add m (i := c + 1) (b := 2 ^ c) (by omega) z
    rw [← e1] at this; exact this
  have b2 : ∀ z, (O - 1).testBit z = if z < c + 1 then (2 ^ c - 1).testBit z else m.testBit (z - (c + 1)) := fun z => by
    have := Nat.testBit_two_pow_mul_add m (i := c + 1) (b := 2 ^ c - 1) (by omega) z
    rw [← e2] at this; exact this
  refine ⟨by rw [b1, if_pos (by omega)]; simp, fun z hz => by rw [b1, if_pos (by omega), Nat.testBit_two_pow]; simp; omega, ?_, hk⟩
  funext z
  rw [Nat.testBit_and, b1, b2]
  unfold outB
  rw [b1]
  by_cases hz : z < c + 1
  · rw [if_pos hz, if_pos hz, Nat.testBit_two_pow, Nat.testBit_two_pow_sub_one]
    by_cases hzc : z = c
    · subst hzc; simp
    · have : ¬ c = z := fun e => hzc e.symm
      simp [this]
  · rw [if_neg hz, if_neg hz]
    have b3 : (z == c) = false := by simp; omega
    simp [b3]
theorem andNot_bits {R c : Nat} (hR : R < 4294967296) (hc : c < 32) : (R &&& (4294967295 - 2 ^ c)).testBit = outB R.testBit c := by
  funext z
  have hp : 2 ^ c < 2 ^ 32 := Nat.pow_lt_pow_right (by omega) hc
  have e : 4294967295 - 2 ^ c = 2 ^ 32 - (2 ^ c + 1) := by
    have : (2 : Nat) ^ 32 = 4294967296 := rfl
    omega
  rw [Nat.testBit_and, e, Nat.testBit_two_pow_sub_succ hp, Nat.testBit_two_pow]
  unfold outB
  cases h : R.testBit z with
  | false => simp
  | true =>
    have hz : z < 32 := by
      apply Classical.byContradiction
      intro hz
      have h2 : R < 2 ^ z := Nat.lt_of_lt_of_le hR (by have : (2 : Nat) ^ 32 ≤ 2 ^ z := Nat.pow_le_pow_right (by omega) (by omega); simpa using this)
      rw [Nat.testBit_lt_two_pow h2] at h; cases h
    by_cases e : c = z
    · subst e; simp
    · have e' : ¬ z = c := fun h => e h.symm
      simp [hz, e, e']
theorem neg_and {O : Nat} (h0 : O ≠ 0) (h : O < 4294967296) : bits BinOp.and IntKind.u32 (O : Int) (-(O : Int) % 4294967296) = ((2 ^ Lib.ctz 32 O : Nat) : Int) := by
  have e1 : -(O : Int) % 4294967296 = ((4294967296 - O : Nat) : Int) := by omega
  rw [e1, u32_and_nat O _ h (by omega)]
  congr 1
  have := (Lib.lowest_bit 32 O h0 h).1
  simpa using this
theorem pred_and {O : Nat} (h0 : O ≠ 0) (h : O < 4294967296) : bits BinOp.and IntKind.u32 (O : Int) ((O : Int) - 1) = ((O &&& (O - 1) : Nat) : Int) := by
  have e1 : (O : Int) - 1 = ((O - 1 : Nat) : Int) := by omega
  rw [e1, u32_and_nat O _ h (by omega)]

theorem wfV64 {u : Nat} (hu : u < 18446744073709551616) : (Lit.int .u64 (u : Int)).wf = true := by
  simp [Lit.wf, IntKind.min, IntKind.max, IntKind.signed, IntKind.bits]
  omega
theorem UAt.store2 {w : World} {b n : Nat} {F : Nat → Option Nat} (h : UAt w b n F) (hn : n < 100000000) {k d : Nat} (hk : k < 4294967296) (hd : d < 18446744073709551616) :
    ∃ w', (Instr.mapUpdate 93 (.map (some b)) (.int .u32 (k : Int)) (.int .u64 (d : Int))).run Tryd.prog w = .ok () w' ∧ UAt w' b (n + 1) (fun x => if x = k then some d else F x) ∧ w.mapTurned w' b := by
  obtain ⟨D, h1, h2, h3⟩ := h
  obtain ⟨w', hrun, hown, hturn⟩ := h1.store Tryd.lawU Tryd.underlying93 (by unfold maxLen; omega) (hkeyU hk) (plainElem_int Tryd.underlying69 (a := (d : Int)) (wfV64 hd))
  refine ⟨w', hrun, ⟨_, hown, fun x hx => ?_, fun x c hx hc => ?_⟩, hturn⟩
  · by_cases e : x = k
    · subst e
      rw [has_put_same h1.isMap (show WideAt.IsKeyLit (Lit.int .u32 (x : Int)) from trivial)]
      simp
    · rw [has_put_other (by simp; omega), h2 x hx]
      simp [e]
  · replace hc : (if x = k then some d else F x) = some c := hc
    by_cases e : x = k
    · subst e
      rw [if_pos rfl] at hc
      cases hc
      exact atKey_put_same h1.isMap (show WideAt.IsKeyLit (Lit.int .u32 (x : Int)) from trivial) _ _
    · rw [if_neg e] at hc
      rw [atKey_put_other (by simp; omega)]
      exact h3 x c hx hc

theorem dfac_24 {c : Nat} (h : c ≤ 24) : dfac c ≤ 316234143225 := by
  have : ∀ c : Fin 25, dfac c.val ≤ 316234143225 := by decide +kernel
  exact this ⟨c, by omega⟩
theorem pm_24 {N : Nat} (hN : N ≤ 24) (e : Nat → Nat → Bool) (s : Nat → Bool) : pm N e s ≤ 316234143225 := by
  have h1 := pm_le N e (cnt N s) s (Nat.le_refl _)
  have h2 : cnt N s ≤ N := Nat.le_trans (List.length_filter_le _ _) (by simp)
  exact Nat.le_trans h1 (dfac_24 (by omega))

abbrev T32 (w : World) : Prop := TabAt 0 Lib.deBruijn32tab w
theorem T32.below {w w' : World} (h : T32 w) (hb : Below w.heap.size w w') : T32 w' := fun j hj => (hb.cell (by exact World.block_lt_of_cell? w _ (h j hj))).trans (h j hj)

/-- How the memory stands while the search goes on. -/
structure CG (w : World) (bk bn bc b gn N : Nat) (es : List Pair) (n : Nat) (F : Nat → Option Nat) : Prop where
  kb : Box w bk #[.map (some b)] 93
  nb : Box w bn #[.slice (some ⟨gn, 0, none⟩) N N] 71
  cb : Box w bc #[cwF bk bn bc] 94
  row : RowV w gn 92 N (fun i => .int .u32 (nearN es i : Nat))
  map : UAt w b n F
  tab : T32 w
  zero : F 0 = some 1
  ok : ∀ k d, F k = some d → d = pm N (pn (hasB es)) k.testBit
  cn : n ≤ cnt (2 ^ N) (fun k => (F k).isSome)
theorem CG.below {w w' : World} {bk bn bc b gn N n : Nat} {es : List Pair} {F : Nat → Option Nat} (h : CG w bk bn bc b gn N es n F) (hb : Below w.heap.size w w') : CG w' bk bn bc b gn N es n F := by
  have T : Turns (fun _ => False) w w' := Turns.of_below hb _
  exact ⟨box_turns h.kb T (fun h => h), box_turns h.nb T (fun h => h), box_turns h.cb T (fun h => h), h.row.turns T (fun h => h), h.map.block (hb.block _ h.map.lt), h.tab.below hb, h.zero, h.ok, h.cn⟩
theorem CG.turn {w w' : World} {bk bn bc b gn N n S d : Nat} {es : List Pair} {F : Nat → Option Nat} (h : CG w bk bn bc b gn N es n F) (hS : S < 2 ^ N) (hS0 : S ≠ 0) (hF : F S = none) (hd : d = pm N (pn (hasB es)) S.testBit) (hm : UAt w' b (n + 1) (fun x => if x = S then some d else F x)) (ht : w.mapTurned w' b) : CG w' bk bn bc b gn N es (n + 1) (fun x => if x = S then some d else F x) := by
  have T := turned_turns ht
  have ne : ∀ {k : Nat} {cs : Array Value} {t : TypeId}, w.heap[k]? = some (.cells cs t (0, 0)) → k ≠ b := fun hk e => by
    obtain ⟨D, ⟨es, clock, h1, _⟩, _⟩ := h.map
    rw [e, h1] at hk
    cases hk
  have h0 : (0 : Nat) ≠ b := fun e => by
    obtain ⟨D, ⟨es, clock, h1, _⟩, _⟩ := h.map
    have := h.tab 0 (by decide)
    rw [← e] at h1
    simp [World.cell?, h1] at this
  obtain ⟨cur, hr, _⟩ := h.row
  refine ⟨box_turns h.kb T (ne h.kb), box_turns h.nb T (ne h.nb), box_turns h.cb T (ne h.cb), h.row.turns T (ne hr), hm, fun j hj => cell_turns (h.tab j hj) T h0, ?_, fun k c hk => ?_, ?_⟩
  · have : ¬ 0 = S := fun e => hS0 e.symm
    simp [this, h.zero]
  · by_cases e : k = S
    · subst e; simp at hk; rw [← hk]; exact hd
    · simp [e] at hk; exact h.ok k c hk
  · have q := cnt_add (N := 2 ^ N) (c := S) (p := fun k => (F k).isSome) hS (by simp [hF])
    have q2 : cnt (2 ^ N) (fun z => z == S || (F z).isSome) = cnt (2 ^ N) (fun k => (if k = S then some d else F k).isSome) := cnt_congr fun z _ => by
      by_cases e : z = S
      · simp [e]
      · have b1 : (z == S) = false := by simpa using e
        simp [e, b1]
    have := h.cn
    omega
end Go.Proofs.YtenjkhgpfmfgmaaDoor

namespace Go.Proofs.YtenjkhgpfmfgmaaDoor
open Go.RowKit Go.Maps
attribute [local go_sem ↓] Go.wp_at_zero Go.wp_at_succ

theorem wrap_addU {a b : Nat} (h : a + b ≤ 316234143225) : IntKind.u64.wrap ((a : Int) + (b : Int)) = ((a + b : Nat) : Int) := by
  rw [IntKind.wrap_u64]
  omega

set_option maxRecDepth 4000 in
set_option maxHeartbeats 8000000 in
theorem cg_call {bk bn bc b gn N : Nat} {es : List Pair} (hN : N ≤ 24) (hg : ∀ e ∈ es, (0 ≤ e.1 ∧ e.1 < (N : Int) ∧ 0 ≤ e.2 ∧ e.2 < (N : Int)) ∧ e.1 ≠ e.2) : ∀ (q L : Nat), L < q → L < 2 ^ N → ∀ (w : World) (n : Nat) (F : Nat → Option Nat), CG w bk bn bc b gn N es n F →
    Calls Tryd.prog 49 #[.int .u32 (L : Int), .pointer (some ⟨bk, 0, none⟩), .pointer (some ⟨bn, 0, none⟩), .pointer (some ⟨bc, 0, none⟩)] w fun e w' => ∃ (n' : Nat) (F' : Nat → Option Nat), e = .returned (.int .u64 (pm N (pn (hasB es)) L.testBit : Int)) ∧ CG w' bk bn bc b gn N es n' F' ∧ (∀ k, L < k → F' k = F k) ∧ Turns (fun k => k = b) w w'
  | 0, L, hq, _, _, _, _, _ => absurd hq (Nat.not_lt_zero _)
  | q + 1, L, hq, hL, w, n, F, h => by
    have p24 : 2 ^ N ≤ 16777216 := by have : 2 ^ N ≤ 2 ^ 24 := Nat.pow_le_pow_right (by omega) hN; simpa using this
    have hL32 : L < 4294967296 := by omega
    have IH := cg_call (bk := bk) (bn := bn) (bc := bc) (b := b) (gn := gn) hN hg q
    have ck := box_cell h.kb (i := 0) rfl
    cases hF : F L with
    | some d =>
      have hl := h.map.look hL32 hF
      have HC : Hid _ := h
      have HOK : Hid _ := h.ok L d hF
      clear h IH
      go_enter Tryd.func49, Tryd.ntmps49
      go_wp2
      go_ret
      exact ⟨n, F, congrArg (fun x : Nat => Ending.returned (Value.int .u64 (x : Int))) HOK.out, HC.out, fun _ _ => rfl, Turns.refl _ _⟩
    | none =>
      have hL0 : L ≠ 0 := fun e => by rw [e, h.zero] at hF; cases hF
      have hm := h.map.miss hL32 hF
      obtain ⟨l, hl⟩ : ∃ l, l = Lib.ctz 32 L := ⟨_, rfl⟩
      obtain ⟨c1, c2, c3, c4⟩ := ctz_bits hL0 hL32
      rw [← hl] at c1 c2 c3 c4
      have hlN : l < N := by
        apply Classical.byContradiction
        intro hh
        rw [bit_none hL (by omega)] at c1; cases c1
      obtain ⟨R, hR⟩ : ∃ R, R = L &&& (L - 1) := ⟨_, rfl⟩
      rw [← hR] at c3
      have hRL : R < L := by rw [hR]; exact Nat.lt_of_le_of_lt Nat.and_le_right (by omega)
      have b1 := pred_and hL0 hL32
      rw [← hR] at b1
      obtain ⟨nl, hnl⟩ : ∃ nl, nl = nearN es l := ⟨_, rfl⟩
      have cr := h.row.cell hlN
      rw [← hnl] at cr
      have cn := box_cell h.nb (i := 0) rfl
      have hnl32 : nl < 4294967296 := by have := nearN_lt l hg; rw [← hnl] at this; omega
      obtain ⟨O, hO⟩ : ∃ O, O = nl &&& R := ⟨_, rfl⟩
      have b2 : bits BinOp.and IntKind.u32 (nl : Int) (R : Int) = (O : Int) := by rw [u32_and_nat nl R hnl32 (by omega), hO]
      have hObit : ∀ z, O.testBit z = (decide (0 ≤ z) && (L.testBit z && !(z == l) && pn (hasB es) l z)) := fun z => by
        rw [hO, Nat.testBit_and, hnl, nearN_bit l es hg z, c3]
        unfold outB pn
        cases hasB es l z <;> cases L.testBit z <;> cases (z == l) <;> simp
      obtain ⟨f, hf⟩ : ∃ f, f = fun w => if L.testBit w && !(w == l) && pn (hasB es) l w then pm N (pn (hasB es)) (outB (outB L.testBit l) w) else 0 := ⟨_, rfl⟩
      have htot := pm_any (N := N) (e := pn (hasB es)) (fun a b => by unfold pn; rw [hasB_comm]) (cnt N L.testBit) L.testBit l (Nat.le_refl _) hlN c1
      rw [← hf] at htot
      have hmax := pm_24 hN (pn (hasB es)) L.testBit
      have HTZ : Hid (∀ W, T32 W → Calls Tryd.prog 50 #[.int .u32 (L : Int)] W fun e w' => e = .returned (.int .i64 (l : Int)) ∧ w' = W) := fun W ht => by
        rw [hl]
        exact Any7.bits_TrailingZeros32 Tryd.lays7_28 L hL32 W (fun _ => ht)
      have i1 : (0 : Int) ≤ (l : Int) := by omega
      have i2 : (l : Int) < (N : Int) := by omega
      have hO32 : O < 4294967296 := by rw [hO]; exact Nat.lt_of_le_of_lt Nat.and_le_left hnl32
      have H : Hid _ := h
      have HIH : Hid _ := IH
      have HOB : Hid _ := hObit
      have HTOT : Hid _ := htot
      have HFF : Hid _ := hf
      have HC3 : Hid _ := c3
      have HFN : Hid _ := hF
      have hE := enter49
      clear h IH hObit htot hf c1 c2 c3 hF hR hO hnl hl
      go_enter Tryd.func49, Tryd.ntmps49
      go_upto_region 6 with (fail)
      go_quiet ((go_at_call 50; refine Calls.quiet_of_same (HTZ.out _ ?_); exact T32.below H.out.tab (below_drewN (Below.refl _ _) _)))
      have hW := H.out.below (below_drewN (Below.refl _ w) nq)
      have hT0 : Turns (fun k => k = b) w (w.drewN nq) := Turns.of_below (below_drewN (Below.refl _ w) nq) _
      generalize w.drewN nq = W at hW hT0 ⊢
      clear hm ck cn cr
      have HW : Hid _ := hW
      clear hW
      go_wp2
      clear b1 b2
      go_loopw [9, 10] (fun s9 s10 wr => ∃ (O j n2 : Nat) (F2 : Nat → Option Nat), s10 = .int .u32 (O : Int) ∧ s9 = .int .u64 (sumN j f : Int) ∧ j ≤ N ∧ O < 4294967296 ∧ (∀ z, O.testBit z = (decide (j ≤ z) && (L.testBit z && !(z == l) && pn (hasB es) l z))) ∧ CG wr bk bn bc b gn N es n2 F2 ∧ (∀ k, L ≤ k → F2 k = F k) ∧ Turns (fun k => k = b) w wr) (fun _ s10 _ => (numOf s10).toNat)
      case atStart => exact ⟨O, 0, n, F, rfl, rfl, Nat.zero_le _, hO32, HOB.out, HW.out, fun _ _ => rfl, hT0⟩
      case round =>
        obtain ⟨O2, j, n2, F2, rfl, rfl, hjN, hO2, hob2, hcg, hFk, hT2⟩ := hrel
        clear HW hT0 HOB
        have hsj : sumN j f ≤ 316234143225 := Nat.le_trans (sumN_mono hjN) (by rw [← HTOT.out]; exact hmax)
        obtain ⟨sj, hsje⟩ : ∃ sj, sj = sumN j f := ⟨_, rfl⟩
        rw [← hsje] at hsj ⊢
        by_cases hO0 : O2 = 0
        · subst hO0
          have hcut := sumN_cut (f := f) (j := j) (N := N) hjN (fun z h1 h2 => by
            have := hob2 z
            rw [Nat.zero_testBit] at this
            have hd : decide (j ≤ z) = true := by simpa using h1
            rw [hd, Bool.true_and] at this
            rw [HFF.out]
            simp only
            rw [← this]
            simp)
          have hpm : pm N (pn (hasB es)) L.testBit = sj := by rw [HTOT.out, hcut, hsje]
          have hn2 : n2 < 100000000 := by
            have h1 := hcg.cn
            have h2 : cnt (2 ^ N) (fun k => (F2 k).isSome) ≤ 2 ^ N := Nat.le_trans (List.length_filter_le _ _) (by simp)
            omega
          obtain ⟨w1, hst, hu1, ht1⟩ := hcg.map.store2 hn2 hL32 (d := sj) (by omega)
          have hcg1 := hcg.turn hL hL0 ((hFk L (Nat.le_refl _)).trans HFN.out) hpm.symm hu1 ht1
          have ck := box_cell hcg.kb (i := 0) rfl
          have HCG : Hid (CG w1 bk bn bc b gn N es (n2 + 1) (fun x => if x = L then some sj else F2 x)) := hcg1
          have HPM : Hid _ := hpm
          have HFK : Hid (∀ k, L < k → (if k = L then some sj else F2 k) = F k) := fun k hk => by rw [if_neg (by omega)]; exact hFk k (by omega)
          have hT3 := hT2.trans (turned_turns ht1)
          clear hcg hcg1 hu1 ht1 hpm hFk hob2 hcut hsje
          go_wp2
          go_ret
          exact ⟨n2 + 1, _, congrArg (fun x : Nat => Ending.returned (Value.int .u64 (x : Int))) HPM.out.symm, HCG.out, HFK.out, hT3⟩
        · obtain ⟨c, hc⟩ : ∃ c, c = Lib.ctz 32 O2 := ⟨_, rfl⟩
          obtain ⟨d1, d2, d3, d4⟩ := ctz_bits hO0 hO2
          have b3 := neg_and hO0 hO2
          have b5 := pred_and hO0 hO2
          rw [← hc] at d1 d2 d3 d4 b3
          have hcond := hob2 c
          rw [d1] at hcond
          have hcond' : j ≤ c ∧ (L.testBit c && !(c == l) && pn (hasB es) l c) = true := by
            have := hcond.symm
            rw [Bool.and_eq_true] at this
            exact ⟨by simpa using this.1, this.2⟩
          obtain ⟨hjc, hcc⟩ := hcond'
          have hLc : L.testBit c = true := by simp only [Bool.and_eq_true] at hcc; exact hcc.1.1
          have hcN : c < N := by
            apply Classical.byContradiction
            intro hh
            rw [bit_none hL (by omega)] at hLc; cases hLc
          obtain ⟨P, hP⟩ : ∃ P, P = 2 ^ c := ⟨_, rfl⟩
          have hP32 : P < 4294967296 := by
            rw [hP]
            have : 2 ^ c < 2 ^ 32 := Nat.pow_lt_pow_right (by omega) d4
            simpa using this
          obtain ⟨Rc, hRc⟩ : ∃ Rc, Rc = R &&& (4294967295 - P) := ⟨_, rfl⟩
          have b4 : bits BinOp.andNot IntKind.u32 (R : Int) (P : Int) = (Rc : Int) := by rw [u32_andNot_nat R P (by omega) hP32, hRc]
          rw [← hP] at b3
          have hRcb : Rc.testBit = outB (outB L.testBit l) c := by rw [hRc, hP, andNot_bits (by omega) d4, HC3.out]
          have hRcL : Rc < L := Nat.lt_of_le_of_lt (by rw [hRc]; exact Nat.and_le_left) hRL
          obtain ⟨O3, hO3⟩ : ∃ O3, O3 = O2 &&& (O2 - 1) := ⟨_, rfl⟩
          rw [← hO3] at b5 d3
          have hO3l : O3 < O2 := by rw [hO3]; exact Nat.lt_of_le_of_lt Nat.and_le_right (by omega)
          obtain ⟨qv, hqv⟩ : ∃ qv, qv = pm N (pn (hasB es)) Rc.testBit := ⟨_, rfl⟩
          have hs1 : sumN (c + 1) f = sj + qv := by
            rw [sumN, sumN_cut (f := f) (j := j) (N := c) hjc (fun z h1 h2 => by
              have := hob2 z
              rw [d2 z h2] at this
              have hd : decide (j ≤ z) = true := by simpa using h1
              rw [hd, Bool.true_and] at this
              rw [HFF.out]
              simp only
              rw [← this]
              simp), ← hsje, HFF.out, hqv, hRcb]
            simp only
            rw [hcc]
            simp
          have hs2 : sj + qv ≤ 316234143225 := by
            rw [← hs1]
            exact Nat.le_trans (sumN_mono (by omega : c + 1 ≤ N)) (by rw [← HTOT.out]; exact hmax)
          have hob3 : ∀ z, O3.testBit z = (decide (c + 1 ≤ z) && (L.testBit z && !(z == l) && pn (hasB es) l z)) := fun z => by
            rw [d3]
            unfold outB
            by_cases hz : z < c
            · rw [d2 z hz]
              have : decide (c + 1 ≤ z) = false := by simp; omega
              rw [this]; simp
            · by_cases hzc : z = c
              · subst hzc
                have : decide (z + 1 ≤ z) = false := by simp
                rw [this]; simp
              · rw [hob2 z]
                have e1 : decide (j ≤ z) = true := by simp; omega
                have e2 : decide (c + 1 ≤ z) = true := by simp; omega
                have e3 : (z == c) = false := by simpa using hzc
                rw [e1, e2, e3]; simp
          have cc := box_cell hcg.cb (i := 0) rfl
          have HC : Hid (Calls Tryd.prog 49 #[.int .u32 (Rc : Int), .pointer (some ⟨bk, 0, none⟩), .pointer (some ⟨bn, 0, none⟩), .pointer (some ⟨bc, 0, none⟩)] wr fun e w' => ∃ (n' : Nat) (F' : Nat → Option Nat), e = .returned (.int .u64 (qv : Int)) ∧ CG w' bk bn bc b gn N es n' F' ∧ (∀ k, Rc < k → F' k = F2 k) ∧ Turns (fun k => k = b) wr w') := by
            rw [hqv]
            exact HIH.out Rc (Nat.lt_of_lt_of_le hRcL (Nat.le_of_lt_succ hq)) (Nat.lt_trans hRcL hL) wr n2 F2 hcg
          have HS1 : Hid _ := hs1
          have HO3 : Hid _ := hob3
          have HFK : Hid _ := hFk
          have hO1 : (1 : Int) ≤ (O2 : Int) := by omega
          have hOb : ((O2 : Int) == 0) = false := by simp; omega
          clear hcg hs1 hob3 hFk hob2 hcond d1 d2 d3 hc hcc hP hRc hRcb hO3 hqv hsje hLc
          go_wp2_with (first
            | (go_at_call 49; refine Calls.mono HC.out ?_; rintro e w2 ⟨n3, F3, rfl, hcg3, hk3, hT3⟩)
            | go_in)
          have hT4 := hT2.trans hT3
          go_roundw
          case rel => exact ⟨O3, c + 1, n3, F3, rfl, by rw [HS1.out]; go_num, by omega, by omega, HO3.out, hcg3, fun k hk => (hk3 k (by omega)).trans (HFK.out k hk), hT4⟩
          case measure => simp [numOf]; omega
end Go.Proofs.YtenjkhgpfmfgmaaDoor
