/- slices.SortFunc of pairs of numbers, by their first, then by their second ones. slices.SortFunc of pairs: its contract over a row of one's own. -/
import Derived.Shelf.SlSortCmp.NoneTotal
import Derived.Lib.OwnBridge
import Derived.Test.YtkkfjfphmlcieaaGreatSortL
namespace Go.Proofs
open Go.Shelf
set_option maxRecDepth 100000
def Tryz.sortP45_ren : Go.Shelf.Ren := ⟨fun | 6 => 45 | 15 => 72 | 14 => 71 | 28 => 89 | 29 => 90 | 20 => 81 | 21 => 82 | 22 => 83 | 23 => 84 | 24 => 85 | 25 => 86 | 26 => 87 | 27 => 88 | 46 => 102 | 47 => 103 | 48 => 104 | 49 => 105 | 50 => 106 | 57 => 112 | n => n, fun | 22 => 22 | 24 => 38 | 25 => 81 | 3 => 3 | 39 => 90 | 0 => 0 | 53 => 106 | 55 => 109 | 4 => 4 | 46 => 115 | 45 => 114 | 50 => 119 | 5 => 5 | 9 => 9 | 66 => 129 | 70 => 133 | 76 => 139 | 77 => 140 | n => n, fun | n => n⟩
theorem Tryz.sortP45 : Go.Proofs.SlLaysF0.n6 Tryz.prog Tryz.sortP45_ren := {
  mixed := by kernel_rfl
  f6 := ⟨Tryz.f45.name, by decide, Tryz.func45.trans (congrArg some (by kernel_rfl))⟩
  f14 := ⟨Tryz.f71.name, by decide, Tryz.func71.trans (congrArg some (by kernel_rfl))⟩
  f15 := Tryz.func72.trans (congrArg some (by kernel_rfl))
  f20 := ⟨Tryz.f81.name, by decide, Tryz.func81.trans (congrArg some (by kernel_rfl))⟩
  f21 := ⟨Tryz.f82.name, by decide, Tryz.func82.trans (congrArg some (by kernel_rfl))⟩
  f22 := ⟨Tryz.f83.name, by decide, Tryz.func83.trans (congrArg some (by kernel_rfl))⟩
  f23 := ⟨Tryz.f84.name, by decide, Tryz.func84.trans (congrArg some (by kernel_rfl))⟩
  f24 := ⟨Tryz.f85.name, by decide, Tryz.func85.trans (congrArg some (by kernel_rfl))⟩
  f25 := ⟨Tryz.f86.name, by decide, Tryz.func86.trans (congrArg some (by kernel_rfl))⟩
  f26 := ⟨Tryz.f87.name, by decide, Tryz.func87.trans (congrArg some (by kernel_rfl))⟩
  f27 := ⟨Tryz.f88.name, by decide, Tryz.func88.trans (congrArg some (by kernel_rfl))⟩
  f28 := Tryz.func89.trans (congrArg some (by kernel_rfl))
  f29 := Tryz.func90.trans (congrArg some (by kernel_rfl))
  f46 := ⟨Tryz.f102.name, by decide, Tryz.func102.trans (congrArg some (by kernel_rfl))⟩
  f47 := Tryz.func103.trans (congrArg some (by kernel_rfl))
  f48 := Tryz.func104.trans (congrArg some (by kernel_rfl))
  f49 := ⟨Tryz.f105.name, by decide, Tryz.func105.trans (congrArg some (by kernel_rfl))⟩
  f50 := ⟨Tryz.f106.name, by decide, Tryz.func106.trans (congrArg some (by kernel_rfl))⟩
  f57 := ⟨Tryz.f112.name, by decide, Tryz.func112.trans (congrArg some (by kernel_rfl))⟩
  t0 := Tryz.underlying0
  a0 := Tryz.isAgg0
  z0 := Tryz.sizeOf0
  v0 := Tryz.zeroValue0
  t3 := Tryz.underlying3
  a3 := Tryz.isAgg3
  z3 := Tryz.sizeOf3
  v3 := Tryz.zeroValue3
  t4 := Tryz.underlying4
  a4 := Tryz.isAgg4
  z4 := Tryz.sizeOf4
  v4 := Tryz.zeroValue4
  t5 := Tryz.underlying5
  a5 := Tryz.isAgg5
  z5 := Tryz.sizeOf5
  v5 := Tryz.zeroValue5
  t9 := Tryz.underlying9
  a9 := Tryz.isAgg9
  z9 := Tryz.sizeOf9
  v9 := Tryz.zeroValue9
  t22 := Tryz.underlying22
  a22 := Tryz.isAgg22
  z22 := Tryz.sizeOf22
  v22 := Tryz.zeroValue22
  t25 := Tryz.underlying81
  a25 := Tryz.isAgg81
  z25 := Tryz.sizeOf81
  v25 := Tryz.zeroValue81
  t39 := Tryz.underlying90
  a39 := Tryz.isAgg90
  z39 := Tryz.sizeOf90
  v39 := Tryz.zeroValue90
  t45 := Tryz.underlying114
  a45 := Tryz.isAgg114
  z45 := Tryz.sizeOf114
  v45 := Tryz.zeroValue114
  t46 := Tryz.underlying115
  a46 := Tryz.isAgg115
  z46 := Tryz.sizeOf115
  v46 := Tryz.zeroValue115
  t50 := Tryz.underlying119
  a50 := Tryz.isAgg119
  z50 := Tryz.sizeOf119
  v50 := Tryz.zeroValue119
  t53 := Tryz.underlying106
  a53 := Tryz.isAgg106
  z53 := Tryz.sizeOf106
  v53 := Tryz.zeroValue106
  t55 := Tryz.underlying109
  a55 := Tryz.isAgg109
  z55 := Tryz.sizeOf109
  v55 := Tryz.zeroValue109
  t66 := Tryz.underlying129
  a66 := Tryz.isAgg129
  z66 := Tryz.sizeOf129
  v66 := Tryz.zeroValue129
  t70 := Tryz.underlying133
  a70 := Tryz.isAgg133
  z70 := Tryz.sizeOf133
  v70 := Tryz.zeroValue133
  t76 := Tryz.underlying139
  a76 := Tryz.isAgg139
  z76 := Tryz.sizeOf139
  v76 := Tryz.zeroValue139
  t77 := Tryz.underlying140
  a77 := Tryz.isAgg140
  z77 := Tryz.sizeOf140
  v77 := Tryz.zeroValue140 }
end Go.Proofs
namespace Go.Proofs.YtkkfjfphmlcieaaGreat
set_option maxRecDepth 8000
open Go.RowKit Go.Maps Go.Sort Go.Shelf
attribute [local go_sem ↓] Go.wp_at_zero Go.wp_at_succ
def cmpN (x y : Int) : Int := if x < y then -1 else if y < x then 1 else 0
/-- The order of pairs. -/
def cmpP (x y : Int × Int) : Int := if cmpN x.1 y.1 = 0 then cmpN x.2 y.2 else cmpN x.1 y.1
theorem cmpP_lt (x y : Int × Int) : cmpP x y < 0 ↔ x.1 < y.1 ∨ (x.1 = y.1 ∧ x.2 < y.2) := by
  unfold cmpP cmpN
  by_cases h1 : x.1 < y.1
  · simp [h1]
  · by_cases h2 : y.1 < x.1
    · simp [h1, h2]; omega
    · have h3 : x.1 = y.1 := by omega
      simp [h3]
      by_cases h4 : x.2 < y.2
      · simp [h4]
      · by_cases h5 : y.2 < x.2 <;> simp [h4, h5]
theorem swoP : SWO (ltOf cmpP) where
  irrefl x := by simp [ltOf, cmpP_lt]
  trans x y z h1 h2 := by
    simp only [ltOf, decide_eq_true_eq, cmpP_lt] at *
    omega
  ntrans x y z h1 h2 := by
    simp only [ltOf, decide_eq_false_iff_not, cmpP_lt] at *
    omega
set_option maxHeartbeats 1000000 in
theorem or_call {w : World} {g : Nat} {x y : Int} (h : w.heap[g]? = some (.cells #[.int .i64 x, .int .i64 y] 3 (0, 0))) :
    Calls Tryz.prog 47 #[.slice (some ⟨g, 0, none⟩) 2 2] w fun e w' => e = .returned (.int .i64 (if x = 0 then y else x)) ∧ w' = w := by
  obtain ⟨c0, c1⟩ := cell_two h
  have i1 : (0 : Int) ≤ 0 := by omega
  have i2 : (0 : Int) < 2 := by omega
  by_cases hx : x = 0
  · subst hx
    rw [if_pos rfl]
    by_cases hy : y = 0
    · subst hy
      go_enter Tryz.func47, Tryz.ntmps47
      go_wp2
      refine wp_loop_rounds 3 ?_
      rw [rounds_succ]
      go_wp2
      rw [rounds_succ]
      go_wp2
      rw [rounds_succ]
      go_wp2
      go_ret
      exact ⟨rfl, rfl⟩
    · have k : (y != 0) = true := by simpa using hy
      go_enter Tryz.func47, Tryz.ntmps47
      go_wp2
      refine wp_loop_rounds 2 ?_
      rw [rounds_succ]
      go_wp2
      rw [rounds_succ]
      go_wp2
      go_ret
      exact ⟨rfl, rfl⟩
  · rw [if_neg hx]
    have k : (x != 0) = true := by simpa using hx
    go_enter Tryz.func47, Tryz.ntmps47
    go_wp2
    refine wp_loop_rounds 1 ?_
    rw [rounds_succ]
    go_wp2
    go_ret
    exact ⟨rfl, rfl⟩
set_option maxHeartbeats 2000000 in
theorem closure46 (x y : Int × Int) (W : World) : Calls Tryz.prog 46 #[.agg #[.int .i64 x.1, .int .i64 x.2], .agg #[.int .i64 y.1, .int .i64 y.2]] W fun e w' => e = .returned (.int .i64 (cmpP x y)) ∧ ∃ q os', w' = grow (W.drewN q) os' := by
  obtain ⟨x1, x2⟩ := x
  obtain ⟨y1, y2⟩ := y
  have H48 : Hid (∀ (w : World), Calls Tryz.prog 48 #[.int .i64 x1, .int .i64 y1] w fun e w' => e = .returned (.int .i64 (cmpN x1 y1)) ∧ w' = w) := fun w => cmpI_call x1 y1 w
  have H48' : Hid (∀ (w : World), Calls Tryz.prog 48 #[.int .i64 x2, .int .i64 y2] w fun e w' => e = .returned (.int .i64 (cmpN x2 y2)) ∧ w' = w) := fun w => cmpI_call x2 y2 w
  have H47 : Hid (∀ (w : World) (g : Nat), w.heap[g]? = some (.cells #[.int .i64 (cmpN x1 y1), .int .i64 (cmpN x2 y2)] 3 (0, 0)) → Calls Tryz.prog 47 #[.slice (some ⟨g, 0, none⟩) 2 2] w fun e w' => e = .returned (.int .i64 (cmpP (x1, x2) (y1, y2))) ∧ w' = w) := fun w g h => or_call h
  generalize cmpN x1 y1 = c1 at H48 H47
  generalize cmpN x2 y2 = c2 at H48' H47
  generalize cmpP (x1, x2) (y1, y2) = rr at H47 ⊢
  simp only
  go_enter Tryz.func46, Tryz.ntmps46
  go_upto_region 1 with (fail)
  obtain ⟨W0, hW0⟩ : ∃ W0, W0 = (W.alloc (Obj.cells #[Value.int IntKind.i64 x1, Value.int IntKind.i64 x2] 38)).alloc (Obj.cells #[Value.int IntKind.i64 y1, Value.int IntKind.i64 y2] 38) := ⟨_, rfl⟩
  have ta : W0.heap[W.heap.size]? = some (.cells #[.int .i64 x1, .int .i64 x2] 38 (0, 0)) := by
    rw [hW0, Below.heap_alloc _ _ _ (by simp)]; exact two_new _ _ _ _
  have tb : W0.heap[W.heap.size + 1]? = some (.cells #[.int .i64 y1, .int .i64 y2] 38 (0, 0)) := by
    rw [hW0]; have := two_new (W.alloc (Obj.cells #[Value.int IntKind.i64 x1, Value.int IntKind.i64 x2] 38)) (.int .i64 y1) (.int .i64 y2) 38
    rw [World.size_alloc] at this; exact this
  rw [← hW0]
  obtain ⟨a, ha⟩ : ∃ a, a = W.heap.size := ⟨_, rfl⟩
  obtain ⟨b, hb⟩ : ∃ b, b = W.heap.size + 1 := ⟨_, rfl⟩
  have HW : Hid (W0 = (W.alloc (Obj.cells #[Value.int IntKind.i64 x1, Value.int IntKind.i64 x2] 38)).alloc (Obj.cells #[Value.int IntKind.i64 y1, Value.int IntKind.i64 y2] 38)) := hW0
  rw [← ha] at ta
  rw [← hb] at tb
  rw [← hb, ← ha]
  obtain ⟨ca0, ca1⟩ := cell_two ta
  obtain ⟨cb0, cb1⟩ := cell_two tb
  clear hW0 ha hb ta tb
  go_region_with (first
    | (go_at_call 47; refine Calls.mono (H47.out _ _ (two_new _ _ _ _)) ?_; rintro e w' ⟨rfl, rfl⟩)
    | (go_at_call 48; with_reducible refine Calls.mono (H48.out _) ?_; rintro e w' ⟨rfl, rfl⟩)
    | (go_at_call 48; with_reducible refine Calls.mono (H48'.out _) ?_; rintro e w' ⟨rfl, rfl⟩)
    | go_in)
  all_goals
    go_wp2
    go_ret
    refine ⟨rfl, ?_⟩
    rw [HW.out]
    exact ⟨1, _, by rw [alloc_eq_grow, alloc_eq_grow, alloc_eq_grow, grow_grow, grow_grow, drew_grow]; rfl⟩
end Go.Proofs.YtkkfjfphmlcieaaGreat

namespace Go.Proofs.YtkkfjfphmlcieaaGreat
set_option maxRecDepth 8000
open Go.RowKit Go.Maps Go.Sort Go.Shelf
def encP (x : Int × Int) : List Value := [.int .i64 x.1, .int .i64 x.2]
theorem flatK_flat (L : List Pair) : flatK encP 2 L.toArray = (flat L).toArray := by
  refine Array.ext (by simp [flat_length]) fun t h1 h2 => ?_
  have ht : t < L.length * 2 := by simpa using h1
  have e1 : (flatK encP 2 L.toArray)[t] = (flatK encP 2 L.toArray)[t]! := by rw [getElem!_pos]
  rw [e1, get_flatK _ _ _ _ (by simpa using ht)]
  have hk : t / 2 < L.length := by omega
  rw [getElem!_pos L.toArray (t / 2) (by simpa using hk)]
  obtain ⟨g0, g1⟩ := flat_get L (t / 2) hk
  by_cases hp : t % 2 = 0
  · have e : t / 2 * 2 = t := by omega
    rw [e, List.getElem?_eq_getElem (by rw [flat_length]; exact ht)] at g0
    injection g0 with g0
    simp [hp, encP, g0]
  · have hp : t % 2 = 1 := by omega
    have e : t / 2 * 2 + 1 = t := by omega
    rw [e, List.getElem?_eq_getElem (by rw [flat_length]; exact ht)] at g1
    injection g1 with g1
    simp [hp, encP, g1]
theorem sortP_none (v : Option Addr) (cap : Nat) (w : World) : Calls Tryz.prog 45 #[.slice v 0 cap, .func (.func 46) #[] #[]] w fun e w' => e = .returned (.tuple #[]) ∧ w' = w :=
  AnyF.slices_SortFunc_none Tryz.sortP45 v cap _ w
/-- Pairs, sorted. -/
theorem sortP_call {w : World} {base : Nat} {v : Value} {L : List Pair} (h : w.ownsRow base 38 2 v L.length (flat L)) (hn : L.length ≤ 100000000) :
    Calls Tryz.prog 45 #[v, .func (.func 46) #[] #[]] w fun e w' => e = .returned (.tuple #[]) ∧ ∃ L', L'.Perm L ∧ L'.Pairwise (fun a b => 0 ≤ cmpP b a) ∧ w'.ownsRow base 38 2 v L'.length (flat L') ∧ Turns (fun k => some k = v.ownBlock) w w' := by
  have h0 := h
  rcases h.2 with ⟨rfl, hl0⟩ | ⟨g, cap, cur, rfl, hb, hg, hnc, hm, hs, ht⟩
  · refine Calls.mono (sortP_none none 0 w) ?_
    rintro e w' ⟨rfl, rfl⟩
    have : L = [] := List.length_eq_zero_iff.1 hl0
    subst this
    exact ⟨rfl, [], List.Perm.refl _, List.Pairwise.nil, h0, Turns.refl _ _⟩
  · have hlt : g < w.heap.size := (Array.getElem?_eq_some_iff.1 hg).1
    have eg : ∀ args w, (callFunc 46 args).run Tryz.prog w = .ok (.enter 46 args) w := enters_of Tryz.func46 (by kernel_rfl) rfl
    have hH : HoldsK encP 2 w g 0 L.toArray := by
      unfold HoldsK
      rw [flatK_flat]
      intro j hj
      have hj' : j < L.length * 2 := by simpa [flat_length] using hj
      refine ⟨?_, by simp [World.frozen?, hg]⟩
      have e1 : (cur.toList.take (L.length * 2))[j]? = (flat L)[j]? := by rw [ht]
      rw [List.getElem?_take, if_pos hj', Array.getElem?_toList, List.getElem?_eq_getElem (by rw [flat_length]; exact hj')] at e1
      simp only [World.cell?, hg, Nat.zero_add]
      simp only [Option.isSome_none, Bool.false_eq_true, if_false]
      rw [e1]
      rw [getElem!_pos (flat L).toArray j hj]
      simp
    have hc := AnyQ.slices_SortFunc Tryz.sortP45 2 Tryz.isAgg38 Tryz.sizeOf38 encP (fun _ => rfl) (fun x v hv => by simp [encP] at hv; rcases hv with rfl | rfl <;> rfl) cmpP swoP 46 #[] g 0 cap L.toArray w eg (fun _ _ _ _ x y => closure46 x y _) hH hlt (by simp; omega)
    have hsz : L.toArray.size = L.length := by simp
    rw [hsz] at hc
    refine Calls.mono hc ?_
    rintro e w' ⟨rfl, d', n, os, hpm, hsd, rfl⟩
    obtain ⟨hps, _, hpp⟩ := hpm
    have hds : d'.size = L.length := by rw [hps]; simp
    have hpp' : d'.toList.Perm L := by
      have e1 : (d'.extract 0 L.length).toList = d'.toList := by rw [← hds]; simp
      have e2 : (L.toArray.extract 0 L.length).toList = L := by simp
      rw [e1, e2] at hpp
      exact hpp
    have hW : ∀ b, b ≠ g → b < w.heap.size → (sortWorldK encP 2 w g 0 n d' os).heap[b]? = w.heap[b]? := fun b n1 n2 => by
      unfold sortWorldK putRowK
      rw [heap_grow_old _ _ (by simpa [putRow, mapBlock, Sort.ahead] using n2)]
      simp [putRow, mapBlock, Sort.ahead, Array.getElem?_modify, show g ≠ b from fun e => n1 e.symm]
    have hll : d'.toList.length = L.length := by simpa using hds
    refine ⟨rfl, d'.toList, hpp', ?_, ?_, ?_⟩
    · rw [List.pairwise_iff_getElem]
      intro i j hi hj hij
      have hi' : i < d'.size := by simpa using hi
      have hj' : j < d'.size := by simpa using hj
      have := hsd i j (Nat.zero_le _) hij (by omega)
      rw [getElem!_pos d' i hi', getElem!_pos d' j hj'] at this
      simp only [ltOf, decide_eq_false_iff_not] at this
      simp only [Array.getElem_toList]
      omega
    · have hfl : flatK encP 2 d' = (flat d'.toList).toArray := by
        have := flatK_flat d'.toList
        rwa [Array.toArray_toList] at this
      rw [hll]
      refine ⟨by rw [flat_length, hll], .inr ⟨g, cap, putCells id 0 (flatK encP 2 d') cur, rfl, hb, ?_, hnc, hm, by simpa [putCells] using hs, ?_⟩⟩
      · unfold sortWorldK putRowK
        rw [heap_grow_old _ _ (by simpa [putRow, mapBlock, Sort.ahead] using hlt)]
        simp [putRow, mapBlock, Sort.ahead, Array.getElem?_modify, hg, onCells]
      · have hfs : (flat d'.toList).length = L.length * 2 := by rw [flat_length, hll]
        apply List.ext_getElem?
        intro j
        rw [List.getElem?_take, Array.getElem?_toList]
        by_cases hj : j < L.length * 2
        · have hjc : j < cur.size := by rw [hs]; omega
          simp only [if_pos hj, putCells, Array.getElem?_mapIdx, Array.getElem?_eq_getElem hjc, Option.map_some]
          rw [hfl, if_pos (by simp [hfs]; exact hj), List.getElem?_eq_getElem (by rw [hfs]; exact hj)]
          rw [getElem!_pos (flat d'.toList).toArray (j - 0) (by simp [hfs]; exact hj)]
          simp
        · rw [if_neg hj, List.getElem?_eq_none (by rw [hfs]; omega)]
    · refine ⟨rfl, rfl, rfl, by simp [sortWorldK, putRowK, grow, putRow, mapBlock, Sort.ahead], fun k hk hM => hW k (fun e => hM (by rw [e]; rfl)) hk⟩
end Go.Proofs.YtkkfjfphmlcieaaGreat
