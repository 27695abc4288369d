/- How pairs are held against each other: slices.Compare of two arrays. slices.SortFunc of pairs of numbers, by their first, then by their second ones. -/
import Derived.Test.YtfdlndljpmamgaaNewW
import Derived.Shelf.SlSortCmp.NoneTotal
import Derived.Shelf.SlSortCmp.WholeK
import Derived.Lib.OwnBridge
namespace Go.Proofs.Ytfdlndljpmamgaa
set_option maxRecDepth 8000
open Go.RowKit Go.Maps
attribute [local go_sem ↓] Go.wp_at_zero Go.wp_at_succ
def cmpN (x y : Int) : Int := if x < y then -1 else if y < x then 1 else 0
/-- The order of pairs. -/
def cmpP (x y : Int × Int) : Int := if cmpN x.1 y.1 = 0 then cmpN x.2 y.2 else cmpN x.1 y.1
theorem isNaN_call (x : Int) (w : World) : Calls Try.prog 63 #[.int .i64 x] w fun e w' => e = .returned (.bool false) ∧ w' = w := by
  have z : (x != x) = false := by simp
  go_enter Try.func63, Try.ntmps63
  go_wp2
  go_ret
  exact ⟨rfl, rfl⟩
theorem cmpI_call (x y : Int) (w : World) : Calls Try.prog 56 #[.int .i64 x, .int .i64 y] w fun e w' => e = .returned (.int .i64 (cmpN x y)) ∧ w' = w := by
  have H76 : Hid (∀ (x : Int), Calls Try.prog 63 #[.int .i64 x] w fun e w' => e = .returned (.bool false) ∧ w' = w) := fun x => isNaN_call x w
  unfold cmpN
  by_cases h1 : x < y
  · rw [if_pos h1]
    go_enter Try.func56, Try.ntmps56
    go_wp2_with (first | (go_at_call 63; refine Calls.mono (H76.out _) ?_; rintro e w' ⟨rfl, rfl⟩) | go_in)
    go_ret
    exact ⟨rfl, rfl⟩
  · rw [if_neg h1]
    by_cases h2 : y < x
    · rw [if_pos h2]
      have h2' : x > y := h2
      go_enter Try.func56, Try.ntmps56
      go_wp2_with (first | (go_at_call 63; refine Calls.mono (H76.out _) ?_; rintro e w' ⟨rfl, rfl⟩) | go_in)
      go_ret
      exact ⟨rfl, rfl⟩
    · rw [if_neg h2]
      have h2' : ¬ x > y := h2
      go_enter Try.func56, Try.ntmps56
      go_wp2_with (first | (go_at_call 63; refine Calls.mono (H76.out _) ?_; rintro e w' ⟨rfl, rfl⟩) | go_in)
      go_ret
      exact ⟨rfl, rfl⟩
set_option maxHeartbeats 2000000 in
theorem cmp2_call {w : World} {a b : Nat} {x y : Int × Int} (ha : Two w a (.int .i64 x.1) (.int .i64 x.2) 59) (hb : Two w b (.int .i64 y.1) (.int .i64 y.2) 59) :
    Calls Try.prog 44 #[.slice (some ⟨a, 0, none⟩) 2 2, .slice (some ⟨b, 0, none⟩) 2 2] w fun e w' => e = .returned (.int .i64 (cmpP x y)) ∧ w' = w := by
  obtain ⟨x1, x2⟩ := x
  obtain ⟨y1, y2⟩ := y
  obtain ⟨a0, a1⟩ := cell_two ha
  obtain ⟨b0, b1⟩ := cell_two hb
  have C1 : Hid (Calls Try.prog 56 #[.int .i64 x1, .int .i64 y1] w fun e w' => e = .returned (.int .i64 (cmpN x1 y1)) ∧ w' = w) := cmpI_call x1 y1 w
  have C2 : Hid (Calls Try.prog 56 #[.int .i64 x2, .int .i64 y2] w fun e w' => e = .returned (.int .i64 (cmpN x2 y2)) ∧ w' = w) := cmpI_call x2 y2 w
  have hr : cmpP (x1, x2) (y1, y2) = if cmpN x1 y1 = 0 then cmpN x2 y2 else cmpN x1 y1 := rfl
  generalize cmpP (x1, x2) (y1, y2) = rr at hr ⊢
  generalize cmpN x1 y1 = c1 at C1 hr
  generalize cmpN x2 y2 = c2 at C2 hr
  simp only at a0 a1 b0 b1
  clear ha hb
  by_cases h1 : c1 = 0
  · rw [if_pos h1] at hr
    subst h1
    by_cases h2 : c2 = 0
    · subst h2
      subst hr
      go_enter Try.func44, Try.ntmps44
      go_wp2
      refine wp_loop_rounds 3 ?_
      rw [rounds_succ]
      go_wp2_with (first | (go_at_call 56; with_reducible refine Calls.mono C1.out ?_; rintro e w' ⟨rfl, rfl⟩) | go_in)
      rw [rounds_succ]
      go_wp2_with (first | (go_at_call 56; with_reducible refine Calls.mono C2.out ?_; rintro e w' ⟨rfl, rfl⟩) | go_in)
      rw [rounds_succ]
      go_wp2
      go_ret
      exact ⟨rfl, rfl⟩
    · have z : (c2 != 0) = true := by simpa using h2
      have HR := (show Hid (rr = c2) from hr)
      clear hr
      go_enter Try.func44, Try.ntmps44
      go_wp2
      refine wp_loop_rounds 2 ?_
      rw [rounds_succ]
      go_wp2_with (first | (go_at_call 56; with_reducible refine Calls.mono C1.out ?_; rintro e w' ⟨rfl, rfl⟩) | go_in)
      rw [rounds_succ]
      go_wp2_with (first | (go_at_call 56; with_reducible refine Calls.mono C2.out ?_; rintro e w' ⟨rfl, rfl⟩) | go_in)
      go_ret
      exact ⟨by rw [HR.out]; rfl, rfl⟩
  · rw [if_neg h1] at hr
    have z : (c1 != 0) = true := by simpa using h1
    have HR := (show Hid (rr = c1) from hr)
    clear hr
    go_enter Try.func44, Try.ntmps44
    go_wp2
    refine wp_loop_rounds 1 ?_
    rw [rounds_succ]
    go_wp2_with (first | (go_at_call 56; with_reducible refine Calls.mono C1.out ?_; rintro e w' ⟨rfl, rfl⟩) | go_in)
    go_ret
    exact ⟨by rw [HR.out]; rfl, rfl⟩
end Go.Proofs.Ytfdlndljpmamgaa

namespace Go.Proofs
open Go.Shelf
set_option maxRecDepth 100000
def Try.sortP54_ren : Go.Shelf.Ren := ⟨fun | 6 => 54 | 15 => 62 | 14 => 61 | 28 => 76 | 29 => 77 | 20 => 68 | 21 => 69 | 22 => 70 | 23 => 71 | 24 => 72 | 25 => 73 | 26 => 74 | 27 => 75 | 46 => 82 | 47 => 83 | 48 => 84 | 49 => 85 | 50 => 86 | 57 => 95 | n => n, fun | 22 => 40 | 24 => 59 | 25 => 99 | 39 => 116 | 45 => 123 | 46 => 124 | 50 => 82 | 53 => 67 | 55 => 131 | 66 => 135 | 70 => 139 | 76 => 148 | 77 => 149 | n => n, fun | n => n⟩
theorem Try.sortP54 : Go.Proofs.SlLaysF0.n6 Try.prog Try.sortP54_ren := {
  mixed := by kernel_rfl
  f6 := ⟨Try.f54.name, by decide, Try.func54.trans (congrArg some (by kernel_rfl))⟩
  f14 := ⟨Try.f61.name, by decide, Try.func61.trans (congrArg some (by kernel_rfl))⟩
  f15 := Try.func62.trans (congrArg some (by kernel_rfl))
  f20 := ⟨Try.f68.name, by decide, Try.func68.trans (congrArg some (by kernel_rfl))⟩
  f21 := ⟨Try.f69.name, by decide, Try.func69.trans (congrArg some (by kernel_rfl))⟩
  f22 := ⟨Try.f70.name, by decide, Try.func70.trans (congrArg some (by kernel_rfl))⟩
  f23 := ⟨Try.f71.name, by decide, Try.func71.trans (congrArg some (by kernel_rfl))⟩
  f24 := ⟨Try.f72.name, by decide, Try.func72.trans (congrArg some (by kernel_rfl))⟩
  f25 := ⟨Try.f73.name, by decide, Try.func73.trans (congrArg some (by kernel_rfl))⟩
  f26 := ⟨Try.f74.name, by decide, Try.func74.trans (congrArg some (by kernel_rfl))⟩
  f27 := ⟨Try.f75.name, by decide, Try.func75.trans (congrArg some (by kernel_rfl))⟩
  f28 := Try.func76.trans (congrArg some (by kernel_rfl))
  f29 := Try.func77.trans (congrArg some (by kernel_rfl))
  f46 := ⟨Try.f82.name, by decide, Try.func82.trans (congrArg some (by kernel_rfl))⟩
  f47 := Try.func83.trans (congrArg some (by kernel_rfl))
  f48 := Try.func84.trans (congrArg some (by kernel_rfl))
  f49 := ⟨Try.f85.name, by decide, Try.func85.trans (congrArg some (by kernel_rfl))⟩
  f50 := ⟨Try.f86.name, by decide, Try.func86.trans (congrArg some (by kernel_rfl))⟩
  f57 := ⟨Try.f95.name, by decide, Try.func95.trans (congrArg some (by kernel_rfl))⟩
  t0 := Try.underlying0
  a0 := Try.isAgg0
  z0 := Try.sizeOf0
  v0 := Try.zeroValue0
  t3 := Try.underlying3
  a3 := Try.isAgg3
  z3 := Try.sizeOf3
  v3 := Try.zeroValue3
  t4 := Try.underlying4
  a4 := Try.isAgg4
  z4 := Try.sizeOf4
  v4 := Try.zeroValue4
  t5 := Try.underlying5
  a5 := Try.isAgg5
  z5 := Try.sizeOf5
  v5 := Try.zeroValue5
  t9 := Try.underlying9
  a9 := Try.isAgg9
  z9 := Try.sizeOf9
  v9 := Try.zeroValue9
  t22 := Try.underlying40
  a22 := Try.isAgg40
  z22 := Try.sizeOf40
  v22 := Try.zeroValue40
  t25 := Try.underlying99
  a25 := Try.isAgg99
  z25 := Try.sizeOf99
  v25 := Try.zeroValue99
  t39 := Try.underlying116
  a39 := Try.isAgg116
  z39 := Try.sizeOf116
  v39 := Try.zeroValue116
  t45 := Try.underlying123
  a45 := Try.isAgg123
  z45 := Try.sizeOf123
  v45 := Try.zeroValue123
  t46 := Try.underlying124
  a46 := Try.isAgg124
  z46 := Try.sizeOf124
  v46 := Try.zeroValue124
  t50 := Try.underlying82
  a50 := Try.isAgg82
  z50 := Try.sizeOf82
  v50 := Try.zeroValue82
  t53 := Try.underlying67
  a53 := Try.isAgg67
  z53 := Try.sizeOf67
  v53 := Try.zeroValue67
  t55 := Try.underlying131
  a55 := Try.isAgg131
  z55 := Try.sizeOf131
  v55 := Try.zeroValue131
  t66 := Try.underlying135
  a66 := Try.isAgg135
  z66 := Try.sizeOf135
  v66 := Try.zeroValue135
  t70 := Try.underlying139
  a70 := Try.isAgg139
  z70 := Try.sizeOf139
  v70 := Try.zeroValue139
  t76 := Try.underlying148
  a76 := Try.isAgg148
  z76 := Try.sizeOf148
  v76 := Try.zeroValue148
  t77 := Try.underlying149
  a77 := Try.isAgg149
  z77 := Try.sizeOf149
  v77 := Try.zeroValue149 }
end Go.Proofs
namespace Go.Proofs.Ytfdlndljpmamgaa
set_option maxRecDepth 8000
open Go.RowKit Go.Maps Go.Sort Go.Shelf
attribute [local go_sem ↓] Go.wp_at_zero Go.wp_at_succ
theorem cmpP_lt (x y : Int × Int) : cmpP x y < 0 ↔ x.1 < y.1 ∨ (x.1 = y.1 ∧ x.2 < y.2) := by
  unfold cmpP cmpN
  by_cases h1 : x.1 < y.1
  · simp [h1]
  · by_cases h2 : y.1 < x.1
    · simp [h1, h2]; omega
    · have h3 : x.1 = y.1 := by omega
      simp [h3]
      by_cases h4 : x.2 < y.2
      · simp [h4]
      · by_cases h5 : y.2 < x.2 <;> simp [h4, h5]
theorem swoP : SWO (ltOf cmpP) where
  irrefl x := by simp [ltOf, cmpP_lt]
  trans x y z h1 h2 := by
    simp only [ltOf, decide_eq_true_eq, cmpP_lt] at *
    omega
  ntrans x y z h1 h2 := by
    simp only [ltOf, decide_eq_false_iff_not, cmpP_lt] at *
    omega
set_option maxHeartbeats 2000000 in
theorem closure43 (x y : Int × Int) (W : World) : Calls Try.prog 43 #[.agg #[.int .i64 x.1, .int .i64 x.2], .agg #[.int .i64 y.1, .int .i64 y.2]] W fun e w' => e = .returned (.int .i64 (cmpP x y)) ∧ ∃ q os', w' = grow (W.drewN q) os' := by
  have HC : Hid (∀ (w : World) (a b : Nat), Two w a (.int .i64 x.1) (.int .i64 x.2) 59 → Two w b (.int .i64 y.1) (.int .i64 y.2) 59 → Calls Try.prog 44 #[.slice (some ⟨a, 0, none⟩) 2 2, .slice (some ⟨b, 0, none⟩) 2 2] w fun e w' => e = .returned (.int .i64 (cmpP x y)) ∧ w' = w) := fun w a b h1 h2 => cmp2_call h1 h2
  generalize cmpP x y = rr at HC ⊢
  obtain ⟨x1, x2⟩ := x
  obtain ⟨y1, y2⟩ := y
  simp only at HC ⊢
  go_enter Try.func43, Try.ntmps43
  go_upto_region 1 with (fail)
  obtain ⟨W0, hW0⟩ : ∃ W0, W0 = (W.alloc (Obj.cells #[Value.int IntKind.i64 x1, Value.int IntKind.i64 x2] 59)).alloc (Obj.cells #[Value.int IntKind.i64 y1, Value.int IntKind.i64 y2] 59) := ⟨_, rfl⟩
  have ta : Two W0 W.heap.size (.int .i64 x1) (.int .i64 x2) 59 := by rw [hW0]; exact two_alloc (two_new _ _ _ _) _
  have tb : Two W0 (W.heap.size + 1) (.int .i64 y1) (.int .i64 y2) 59 := by rw [hW0]; exact two_nxt W _ _ _ 59
  rw [← hW0]
  have HW : Hid (W0 = (W.alloc (Obj.cells #[Value.int IntKind.i64 x1, Value.int IntKind.i64 x2] 59)).alloc (Obj.cells #[Value.int IntKind.i64 y1, Value.int IntKind.i64 y2] 59)) := hW0
  generalize W.heap.size = a at *
  obtain ⟨b, hb⟩ : ∃ b, b = a + 1 := ⟨_, rfl⟩
  rw [← hb] at tb ⊢
  clear hW0 hb
  have HCC : Hid (∀ q, Calls Try.prog 44 #[.slice (some ⟨a, 0, none⟩) 2 2, .slice (some ⟨b, 0, none⟩) 2 2] (W0.drewN q) fun e w' => e = .returned (.int .i64 rr) ∧ w' = W0.drewN q) := fun q => HC.out _ _ _ (two_next ta (drewN_below W0 q)) (two_next tb (drewN_below W0 q))
  have C44 := HC.out W0 a b ta tb
  have HQ : Hid (∀ W, Below W0.heap.size W0 W → Calls Try.prog 44 #[.slice (some ⟨a, 0, none⟩) 2 2, .slice (some ⟨b, 0, none⟩) 2 2] W fun e w' => e = .returned (.int .i64 rr) ∧ w' = W) := fun W h => HC.out _ _ _ (two_next ta h) (two_next tb h)
  obtain ⟨a0, a1⟩ := cell_two ta
  obtain ⟨b0, b1⟩ := cell_two tb
  clear C44 ta tb
  go_quiet ((go_at_call 44; exact Calls.quiet_of_same (HCC.out _)))
  go_wp2
  go_ret
  exact ⟨rfl, nq, _, by rw [HW.out, alloc_eq_grow, alloc_eq_grow, grow_grow]; rfl⟩
def encP (x : Int × Int) : List Value := [.int .i64 x.1, .int .i64 x.2]
theorem flatK_flat (L : List Pair) : flatK encP 2 L.toArray = (flat L).toArray := by
  refine Array.ext (by simp [flat_length]) fun t h1 h2 => ?_
  have ht : t < L.length * 2 := by simpa using h1
  have e1 : (flatK encP 2 L.toArray)[t] = (flatK encP 2 L.toArray)[t]! := by rw [getElem!_pos]
  rw [e1, get_flatK _ _ _ _ (by simpa using ht)]
  have hk : t / 2 < L.length := by omega
  rw [getElem!_pos L.toArray (t / 2) (by simpa using hk)]
  obtain ⟨g0, g1⟩ := flat_get L (t / 2) hk
  by_cases hp : t % 2 = 0
  · have e : t / 2 * 2 = t := by omega
    rw [e, List.getElem?_eq_getElem (by rw [flat_length]; exact ht)] at g0
    injection g0 with g0
    simp [hp, encP, g0]
  · have hp : t % 2 = 1 := by omega
    have e : t / 2 * 2 + 1 = t := by omega
    rw [e, List.getElem?_eq_getElem (by rw [flat_length]; exact ht)] at g1
    injection g1 with g1
    simp [hp, encP, g1]
theorem sortP_none (v : Option Addr) (cap : Nat) (w : World) : Calls Try.prog 54 #[.slice v 0 cap, .func (.func 43) #[] #[]] w fun e w' => e = .returned (.tuple #[]) ∧ w' = w :=
  AnyF.slices_SortFunc_none Try.sortP54 v cap _ w
/-- Pairs, sorted. -/
theorem sortP_call {w : World} {base : Nat} {v : Value} {L : List Pair} (h : w.ownsRow base 59 2 v L.length (flat L)) (hn : L.length ≤ 100000000) :
    Calls Try.prog 54 #[v, .func (.func 43) #[] #[]] w fun e w' => e = .returned (.tuple #[]) ∧ ∃ L', L'.Perm L ∧ L'.Pairwise (fun a b => 0 ≤ cmpP b a) ∧ w'.ownsRow base 59 2 v L'.length (flat L') ∧ Turns (fun k => some k = v.ownBlock) w w' := by
  have h0 := h
  rcases h.2 with ⟨rfl, hl0⟩ | ⟨g, cap, cur, rfl, hb, hg, hnc, hm, hs, ht⟩
  · refine Calls.mono (sortP_none none 0 w) ?_
    rintro e w' ⟨rfl, rfl⟩
    have : L = [] := List.length_eq_zero_iff.1 hl0
    subst this
    exact ⟨rfl, [], List.Perm.refl _, List.Pairwise.nil, h0, Turns.refl _ _⟩
  · have hlt : g < w.heap.size := (Array.getElem?_eq_some_iff.1 hg).1
    have eg : ∀ args w, (callFunc 43 args).run Try.prog w = .ok (.enter 43 args) w := enters_of Try.func43 (by kernel_rfl) rfl
    have hH : HoldsK encP 2 w g 0 L.toArray := by
      unfold HoldsK
      rw [flatK_flat]
      intro j hj
      have hj' : j < L.length * 2 := by simpa [flat_length] using hj
      refine ⟨?_, by simp [World.frozen?, hg]⟩
      have e1 : (cur.toList.take (L.length * 2))[j]? = (flat L)[j]? := by rw [ht]
      rw [List.getElem?_take, if_pos hj', Array.getElem?_toList, List.getElem?_eq_getElem (by rw [flat_length]; exact hj')] at e1
      simp only [World.cell?, hg, Nat.zero_add]
      simp only [Option.isSome_none, Bool.false_eq_true, if_false]
      rw [e1]
      rw [getElem!_pos (flat L).toArray j hj]
      simp
    have hc := AnyQ.slices_SortFunc Try.sortP54 2 Try.isAgg59 Try.sizeOf59 encP (fun _ => rfl) (fun x v hv => by simp [encP] at hv; rcases hv with rfl | rfl <;> rfl) cmpP swoP 43 #[] g 0 cap L.toArray w eg (fun _ _ _ _ x y => closure43 x y _) hH hlt (by simp; omega)
    have hsz : L.toArray.size = L.length := by simp
    rw [hsz] at hc
    refine Calls.mono hc ?_
    rintro e w' ⟨rfl, d', n, os, hpm, hsd, rfl⟩
    obtain ⟨hps, _, hpp⟩ := hpm
    have hds : d'.size = L.length := by rw [hps]; simp
    have hpp' : d'.toList.Perm L := by
      have e1 : (d'.extract 0 L.length).toList = d'.toList := by rw [← hds]; simp
      have e2 : (L.toArray.extract 0 L.length).toList = L := by simp
      rw [e1, e2] at hpp
      exact hpp
    have hW : ∀ b, b ≠ g → b < w.heap.size → (sortWorldK encP 2 w g 0 n d' os).heap[b]? = w.heap[b]? := fun b n1 n2 => by
      unfold sortWorldK putRowK
      rw [heap_grow_old _ _ (by simpa [putRow, mapBlock, Sort.ahead] using n2)]
      simp [putRow, mapBlock, Sort.ahead, Array.getElem?_modify, show g ≠ b from fun e => n1 e.symm]
    have hll : d'.toList.length = L.length := by simpa using hds
    refine ⟨rfl, d'.toList, hpp', ?_, ?_, ?_⟩
    · rw [List.pairwise_iff_getElem]
      intro i j hi hj hij
      have hi' : i < d'.size := by simpa using hi
      have hj' : j < d'.size := by simpa using hj
      have := hsd i j (Nat.zero_le _) hij (by omega)
      rw [getElem!_pos d' i hi', getElem!_pos d' j hj'] at this
      simp only [ltOf, decide_eq_false_iff_not] at this
      simp only [Array.getElem_toList]
      omega
    · have hfl : flatK encP 2 d' = (flat d'.toList).toArray := by
        have := flatK_flat d'.toList
        rwa [Array.toArray_toList] at this
      rw [hll]
      refine ⟨by rw [flat_length, hll], .inr ⟨g, cap, putCells id 0 (flatK encP 2 d') cur, rfl, hb, ?_, hnc, hm, by simpa [putCells] using hs, ?_⟩⟩
      · unfold sortWorldK putRowK
        rw [heap_grow_old _ _ (by simpa [putRow, mapBlock, Sort.ahead] using hlt)]
        simp [putRow, mapBlock, Sort.ahead, Array.getElem?_modify, hg, onCells]
      · have hfs : (flat d'.toList).length = L.length * 2 := by rw [flat_length, hll]
        apply List.ext_getElem?
        intro j
        rw [List.getElem?_take, Array.getElem?_toList]
        by_cases hj : j < L.length * 2
        · have hjc : j < cur.size := by rw [hs]; omega
          simp only [if_pos hj, putCells, Array.getElem?_mapIdx, Array.getElem?_eq_getElem hjc, Option.map_some]
          rw [hfl, if_pos (by simp [hfs]; exact hj), List.getElem?_eq_getElem (by rw [hfs]; exact hj)]
          rw [getElem!_pos (flat d'.toList).toArray (j - 0) (by simp [hfs]; exact hj)]
          simp
        · rw [if_neg hj, List.getElem?_eq_none (by rw [hfs]; omega)]
    · refine ⟨rfl, rfl, rfl, by simp [sortWorldK, putRowK, grow, putRow, mapBlock, Sort.ahead], fun k hk hM => hW k (fun e => hM (by rw [e]; rfl)) hk⟩
end Go.Proofs.Ytfdlndljpmamgaa
