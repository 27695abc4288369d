/- slices.SortFunc of lists of numbers, by slices.Compare. -/
import Derived.Shelf.SlSortCmp.Whole1
import Derived.Lib.OwnBridge
import Derived.Test.YtkkfjfphmlcieaaGreatLists
namespace Go.Proofs
open Go.Shelf
set_option maxRecDepth 100000
def Tryz.sortL49_ren : Go.Shelf.Ren := ⟨fun | 6 => 67 | 15 => 72 | 14 => 80 | 28 => 89 | 29 => 90 | 20 => 94 | 21 => 95 | 22 => 96 | 23 => 97 | 24 => 98 | 25 => 99 | 26 => 100 | 27 => 101 | 46 => 109 | 47 => 103 | 48 => 104 | 49 => 110 | 50 => 111 | 57 => 122 | n => n, fun | 22 => 52 | 24 => 45 | 25 => 97 | 3 => 3 | 39 => 90 | 0 => 0 | 53 => 106 | 55 => 109 | 4 => 4 | 46 => 115 | 45 => 114 | 50 => 119 | 5 => 5 | 9 => 9 | 66 => 129 | 70 => 133 | 76 => 139 | 77 => 140 | n => n, fun | n => n⟩
theorem Tryz.sortL49 : Go.Proofs.SlLaysF.n6 Tryz.prog Tryz.sortL49_ren := {
  mixed := by kernel_rfl
  f6 := ⟨Tryz.f67.name, by decide, Tryz.func67.trans (congrArg some (by kernel_rfl))⟩
  f14 := ⟨Tryz.f80.name, by decide, Tryz.func80.trans (congrArg some (by kernel_rfl))⟩
  f15 := Tryz.func72.trans (congrArg some (by kernel_rfl))
  f20 := ⟨Tryz.f94.name, by decide, Tryz.func94.trans (congrArg some (by kernel_rfl))⟩
  f21 := ⟨Tryz.f95.name, by decide, Tryz.func95.trans (congrArg some (by kernel_rfl))⟩
  f22 := ⟨Tryz.f96.name, by decide, Tryz.func96.trans (congrArg some (by kernel_rfl))⟩
  f23 := ⟨Tryz.f97.name, by decide, Tryz.func97.trans (congrArg some (by kernel_rfl))⟩
  f24 := ⟨Tryz.f98.name, by decide, Tryz.func98.trans (congrArg some (by kernel_rfl))⟩
  f25 := ⟨Tryz.f99.name, by decide, Tryz.func99.trans (congrArg some (by kernel_rfl))⟩
  f26 := ⟨Tryz.f100.name, by decide, Tryz.func100.trans (congrArg some (by kernel_rfl))⟩
  f27 := ⟨Tryz.f101.name, by decide, Tryz.func101.trans (congrArg some (by kernel_rfl))⟩
  f28 := Tryz.func89.trans (congrArg some (by kernel_rfl))
  f29 := Tryz.func90.trans (congrArg some (by kernel_rfl))
  f46 := ⟨Tryz.f109.name, by decide, Tryz.func109.trans (congrArg some (by kernel_rfl))⟩
  f47 := Tryz.func103.trans (congrArg some (by kernel_rfl))
  f48 := Tryz.func104.trans (congrArg some (by kernel_rfl))
  f49 := ⟨Tryz.f110.name, by decide, Tryz.func110.trans (congrArg some (by kernel_rfl))⟩
  f50 := ⟨Tryz.f111.name, by decide, Tryz.func111.trans (congrArg some (by kernel_rfl))⟩
  f57 := ⟨Tryz.f122.name, by decide, Tryz.func122.trans (congrArg some (by kernel_rfl))⟩
  t0 := Tryz.underlying0
  a0 := Tryz.isAgg0
  z0 := Tryz.sizeOf0
  v0 := Tryz.zeroValue0
  t3 := Tryz.underlying3
  a3 := Tryz.isAgg3
  z3 := Tryz.sizeOf3
  v3 := Tryz.zeroValue3
  t4 := Tryz.underlying4
  a4 := Tryz.isAgg4
  z4 := Tryz.sizeOf4
  v4 := Tryz.zeroValue4
  t5 := Tryz.underlying5
  a5 := Tryz.isAgg5
  z5 := Tryz.sizeOf5
  v5 := Tryz.zeroValue5
  t9 := Tryz.underlying9
  a9 := Tryz.isAgg9
  z9 := Tryz.sizeOf9
  v9 := Tryz.zeroValue9
  t22 := Tryz.underlying52
  a22 := Tryz.isAgg52
  z22 := Tryz.sizeOf52
  v22 := Tryz.zeroValue52
  a24 := Tryz.isAgg45
  z24 := Tryz.sizeOf45
  t25 := Tryz.underlying97
  a25 := Tryz.isAgg97
  z25 := Tryz.sizeOf97
  v25 := Tryz.zeroValue97
  t39 := Tryz.underlying90
  a39 := Tryz.isAgg90
  z39 := Tryz.sizeOf90
  v39 := Tryz.zeroValue90
  t45 := Tryz.underlying114
  a45 := Tryz.isAgg114
  z45 := Tryz.sizeOf114
  v45 := Tryz.zeroValue114
  t46 := Tryz.underlying115
  a46 := Tryz.isAgg115
  z46 := Tryz.sizeOf115
  v46 := Tryz.zeroValue115
  t50 := Tryz.underlying119
  a50 := Tryz.isAgg119
  z50 := Tryz.sizeOf119
  v50 := Tryz.zeroValue119
  t53 := Tryz.underlying106
  a53 := Tryz.isAgg106
  z53 := Tryz.sizeOf106
  v53 := Tryz.zeroValue106
  t55 := Tryz.underlying109
  a55 := Tryz.isAgg109
  z55 := Tryz.sizeOf109
  v55 := Tryz.zeroValue109
  t66 := Tryz.underlying129
  a66 := Tryz.isAgg129
  z66 := Tryz.sizeOf129
  v66 := Tryz.zeroValue129
  t70 := Tryz.underlying133
  a70 := Tryz.isAgg133
  z70 := Tryz.sizeOf133
  v70 := Tryz.zeroValue133
  t76 := Tryz.underlying139
  a76 := Tryz.isAgg139
  z76 := Tryz.sizeOf139
  v76 := Tryz.zeroValue139
  t77 := Tryz.underlying140
  a77 := Tryz.isAgg140
  z77 := Tryz.sizeOf140
  v77 := Tryz.zeroValue140 }
end Go.Proofs
namespace Go.Proofs.YtkkfjfphmlcieaaGreat
set_option maxRecDepth 8000
open Go.RowKit Go.Maps Go.Sort Go.Shelf
attribute [local go_sem ↓] Go.wp_at_zero Go.wp_at_succ
/-- The order of lists: -1, 0 or 1. -/
def cmpL : List Nat → List Nat → Int
  | [], [] => 0
  | [], _ :: _ => -1
  | _ :: _, [] => 1
  | x :: l, y :: m => if x < y then -1 else if y < x then 1 else cmpL l m
theorem cmpL_self : ∀ l, cmpL l l = 0
  | [] => rfl
  | x :: l => by simp [cmpL, cmpL_self l]
theorem cmpL_trans : ∀ a b c, cmpL a b < 0 → cmpL b c < 0 → cmpL a c < 0
  | [], [], _, h, _ => by simp [cmpL] at h
  | [], _ :: _, [], _, h => by simp [cmpL] at h
  | [], _ :: _, _ :: _, _, _ => by simp [cmpL]
  | _ :: _, [], _, h, _ => by simp [cmpL] at h
  | _ :: _, _ :: _, [], _, h => by simp [cmpL] at h
  | x :: a, y :: b, z :: c, h1, h2 => by
    simp only [cmpL] at h1 h2 ⊢
    by_cases e1 : x < y
    · by_cases e2 : y < z
      · rw [if_pos (by omega)]; decide
      · rw [if_neg e2] at h2
        by_cases e3 : z < y
        · rw [if_pos e3] at h2; omega
        · rw [if_pos (by omega)]; decide
    · rw [if_neg e1] at h1
      by_cases e3 : y < x
      · rw [if_pos e3] at h1; omega
      · rw [if_neg e3] at h1
        have e4 : x = y := by omega
        subst e4
        by_cases e2 : x < z
        · rw [if_pos e2]; decide
        · rw [if_neg e2] at h2 ⊢
          by_cases e5 : z < x
          · rw [if_pos e5] at h2; omega
          · rw [if_neg e5] at h2 ⊢
            exact cmpL_trans a b c h1 h2
theorem cmpL_anti : ∀ a b, cmpL a b = -cmpL b a
  | [], [] => rfl
  | [], _ :: _ => rfl
  | _ :: _, [] => rfl
  | x :: a, y :: b => by
    simp only [cmpL]
    by_cases e1 : x < y
    · rw [if_pos e1, if_neg (by omega), if_pos e1]
    · by_cases e2 : y < x
      · rw [if_neg e1, if_pos e2, if_pos e2]; rfl
      · rw [if_neg e1, if_neg e2, if_neg e2, if_neg e1]; exact cmpL_anti a b
theorem cmpL_zero : ∀ a b, cmpL a b = 0 → a = b
  | [], [], _ => rfl
  | [], _ :: _, h => by simp [cmpL] at h
  | _ :: _, [], h => by simp [cmpL] at h
  | x :: a, y :: b, h => by
    simp only [cmpL] at h
    by_cases e1 : x < y
    · rw [if_pos e1] at h; omega
    · rw [if_neg e1] at h
      by_cases e2 : y < x
      · rw [if_pos e2] at h; omega
      · rw [if_neg e2] at h
        rw [cmpL_zero a b h, show x = y by omega]
theorem swoL (ls : Nat → List Nat) : SWO (ltOf (fun i j => cmpL (ls i) (ls j))) where
  irrefl x := by simp [ltOf, cmpL_self]
  trans x y z h1 h2 := by
    simp only [ltOf, decide_eq_true_eq] at *
    exact cmpL_trans _ _ _ h1 h2
  ntrans x y z h1 h2 := by
    simp only [ltOf, decide_eq_false_iff_not] at *
    intro h
    have a1 := cmpL_anti (ls x) (ls y)
    have a2 := cmpL_anti (ls y) (ls z)
    rcases Int.lt_trichotomy (cmpL (ls x) (ls y)) 0 with h3 | h3 | h3
    · exact h1 h3
    · rw [← cmpL_zero _ _ h3] at h2; exact h2 h
    · have h4 : cmpL (ls y) (ls x) < 0 := by omega
      exact h2 (cmpL_trans _ _ _ h4 h)
set_option maxHeartbeats 400000 in
theorem isNaN_call (x : Int) (w : World) : Calls Tryz.prog 73 #[.int .i64 x] w fun e w' => e = .returned (.bool false) ∧ w' = w := by
  have k : (x != x) = false := by simp
  go_enter Tryz.func73, Tryz.ntmps73
  go_wp2
  go_ret
  exact ⟨rfl, rfl⟩
set_option maxHeartbeats 1000000 in
theorem cmpI_call (x y : Int) (w : World) : Calls Tryz.prog 48 #[.int .i64 x, .int .i64 y] w fun e w' => e = .returned (.int .i64 (if x < y then -1 else if y < x then 1 else 0)) ∧ w' = w := by
  have H76 : Hid (∀ (x : Int), Calls Tryz.prog 73 #[.int .i64 x] w fun e w' => e = .returned (.bool false) ∧ w' = w) := fun x => isNaN_call x w
  by_cases h1 : x < y
  · rw [if_pos h1]
    go_enter Tryz.func48, Tryz.ntmps48
    go_wp2_with (first | (go_at_call 73; refine Calls.mono (H76.out _) ?_; rintro e w' ⟨rfl, rfl⟩) | go_in)
    go_ret
    exact ⟨rfl, rfl⟩
  · rw [if_neg h1]
    by_cases h2 : y < x
    · rw [if_pos h2]
      have h2' : x > y := h2
      go_enter Tryz.func48, Tryz.ntmps48
      go_wp2_with (first | (go_at_call 73; refine Calls.mono (H76.out _) ?_; rintro e w' ⟨rfl, rfl⟩) | go_in)
      go_ret
      exact ⟨rfl, rfl⟩
    · rw [if_neg h2]
      have h2' : ¬ x > y := h2
      go_enter Tryz.func48, Tryz.ntmps48
      go_wp2_with (first | (go_at_call 73; refine Calls.mono (H76.out _) ?_; rintro e w' ⟨rfl, rfl⟩) | go_in)
      go_ret
      exact ⟨rfl, rfl⟩
set_option maxHeartbeats 2000000 in
theorem compare_call {w : World} {v1 v2 : Option Addr} {c1 c2 : Nat} {l1 l2 : List Nat} (h1 : NumsAt w v1 l1) (h2 : NumsAt w v2 l2) (n1 : l1.length ≤ 1000) :
    Calls Tryz.prog 69 #[.slice v1 l1.length c1, .slice v2 l2.length c2] w fun e w' => e = .returned (.int .i64 (cmpL l1 l2)) ∧ w' = w := by
  have H1 : Hid (NumsAt w v1 l1) := h1
  have H2 : Hid (NumsAt w v2 l2) := h2
  have H61 : Hid (∀ x y : Int, Calls Tryz.prog 48 #[.int .i64 x, .int .i64 y] w fun e w' => e = .returned (.int .i64 (if x < y then -1 else if y < x then 1 else 0)) ∧ w' = w) := fun x y => cmpI_call x y w
  clear h1 h2
  go_enter Tryz.func69, Tryz.ntmps69
  go_wp2
  go_loopw [11] (fun s wr => ∃ i : Nat, i ≤ l1.length ∧ i ≤ l2.length ∧ s = .int .i64 (i : Int) ∧ cmpL l1 l2 = cmpL (l1.drop i) (l2.drop i) ∧ wr = w) (fun s _ => l1.length - (numOf s).toNat)
  case atStart => exact ⟨0, Nat.zero_le _, Nat.zero_le _, rfl, by simp, rfl⟩
  case round =>
    obtain ⟨i, hi1, hi2, rfl, hc, hwr⟩ := hrel
    have hwr' := hwr.symm
    subst hwr'
    clear hwr
    have HC : Hid (cmpL l1 l2 = cmpL (l1.drop i) (l2.drop i)) := hc
    clear hc
    by_cases hlt : i < l1.length
    · obtain ⟨x, hx⟩ : ∃ x, l1[i]? = some x := ⟨l1[i], List.getElem?_eq_getElem hlt⟩
      obtain ⟨b1, rfl, cx⟩ := H1.out i x hx
      have e1 : l1.drop i = x :: l1.drop (i + 1) := by
        rw [List.drop_eq_getElem_cons hlt]
        rw [List.getElem?_eq_getElem hlt] at hx
        injection hx with hx
        rw [hx]
      have k1 : (0 : Int) ≤ (i : Int) := by omega
      have k2 : (i : Int) < (l1.length : Int) := by omega
      by_cases hlt2 : i < l2.length
      · obtain ⟨y, hy⟩ : ∃ y, l2[i]? = some y := ⟨l2[i], List.getElem?_eq_getElem hlt2⟩
        obtain ⟨b2, rfl, cy⟩ := H2.out i y hy
        have e2 : l2.drop i = y :: l2.drop (i + 1) := by
          rw [List.drop_eq_getElem_cons hlt2]
          rw [List.getElem?_eq_getElem hlt2] at hy
          injection hy with hy
          rw [hy]
        have k3 : ¬ (i : Int) ≥ (l2.length : Int) := by omega
        have k4 : (i : Int) < (l2.length : Int) := by omega
        have h61 := H61.out (x : Int) (y : Int)
        have hcm := HC.out
        rw [e1, e2] at hcm
        simp only [cmpL] at hcm
        clear hx hy e1 e2
        by_cases a1 : x < y
        · rw [if_pos a1] at hcm
          rw [if_pos (by omega)] at h61
          have H61' : Hid (Calls Tryz.prog 48 #[.int .i64 (x : Int), .int .i64 (y : Int)] w fun e w' => e = .returned (.int .i64 (-1)) ∧ w' = w) := h61
          have HX : Hid (cmpL l1 l2 = -1) := hcm
          clear h61 hcm
          go_wp2_with (first | (go_at_call 48; refine Calls.mono H61'.out ?_; rintro e w' ⟨rfl, rfl⟩) | go_in)
          go_ret
          exact ⟨by rw [HX.out]; rfl, rfl⟩
        · rw [if_neg a1] at hcm
          rw [if_neg (by omega)] at h61
          by_cases a2 : y < x
          · rw [if_pos a2] at hcm
            rw [if_pos (by omega)] at h61
            have H61' : Hid (Calls Tryz.prog 48 #[.int .i64 (x : Int), .int .i64 (y : Int)] w fun e w' => e = .returned (.int .i64 1) ∧ w' = w) := h61
            have HX : Hid (cmpL l1 l2 = 1) := hcm
            clear h61 hcm
            go_wp2_with (first | (go_at_call 48; refine Calls.mono H61'.out ?_; rintro e w' ⟨rfl, rfl⟩) | go_in)
            go_ret
            exact ⟨by rw [HX.out]; rfl, rfl⟩
          · rw [if_neg a2] at hcm
            rw [if_neg (by omega)] at h61
            have H61' : Hid (Calls Tryz.prog 48 #[.int .i64 (x : Int), .int .i64 (y : Int)] w fun e w' => e = .returned (.int .i64 0) ∧ w' = w) := h61
            have HX : Hid (cmpL l1 l2 = cmpL (l1.drop (i + 1)) (l2.drop (i + 1))) := hcm
            clear h61 hcm
            go_wp2_with (first | (go_at_call 48; refine Calls.mono H61'.out ?_; rintro e w' ⟨rfl, rfl⟩) | go_in)
            go_roundw
            case rel => exact ⟨i + 1, by omega, by omega, by go_num, HX.out, trivial⟩
            case measure => simp [numOf]; omega
      · have k3 : (i : Int) ≥ (l2.length : Int) := by omega
        have HX : Hid (cmpL l1 l2 = 1) := by
          show cmpL l1 l2 = 1
          rw [HC.out, e1, List.drop_eq_nil_of_le (show l2.length ≤ i by omega)]; rfl
        clear hx e1
        go_wp2
        go_ret
        exact ⟨by rw [HX.out]; rfl, rfl⟩
    · have k2 : ¬ (i : Int) < (l1.length : Int) := by omega
      have hil : i = l1.length := by omega
      by_cases hl2 : l1.length < l2.length
      · have k5 : (l1.length : Int) < (l2.length : Int) := by omega
        have HX : Hid (cmpL l1 l2 = -1) := by
          show cmpL l1 l2 = -1
          rw [HC.out, List.drop_eq_nil_of_le (show l1.length ≤ i by omega), List.drop_eq_getElem_cons (show i < l2.length by omega)]; rfl
        clear hil
        go_wp2
        go_ret
        exact ⟨by rw [HX.out]; rfl, rfl⟩
      · have k5 : ¬ (l1.length : Int) < (l2.length : Int) := by omega
        have HX : Hid (cmpL l1 l2 = 0) := by
          show cmpL l1 l2 = 0
          rw [HC.out, List.drop_eq_nil_of_le (show l1.length ≤ i by omega), List.drop_eq_nil_of_le (show l2.length ≤ i by omega)]; rfl
        clear hil
        go_wp2
        go_ret
        exact ⟨by rw [HX.out]; rfl, rfl⟩
set_option maxHeartbeats 400000 in
theorem less_call {w : World} {v1 v2 : Option Addr} {c1 c2 : Nat} {l1 l2 : List Nat} (h1 : NumsAt w v1 l1) (h2 : NumsAt w v2 l2) (n1 : l1.length ≤ 1000) :
    Calls Tryz.prog 68 #[.slice v1 l1.length c1, .slice v2 l2.length c2] w fun e w' => e = .returned (.int .i64 (cmpL l1 l2)) ∧ w' = w := by
  have H51 : Hid (Calls Tryz.prog 69 #[.slice v1 l1.length c1, .slice v2 l2.length c2] w fun e w' => e = .returned (.int .i64 (cmpL l1 l2)) ∧ w' = w) := compare_call h1 h2 n1
  generalize cmpL l1 l2 = z at H51 ⊢
  clear h1 h2
  go_enter Tryz.func68, Tryz.ntmps68
  go_wp2_with (first | (go_at_call 69; refine Calls.mono H51.out ?_; rintro e w' ⟨rfl, rfl⟩) | go_in)
  go_ret
  exact ⟨rfl, rfl⟩
/-- Lists, sorted. -/
theorem sortL_call {w : World} {base : Nat} {so : Option Addr} {sc : Nat} {ls : List (List Nat)} (h : ListsAt w base (.slice so ls.length sc) ls) (hl : ∀ l ∈ ls, l.length ≤ 1000) (hn : ls.length ≤ 100000000) (hp : 0 < ls.length) :
    Calls Tryz.prog 67 #[.slice so ls.length sc, .func (.func 68) #[] #[]] w fun e w' => e = .returned (.tuple #[]) ∧ ∃ ls', ls'.Perm ls ∧ ls'.Pairwise (fun a b => ¬ cmpL b a < 0) ∧ ListsAt w' base (.slice so ls.length sc) ls' ∧ Turns (fun k => some k = (Value.slice so ls.length sc).ownBlock) w w' := by
  obtain ⟨vs, h1, h2, h3⟩ := h
  have eg : ∀ args w, (callFunc 68 args).run Tryz.prog w = .ok (.enter 68 args) w := enters_of Tryz.func68 (by kernel_rfl) rfl
  -- each value is a slice
  have hform : ∀ i, i < ls.length → ∃ (xo : Option Addr) (xc : Nat), vs[i]? = some (.slice xo (ls.getD i []).length xc) := fun i hi => by
    have hv : vs[i]? = some (vs[i]'(by omega)) := List.getElem?_eq_getElem _
    have hs : ls[i]? = some ls[i] := List.getElem?_eq_getElem hi
    obtain ⟨xo, xc, e⟩ := form_row (h3 i _ _ hv hs)
    refine ⟨xo, xc, ?_⟩
    rw [hv, e]
    simp [List.getD, hs]
  have hx : ∃ (xo : Nat → Option Addr) (xc : Nat → Nat), ∀ i, i < ls.length → vs[i]? = some (.slice (xo i) (ls.getD i []).length (xc i)) := by
    refine ⟨fun i => if h : i < ls.length then Classical.choose (hform i h) else none, fun i => if h : i < ls.length then Classical.choose (Classical.choose_spec (hform i h)) else 0, fun i hi => ?_⟩
    simp only [dif_pos hi]
    exact Classical.choose_spec (Classical.choose_spec (hform i hi))
  obtain ⟨xo, xc, hvs⟩ := hx
  obtain ⟨enc, henc⟩ : ∃ enc : Nat → Value, enc = fun i => .slice (if i < ls.length then xo i else none) (ls.getD i []).length (if i < ls.length then xc i else 0) := ⟨_, rfl⟩
  have hve : vs = (List.range ls.length).map enc := by
    refine List.ext_getElem? fun i => ?_
    by_cases hi : i < ls.length
    · rw [hvs i hi, henc]
      simp [hi]
    · rw [List.getElem?_eq_none (by omega), List.getElem?_eq_none (by simp; omega)]
  rw [hve] at h2
  have hne : Value.slice so ls.length sc ≠ .slice none 0 0 := fun e => by
    injection e with _ e2 _
    omega
  obtain ⟨g, cap, hv, hbg, hg, hnn, hm, hl2, hH⟩ := Lib.holds_of_ownsRow h2 hne
  injection hv with e1 _ e3
  subst e1; subst e3
  have henc' : ∀ i, enc i = .slice (if i < ls.length then xo i else none) (ls.getD i []).length (if i < ls.length then xc i else 0) := fun i => by rw [henc]
  have hone : OneCell enc := fun x => by rw [henc]; rfl
  have hg3 : ∀ (b : Nat) (i : Nat), i < ls.length → (xo i = some ⟨b, 0, none⟩) → b ≠ g ∧ b < w.heap.size := fun b i hi hb => by
    have hs : ls[i]? = some ls[i] := List.getElem?_eq_getElem hi
    have ho := h3 i _ _ (hvs i hi) hs
    have hob : (Value.slice (xo i) (ls.getD i []).length (xc i)).ownBlock = some b := by rw [hb]; rfl
    refine ⟨fun e => ?_, (ho.lt b hob).2⟩
    obtain ⟨cur, hc⟩ := own_cells ho hob
    obtain ⟨cur', hc'⟩ := own_cells h2 (g := g) rfl
    rw [e, hc'] at hc
    simp at hc
  have hread : ∀ (W : World), (∀ b, b ≠ g → b < w.heap.size → W.heap[b]? = w.heap[b]?) → ∀ x, NumsAt W (if x < ls.length then xo x else none) (ls.getD x []) := fun W hW x => by
    by_cases hx : x < ls.length
    · rw [if_pos hx]
      have hs : ls[x]? = some ls[x] := List.getElem?_eq_getElem hx
      have ho := h3 x _ _ (hvs x hx) hs
      have e : ls.getD x [] = ls[x] := by simp [List.getD, hs]
      rw [e] at ho ⊢
      intro k u hu
      obtain ⟨b, eb, hc⟩ := qcell ho hu
      obtain ⟨n1, n2⟩ := hg3 b x hx eb
      refine ⟨b, eb, ?_⟩
      have := hW b n1 n2
      have h9 : W.cell? ⟨b, k, none⟩ = w.cell? ⟨b, k, none⟩ := by simp [World.cell?, this]
      rw [h9]; exact hc
    · rw [if_neg hx]
      have : ls.getD x [] = [] := by simp [List.getD, List.getElem?_eq_none (show ls.length ≤ x by omega)]
      rw [this]
      intro k u hu; simp at hu
  have hlen : ∀ x, (ls.getD x []).length ≤ 1000 := fun x => by
    by_cases hx : x < ls.length
    · have hs : ls[x]? = some ls[x] := List.getElem?_eq_getElem hx
      have e : ls.getD x [] = ls[x] := by simp [List.getD, hs]
      rw [e]; exact hl _ (List.getElem_mem _)
    · have : ls.getD x [] = [] := by simp [List.getD, List.getElem?_eq_none (show ls.length ≤ x by omega)]
      rw [this]; simp
  have hcmp : CmpLays1 Tryz.prog 68 #[] enc (fun i j => cmpL (ls.getD i []) (ls.getD j [])) g 0 (List.range ls.length).toArray.size w := fun m os dk hs x y => by
    have hW : ∀ b, b ≠ g → b < w.heap.size → (sortWorld enc w g 0 m dk os).heap[b]? = w.heap[b]? := fun b n1 n2 => by
      unfold sortWorld
      rw [heap_grow_old _ _ (by simpa [putRow, mapBlock, Sort.ahead] using n2)]
      simp [putRow, mapBlock, Sort.ahead, Array.getElem?_modify, show g ≠ b from fun e => n1 e.symm]
    have := less_call (c1 := if x < ls.length then xc x else 0) (c2 := if y < ls.length then xc y else 0) (hread _ hW x) (hread _ hW y) (hlen x)
    show Calls Tryz.prog 68 #[enc x, enc y] _ _
    rw [henc' x, henc' y]
    refine this.mono ?_
    rintro e w' ⟨rfl, rfl⟩
    exact ⟨rfl, 0, #[], by rw [grow_empty]; rfl⟩
  have hc := Any.slices_SortFunc Tryz.sortL49 enc hone (fun i j => cmpL (ls.getD i []) (ls.getD j [])) (swoL (fun i => ls.getD i [])) 68 #[] g 0 sc (List.range ls.length).toArray w eg hcmp hH hg (by simp; omega)
  have hsz : (List.range ls.length).toArray.size = ls.length := by simp
  rw [hsz] at hc
  refine Calls.mono hc ?_
  rintro e w' ⟨rfl, d', n, os, hpm, hsd, rfl⟩
  obtain ⟨hps, _, hpp⟩ := hpm
  have hds : d'.size = ls.length := by rw [hps]; simp
  have hpp' : d'.toList.Perm (List.range ls.length) := by
    have e1 : (d'.extract 0 ls.length).toList = d'.toList := by rw [← hds]; simp
    have e2 : ((List.range ls.length).toArray.extract 0 ls.length).toList = List.range ls.length := by simp
    rw [e1, e2] at hpp
    exact hpp
  have hmem : ∀ i (hi : i < d'.toList.length), d'.toList[i] < ls.length := fun i hi => List.mem_range.1 (hpp'.mem_iff.1 (List.getElem_mem hi))
  have hW : ∀ b, b ≠ g → b < w.heap.size → (sortWorld enc w g 0 n d' os).heap[b]? = w.heap[b]? := fun b n1 n2 => by
    unfold sortWorld
    rw [heap_grow_old _ _ (by simpa [putRow, mapBlock, Sort.ahead] using n2)]
    simp [putRow, mapBlock, Sort.ahead, Array.getElem?_modify, show g ≠ b from fun e => n1 e.symm]
  refine ⟨rfl, d'.toList.map (fun i => ls.getD i []), ?_, ?_, ⟨d'.toList.map enc, by simp, ?_, fun i x l hx hl => ?_⟩, ?_⟩
  · have := hpp'.map (fun i => ls.getD i [])
    refine this.trans ?_
    have e : (List.range ls.length).map (fun i => ls.getD i []) = ls := by
      refine List.ext_getElem? fun i => ?_
      by_cases hi : i < ls.length
      · simp [hi, List.getD]
      · rw [List.getElem?_eq_none (by simp; omega), List.getElem?_eq_none (by omega)]
    rw [e]
  · rw [List.pairwise_map, List.pairwise_iff_getElem]
    intro i j hi hj hij
    have hi' : i < d'.size := by simpa using hi
    have hj' : j < d'.size := by simpa using hj
    have := hsd i j (Nat.zero_le _) hij (by omega)
    rw [getElem!_pos d' i hi', getElem!_pos d' j hj'] at this
    simp only [ltOf, decide_eq_false_iff_not] at this
    simpa using this
  · have ho := Lib.ownsRow_putRow (enc := enc) (q := n) (k := ls.length) (ys := d'.toList) h2 (by simp [hds]) (Nat.le_refl _)
    rw [List.take_of_length_le (by simp [hds]), Array.toArray_toList] at ho
    have e : (d'.toList.map (fun i => ls.getD i [])).length = ls.length := by simp [hds]
    rw [e]
    exact ownsRow_blocks ho (fun k hk => heap_grow_old _ _ (World.ownsRow.lt ho k hk).2)
  · rw [List.getElem?_map] at hx hl
    by_cases hi : i < d'.toList.length
    · rw [List.getElem?_eq_getElem hi] at hx hl
      have hk := hmem i hi
      generalize d'.toList[i] = k at hx hl hk
      simp only [Option.map_some, Option.some.injEq] at hx hl
      subst hx
      subst hl
      rw [henc' k, if_pos hk, if_pos hk]
      have hs : ls[k]? = some ls[k] := List.getElem?_eq_getElem hk
      have hgd : ls.getD k [] = ls[k] := by simp [List.getD, hs]
      have ho := h3 k _ _ (hvs k hk) hs
      rw [hgd] at ho ⊢
      refine ownsRow_blocks ho (fun b hb => hW b (fun e => ?_) (ho.lt b hb).2)
      obtain ⟨cur, hc⟩ := own_cells ho hb
      obtain ⟨cur', hc'⟩ := own_cells h2 (g := g) rfl
      rw [e, hc'] at hc
      simp at hc
    · rw [List.getElem?_eq_none (by omega)] at hx
      cases hx
  · refine ⟨rfl, rfl, rfl, by simp [sortWorld, grow, putRow, mapBlock, Sort.ahead], fun k hk hM => hW k (fun e => hM (by rw [e]; rfl)) hk⟩
end Go.Proofs.YtkkfjfphmlcieaaGreat
