/- Ints, Lists, Before2, smallFault. -/
import Derived.BigQuiet
import Derived.Test.YtkkfjfphmlcieaaCliM
import Derived.Test.YtkkfjfphmlcieaaRefO
namespace Go.Proofs.Ytkkfjfphmlcieaa
open Go.RowKit Go.Maps
attribute [local go_sem ↓] Go.wp_at_zero Go.wp_at_succ
theorem row_cell {w : World} {base n c : Nat} {t : TypeId} {so : Option Addr} {vs : List Value} (h : w.ownsRow base t 1 (.slice so n c) n vs) {i : Nat} {x : Value} (hx : vs[i]? = some x) : ∃ g, so = some ⟨g, 0, none⟩ ∧ w.cell? ⟨g, i, none⟩ = some x := by
  rcases h.2 with ⟨_, e⟩ | ⟨g, cap, cur, e, _, hg, _, _, _, ht⟩
  · have := h.1
    have hl : i < vs.length := by
      rcases Nat.lt_or_ge i vs.length with h | h
      · exact h
      · rw [List.getElem?_eq_none h] at hx; cases hx
    omega
  · cases e
    refine ⟨g, rfl, box_cell hg ?_⟩
    rw [← ht, List.getElem?_take] at hx
    split at hx
    · simpa using hx
    · cases hx
theorem ListsAt.row {w : World} {base n c : Nat} {so : Option Addr} {ls : List (List Nat)} (h : ListsAt w base (.slice so n c) ls) {i : Nat} (hi : i < ls.length) : ∃ g xo xc, so = some ⟨g, 0, none⟩ ∧ w.cell? ⟨g, i, none⟩ = some (.slice xo (ls.getD i []).length xc) ∧ w.ownsRow base 3 1 (.slice xo (ls.getD i []).length xc) (ls.getD i []).length (qv (ls.getD i [])) := by
  obtain ⟨vs, h1, h2, h3⟩ := h
  have hv : vs[i]? = some (vs[i]'(by omega)) := List.getElem?_eq_getElem _
  have hs : ls[i]? = some ls[i] := List.getElem?_eq_getElem hi
  have ho := h3 i _ _ hv hs
  obtain ⟨xo, xc, e⟩ := form_row ho
  have hg : ls.getD i [] = ls[i] := by simp [List.getD, hs]
  obtain ⟨ao, cap, e2⟩ := form_row h2
  cases e2
  obtain ⟨g, rfl, hc⟩ := row_cell h2 hv
  rw [e] at hc ho
  exact ⟨g, xo, xc, rfl, by rw [hg]; exact hc, by rw [hg]; exact ho⟩
set_option maxHeartbeats 400000 in
theorem intsL_true {w : World} {ao bo : Option Addr} {ac bc : Nat} {l : List Nat} (hA : NumsAt w ao l) (hB : NumsAt w bo l) (hll1 : l.length ≤ 1000) :
    Calls Try.prog 29 #[.slice ao l.length ac, .slice bo l.length bc] w fun e w' => e = .returned (.bool true) ∧ ∃ m, w' = w.drewN m := by
  have HA : Hid (NumsAt w ao l) := hA
  have HB : Hid (NumsAt w bo l) := hB
  clear hA hB
  have hll : ((l.length : Int) != (l.length : Int)) = false := by simp
  go_enter Try.func29, Try.ntmps29
  go_wp2
  go_loopw [5] (fun i wr => ∃ k : Nat, k ≤ l.length ∧ i = .int .i64 k ∧ ∃ m, wr = w.drewN m) (fun i _ => l.length - (numOf i).toNat)
  case atStart => exact ⟨0, Nat.zero_le _, rfl, 0, rfl⟩
  case round =>
    obtain ⟨k, hk, rfl, m0, hm0⟩ := hrel
    have HM : Hid (wr = w.drewN m0) := hm0
    by_cases hlt : k < l.length
    · obtain ⟨x, hx⟩ : ∃ x, x = l.getD k 0 := ⟨_, rfl⟩
      have hget : l[k]? = some x := by rw [hx]; simp [List.getD, List.getElem?_eq_getElem hlt]
      obtain ⟨b, rfl, cx⟩ := HA.out k x hget
      obtain ⟨b', rfl, cx'⟩ := HB.out k x hget
      have cx1 : wr.cell? ⟨b, k, none⟩ = some (.int .i64 (x : Int)) := by rw [hm0]; exact cx
      have cx2 : wr.cell? ⟨b', k, none⟩ = some (.int .i64 (x : Int)) := by rw [hm0]; exact cx'
      have hne : ((x : Int) != (x : Int)) = false := by simp
      clear hm0 cx cx' hx hget
      have hk1 : (0 : Int) ≤ (k : Int) := by omega
      have hk2 : (k : Int) < (l.length : Int) := by omega
      go_wp2
      go_quiet (fail)
      go_wp2
      go_roundw
      case rel => exact ⟨k + 1, by omega, by go_num, m0 + nq, by rw [HM.out, drewN_add]⟩
      case measure => simp [numOf]; omega
    · have hke : k = l.length := by omega
      subst hke
      clear hm0
      go_wp2
      go_ret
      exact ⟨rfl, m0, HM.out⟩
set_option maxHeartbeats 1000000 in
theorem listsL_true {w : World} {base base' : Nat} {ao bo : Option Addr} {ac bc : Nat} {ls : List (List Nat)} (hA : ListsAt w base (.slice ao ls.length ac) ls) (hB : ListsAt w base' (.slice bo ls.length bc) ls) (hlen : ls.length ≤ 16777216) (hrows : ∀ l ∈ ls, l.length ≤ 1000) :
    Calls Try.prog 15 #[.slice ao ls.length ac, .slice bo ls.length bc] w fun e w' => e = .returned (.bool true) ∧ ∃ m, w' = w.drewN m := by
  have HA : Hid (ListsAt w base (.slice ao ls.length ac) ls) := hA
  have HB : Hid (ListsAt w base' (.slice bo ls.length bc) ls) := hB
  have HRW : Hid (∀ l ∈ ls, l.length ≤ 1000) := hrows
  clear hA hB hrows
  have hll : ((ls.length : Int) != (ls.length : Int)) = false := by simp
  go_enter Try.func15, Try.ntmps15
  go_wp2
  go_loopw [5] (fun i wr => ∃ k : Nat, k ≤ ls.length ∧ i = .int .i64 k ∧ ∃ m, wr = w.drewN m) (fun i _ => ls.length - (numOf i).toNat)
  case atStart => exact ⟨0, Nat.zero_le _, rfl, 0, rfl⟩
  case round =>
    obtain ⟨k, hk, rfl, m0, hm0⟩ := hrel
    have HM : Hid (wr = w.drewN m0) := hm0
    by_cases hlt : k < ls.length
    · obtain ⟨b, xo, xc, rfl, cx, hx⟩ := HA.out.row hlt
      obtain ⟨b', yo, yc, rfl, cy, hy⟩ := HB.out.row hlt
      have cx1 : wr.cell? ⟨b, k, none⟩ = some (.slice xo (ls.getD k []).length xc) := by rw [hm0]; exact cx
      have cx2 : wr.cell? ⟨b', k, none⟩ = some (.slice yo (ls.getD k []).length yc) := by rw [hm0]; exact cy
      have h29 : ∀ m, Calls Try.prog 29 #[.slice xo (ls.getD k []).length xc, .slice yo (ls.getD k []).length yc] (wr.drewN m) fun e w' => e = .returned (.bool true) ∧ ∃ m', w' = (wr.drewN m).drewN m' := fun m => by
        have hb : Below w.heap.size w (wr.drewN m) := by rw [hm0]; exact below_next (drewN_below w m0) (drewN_below _ m)
        exact intsL_true ((numsAt_own hx).below hb) ((numsAt_own hy).below hb) (by
          have hg : ls[k]? = some (ls.getD k []) := by simp [List.getD, List.getElem?_eq_getElem hlt]
          exact HRW.out _ (List.mem_of_getElem? hg))
      have H29 : Hid (∀ m, Calls Try.prog 29 #[.slice xo (ls.getD k []).length xc, .slice yo (ls.getD k []).length yc] (wr.drewN m) fun e w' => e = .returned (.bool true) ∧ ∃ m', w' = (wr.drewN m).drewN m') := h29
      obtain ⟨xl, hxl⟩ : ∃ xl, xl = (ls.getD k []).length := ⟨_, rfl⟩
      rw [← hxl] at cx1 cx2 H29
      have hk1 : (0 : Int) ≤ (k : Int) := by omega
      have hk2 : (k : Int) < (ls.length : Int) := by omega
      clear hm0 cx cy h29 hx hy hxl
      go_upto_region 6 with (fail)
      go_quiet ((go_at_call 29; exact Calls.quiet_of (H29.out _)))
      go_wp2
      go_roundw
      case rel => exact ⟨k + 1, by omega, by go_num, m0 + nq, by rw [HM.out, drewN_add]⟩
      case measure => simp [numOf]; omega
    · have hke : k = ls.length := by omega
      subst hke
      clear hm0
      go_wp2
      go_ret
      exact ⟨rfl, m0, HM.out⟩
theorem getD_get' {l : List Nat} {i : Nat} (hi : i < l.length) : l[i]? = some (l.getD i 0) := by simp [List.getD, List.getElem?_eq_getElem hi]
theorem cmpL_drop {a b : List Nat} : ∀ k, k ≤ a.length → k ≤ b.length → a.take k = b.take k → cmpL a b = cmpL (a.drop k) (b.drop k) := by
  intro k
  induction k generalizing a b with
  | zero => intros; rfl
  | succ k ih =>
    intro h1 h2 h3
    match a, b, h1, h2 with
    | x :: a, y :: b, h1, h2 =>
      simp only [List.take_succ_cons, List.cons.injEq] at h3
      obtain ⟨rfl, h3⟩ := h3
      simp only [List.drop_succ_cons]
      rw [← ih (by simpa using h1) (by simpa using h2) h3]
      simp [cmpL]
theorem drop_at {a : List Nat} {k : Nat} {x : Nat} (h : a[k]? = some x) : a.drop k = x :: a.drop (k + 1) := by
  obtain ⟨hk, e⟩ := List.getElem?_eq_some_iff.1 h
  rw [List.drop_eq_getElem_cons hk, e]
set_option maxHeartbeats 1000000 in
theorem before_call {w : World} {ao bo : Option Addr} {ac bc : Nat} {a b : List Nat} (hA : NumsAt w ao a) (hB : NumsAt w bo b) (hla : a.length ≤ 1000) :
    Calls Try.prog 31 #[.slice ao a.length ac, .slice bo b.length bc] w fun e w' => e = .returned (.bool (decide (cmpL a b < 0))) ∧ ∃ m, w' = w.drewN m := by
  have HA : Hid (NumsAt w ao a) := hA
  have HB : Hid (NumsAt w bo b) := hB
  clear hA hB
  obtain ⟨la, hla'⟩ : ∃ la, la = a.length := ⟨_, rfl⟩
  obtain ⟨lb, hlb'⟩ : ∃ lb, lb = b.length := ⟨_, rfl⟩
  have HLA : Hid (la = a.length) := hla'
  have HLB : Hid (lb = b.length) := hlb'
  rw [← hla', ← hlb']
  rw [← hla'] at hla
  clear hla' hlb'
  obtain ⟨res, hres⟩ : ∃ res, res = decide (cmpL a b < 0) := ⟨_, rfl⟩
  have HR : Hid (res = decide (cmpL a b < 0)) := hres
  rw [← hres]
  clear hres
  go_enter Try.func31, Try.ntmps31
  go_wp2
  go_loopw [5] (fun i wr => ∃ k : Nat, k ≤ la ∧ k ≤ lb ∧ i = .int .i64 k ∧ a.take k = b.take k ∧ ∃ m, wr = w.drewN m) (fun i _ => la - (numOf i).toNat)
  case atStart => exact ⟨0, Nat.zero_le _, Nat.zero_le _, rfl, rfl, 0, rfl⟩
  case round =>
    obtain ⟨k, hk, hkb, rfl, htk, m0, hm0⟩ := hrel
    have HM : Hid (wr = w.drewN m0) := hm0
    have HD : Hid (cmpL a b = cmpL (a.drop k) (b.drop k)) := cmpL_drop k (by rw [← HLA.out]; exact hk) (by rw [← HLB.out]; exact hkb) htk
    have HTK : Hid (a.take k = b.take k) := htk
    clear htk
    by_cases h1 : k < la
    · have i1 : (k : Int) < (la : Int) := by omega
      by_cases h2 : k < lb
      · have i2 : (k : Int) < (lb : Int) := by omega
        obtain ⟨x, hx⟩ : ∃ x, x = a.getD k 0 := ⟨_, rfl⟩
        obtain ⟨y, hy⟩ : ∃ y, y = b.getD k 0 := ⟨_, rfl⟩
        have gx : a[k]? = some x := by rw [hx]; exact getD_get' (by rw [← HLA.out]; exact h1)
        have gy : b[k]? = some y := by rw [hy]; exact getD_get' (by rw [← HLB.out]; exact h2)
        have HGX : Hid (a[k]? = some x) := gx
        have HGY : Hid (b[k]? = some y) := gy
        obtain ⟨ba, rfl, cx⟩ := HA.out k x gx
        obtain ⟨bb, rfl, cy⟩ := HB.out k y gy
        have HD2 : Hid (cmpL a b = if x < y then -1 else if y < x then 1 else cmpL (a.drop (k + 1)) (b.drop (k + 1))) := by
          show cmpL a b = _
          rw [HD.out, drop_at gx, drop_at gy]; rfl
        have cx1 : wr.cell? ⟨ba, k, none⟩ = some (.int .i64 (x : Int)) := by rw [hm0]; exact cx
        have cy1 : wr.cell? ⟨bb, k, none⟩ = some (.int .i64 (y : Int)) := by rw [hm0]; exact cy
        have a1 : (0 : Int) ≤ (k : Int) := by omega
        clear hm0 cx cy hx hy gx gy
        by_cases hxy : x = y
        · subst hxy
          have hne : ((x : Int) != (x : Int)) = false := by simp
          go_upto_region 4 with (fail)
          go_quiet (fail)
          go_wp2
          go_roundw
          case rel =>
            refine ⟨k + 1, by omega, by omega, by go_num, ?_, m0 + nq, by rw [HM.out, drewN_add]⟩
            rw [List.take_add_one, List.take_add_one, HTK.out, HGX.out, HGY.out]
          case measure => simp [numOf]; omega
        · have hne : ((x : Int) != (y : Int)) = true := by simp; omega
          by_cases hl : x < y
          · have j1 : (x : Int) < (y : Int) := by omega
            have HX : Hid (true = res) := by
              show true = res
              rw [HR.out, HD2.out, if_pos hl]; rfl
            clear hxy
            go_upto_region 4 with (fail)
            go_quiet (fail)
            go_wp2
            go_quiet (fail)
            go_wp2
            go_ret
            exact ⟨by rw [← HX.out]; rfl, _, by rw [HM.out, drewN_add, drewN_add]⟩
          · have j1 : ¬ (x : Int) < (y : Int) := by omega
            have HX : Hid (false = res) := by
              show false = res
              rw [HR.out, HD2.out, if_neg hl, if_pos (by omega)]; rfl
            clear hxy
            go_upto_region 4 with (fail)
            go_quiet (fail)
            go_wp2
            go_quiet (fail)
            go_wp2
            go_ret
            exact ⟨by rw [← HX.out]; rfl, _, by rw [HM.out, drewN_add, drewN_add]⟩
      · have i2 : ¬ (k : Int) < (lb : Int) := by omega
        have i3 : ¬ (la : Int) < (lb : Int) := by omega
        have HX : Hid (false = res) := by
          show false = res
          have e : b.drop k = [] := List.drop_eq_nil_of_le (by rw [← HLB.out]; omega)
          have e2 := drop_at (getD_get' (l := a) (i := k) (by rw [← HLA.out]; exact h1))
          rw [HR.out, HD.out, e, e2]; rfl
        clear hm0
        go_wp2
        go_ret
        exact ⟨by rw [← HX.out]; rfl, m0, HM.out⟩
    · have i1 : ¬ (k : Int) < (la : Int) := by omega
      have e : a.drop k = [] := List.drop_eq_nil_of_le (by rw [← HLA.out]; omega)
      clear hm0
      by_cases h2 : k < lb
      · have i3 : (la : Int) < (lb : Int) := by omega
        have HX : Hid (true = res) := by
          show true = res
          have e2 := drop_at (getD_get' (l := b) (i := k) (by rw [← HLB.out]; exact h2))
          rw [HR.out, HD.out, e, e2]; rfl
        clear e
        go_wp2
        go_ret
        exact ⟨by rw [← HX.out]; rfl, m0, HM.out⟩
      · have i3 : ¬ (la : Int) < (lb : Int) := by omega
        have HX : Hid (false = res) := by
          show false = res
          have e2 : b.drop k = [] := List.drop_eq_nil_of_le (by rw [← HLB.out]; omega)
          rw [HR.out, HD.out, e, e2]; rfl
        clear e
        go_wp2
        go_ret
        exact ⟨by rw [← HX.out]; rfl, m0, HM.out⟩
end Go.Proofs.Ytkkfjfphmlcieaa
