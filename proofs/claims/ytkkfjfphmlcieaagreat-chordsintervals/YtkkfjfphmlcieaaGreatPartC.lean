/- part: an edge is taken away; isClique. -/
import Derived.Test.YtkkfjfphmlcieaaGreatRising
import Derived.BigQuiet
import Derived.Maps.AppendAt
namespace Go.Proofs.YtkkfjfphmlcieaaGreat
set_option maxRecDepth 4000
open Go.RowKit Go.Maps
attribute [local go_sem ↓] Go.wp_at_zero Go.wp_at_succ
theorem setN_del {w : World} {b N : Nat} {S : Nat → Bool} {D : DataW Unit} (h2 : ∀ u : Int, I64 u → Maps.has D (.int .i64 u) = (decide (0 ≤ u ∧ u < N) && S u.toNat)) {u : Nat} (hown : w.ownsMap Tryz.prog 3 unitElem b N (D.del (.int .i64 (u : Int)))) : SetN w b N (fun k => S k && k != u) := by
  refine ⟨_, hown, fun x hx => ?_⟩
  by_cases e : x = u
  · subst e
    rw [has_del_same]
    simp
  · rw [has_del_other (by simpa using e), h2 x hx]
    by_cases hb : 0 ≤ x ∧ x < N
    · have : (x.toNat != u) = true := by simp; omega
      simp [this]
    · simp [hb]
theorem NearsAt.cut {w w' : World} {ao : Option Addr} {n : Nat} {bl : Nat → Nat} {e : Nat → Nat → Bool} (h : NearsAt w ao n bl e) {a b : Nat} (ha : a < n) (hs : SetN w' (bl a) n (fun k => e a k && k != b)) (ht : Turns (fun k => k = bl a) w w') :
    NearsAt w' ao n bl (fun x y => e x y && !(x == a && y == b)) := by
  refine ⟨h.inj, fun i hi => ?_, fun i hi => ?_⟩
  · obtain ⟨g, e1, c⟩ := h.row i hi
    exact ⟨g, e1, cell_turns c ht (not_map c (h.sets a ha))⟩
  · by_cases he : i = a
    · subst he
      refine hs.congr (fun k _ => ?_)
      by_cases hk : k = b
      · simp [hk]
      · simp [hk, show (k == b) = false by simpa using hk]
    · have := (h.sets i hi).turns ht (fun e => he (h.inj i a hi ha e))
      exact this.congr (fun k _ => by simp [he])
/-- e without the edge between u and v. -/
def offE (e : Nat → Nat → Bool) (u v : Nat) : Nat → Nat → Bool := fun x y => (e x y && !(x == u && y == v)) && !(x == v && y == u)
set_option maxHeartbeats 400000 in
theorem part_call {w : World} {ao : Option Addr} {cap n : Nat} {bl : Nat → Nat} {e : Nat → Nat → Bool} (h : NearsAt w ao n bl e) (hn : n ≤ 1000) {u v : Nat} (hu : u < n) (hv : v < n) :
    Calls Tryz.prog 44 #[.slice ao n cap, .int .i64 (u : Int), .int .i64 (v : Int)] w fun r w' => r = .returned (.tuple #[]) ∧ NearsAt w' ao n bl (offE e u v) ∧ Turns (Marks n bl) w w' := by
  have hn6 : n ≤ 1000000 := by omega
  obtain ⟨g, rfl, c1⟩ := h.row u hu
  have i1 : (0 : Int) ≤ (u : Int) := by omega
  have i2 : (u : Int) < (n : Int) := by omega
  have j1 : (0 : Int) ≤ (v : Int) := by omega
  have j2 : (v : Int) < (n : Int) := by omega
  obtain ⟨D, hown, hhas⟩ := h.sets u hu
  go_enter Tryz.func44, Tryz.ntmps44
  go_upto_region 1 with (first | (at_delete; refine wpList_delete_own _ rfl _ _ 71 3 rfl 75 Tryz.lawI Tryz.underlying71 _ (bl u) n D rfl hown _ _ rfl (hkeyI (natI hn6 hv)) ?_; intro w1 hown1 hturn1) | go_in)
  have h1 := h.cut hu (setN_del hhas hown1) (turned_turns hturn1)
  have T1 := turned_turns hturn1
  obtain ⟨g', e', c2⟩ := h1.row v hv
  cases e'
  obtain ⟨D2, hown2, hhas2⟩ := h1.sets v hv
  clear c1 hown hhas hown1 hturn1
  go_wp2_with (first | (at_delete; refine wpList_delete_own _ rfl _ _ 71 3 rfl 75 Tryz.lawI Tryz.underlying71 _ (bl v) n D2 rfl hown2 _ _ rfl (hkeyI (natI hn6 hu)) ?_; intro w2 hown3 hturn3) | go_in)
  go_end0
  exact ⟨rfl, h1.cut hv (setN_del hhas2 hown3) (turned_turns hturn3), (T1.mono (fun k _ e => ⟨u, hu, e⟩)).trans ((turned_turns hturn3).mono (fun k _ e => ⟨v, hv, e⟩))⟩
/-- Whether any two of S have an edge. -/
def clqB (N : Nat) (e : Nat → Nat → Bool) (S : Nat → Bool) : Bool := (List.range N).all fun u => (List.range N).all fun v => !(S u && S v && u != v) || e u v
theorem clqB_true {N : Nat} {e : Nat → Nat → Bool} {S : Nat → Bool} : clqB N e S = true ↔ ∀ u v, u < N → v < N → S u = true → S v = true → u ≠ v → e u v = true := by
  unfold clqB
  simp only [List.all_eq_true, List.mem_range]
  constructor
  · intro h u v hu hv h1 h2 hne
    have := h u hu v hv
    simpa [h1, h2, hne] using this
  · intro h u hu v hv
    cases h1 : S u <;> cases h2 : S v <;> by_cases hne : u = v <;> simp [hne]
    exact h u v hu hv h1 h2 hne
theorem grown_below {w w' : World} (hb : Below w.heap.size w w') : w.grownBy w' none := ⟨hb.os, hb.tape, hb.output, hb.size, fun k hk _ => hb.block k hk⟩
/-- A set is gone through: lf tells what is left. -/
def RgN (w : World) (b r N : Nat) (S lf : Nat → Bool) (cnt : Nat) : Prop := ∃ (D : DataW Unit) (LF : Lit → Bool), w.ranges Tryz.prog 3 unitElem b r N D LF cnt ∧ (∀ u : Int, I64 u → Maps.has D (.int .i64 u) = (decide (0 ≤ u ∧ u < N) && S u.toNat)) ∧ ∀ y : Nat, y < N → lf y = LF (.int .i64 (y : Int))
theorem sameKey_neC {k y : Nat} (h : k ≠ y) : (Lit.int .i64 (k : Int)).sameKey (.int .i64 (y : Int)) = false := by
  simp [Lit.sameKey]
  omega
section
variable {w w' : World} {b r N cnt : Nat} {S lf : Nat → Bool}
theorem RgN.kept {row : Option Nat} (h : RgN w b r N S lf cnt) (hg : w.grownBy w' row) (hb : some b ≠ row) (hr : some r ≠ row) : RgN w' b r N S lf cnt := by
  obtain ⟨D, LF, h1, h2, h3⟩ := h
  exact ⟨D, LF, h1.kept hg hb hr, h2, h3⟩
theorem RgN.below (h : RgN w b r N S lf cnt) (hb : Below w.heap.size w w') : RgN w' b r N S lf cnt := h.kept (grown_below hb) (by simp) (by simp)
theorem RgN.left (h : RgN w b r N S lf cnt) : w.rangeLeft b r = cnt := by
  obtain ⟨D, LF, h1, _⟩ := h
  exact h1.left_eq
theorem RgN.set (h : RgN w b r N S lf cnt) : SetN w b N S := by
  obtain ⟨D, LF, h1, h2, _⟩ := h
  exact ⟨D, h1.owns, h2⟩
theorem RgN.lt (h : RgN w b r N S lf cnt) : r < w.heap.size := by
  obtain ⟨D, LF, h1, _⟩ := h
  exact h1.lt
theorem RgN.ne (h : RgN w b r N S lf cnt) : r ≠ b := by
  obtain ⟨D, LF, h1, _⟩ := h
  exact h1.ne
variable {ops : Array Oper} {rest : List Oper} {o : Oper} {a : Act} {Q : Exit → Act → World → Prop}
/-- One goes through a set. -/
theorem wpList_rangeS (hN : N ≤ 1000000) (hg : o.guard = none) (x : Operand) (hop : o.op = Op.range 71 x) (hx : a.eval x = .map (some b)) (h : SetN w b N S)
    (hRest : ∀ w5 cnt, RgN w5 b w.heap.size N S S cnt → Below w.heap.size w w5 → wpList Tryz.prog ops Q rest (a.put o.dst (.pointer (some ⟨w.heap.size, 0, none⟩))) w5) : wpList Tryz.prog ops Q (o :: rest) a w := by
  obtain ⟨D, hown, hhas⟩ := h
  refine wpList_range_own _ hg x 71 hop 3 75 Tryz.lawI Tryz.underlying71 _ b N D hx hown ?_
  intro w5 hrg0 hg0 hs0
  exact hRest w5 _ ⟨D, _, hrg0, hhas, fun y hy => by rw [hhas y (natI hN hy)]; simp [hy]⟩ ((Below.refl _ _).grown hg0 (Nat.le_refl _) (fun k hk => by cases hk))
theorem wpList_nextS (hg : o.guard = none) (it : Operand) (hop : o.op = Op.next it false) (hit : a.eval it = .pointer (some ⟨r, 0, none⟩)) (h : RgN w b r N S lf cnt)
    (hDone : (∀ y, y < N → lf y = false) → wpList Tryz.prog ops Q rest (a.put o.dst (.tuple #[.bool false])) w)
    (hMore : ∀ (y : Nat) (w6 : World) (cnt6 : Nat), y < N → S y = true → lf y = true → RgN w6 b r N S (fun k => lf k && k != y) cnt6 → cnt6 < cnt → w.grownBy w6 (some r) → (Instr.entry (.pointer (some ⟨r, 0, none⟩))).run Tryz.prog w6 = .ok (.tuple #[.int .i64 (y : Int), .agg #[]]) w6 → wpList Tryz.prog ops Q rest (a.put o.dst (.tuple #[.bool true, .int .i64 (y : Int), .agg #[]])) w6) : wpList Tryz.prog ops Q (o :: rest) a w := by
  obtain ⟨D, LF, hrg, hhas, hlf⟩ := h
  refine wpList_next_ranges _ hg it hop 3 Tryz.lawI unitElem encZ (fun _ : Unit => .agg #[]) (fun key kl hk => by obtain ⟨x, hx, _⟩ := Maps.keyOf_i64 Tryz.underlying3 hk; exact ⟨x, hx⟩) (fun v _ hv => ⟨(), (unitElem_inv hv).1⟩) b r N _ _ _ hit hrg ?_ ?_
  · intro _ hl0
    exact hDone (fun y hy => by rw [hlf y hy]; exact hl0 _)
  · intro x _ kl yd w6 cnt6 hkey hlk hvv hat hrg6 hcl hg6 hs6 hen
    obtain ⟨x', ex, rfl, hwf⟩ := Maps.keyOf_i64 Tryz.underlying3 hkey
    obtain rfl : x = x' := encZ_inj ex
    have hh := has_true_of_atKey hat
    have hxI : I64 x := ⟨(wf_bounds hwf).1, (wf_bounds hwf).2⟩
    rw [hhas x hxI] at hh
    simp only [Bool.and_eq_true, decide_eq_true_eq] at hh
    obtain ⟨⟨hx0, hxN⟩, hex⟩ := hh
    obtain ⟨y, rfl⟩ : ∃ y : Nat, x = y := ⟨x.toNat, by omega⟩
    have hyN : y < N := by omega
    refine hMore y w6 cnt6 hyN (by simpa using hex) (by rw [hlf y hyN]; exact hlk) ⟨D, _, hrg6, hhas, fun k hk => ?_⟩ hcl hg6 hen
    show (lf k && k != y) = _
    rw [hlf k hk]
    by_cases e : k = y
    · subst e; simp [Lit.sameKey]
    · have h1 : (k != y) = true := by simpa using e
      rw [h1, sameKey_neC e]; simp
end
set_option maxHeartbeats 4000000 in
theorem isClique_call {w : World} {N : Nat} {ao : Option Addr} {cap bS : Nat} {bl : Nat → Nat} {e : Nat → Nat → Bool} {S : Nat → Bool} (hnear : NearsAt w ao N bl e) (hN : N ≤ 1000) (hset : SetN w bS N S) :
    Calls Tryz.prog 54 #[.slice ao N cap, .map (some bS)] w fun r w' => r = .returned (.bool (clqB N e S)) ∧ Below w.heap.size w w' := by
  have hm6 : N ≤ 1000000 := by omega
  have hbl := hset.lt
  have HNR : Hid (NearsAt w ao N bl e) := hnear
  clear hnear
  go_enter Tryz.func54, Tryz.ntmps54
  go_wp2_with (first | (at_range; refine wpList_rangeS hm6 rfl _ rfl rfl hset ?_; intro w5 cnt0 hrg0 hB5) | go_in)
  go_frame
  obtain ⟨r, hr⟩ : ∃ r, r = w.heap.size := ⟨_, rfl⟩
  rw [← hr] at hrg0 ⊢
  have hrge : w.heap.size ≤ r := by omega
  have HSET : Hid (SetN w bS N S) := hset
  clear hr hset
  go_loopw [] (fun wz => ∃ (lf : Nat → Bool) (cnt : Nat), RgN wz bS r N S lf cnt ∧ (∀ u, u < N → S u = true → lf u = false → ∀ v, v < N → S v = true → u ≠ v → e u v = true) ∧ Below w.heap.size w wz) (fun wz => wz.rangeLeft bS r)
  case atStart => exact ⟨_, _, hrg0, fun u hu hs hl => (by rw [hs] at hl; cases hl), hB5⟩
  case round =>
    obtain ⟨lf, cnt, hrgz, hsf, hBz⟩ := hrel
    have HSF : Hid (∀ u, u < N → S u = true → lf u = false → ∀ v, v < N → S v = true → u ≠ v → e u v = true) := hsf
    clear hrg0 hB5 hsf
    have hlz := hrgz.left
    go_wp2_with (first
      | (at_next; refine wpList_nextS rfl _ rfl rfl hrgz ?_ ?_)
      | go_in)
    · intro hl0
      have HC : Hid (clqB N e S = true) := clqB_true.2 (fun u v hu hv h1 h2 hne => HSF.out u hu h1 (hl0 u hu) v hv h2 hne)
      go_wp2
      go_ret
      exact ⟨by rw [HC.out]; rfl, hBz⟩
    · intro y w6 cnt6 hyN hSy hly hrg6 hcl hg6 hen
      have hB6 := hBz.grown hg6 hBz.size (fun k hk => by cases hk; omega)
      have HCL : Hid (cnt6 < cnt) := hcl
      have HSY : Hid (S y = true) := hSy
      have hset6 := hrg6.set
      have HRG6 : Hid (RgN w6 bS r N S (fun k => lf k && k != y) cnt6) := hrg6
      have HLZ : Hid (wr.rangeLeft bS r = cnt) := hlz
      clear hrgz hcl hg6 hSy hly hBz hrg6 hlz
      go_wp2_with (first
        | (at_range; refine wpList_rangeS hm6 rfl _ rfl rfl hset6 ?_; intro w7 cnt7 hrg7 hB7)
        | go_in)
      go_frame
      obtain ⟨r2, hr2⟩ : ∃ r2, r2 = w6.heap.size := ⟨_, rfl⟩
      rw [← hr2] at hrg7 ⊢
      have hrr : r < r2 := by rw [hr2]; exact HRG6.out.lt
      have hB07 := below_next hB6 hB7
      have HRG7 : Hid (RgN w7 bS r N S (fun k => lf k && k != y) cnt6) := HRG6.out.below hB7
      clear hr2 hset6 HRG6 hen hB7
      go_loopw [] (fun wq => ∃ (lf2 : Nat → Bool) (cnt2 : Nat), RgN wq bS r2 N S lf2 cnt2 ∧ RgN wq bS r N S (fun k => lf k && k != y) cnt6 ∧ (∀ v, v < N → S v = true → lf2 v = false → y ≠ v → e y v = true) ∧ Below w.heap.size w wq) (fun wq => wq.rangeLeft bS r2)
      case atStart => exact ⟨_, _, hrg7, HRG7.out, fun v hv hs hl => (by rw [hs] at hl; cases hl), hB07⟩
      case round =>
        obtain ⟨lf2, cnt2, hrgq, hrgo, hsf2, hBq⟩ := hrel
        have HSF2 : Hid (∀ v, v < N → S v = true → lf2 v = false → y ≠ v → e y v = true) := hsf2
        have HRGO : Hid (RgN wr bS r N S (fun k => lf k && k != y) cnt6) := hrgo
        clear hrg7 hB07 hsf2 hrgo HRG7
        have HLQ : Hid (wr.rangeLeft bS r2 = cnt2) := hrgq.left
        go_wp2_with (first
          | (at_next; refine wpList_nextS rfl _ rfl rfl hrgq ?_ ?_)
          | go_in)
        · intro hl0
          have HROW : Hid (∀ v, v < N → S v = true → y ≠ v → e y v = true) := fun v hv h1 h2 => HSF2.out v hv h1 (hl0 v hv) h2
          go_wp2
          go_roundw
          case rel =>
            refine ⟨_, _, HRGO.out, fun u hu hs hl v hv h1 h2 => ?_, hBq⟩
            by_cases c : u = y
            · subst c; exact HROW.out v hv h1 h2
            · refine HSF.out u hu hs ?_ v hv h1 h2
              have hne : (u != y) = true := by simpa using c
              simpa [hne] using hl
          case measure => rw [HRGO.out.left, HLZ.out]; exact HCL.out
        · intro z w8 cnt8 hzN hSz hlz hrg8 hcl8 hg8 hen8
          have hB8 := hBq.grown hg8 hBq.size (fun k hk => by cases hk; omega)
          have HRGO8 : Hid (RgN w8 bS r N S (fun k => lf k && k != y) cnt6) := HRGO.out.kept hg8 (by simp; have := hrgq.ne; omega) (by simp; omega)
          have HRG8 : Hid (RgN w8 bS r2 N S (fun k => lf2 k && k != z) cnt8) := hrg8
          have HCL8 : Hid (cnt8 < cnt2) := hcl8
          have HSZ : Hid (S z = true) := hSz
          have i1 : (0 : Int) ≤ (y : Int) := by omega
          have i2 : (y : Int) < (N : Int) := by omega
          clear hrgq hcl8 hg8 hSz hlz hBq hrg8
          by_cases hyz : y = z
          · subst hyz
            go_wp2
            go_roundw
            case rel =>
              refine ⟨_, _, HRG8.out, HRGO8.out, fun v hv hs hl hne => ?_, hB8⟩
              have hne' : (v != y) = true := by simpa using fun h => hne h.symm
              exact HSF2.out v hv hs (by simpa [hne'] using hl) hne
            case measure => rw [HRG8.out.left, HLQ.out]; exact HCL8.out
          · have k1 : ((y : Int) != (z : Int)) = true := by simp; omega
            obtain ⟨g, rfl, c1⟩ := (HNR.out.below hB8).row y hyN
            have h42 := has_call ((HNR.out.below hB8).sets y hyN) hm6 hzN
            have HYZ : Hid (y ≠ z) := hyz
            clear hyz
            cases hb : e y z with
            | true =>
              rw [hb] at h42
              have H42 : Hid (Calls Tryz.prog 42 #[.map (some (bl y)), .int .i64 (z : Int)] w8 fun e w' => e = .returned (.bool true) ∧ Below w8.heap.size w8 w') := h42
              have HB : Hid (e y z = true) := hb
              clear h42 hb
              go_wp2_with (first | (go_at_call 42; refine Calls.mono H42.out ?_; rintro e' w9 ⟨rfl, hB9⟩) | go_in)
              go_roundw
              case rel =>
                refine ⟨_, _, HRG8.out.below hB9, HRGO8.out.below hB9, fun v hv hs hl hne => ?_, below_next hB8 hB9⟩
                by_cases c : v = z
                · subst c; exact HB.out
                · have hne' : (v != z) = true := by simpa using c
                  exact HSF2.out v hv hs (by simpa [hne'] using hl) hne
              case measure => rw [(HRG8.out.below hB9).left, HLQ.out]; exact HCL8.out
            | false =>
              rw [hb] at h42
              have H42 : Hid (Calls Tryz.prog 42 #[.map (some (bl y)), .int .i64 (z : Int)] w8 fun e w' => e = .returned (.bool false) ∧ Below w8.heap.size w8 w') := h42
              have HC : Hid (clqB N e S = false) := by
                show clqB N e S = false
                cases hc : clqB N e S with
                | false => rfl
                | true => rw [clqB_true.1 hc y z hyN hzN HSY.out HSZ.out HYZ.out] at hb; cases hb
              clear h42 hb
              go_wp2_with (first | (go_at_call 42; refine Calls.mono H42.out ?_; rintro e' w9 ⟨rfl, hB9⟩) | go_in)
              go_ret
              exact ⟨by rw [HC.out]; rfl, below_next hB8 hB9⟩
end Go.Proofs.YtkkfjfphmlcieaaGreat
