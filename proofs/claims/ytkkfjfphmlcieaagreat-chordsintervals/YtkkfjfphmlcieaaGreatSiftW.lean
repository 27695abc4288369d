/- sift, len of a set, pivotOf. -/
import Derived.Test.YtkkfjfphmlcieaaGreatPartC
namespace Go.Proofs.YtkkfjfphmlcieaaGreat
set_option maxRecDepth 4000
open Go.RowKit Go.Maps
attribute [local go_sem ↓] Go.wp_at_zero Go.wp_at_succ
theorem grown_of_turns {w w' : World} {b : Nat} (h : Turns (fun k => k = b) w w') : w.grownBy w' (some b) := ⟨h.os, h.tape, h.output, h.size, fun k hk hne => h.block k hk (fun e => hne (by rw [e]))⟩
/-- len of a set. -/
theorem wpList_lenS {w : World} {ops : Array Oper} {rest : List Oper} {o : Oper} {a : Act} {Q : Exit → Act → World → Prop} {b N : Nat} {S : Nat → Bool} (hg : o.guard = none) (m : Operand) (hop : o.op = Op.call { callee := Callee.builtin Builtin.len, args := #[m], argTypes := #[71] }) (hm : a.eval m = .map (some b)) (h : SetN w b N S) (hN : N ≤ 1000000)
    (hK : ∀ n : Nat, n ≤ N → (n = 0 ↔ ∀ x, x < N → S x = false) → wpList Tryz.prog ops Q rest (a.put o.dst (.int .i64 (n : Int))) w) : wpList Tryz.prog ops Q (o :: rest) a w := by
  obtain ⟨D, hown, hhas⟩ := h
  obtain ⟨es, hD, hpw, _⟩ := hown.entries Tryz.lawI
  obtain ⟨es', hD', hko⟩ := hown.keysOf
  obtain rfl : es = es' := by rw [hD] at hD'; simpa using hD'
  refine wpList_len_own _ hg m 71 hop 3 75 Tryz.underlying71 unitElem b N D hm hown ?_
  have hsz : Maps.size D = es.length := by rw [hD]; rfl
  rw [hsz]
  refine hK es.length ?_ ?_
  · have := hown.size_le
    rw [hsz] at this
    exact this
  · constructor
    · intro h0 x hx
      have he : es = [] := List.length_eq_zero_iff.1 h0
      have h1 := hhas x (natI hN hx)
      rw [hD, he] at h1
      simp [Maps.has, hx] at h1
      cases hc : S x with
      | false => rfl
      | true => rw [hc] at h1; simp at h1
    · intro hall
      apply Classical.byContradiction
      intro hne
      obtain ⟨p, hp⟩ : ∃ p, p ∈ es := by
        cases es with
        | nil => exact absurd rfl hne
        | cons p l => exact ⟨p, by simp⟩
      obtain ⟨v, hv⟩ := hko p hp
      obtain ⟨x, _, hx, hw⟩ := Maps.keyOf_i64 Tryz.underlying3 hv
      have hb := wf_bounds hw
      have hh := hhas x ⟨hb.1, hb.2⟩
      rw [hD, has_eq, show (es.any fun q => q.1.sameKey (.int .i64 x)) = true from List.any_eq_true.2 ⟨p, hp, by rw [hx]; simp [Lit.sameKey]⟩] at hh
      have hh' := hh.symm
      simp only [Bool.and_eq_true, decide_eq_true_eq] at hh'
      have := hall x.toNat (by omega)
      rw [hh'.2] at this
      cases this
set_option maxHeartbeats 2000000 in
theorem siftL_call {w : World} {bS N : Nat} {S f : Nat → Bool} (hset : SetN w bS N S) (hN : N ≤ 1000000) (F : FuncId) (caps : Array Value) (hF : ∀ args w', (callFunc F args).run Tryz.prog w' = .ok (.enter F args) w') (hf : ∀ W, Below w.heap.size w W → ∀ x : Nat, x < N → Calls Tryz.prog F (#[.int .i64 (x : Int)] ++ caps) W fun e w' => e = .returned (.bool (f x)) ∧ Below W.heap.size W w') :
    Calls Tryz.prog 65 #[.map (some bS), .func (.func F) #[] caps] w fun r w' => ∃ b, r = .returned (.map (some b)) ∧ w.heap.size ≤ b ∧ SetN w' b N (fun x => S x && f x) ∧ Below w.heap.size w w' := by
  have hmm := @run_makeMap Tryz.prog
  have HF : Hid (∀ W, Below w.heap.size w W → ∀ x : Nat, x < N → Calls Tryz.prog F (#[.int .i64 (x : Int)] ++ caps) W fun e w' => e = .returned (.bool (f x)) ∧ Below W.heap.size W w') := hf
  have HSET : Hid (SetN w bS N S) := hset
  have hbS := hset.lt
  clear hf hset
  go_enter Tryz.func65, Tryz.ntmps65
  go_upto_region 2 with (fail)
  have hs0 := setN_made w N
  have hB0 := below_alloc (Below.refl _ w) (.map #[] 0)
  obtain ⟨b5, hb5⟩ : ∃ b, b = w.heap.size := ⟨_, rfl⟩
  rw [← hb5] at hs0 ⊢
  generalize w.alloc (.map #[] 0) = W0 at hs0 hB0 ⊢
  have hS0 := HSET.out.below hB0 hbS
  have hb5' : w.heap.size ≤ b5 := by omega
  have hne : bS ≠ b5 := by omega
  have h50 := hs0.lt
  clear hb5 hmm
  go_wp2_with (first | (at_range; refine wpList_rangeS hN rfl _ rfl rfl hS0 ?_; intro w5 cnt0 hrg0 hB5) | go_in)
  go_frame
  obtain ⟨r, hr⟩ : ∃ r, r = W0.heap.size := ⟨_, rfl⟩
  rw [← hr] at hrg0 ⊢
  have hr5 : b5 < r := by omega
  have HS5 : Hid (SetN w5 b5 N (fun _ => false)) := hs0.below hB5 h50
  have hB05 := below_next hB0 hB5
  have hrge : w.heap.size ≤ r := by have := hB0.size; omega
  clear hr hS0 hs0
  go_loopw [] (fun wz => ∃ (lf : Nat → Bool) (cnt : Nat), RgN wz bS r N S lf cnt ∧ SetN wz b5 N (fun x => (S x && !lf x) && f x) ∧ Below w.heap.size w wz) (fun wz => wz.rangeLeft bS r)
  case atStart => exact ⟨_, _, hrg0, HS5.out.congr (fun k _ => by cases S k <;> simp), hB05⟩
  case round =>
    obtain ⟨lf, cnt, hrgz, hsz, hBz⟩ := hrel
    have HSZ : Hid (SetN wr b5 N (fun x => (S x && !lf x) && f x)) := hsz
    have HLZ : Hid (wr.rangeLeft bS r = cnt) := hrgz.left
    clear hrg0 hB05 HS5 hsz hB5 hB0
    go_wp2_with (first | (at_next; refine wpList_nextS rfl _ rfl rfl hrgz ?_ ?_) | go_in)
    · intro hl0
      have HX : Hid (SetN wr b5 N (fun x => S x && f x)) := HSZ.out.congr (fun k hk => by rw [hl0 k hk]; simp)
      go_wp2
      go_ret
      exact ⟨b5, rfl, hb5', HX.out, hBz⟩
    · intro y w6 cnt6 hyN hSy hly hrg6 hcl hg6 hen
      have hB6 := hBz.grown hg6 hBz.size (fun k hk => by cases hk; omega)
      have T6 : Turns (fun k => k = r) wr w6 := ⟨hg6.os, hg6.tape, hg6.output, hg6.size, fun k hk hne => hg6.block k hk (fun e => hne (by injection e))⟩
      have HS6 : Hid (SetN w6 b5 N (fun x => (S x && !lf x) && f x)) := HSZ.out.turns T6 (by omega)
      have HRG6 : Hid (RgN w6 bS r N S (fun k => lf k && k != y) cnt6) := hrg6
      have HCL : Hid (cnt6 < cnt) := hcl
      have hc := HF.out w6 hB6 y hyN
      clear hrgz hcl hg6 hBz hrg6 T6
      cases hfy : f y with
      | true =>
        rw [hfy] at hc
        have HC : Hid (Calls Tryz.prog F (#[.int .i64 (y : Int)] ++ caps) w6 fun e w' => e = .returned (.bool true) ∧ Below w6.heap.size w6 w') := hc
        have HFY : Hid (f y = true) := hfy
        clear hc hfy
        go_upto_region 6 with (first | (refine Calls.mono HC.out ?_; rintro r' w7 ⟨rfl, hb7⟩) | go_in)
        have HS7 : Hid (SetN w7 b5 N (fun x => (S x && !lf x) && f x)) := HS6.out.below hb7 HS6.out.lt
        have HRG7 : Hid (RgN w7 bS r N S (fun k => lf k && k != y) cnt6) := HRG6.out.below hb7
        have hB7 := below_next hB6 hb7
        go_wp2_with (first | (go_at_call 49; refine Calls.mono (add_call HS7.out hN hyN) ?_; rintro r' w8 ⟨rfl, hS8, hT8⟩) | go_in)
        have HRG8 : Hid (RgN w8 bS r N S (fun k => lf k && k != y) cnt6) := HRG7.out.kept (grown_of_turns hT8) (by simpa using hne) (by simp; omega)
        go_roundw
        case rel => exact ⟨_, _, HRG8.out, hS8.congr (fun k _ => by
          by_cases e : k = y
          · subst e; simp [hSy, HFY.out]
          · have h1 : (k != y) = true := by simpa using e
            simp [e, h1]), Turns.below hB7 hT8 hB7.size (fun k e => by omega)⟩
        case measure => rw [HRG8.out.left, HLZ.out]; exact HCL.out
      | false =>
        rw [hfy] at hc
        have HC : Hid (Calls Tryz.prog F (#[.int .i64 (y : Int)] ++ caps) w6 fun e w' => e = .returned (.bool false) ∧ Below w6.heap.size w6 w') := hc
        have HFY : Hid (f y = false) := hfy
        clear hc hfy
        go_wp2_with (first | (refine Calls.mono HC.out ?_; rintro r' w7 ⟨rfl, hb7⟩) | go_in)
        have HRG7 : Hid (RgN w7 bS r N S (fun k => lf k && k != y) cnt6) := HRG6.out.below hb7
        go_roundw
        case rel => exact ⟨_, _, HRG7.out, (HS6.out.below hb7 HS6.out.lt).congr (fun k _ => by
          by_cases e : k = y
          · subst e; simp [HFY.out]
          · have h1 : (k != y) = true := by simpa using e
            simp [h1]), below_next hB6 hb7⟩
        case measure => rw [HRG7.out.left, HLZ.out]; exact HCL.out
set_option maxHeartbeats 2000000 in
theorem siftB_call {w : World} {bS N : Nat} {S f : Nat → Bool} (hset : SetN w bS N S) (hN : N ≤ 1000000) (F : FuncId) (rc : Value) (hF : ∀ args w', (callFunc F args).run Tryz.prog w' = .ok (.enter F args) w') (hf : ∀ W, Below w.heap.size w W → ∀ x : Nat, x < N → Calls Tryz.prog F (#[rc, .int .i64 (x : Int)]) W fun e w' => e = .returned (.bool (f x)) ∧ Below W.heap.size W w') :
    Calls Tryz.prog 65 #[.map (some bS), .func (.func F) #[rc] #[]] w fun r w' => ∃ b, r = .returned (.map (some b)) ∧ w.heap.size ≤ b ∧ SetN w' b N (fun x => S x && f x) ∧ Below w.heap.size w w' := by
  have hmm := @run_makeMap Tryz.prog
  have HF : Hid (∀ W, Below w.heap.size w W → ∀ x : Nat, x < N → Calls Tryz.prog F (#[rc, .int .i64 (x : Int)]) W fun e w' => e = .returned (.bool (f x)) ∧ Below W.heap.size W w') := hf
  have HSET : Hid (SetN w bS N S) := hset
  have hbS := hset.lt
  clear hf hset
  go_enter Tryz.func65, Tryz.ntmps65
  go_upto_region 2 with (fail)
  have hs0 := setN_made w N
  have hB0 := below_alloc (Below.refl _ w) (.map #[] 0)
  obtain ⟨b5, hb5⟩ : ∃ b, b = w.heap.size := ⟨_, rfl⟩
  rw [← hb5] at hs0 ⊢
  generalize w.alloc (.map #[] 0) = W0 at hs0 hB0 ⊢
  have hS0 := HSET.out.below hB0 hbS
  have hb5' : w.heap.size ≤ b5 := by omega
  have hne : bS ≠ b5 := by omega
  have h50 := hs0.lt
  clear hb5 hmm
  go_wp2_with (first | (at_range; refine wpList_rangeS hN rfl _ rfl rfl hS0 ?_; intro w5 cnt0 hrg0 hB5) | go_in)
  go_frame
  obtain ⟨r, hr⟩ : ∃ r, r = W0.heap.size := ⟨_, rfl⟩
  rw [← hr] at hrg0 ⊢
  have hr5 : b5 < r := by omega
  have HS5 : Hid (SetN w5 b5 N (fun _ => false)) := hs0.below hB5 h50
  have hB05 := below_next hB0 hB5
  have hrge : w.heap.size ≤ r := by have := hB0.size; omega
  clear hr hS0 hs0
  go_loopw [] (fun wz => ∃ (lf : Nat → Bool) (cnt : Nat), RgN wz bS r N S lf cnt ∧ SetN wz b5 N (fun x => (S x && !lf x) && f x) ∧ Below w.heap.size w wz) (fun wz => wz.rangeLeft bS r)
  case atStart => exact ⟨_, _, hrg0, HS5.out.congr (fun k _ => by cases S k <;> simp), hB05⟩
  case round =>
    obtain ⟨lf, cnt, hrgz, hsz, hBz⟩ := hrel
    have HSZ : Hid (SetN wr b5 N (fun x => (S x && !lf x) && f x)) := hsz
    have HLZ : Hid (wr.rangeLeft bS r = cnt) := hrgz.left
    clear hrg0 hB05 HS5 hsz hB5 hB0
    go_wp2_with (first | (at_next; refine wpList_nextS rfl _ rfl rfl hrgz ?_ ?_) | go_in)
    · intro hl0
      have HX : Hid (SetN wr b5 N (fun x => S x && f x)) := HSZ.out.congr (fun k hk => by rw [hl0 k hk]; simp)
      go_wp2
      go_ret
      exact ⟨b5, rfl, hb5', HX.out, hBz⟩
    · intro y w6 cnt6 hyN hSy hly hrg6 hcl hg6 hen
      have hB6 := hBz.grown hg6 hBz.size (fun k hk => by cases hk; omega)
      have T6 : Turns (fun k => k = r) wr w6 := ⟨hg6.os, hg6.tape, hg6.output, hg6.size, fun k hk hne => hg6.block k hk (fun e => hne (by injection e))⟩
      have HS6 : Hid (SetN w6 b5 N (fun x => (S x && !lf x) && f x)) := HSZ.out.turns T6 (by omega)
      have HRG6 : Hid (RgN w6 bS r N S (fun k => lf k && k != y) cnt6) := hrg6
      have HCL : Hid (cnt6 < cnt) := hcl
      have hc := HF.out w6 hB6 y hyN
      clear hrgz hcl hg6 hBz hrg6 T6
      cases hfy : f y with
      | true =>
        rw [hfy] at hc
        have HC : Hid (Calls Tryz.prog F (#[rc, .int .i64 (y : Int)]) w6 fun e w' => e = .returned (.bool true) ∧ Below w6.heap.size w6 w') := hc
        have HFY : Hid (f y = true) := hfy
        clear hc hfy
        go_upto_region 6 with (first | (refine Calls.mono HC.out ?_; rintro r' w7 ⟨rfl, hb7⟩) | go_in)
        have HS7 : Hid (SetN w7 b5 N (fun x => (S x && !lf x) && f x)) := HS6.out.below hb7 HS6.out.lt
        have HRG7 : Hid (RgN w7 bS r N S (fun k => lf k && k != y) cnt6) := HRG6.out.below hb7
        have hB7 := below_next hB6 hb7
        go_wp2_with (first | (go_at_call 49; refine Calls.mono (add_call HS7.out hN hyN) ?_; rintro r' w8 ⟨rfl, hS8, hT8⟩) | go_in)
        have HRG8 : Hid (RgN w8 bS r N S (fun k => lf k && k != y) cnt6) := HRG7.out.kept (grown_of_turns hT8) (by simpa using hne) (by simp; omega)
        go_roundw
        case rel => exact ⟨_, _, HRG8.out, hS8.congr (fun k _ => by
          by_cases e : k = y
          · subst e; simp [hSy, HFY.out]
          · have h1 : (k != y) = true := by simpa using e
            simp [e, h1]), Turns.below hB7 hT8 hB7.size (fun k e => by omega)⟩
        case measure => rw [HRG8.out.left, HLZ.out]; exact HCL.out
      | false =>
        rw [hfy] at hc
        have HC : Hid (Calls Tryz.prog F (#[rc, .int .i64 (y : Int)]) w6 fun e w' => e = .returned (.bool false) ∧ Below w6.heap.size w6 w') := hc
        have HFY : Hid (f y = false) := hfy
        clear hc hfy
        go_wp2_with (first | (refine Calls.mono HC.out ?_; rintro r' w7 ⟨rfl, hb7⟩) | go_in)
        have HRG7 : Hid (RgN w7 bS r N S (fun k => lf k && k != y) cnt6) := HRG6.out.below hb7
        go_roundw
        case rel => exact ⟨_, _, HRG7.out, (HS6.out.below hb7 HS6.out.lt).congr (fun k _ => by
          by_cases e : k = y
          · subst e; simp [HFY.out]
          · have h1 : (k != y) = true := by simpa using e
            simp [h1]), below_next hB6 hb7⟩
        case measure => rw [HRG7.out.left, HLZ.out]; exact HCL.out
set_option maxHeartbeats 400000 in
/-- The literal: not near the pivot. -/
theorem notNear_call {w : World} {ao : Option Addr} {cap N : Nat} {bl : Nat → Nat} {e : Nat → Nat → Bool} (h : NearsAt w ao N bl e) (hN : N ≤ 1000) {bn bp p u : Nat} (cn : w.cell? ⟨bn, 0, none⟩ = some (.slice ao N cap)) (cp : w.cell? ⟨bp, 0, none⟩ = some (.int .i64 (p : Int))) (hp : p < N) (hu : u < N) :
    Calls Tryz.prog 66 #[.int .i64 (u : Int), ptr bn, ptr bp] w fun r w' => r = .returned (.bool (!e p u)) ∧ Below w.heap.size w w' := by
  obtain ⟨g, rfl, c1⟩ := h.row p hp
  have i1 : (0 : Int) ≤ (p : Int) := by omega
  have i2 : (p : Int) < (N : Int) := by omega
  have h42 := has_call (h.sets p hp) (show N ≤ 1000000 by omega) hu
  obtain ⟨b, hb⟩ : ∃ b, b = e p u := ⟨_, rfl⟩
  rw [← hb] at h42 ⊢
  have H42 : Hid (Calls Tryz.prog 42 #[.map (some (bl p)), .int .i64 (u : Int)] w fun e w' => e = .returned (.bool b) ∧ Below w.heap.size w w') := h42
  clear h42 h hb
  go_enter Tryz.func66, Tryz.ntmps66
  go_wp2_with (first | (go_at_call 42; refine Calls.mono H42.out ?_; rintro e' w9 ⟨rfl, hB9⟩) | go_in)
  go_ret
  exact ⟨rfl, hB9⟩
end Go.Proofs.YtkkfjfphmlcieaaGreat
