/- Stable: what it answers. -/
import Derived.Test.YtmbnaegcichoeaaAsk
namespace Go.Proofs.Ytmbnaegcichoeaa
open Go.RowKit Go.Maps
attribute [local go_sem ↓] Go.wp_at_zero Go.wp_at_succ

theorem Gs.full {n : Nat} {A P : Nat → Nat → Nat} {has : Nat → Int} {ask : Nat → Nat} (h : Gs n n n A P has ask) {j : Nat} (hj : j < n) : ∃ x, x < n ∧ has j = (x : Int) := by
  rcases h.held j hj with h1 | ⟨x, h1, _, h2, _⟩
  · exfalso
    have h2 := nodup_le (j :: (List.range n).map (fun x => A x (ask x - 1))) n (by
      rw [List.nodup_cons]
      refine ⟨fun hmem => ?_, ?_⟩
      · obtain ⟨x, hx, e2⟩ := List.mem_map.1 hmem
        have := (h.done (x := x) (by simpa using hx)).2.2
        rw [e2, h1] at this
        omega
      · rw [List.Nodup, List.pairwise_map]
        refine List.Pairwise.imp_of_mem (fun {a b} ha hb hab e => ?_) List.nodup_range
        exact hab (h.stable.inj a b (by simpa using ha) (by simpa using hb) e)) (fun a ha => by
      rcases List.mem_cons.1 ha with rfl | ha
      · exact hj
      · obtain ⟨x, hx, rfl⟩ := List.mem_map.1 ha
        exact (h.done (x := x) (by simpa using hx)).2.1)
    rw [List.length_cons, List.length_map, List.length_range] at h2
    omega
  · exact ⟨x, h1, h2⟩
/-- Whom each has got, as it is written down. -/
def toF (has : Nat → Int) : Nat → Nat → Int
  | 0 => fun _ => 0
  | m + 1 => fun x => if (x : Int) = has m then (m : Int) else toF has m x
theorem toF_at {n : Nat} {has : Nat → Int} (hi : ∀ i j, i < n → j < n → has i = has j → i = j) : ∀ (m k x : Nat), m ≤ n → k < m → has k = (x : Int) → toF has m x = (k : Int)
  | 0, k, x, _, hk, _ => by omega
  | m + 1, k, x, hm, hk, e => by
    unfold toF
    by_cases h1 : (x : Int) = has m
    · rw [if_pos h1]
      have := hi k m (by omega) (by omega) (by omega)
      omega
    · rw [if_neg h1]
      refine toF_at hi m k x (by omega) ?_ e
      have : k ≠ m := fun e' => h1 (by rw [← e', e])
      omega
theorem Gs.toF {n : Nat} {A P : Nat → Nat → Nat} {has : Nat → Int} {ask : Nat → Nat} (h : Gs n n n A P has ask) {x : Nat} (hx : x < n) : toF has n x = (A x (ask x - 1) : Int) := by
  obtain ⟨h1, h2, h3⟩ := h.done hx
  refine toF_at (n := n) (fun i j hi hj e => ?_) n _ x (Nat.le_refl _) h2 h3
  obtain ⟨y, hy, e1⟩ := h.full hi
  rcases h.held i hi with g1 | ⟨z, _, _, g2, _, g3⟩
  · omega
  · rcases h.held j hj with g4 | ⟨z', _, _, g5, _, g6⟩
    · omega
    · have : z = z' := by omega
      subst this
      rw [← g3, ← g6]
/-- What Stable answers. -/
def StableIs (n : Nat) (A P : Nat → Nat → Nat) (w' : World) (b : Nat) : Prop :=
  ∃ has ask, Gs n n n A P has ask ∧ Opt n A P has ask ∧ RowV w' b 3 n (iv (fun x => (A x (ask x - 1) : Int)))

set_option maxRecDepth 4000 in
set_option maxHeartbeats 2000000 in
theorem stable_ok {w : World} {va vb : Value} {la lb : List (List Int)} (hA : RowsAt w va la) (hB : RowsAt w vb lb) (hf : likeF la lb = (0, 0)) :
    Calls Try.prog 12 #[va, vb] w fun e w' => ∃ b, e = .returned (.tuple #[sl b la.length, .agg #[.int .i64 0, .int .i64 0]]) ∧ w.heap.size ≤ b ∧ StableIs la.length (nameA la) (placeB lb) w' b ∧ Below w.heap.size w w' := by
  have hz : (likeF la lb).1 = 0 := by rw [hf]
  obtain ⟨_, hn, hlen, ha, hb⟩ := likeF_good hz
  have H22 : Hid (∀ W, Below w.heap.size w W → Calls Try.prog 22 #[va, vb] W fun e w' => e = .returned (.agg #[.int .i64 0, .int .i64 0]) ∧ Below W.heap.size W w') := fun W hW => by
    have := checkLikings_call (hA.below hW) (hB.below hW)
    rw [hf] at this
    exact this
  have H23 : Hid (∀ W, Below w.heap.size w W → Calls Try.prog 23 #[va, vb] W fun e w' => ∃ bh, e = .returned (sl bh la.length) ∧ W.heap.size ≤ bh ∧ Asked w' la.length bh (nameA la) (placeB lb) ∧ Below W.heap.size W w') := fun W hW => askAll_call (hA.below hW) (hB.below hW) rfl hlen hn ha hb
  obtain ⟨ao, acap, e1, _⟩ := hA
  obtain ⟨bo, bcap, e2, _⟩ := hB
  rw [hlen] at e2
  subst e1
  subst e2
  obtain ⟨n, hnn⟩ : ∃ n, n = la.length := ⟨_, rfl⟩
  obtain ⟨A, hAA⟩ : ∃ A, A = nameA la := ⟨_, rfl⟩
  obtain ⟨P, hPP⟩ : ∃ P, P = placeB lb := ⟨_, rfl⟩
  rw [← hnn] at H22 H23 hn ⊢
  rw [← hAA, ← hPP] at H23 ⊢
  clear hf hz hlen ha hb hAA hPP hnn
  have hmk := make27 n (by omega)
  go_enter Try.func12, Try.ntmps12
  go_upto_region 1 with (fail)
  have t6 := two_new w (.int .i64 0) (.int .i64 0) 25
  have hB0 := below_alloc (Below.refl _ w) (Obj.cells #[.int .i64 0, .int .i64 0] 25)
  generalize w.alloc (Obj.cells #[.int .i64 0, .int .i64 0] 25) = W0 at t6 hB0 ⊢
  go_upto_region 2 with (first | (go_at_call 22; refine (H22.out _ hB0).mono ?_; rintro e W1 ⟨rfl, hb1⟩) | go_in)
  have t7 := two_new W1 (.int .i64 0) (.int .i64 0) 25
  have hb1a := below_alloc hb1 (Obj.cells #[.int .i64 0, .int .i64 0] 25)
  have t6' := two_next t6 hb1a
  have hB1 := below_next hB0 hb1a
  generalize W1.alloc (Obj.cells #[.int .i64 0, .int .i64 0] 25) = W2 at t7 t6' hB1 ⊢
  clear t6 hB0 hb1 hb1a H22
  obtain ⟨q0, q1⟩ := cell_two t7
  have h23 := H23.out W2 hB1
  have H23' : Hid (Calls Try.prog 23 #[.slice ao n acap, .slice bo n bcap] W2 fun e w' => ∃ bh, e = .returned (sl bh n) ∧ W2.heap.size ≤ bh ∧ Asked w' n bh A P ∧ Below W2.heap.size W2 w') := h23
  clear h23 H23
  go_upto_region 5 with (first | (go_at_call 23; refine Calls.mono H23'.out ?_; rintro e W3 ⟨bh, rfl, hbh, hasked, hb3⟩) | go_in)
  obtain ⟨has, ask, hrh, hgs, hopt⟩ := hasked
  have t63 := two_next t6' hb3
  have hB3 := below_next hB1 hb3
  have hw6 : w.heap.size < W2.heap.size := lt_of_block t6'
  have hbh2 := hrh.lt
  clear t6' t7 q0 q1 hb3 hB1 H23'
  go_upto_region 6 with (fail)
  obtain ⟨bt, hbt⟩ : ∃ bt, bt = W3.heap.size := ⟨_, rfl⟩
  rw [← hbt]
  have hb4 : Below W3.heap.size W3 (W3.alloc (Obj.cells (rep n (.int .i64 0)) 3)) := below_alloc (Below.refl _ _) _
  have hrt : RowV (W3.alloc (Obj.cells (rep n (.int .i64 0)) 3)) bt 3 n (fun _ => .int .i64 0) := by rw [hbt]; exact rowV_rep (heap_alloc_new _ _)
  have t64 := two_next t63 hb4
  have hB4 := below_next hB3 hb4
  have hrh4 := hrh.block (hb4.block _ hbh2)
  have hne : bh ≠ bt := by omega
  have hw7 : w.heap.size < W3.heap.size := lt_of_block t63
  generalize W3.alloc (Obj.cells (rep n (.int .i64 0)) 3) = W4 at hb4 hrt t64 hB4 hrh4 ⊢
  have HRH : Hid (RowV W4 bh 3 n (iv has)) := hrh4
  have HRT : Hid (RowV W4 bt 3 n (fun _ => .int .i64 0)) := hrt
  have HGS : Hid (Gs n n n A P has ask) := hgs
  have HOPT : Hid (Opt n A P has ask) := hopt
  have hbt2 : W3.heap.size ≤ bt := by omega
  clear hrh4 hrt hgs hopt hrh hbh2 hb4 t63 hB3 hmk hbt
  go_wp2
  go_loopw [26] (fun iv' wr => ∃ k : Nat, k ≤ n ∧ iv' = .int .i64 (k : Int) ∧ RowV wr bt 3 n (iv (toF has k)) ∧ Turns (fun x => x = bt) W4 wr) (fun iv' _ => n - (numOf iv').toNat)
  case atStart => exact ⟨0, Nat.zero_le _, rfl, HRT.out, Turns.refl _ _⟩
  case round =>
    clear HRT
    obtain ⟨k, hk, rfl, hrow, ht⟩ := hrel
    by_cases hlt : k < n
    · obtain ⟨x, hx, hhx⟩ := HGS.out.full hlt
      have ch := (HRH.out.turns ht hne).cell hlt
      unfold iv at ch
      rw [hhx] at ch
      have cr := hrow.cell hx
      have fr := hrow.free x
      unfold iv at cr
      generalize toF has k x = old at cr
      have HR2 : Hid (RowV (wr.setCell ⟨bt, x, none⟩ (.int .i64 (k : Int))) bt 3 n (iv (toF has (k + 1)))) := (hrow.set x (.int .i64 (k : Int))).congr (fun j _ => by
        unfold iv
        show _ = Value.int .i64 (if (j : Int) = has k then (k : Int) else toF has k j)
        rw [hhx]
        by_cases e : j = x
        · subst e; simp
        · have : ¬ (j : Int) = (x : Int) := by omega
          simp [e, this])
      have ht3 := ht.trans (setCell_turns wr bt x (.int .i64 (k : Int)))
      have j1 : (0 : Int) ≤ (k : Int) := by omega
      have j2 : (k : Int) < (n : Int) := by omega
      have j3 : (0 : Int) ≤ (x : Int) := by omega
      have j4 : (x : Int) < (n : Int) := by omega
      clear hrow hhx
      go_wp2
      go_roundw
      case rel => exact ⟨k + 1, by omega, by go_num, HR2.out, ht3⟩
      case measure => simp [numOf]; omega
    · have i2 : ¬ (k : Int) < (n : Int) := by omega
      have hkn : k = n := by omega
      subst hkn
      have t6r : Two wr w.heap.size (.int .i64 0) (.int .i64 0) 25 := two_turns t64 ht (by omega)
      have hBr : Below w.heap.size w wr := Turns.below hB4 ht hB4.size (fun x hx => by omega)
      have ff := free_two t6r
      obtain ⟨q0, q1⟩ := cell_two t6r
      have HROW : Hid (RowV wr bt 3 k (iv (fun x => (A x (ask x - 1) : Int)))) := hrow.congr (fun j hj => by unfold iv; rw [HGS.out.toF hj])
      clear hrow
      go_wp2
      have x9 := two_setN (x' := .int .i64 0) (y' := .int .i64 0) t6r
      have hB9 := (hBr.setCell (p := ⟨w.heap.size, 0, none⟩) (Nat.le_refl _) (.int .i64 0)).setCell (p := ⟨w.heap.size, 1, none⟩) (Nat.le_refl _) (.int .i64 0)
      have T9 := (setCell_turns wr w.heap.size 0 (.int .i64 0)).trans (setCell_turns (wr.setCell ⟨w.heap.size, 0, none⟩ (.int .i64 0)) w.heap.size 1 (.int .i64 0))
      have r1 := HROW.out.turns T9 (fun e => by omega)
      clear T9
      generalize ((wr.setCell ⟨w.heap.size, 0, none⟩ (.int .i64 0)).setCell ⟨w.heap.size, 1, none⟩ (.int .i64 0)) = W9 at x9 hB9 r1 ⊢
      obtain ⟨n8, n81⟩ := cell_two x9
      refine bodyPost_ret (v := .tuple #[sl bt k, .agg #[.int .i64 0, .int .i64 0]]) ?_ rfl ⟨bt, rfl, by omega, ⟨has, ask, HGS.out, HOPT.out, r1⟩, hB9⟩
      simp [results, Try.results12, go_sem, n8, n81]
set_option maxRecDepth 4000 in
set_option maxHeartbeats 2000000 in
theorem stable_bad {w : World} {va vb : Value} {la lb : List (List Int)} (h : RowsAt w va la) (h' : RowsAt w vb lb) {fc fd : Int} (hf : likeF la lb = (fc, fd)) (hne : fc ≠ 0) :
    Calls Try.prog 12 #[va, vb] w fun e w' => e = .returned (.tuple #[.slice none 0 0, .agg #[.int .i64 fc, .int .i64 fd]]) ∧ Below w.heap.size w w' := by
  obtain ⟨ao, cap, e0, _⟩ := id h
  obtain ⟨bo, bcap, e1, _⟩ := id h'
  subst e0
  subst e1
  have h22 : ∀ W, Below w.heap.size w W → Calls Try.prog 22 #[.slice ao la.length cap, .slice bo lb.length bcap] W fun e w' => e = .returned (.agg #[.int .i64 fc, .int .i64 fd]) ∧ Below W.heap.size W w' := fun W hW => by
    have := checkLikings_call (h.below hW) (h'.below hW)
    rw [hf] at this
    exact this
  have H22 : Hid (∀ W, Below w.heap.size w W → Calls Try.prog 22 #[.slice ao la.length cap, .slice bo lb.length bcap] W fun e w' => e = .returned (.agg #[.int .i64 fc, .int .i64 fd]) ∧ Below W.heap.size W w') := h22
  have k1 : (fc != 0) = true := by simp [hne]
  clear h22 h h' hf hne
  go_enter Try.func12, Try.ntmps12
  go_upto_region 1 with (fail)
  have t6 := two_new w (.int .i64 0) (.int .i64 0) 25
  have hB0 := below_alloc (Below.refl _ w) (Obj.cells #[.int .i64 0, .int .i64 0] 25)
  generalize w.alloc (Obj.cells #[.int .i64 0, .int .i64 0] 25) = W0 at t6 hB0 ⊢
  go_upto_region 2 with (first | (go_at_call 22; refine (H22.out _ hB0).mono ?_; rintro e W1 ⟨rfl, hb1⟩) | go_in)
  have t7 := two_new W1 (.int .i64 fc) (.int .i64 fd) 25
  have hb1a := below_alloc hb1 (Obj.cells #[.int .i64 fc, .int .i64 fd] 25)
  have t6' := two_next t6 hb1a
  have hB1 := below_next hB0 hb1a
  obtain ⟨b7, hb7⟩ : ∃ b, b = W1.heap.size := ⟨_, rfl⟩
  rw [← hb7] at t7 ⊢
  generalize W1.alloc (Obj.cells #[.int .i64 fc, .int .i64 fd] 25) = W2 at t7 t6' hB1 ⊢
  clear t6 hB0 hb1 hb1a hb7 H22
  obtain ⟨q0, q1⟩ := cell_two t7
  obtain ⟨q2, q3⟩ := cell_two t6'
  have ff := free_two t6'
  go_upto_region 3 with (fail)
  go_region
  all_goals
    go_wp2
    have x9 := two_setN (x' := .int .i64 fc) (y' := .int .i64 fd) t6'
    have hB3 := (hB1.setCell (p := ⟨w.heap.size, 0, none⟩) (Nat.le_refl _) (.int .i64 fc)).setCell (p := ⟨w.heap.size, 1, none⟩) (Nat.le_refl _) (.int .i64 fd)
    generalize ((W2.setCell ⟨w.heap.size, 0, none⟩ (.int .i64 fc)).setCell ⟨w.heap.size, 1, none⟩ (.int .i64 fd)) = W3 at x9 hB3 ⊢
    have z9 : Two W3.drew w.heap.size (.int .i64 fc) (.int .i64 fd) 25 := x9
    obtain ⟨n8, n81⟩ := cell_two z9
    refine bodyPost_ret (v := .tuple #[.slice none 0 0, .agg #[.int .i64 fc, .int .i64 fd]]) ?_ rfl ⟨rfl, hB3.drew⟩
    simp [results, Try.results12, go_sem, n8, n81]
end Go.Proofs.Ytmbnaegcichoeaa
