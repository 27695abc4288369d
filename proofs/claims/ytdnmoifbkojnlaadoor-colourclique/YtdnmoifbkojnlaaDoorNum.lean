/- Number. -/
import Derived.Test.YtdnmoifbkojnlaaDoorColg
namespace Go.Proofs.YtdnmoifbkojnlaaDoor
open Go.RowKit Go.Maps
attribute [local go_sem ↓] Go.wp_at_zero Go.wp_at_succ

def adjE (es : List Pair) (v z : Nat) : Bool := hasB es (v : Int) (z : Int)
/-- What Number answers. -/
def NumIs (N : Nat) (es : List Pair) (w : World) (w' : World) (k : Nat) (v : Value) : Prop :=
  k ≤ N ∧ (∃ g M, v = sl g N ∧ w.heap.size ≤ g ∧ M.length = N ∧ RowV w' g 3 N (fun i => .int .i64 (M.getD i 0 : Int)) ∧ Prop' k (adjE es) M) ∧ ∀ j, j < k → (trC j (adjE es) stepF N [] 0 none).1 = false
set_option maxRecDepth 4000 in
set_option maxHeartbeats 2000000 in
theorem number_bad {w : World} {v : Value} {n : Int} {es : List Pair} (hE : EdgesAt w v es) {c d : Int} (hs : smallF n es 12 = (c, d)) (hc : c ≠ 0) :
    Calls Tryd.prog 12 #[.agg #[.int .i64 n, v]] w fun e w' => e = .returned (.tuple #[.int .i64 0, .slice none 0 0, .agg #[.int .i64 c, .int .i64 d]]) ∧ Below w.heap.size w w' := by
  obtain ⟨vo, vc, rfl⟩ := hE.form
  have H23 : Hid (∀ W, Below w.heap.size w W → Calls Tryd.prog 15 #[.agg #[.int .i64 n, .slice vo es.length vc], .int .i64 12] W fun e w' => e = .returned (.tuple #[.slice none 0 0, .agg #[.int .i64 c, .int .i64 d]]) ∧ Below W.heap.size W w') := fun W hW => openSmall_bad (most := 12) (hE.below hW) hs hc
  have k1 : (c != 0) = true := by simp [hc]
  clear hE hs hc
  go_enter Tryd.func12, Tryd.ntmps12
  go_upto_region 1 with (fail)
  have t1 : Two ((w.alloc (Obj.cells #[.int .i64 n, .slice vo es.length vc] 24)).alloc (Obj.cells #[.int .i64 0, .int .i64 0] 27)) w.heap.size (.int .i64 n) (.slice vo es.length vc) 24 := two_alloc (two_new w _ _ _) _
  have t4 : Two ((w.alloc (Obj.cells #[.int .i64 n, .slice vo es.length vc] 24)).alloc (Obj.cells #[.int .i64 0, .int .i64 0] 27)) (w.heap.size + 1) (.int .i64 0) (.int .i64 0) 27 := two_nxt _ _ _ _ _
  have hB0 : Below w.heap.size w ((w.alloc (Obj.cells #[.int .i64 n, .slice vo es.length vc] 24)).alloc (Obj.cells #[.int .i64 0, .int .i64 0] 27)) := below2 _ _
  obtain ⟨b1, hb1⟩ : ∃ b, b = w.heap.size := ⟨_, rfl⟩
  obtain ⟨b4, hb4⟩ : ∃ b, b = w.heap.size + 1 := ⟨_, rfl⟩
  rw [← hb1] at t1
  rw [← hb4] at t4
  rw [← hb4, ← hb1]
  generalize ((w.alloc (Obj.cells #[.int .i64 n, .slice vo es.length vc] 24)).alloc (Obj.cells #[.int .i64 0, .int .i64 0] 27)) = W0 at t1 t4 hB0 ⊢
  have hlow : w.heap.size ≤ b4 := by omega
  have HT4 : Hid (Two W0 b4 (.int .i64 0) (.int .i64 0) 27) := t4
  obtain ⟨q0, q1⟩ := cell_two t1
  clear hb1 hb4 t4
  go_upto_region 2 with (first | (go_at_call 15; refine (H23.out _ hB0).mono ?_; rintro e W1 ⟨rfl, hbb⟩; have t41 := two_next HT4.out hbb; have ff := free_two t41; obtain ⟨q2, q3⟩ := cell_two t41) | go_in)
  have x9 := two_setN (x' := .int .i64 c) (y' := .int .i64 d) t41
  have hB9 := ((below_next hB0 hbb).setCell (p := ⟨b4, 0, none⟩) hlow (.int .i64 c)).setCell (p := ⟨b4, 1, none⟩) hlow (.int .i64 d)
  clear q0 q1 q2 q3 t1 ff t41 H23
  generalize ((W1.setCell ⟨b4, 0, none⟩ (.int .i64 c)).setCell ⟨b4, 1, none⟩ (.int .i64 d)) = W2 at x9 hB9 ⊢
  obtain ⟨q2, q3⟩ := cell_two x9
  have ff := free_two x9
  go_upto_region 3 with (fail)
  go_region
  all_goals
    go_wp2
    have y9 := two_setN (x' := .int .i64 c) (y' := .int .i64 d) x9
    have hB8 := (hB9.setCell (p := ⟨b4, 0, none⟩) hlow (.int .i64 c)).setCell (p := ⟨b4, 1, none⟩) hlow (.int .i64 d)
    generalize ((W2.setCell ⟨b4, 0, none⟩ (.int .i64 c)).setCell ⟨b4, 1, none⟩ (.int .i64 d)) = W3 at y9 hB8 ⊢
    have z9 : Two W3.drew b4 (.int .i64 c) (.int .i64 d) 27 := y9
    obtain ⟨n8, n81⟩ := cell_two z9
    refine bodyPost_ret (v := .tuple #[.int .i64 0, .slice none 0 0, .agg #[.int .i64 c, .int .i64 d]]) ?_ rfl ⟨rfl, hB8.drew⟩
    simp [results, Tryd.results12, go_sem, n8, n81]
set_option maxRecDepth 4000 in
set_option maxHeartbeats 2000000 in
theorem number_ok {w : World} {v : Value} {N : Nat} {es : List Pair} (hE : EdgesAt w v es) (hs : (chk N es).1 = 0) (hN : N ≤ 12) :
    Calls Tryd.prog 12 #[.agg #[.int .i64 (N : Int), v]] w fun e w' => ∃ (k : Nat) (l : Value), e = .returned (.tuple #[.int .i64 (k : Int), l, .agg #[.int .i64 0, .int .i64 0]]) ∧ NumIs N es w w' k l ∧ Below w.heap.size w w' := by
  obtain ⟨vo, vc, rfl⟩ := hE.form
  obtain ⟨_, _, _, _, hg⟩ := chk_good hs
  have H23 : Hid (∀ W, Below w.heap.size w W → Calls Tryd.prog 15 #[.agg #[.int .i64 (N : Int), .slice vo es.length vc], .int .i64 12] W fun e w' => ∃ gn, e = .returned (.tuple #[sl gn N, .agg #[.int .i64 0, .int .i64 0]]) ∧ W.heap.size ≤ gn ∧ RowV w' gn 57 N (fun i => .int .u32 ((nearN es i : Nat) : Int)) ∧ Below W.heap.size W w') := fun W hW => openSmall_ok (most := 12) (hE.below hW) hs hN (by omega)
  have HADJ : Hid (∀ v z, v < N → (nearN es v).testBit z = adjE es v z) := fun v z _ => nearN_bit v es hg z
  have HMASK : Hid (∀ v, v < N → nearN es v < 4294967296) := fun v _ => by
    have h1 := nearN_lt v hg
    have h2 : 2 ^ N ≤ 2 ^ 12 := Nat.pow_le_pow_right (by omega) hN
    have e : (2 : Nat) ^ 12 = 4096 := rfl
    omega
  have HALL : Hid (∀ k, N ≤ k → (trC k (adjE es) stepF N [] 0 none).1 = true) := fun k hk => trC_all N [] 0 none (fun i hi => absurd hi (Nat.not_lt_zero _)) (by omega)
  clear hE hs hg
  go_enter Tryd.func12, Tryd.ntmps12
  go_upto_region 1 with (fail)
  have t1 : Two ((w.alloc (Obj.cells #[.int .i64 (N : Int), .slice vo es.length vc] 24)).alloc (Obj.cells #[.int .i64 0, .int .i64 0] 27)) w.heap.size (.int .i64 (N : Int)) (.slice vo es.length vc) 24 := two_alloc (two_new w _ _ _) _
  have t4 : Two ((w.alloc (Obj.cells #[.int .i64 (N : Int), .slice vo es.length vc] 24)).alloc (Obj.cells #[.int .i64 0, .int .i64 0] 27)) (w.heap.size + 1) (.int .i64 0) (.int .i64 0) 27 := two_nxt _ _ _ _ _
  have hB0 : Below w.heap.size w ((w.alloc (Obj.cells #[.int .i64 (N : Int), .slice vo es.length vc] 24)).alloc (Obj.cells #[.int .i64 0, .int .i64 0] 27)) := below2 _ _
  obtain ⟨b1, hb1⟩ : ∃ b, b = w.heap.size := ⟨_, rfl⟩
  obtain ⟨b4, hb4⟩ : ∃ b, b = w.heap.size + 1 := ⟨_, rfl⟩
  rw [← hb1] at t1
  rw [← hb4] at t4
  rw [← hb4, ← hb1]
  generalize ((w.alloc (Obj.cells #[.int .i64 (N : Int), .slice vo es.length vc] 24)).alloc (Obj.cells #[.int .i64 0, .int .i64 0] 27)) = W0 at t1 t4 hB0 ⊢
  have hlow : w.heap.size ≤ b4 := by omega
  have HT4 : Hid (Two W0 b4 (.int .i64 0) (.int .i64 0) 27) := t4
  have hb40 := lt_of_block t4
  obtain ⟨q0, q1⟩ := cell_two t1
  clear hb1 hb4 t4
  go_upto_region 2 with (first | (go_at_call 15; refine (H23.out _ hB0).mono ?_; rintro e W1 ⟨gn, rfl, hgn, hrg, hbb⟩; have t41 := two_next HT4.out hbb; have ff := free_two t41; obtain ⟨q2, q3⟩ := cell_two t41) | go_in)
  have x9 := two_setN (x' := .int .i64 0) (y' := .int .i64 0) t41
  have hB9 := ((below_next hB0 hbb).setCell (p := ⟨b4, 0, none⟩) hlow (.int .i64 0)).setCell (p := ⟨b4, 1, none⟩) hlow (.int .i64 0)
  have T9 := (setCell_turns W1 b4 0 (.int .i64 0)).trans (setCell_turns (W1.setCell ⟨b4, 0, none⟩ (.int .i64 0)) b4 1 (.int .i64 0))
  have hrg2 := hrg.turns T9 (fun e => by omega)
  clear q0 q1 q2 q3 t1 ff t41 H23 T9 hrg
  generalize ((W1.setCell ⟨b4, 0, none⟩ (.int .i64 0)).setCell ⟨b4, 1, none⟩ (.int .i64 0)) = W2 at x9 hB9 hrg2 ⊢
  obtain ⟨q2, q3⟩ := cell_two x9
  have HX : Hid (Two W2 b4 (.int .i64 0) (.int .i64 0) 27) := x9
  have HRG : Hid (RowV W2 gn 57 N (fun i => .int .u32 ((nearN es i : Nat) : Int))) := hrg2
  clear x9 hrg2
  go_wp2
  clear q2 q3
  go_loopw [6, 7, 8] (fun iv' _ _ wr => ∃ k : Nat, k ≤ N ∧ iv' = .int .i64 (k : Int) ∧ (∀ j, j < k → (trC j (adjE es) stepF N [] 0 none).1 = false) ∧ Below W2.heap.size W2 wr) (fun iv' _ _ _ => N - (numOf iv').toNat)
  case atStart => exact ⟨0, Nat.zero_le _, rfl, fun j hj => absurd hj (Nat.not_lt_zero _), Below.refl _ _⟩
  case round =>
    obtain ⟨k, hk, rfl, hlow2, hbw⟩ := hrel
    have HLOW : Hid (∀ j, j < k → (trC j (adjE es) stepF N [] 0 none).1 = false) := hlow2
    have h24 := colouring_call (k := k) (adj := adjE es) (by omega) (by omega) (rowV_next HRG.out hbw) HADJ.out HMASK.out
    obtain ⟨res, hres⟩ : ∃ r, r = (trC k (adjE es) stepF N [] 0 none).1 := ⟨_, rfl⟩
    rw [← hres] at h24
    have HRES : Hid (res = (trC k (adjE es) stepF N [] 0 none).1) := hres
    have H24 : Hid (Calls Tryd.prog 21 #[sl gn N, .int .i64 (k : Int)] wr fun e w' => ∃ v, e = .returned (.tuple #[v, .bool res]) ∧ (res = true → ∃ g M, v = sl g N ∧ wr.heap.size ≤ g ∧ M.length = N ∧ RowV w' g 3 N (fun i => .int .i64 (M.getD i 0 : Int)) ∧ Prop' k (adjE es) M) ∧ Below wr.heap.size wr w') := h24
    clear hlow2 h24 hres
    cases res with
    | true =>
      go_upto_region 8 with (first | (go_at_call 21; refine Calls.mono H24.out ?_; rintro e W3 ⟨l, rfl, hl, hb3⟩) | go_in)
      have HL : Hid (∃ g M, l = sl g N ∧ wr.heap.size ≤ g ∧ M.length = N ∧ RowV W3 g 3 N (fun i => .int .i64 (M.getD i 0 : Int)) ∧ Prop' k (adjE es) M) := hl trivial
      have hb23 := below_next hbw hb3
      have x3 := two_next HX.out hb23
      have ff := free_two x3
      obtain ⟨q2, q3⟩ := cell_two x3
      have hB3 := below_next hB9 hb23
      clear hl
      go_wp2
      have y9 := two_setN (x' := .int .i64 0) (y' := .int .i64 0) x3
      have hB8 := (hB3.setCell (p := ⟨b4, 0, none⟩) hlow (.int .i64 0)).setCell (p := ⟨b4, 1, none⟩) hlow (.int .i64 0)
      have T9 := (setCell_turns W3 b4 0 (.int .i64 0)).trans (setCell_turns (W3.setCell ⟨b4, 0, none⟩ (.int .i64 0)) b4 1 (.int .i64 0))
      have hN2 : NumIs N es w ((W3.setCell ⟨b4, 0, none⟩ (.int .i64 0)).setCell ⟨b4, 1, none⟩ (.int .i64 0)) k l := by
        obtain ⟨g, M, e1, e2, e3, e4, e5⟩ := HL.out
        have h1 := hB9.size
        have h2 := hbw.size
        have h3 := lt_of_block HX.out
        exact ⟨hk, ⟨g, M, e1, by omega, e3, e4.turns T9 (fun e => by omega), e5⟩, HLOW.out⟩
      clear T9
      generalize ((W3.setCell ⟨b4, 0, none⟩ (.int .i64 0)).setCell ⟨b4, 1, none⟩ (.int .i64 0)) = W4 at y9 hB8 hN2 ⊢
      obtain ⟨n8, n81⟩ := cell_two y9
      refine bodyPost_ret (v := .tuple #[.int .i64 (k : Int), l, .agg #[.int .i64 0, .int .i64 0]]) ?_ rfl ⟨k, l, rfl, hN2, hB8⟩
      simp [results, Tryd.results12, go_sem, n8, n81]
    | false =>
      have hkN : k < N := by
        apply Classical.byContradiction
        intro h
        have := HALL.out k (by omega)
        rw [← HRES.out] at this
        cases this
      go_wp2_with (first | (go_at_call 21; refine Calls.mono H24.out ?_; rintro e W3 ⟨l, rfl, _, hb3⟩) | go_in)
      go_roundw
      case rel => exact ⟨k + 1, by omega, by go_num, fun j hj => by
        by_cases e : j = k
        · subst e; exact HRES.out.symm
        · exact HLOW.out j (by omega), below_next hbw hb3⟩
      case measure => simp [numOf]; omega
end Go.Proofs.YtdnmoifbkojnlaaDoor
