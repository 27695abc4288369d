/- Most where something is wrong; the document's example; Rising. -/
import Derived.Test.YtkakmaalmhofmaaMostC
import Derived.Test.YtkakmaalmhofmaaReach
namespace Go.Proofs.Ytkakmaalmhofmaa
open Go.RowKit Go.Maps
attribute [local go_sem ↓] Go.wp_at_zero Go.wp_at_succ

def NumsAt (w : World) (lo : Option Addr) (L : List Nat) : Prop := ∀ k u : Nat, L[k]? = some u → ∃ b, lo = some ⟨b, 0, none⟩ ∧ w.cell? ⟨b, k, none⟩ = some (.int .i64 (u : Int))
theorem NumsAt.below {w w' : World} {lo : Option Addr} {L : List Nat} (h : NumsAt w lo L) (hb : Below w.heap.size w w') : NumsAt w' lo L := fun k u hu => by
  obtain ⟨b, h1, h2⟩ := h k u hu
  exact ⟨b, h1, (hb.cell (by exact World.block_lt_of_cell? w _ h2)).trans h2⟩
theorem numsAt_own {w : World} {base : Nat} {lo : Option Addr} {c : Nat} {L : List Nat} (h : w.ownsRow base 3 1 (.slice lo L.length c) L.length (qv L)) : NumsAt w lo L := fun _ _ hu => qcell h hu

set_option maxRecDepth 4000 in
set_option maxHeartbeats 2000000 in
theorem rising_true {w : World} {lo : Option Addr} {c N : Nat} {L : List Nat} (h : NumsAt w lo L) (hl : L.length ≤ 1000) (hlt : ∀ x ∈ L, x < N) (hr : ∀ k a b, L[k]? = some a → L[k + 1]? = some b → a < b) :
    Calls Try.prog 12 #[.slice lo L.length c, .int .i64 (N : Int)] w fun r w' => r = .returned (.bool true) ∧ Below w.heap.size w w' := by
  have H : Hid _ := h
  have HLT : Hid _ := hlt
  have HR : Hid _ := hr
  clear h hlt hr
  go_enter Try.func12, Try.ntmps12
  go_wp2
  go_loopw [4, 5] (fun _ i wr => ∃ k : Nat, k ≤ L.length ∧ i = .int .i64 (k : Int) ∧ Below w.heap.size w wr) (fun _ i _ => L.length - (numOf i).toNat)
  case atStart => exact ⟨0, Nat.zero_le _, rfl, Below.refl _ _⟩
  case round =>
    obtain ⟨k, hk, rfl, hB⟩ := hrel
    by_cases hkl : k < L.length
    · obtain ⟨u, hu?⟩ : ∃ u, L[k]? = some u := ⟨L[k], List.getElem?_eq_getElem hkl⟩
      have huN := HLT.out u (List.mem_of_getElem? hu?)
      obtain ⟨b, rfl, cu0⟩ := H.out k u hu?
      have cu := (hB.cell (by exact World.block_lt_of_cell? w _ cu0)).trans cu0
      have i1 : (0 : Int) ≤ (k : Int) := by omega
      have i2 : (k : Int) < (L.length : Int) := by omega
      have z1 : ¬ (u : Int) < 0 := by omega
      have z2 : ¬ (N : Int) ≤ (u : Int) := by omega
      have HU : Hid _ := hu?
      clear hu? cu0
      cases k with
      | zero =>
        go_upto_region 4 with (fail)
        go_quiet (fail)
        all_goals
          go_wp2
          go_roundw
          case rel => exact ⟨1, by omega, by go_num, below_drewN hB _⟩
          case measure => simp [numOf]; omega
      | succ j =>
        obtain ⟨v, hv?⟩ : ∃ v, L[j]? = some v := ⟨L[j]'(by omega), List.getElem?_eq_getElem (by omega)⟩
        have hvu := HR.out j v u hv? HU.out
        obtain ⟨b', e', cv0⟩ := H.out j v hv?
        cases e'
        have cv := (hB.cell (by exact World.block_lt_of_cell? w _ cv0)).trans cv0
        have z3 : ¬ (u : Int) ≤ (v : Int) := by omega
        have j1 : (0 : Int) ≤ (j : Int) := by omega
        have j2 : (j : Int) < (L.length : Int) := by omega
        have j7 : (0 : Int) ≤ (j : Int) + 1 := by omega
        have j8 : (j : Int) + 1 < (L.length : Int) := by omega
        clear hv? cv0
        go_upto_region 4 with (fail)
        go_quiet (fail)
        all_goals
          go_wp2
          go_roundw
          case rel => exact ⟨j + 1 + 1, by omega, by go_num, below_drewN hB _⟩
          case measure => simp [numOf]; omega
    · have hke : L.length = k := by omega
      subst hke
      go_wp2
      go_ret
      exact ⟨rfl, hB⟩


theorem Try.fields34 : Try.prog.fieldsOf 34 = #[{ name := "From", type := 3, offset := 0, embedded := false, tag := "", pkgPath := "", byteOffset := 0 }, { name := "To", type := 3, offset := 1, embedded := false, tag := "", pkgPath := "", byteOffset := 8 }, { name := "Cap", type := 3, offset := 2, embedded := false, tag := "", pkgPath := "", byteOffset := 16 }] := by kernel_rfl
theorem Try.stood34 : Try.prog.stoodInHeld 34 = false := by kernel_rfl
theorem equal34 (a b c : Int) (w : World) : (Op.equal 34 (.agg #[.int .i64 a, .int .i64 b, .int .i64 c]) (.agg #[.int .i64 a, .int .i64 b, .int .i64 c])).run Try.prog w = .ok true w := by
  have ht : Try.prog.underlying 34 = some (.struct (Try.prog.fieldsOf 34)) := by rw [Try.fields34]; exact Try.underlying34
  unfold Op.equal Op.maxDepth
  rw [run_equalIn_struct w 9999 34 _ _ ht Try.stood34, Try.fields34]
  simp [Op.eqFields, go_sem, Try.underlying3]
theorem neq34 (a b c : Int) (w : World) : (binOp .neq 34 (.agg #[.int .i64 a, .int .i64 b, .int .i64 c]) (.agg #[.int .i64 a, .int .i64 b, .int .i64 c])).run Try.prog w = .ok (.bool false) w := by
  simp only [binOp]
  simp [equal34 a b c w, Result.andThen]

set_option maxHeartbeats 2000000 in
theorem most_net {n s t : Int} {v : Value} {al : List Arc3} {w : World} (hA : ArcsAt w v al) {c d : Int} (hf : netF n al = (c, d)) (hc : c ≠ 0) :
    Calls Try.prog 11 #[.agg #[.int .i64 n, v], .int .i64 s, .int .i64 t] w fun r w' => r = .returned (.tuple #[.int .i64 0, .slice none 0 0, .slice none 0 0, .agg #[.int .i64 c, .int .i64 d]]) ∧ Below w.heap.size w w' := by
  obtain ⟨ao, cap, rfl⟩ := hA.form
  have hck : ∀ W, Below w.heap.size w W → Calls Try.prog 8 #[.agg #[.int .i64 n, .slice ao al.length cap]] W fun e w' => e = .returned (.agg #[.int .i64 c, .int .i64 d]) ∧ Below W.heap.size W w' := fun W hW => by
    have := check8_any n (.slice ao al.length cap) al W (hA.below hW)
    rw [hf] at this
    exact this
  have k1 : (c == 0) = false := by rw [beq_eq_false_iff_ne]; exact hc
  have HCK : Hid _ := hck
  clear hA hck hf hc
  go_enter Try.func11, Try.ntmps11
  go_upto_region 1 with (fail)
  have t0 : Two ((w.alloc (Obj.cells #[.int .i64 n, .slice ao al.length cap] 24)).alloc (Obj.cells #[.int .i64 0, .int .i64 0] 26)) w.heap.size (.int .i64 n) (.slice ao al.length cap) 24 := by
    show _ = _
    rw [Below.heap_alloc _ _ _ (by simp)]; exact heap_alloc_new _ _
  have t1 := two_nxt w (Obj.cells #[.int .i64 n, .slice ao al.length cap] 24) (.int .i64 0) (.int .i64 0) 26
  have hB0 := below2 (w := w) (Obj.cells #[.int .i64 n, .slice ao al.length cap] 24) (Obj.cells #[.int .i64 0, .int .i64 0] 26)
  generalize (w.alloc (Obj.cells #[.int .i64 n, .slice ao al.length cap] 24)).alloc (Obj.cells #[.int .i64 0, .int .i64 0] 26) = W0 at t0 t1 hB0 ⊢
  have q0 := cell_two t0
  go_upto_region 2 with (first | (go_at_call 8; refine (HCK.out _ hB0).mono ?_; rintro e W1 ⟨rfl, hb1⟩) | go_in)
  have t2 := two_new W1 (.int .i64 c) (.int .i64 d) 26
  have hb1a := below_alloc hb1 (Obj.cells #[.int .i64 c, .int .i64 d] 26)
  have u1 : Two (W1.alloc (Obj.cells #[.int .i64 c, .int .i64 d] 26)) (w.heap.size + 1) (.int .i64 0) (.int .i64 0) 26 := (hb1a.block _ (lt_of_block t1)).trans t1
  have hB1 := below_next hB0 hb1a
  generalize W1.alloc (Obj.cells #[.int .i64 c, .int .i64 d] 26) = W2 at t2 u1 hB1 ⊢
  clear t0 t1 hB0 hb1 hb1a q0
  have q1 := cell_two u1
  have q2 := cell_two t2
  have f1 := free_two u1
  go_upto_region 3 with (fail)
  go_region
  all_goals
    go_wp2
    refine bodyPost_ret (v := .tuple #[.int .i64 0, .slice none 0 0, .slice none 0 0, .agg #[.int .i64 c, .int .i64 d]]) ?_ rfl ⟨rfl, ?_⟩
    · simp [results, Try.results11, go_sem, q1.1, q1.2]
    · first | exact ((hB1.setCell (by simp) _).setCell (by simp) _).drew | exact ((hB1.drew).setCell (by simp) _).setCell (by simp) _

set_option maxHeartbeats 2000000 in
theorem most_ends {n s t : Int} {v : Value} {al : List Arc3} {w : World} (hA : ArcsAt w v al) (hnf : netF n al = (0, 0)) {c d : Int} (hf : endsF n s t = (c, d)) (hc : c ≠ 0) :
    Calls Try.prog 11 #[.agg #[.int .i64 n, v], .int .i64 s, .int .i64 t] w fun r w' => r = .returned (.tuple #[.int .i64 0, .slice none 0 0, .slice none 0 0, .agg #[.int .i64 c, .int .i64 d]]) ∧ Below w.heap.size w w' := by
  obtain ⟨ao, cap, rfl⟩ := hA.form
  have hck : ∀ W, Below w.heap.size w W → Calls Try.prog 8 #[.agg #[.int .i64 n, .slice ao al.length cap]] W fun e w' => e = .returned (.agg #[.int .i64 0, .int .i64 0]) ∧ Below W.heap.size W w' := fun W hW => by
    have := check8_any n (.slice ao al.length cap) al W (hA.below hW)
    rw [hnf] at this
    exact this
  have hen : ∀ W, Calls Try.prog 30 #[.int .i64 n, .int .i64 s, .int .i64 t] W fun e w' => e = .returned (.agg #[.int .i64 c, .int .i64 d]) ∧ Below W.heap.size W w' := fun W => by
    have := ends30 n s t W
    rw [hf] at this
    exact this
  have k1 : (c == 0) = false := by rw [beq_eq_false_iff_ne]; exact hc
  have HCK : Hid _ := hck
  have HEN : Hid _ := hen
  clear hA hck hen hf hc hnf
  go_enter Try.func11, Try.ntmps11
  go_upto_region 1 with (fail)
  have t0 : Two ((w.alloc (Obj.cells #[.int .i64 n, .slice ao al.length cap] 24)).alloc (Obj.cells #[.int .i64 0, .int .i64 0] 26)) w.heap.size (.int .i64 n) (.slice ao al.length cap) 24 := by
    show _ = _
    rw [Below.heap_alloc _ _ _ (by simp)]; exact heap_alloc_new _ _
  have t1 := two_nxt w (Obj.cells #[.int .i64 n, .slice ao al.length cap] 24) (.int .i64 0) (.int .i64 0) 26
  have hB0 := below2 (w := w) (Obj.cells #[.int .i64 n, .slice ao al.length cap] 24) (Obj.cells #[.int .i64 0, .int .i64 0] 26)
  generalize (w.alloc (Obj.cells #[.int .i64 n, .slice ao al.length cap] 24)).alloc (Obj.cells #[.int .i64 0, .int .i64 0] 26) = W0 at t0 t1 hB0 ⊢
  have q0 := cell_two t0
  go_upto_region 2 with (first | (go_at_call 8; refine (HCK.out _ hB0).mono ?_; rintro e W1 ⟨rfl, hb1⟩) | go_in)
  have t2 := two_new W1 (.int .i64 0) (.int .i64 0) 26
  have hb1a := below_alloc hb1 (Obj.cells #[.int .i64 0, .int .i64 0] 26)
  have u0 : Two (W1.alloc (Obj.cells #[.int .i64 0, .int .i64 0] 26)) w.heap.size (.int .i64 n) (.slice ao al.length cap) 24 := (hb1a.block _ (lt_of_block t0)).trans t0
  have u1 : Two (W1.alloc (Obj.cells #[.int .i64 0, .int .i64 0] 26)) (w.heap.size + 1) (.int .i64 0) (.int .i64 0) 26 := (hb1a.block _ (lt_of_block t1)).trans t1
  have hB1 := below_next hB0 hb1a
  generalize W1.alloc (Obj.cells #[.int .i64 0, .int .i64 0] 26) = W2 at t2 u0 u1 hB1 ⊢
  clear t0 t1 hB0 hb1 hb1a q0
  have q0 := cell_two u0
  have q2 := cell_two t2
  go_upto_region 5 with (first | (go_at_call 30; refine (HEN.out _).mono ?_; rintro e W3 ⟨rfl, hb3⟩) | go_in)
  have t3 := two_new W3 (.int .i64 c) (.int .i64 d) 26
  have hb3a := below_alloc hb3 (Obj.cells #[.int .i64 c, .int .i64 d] 26)
  have v1 : Two (W3.alloc (Obj.cells #[.int .i64 c, .int .i64 d] 26)) (w.heap.size + 1) (.int .i64 0) (.int .i64 0) 26 := (hb3a.block _ (lt_of_block u1)).trans u1
  have hB3 := below_next hB1 hb3a
  generalize W3.alloc (Obj.cells #[.int .i64 c, .int .i64 d] 26) = W4 at t3 v1 hB3 ⊢
  clear t2 u0 u1 hB1 hb3 hb3a q0 q2
  have q1 := cell_two v1
  have q3 := cell_two t3
  have f1 := free_two v1
  go_upto_region 6 with (fail)
  go_region
  all_goals
    go_wp2
    refine bodyPost_ret (v := .tuple #[.int .i64 0, .slice none 0 0, .slice none 0 0, .agg #[.int .i64 c, .int .i64 d]]) ?_ rfl ⟨rfl, ?_⟩
    · simp [results, Try.results11, go_sem, q1.1, q1.2]
    · first | exact ((hB3.setCell (by simp) _).setCell (by simp) _).drew | exact ((hB3.drew).setCell (by simp) _).setCell (by simp) _

theorem arcs_two (w : World) : ArcsAt (w.alloc (Obj.cells #[.int .i64 0, .int .i64 1, .int .i64 3, .int .i64 1, .int .i64 2, .int .i64 2] 34)) (.slice (some ⟨w.heap.size, 0, none⟩) 2 2) [(0, 1, 3), (1, 2, 2)] := by
  have hb := heap_alloc_new w (Obj.cells #[.int .i64 0, .int .i64 1, .int .i64 3, .int .i64 1, .int .i64 2, .int .i64 2] 34)
  refine ⟨_, _, rfl, by simp, fun a ha => by simp at ha; rcases ha with rfl | rfl <;> (unfold I64; simp), fun k hk => ⟨_, _, rfl, ?_⟩⟩
  simp at hk
  obtain rfl | rfl : k = 0 ∨ k = 1 := by omega
  · refine ⟨?_, ?_, ?_⟩
    all_goals (rw [cell_of_row _ _ _ _ 34 (0, 0) hb]; rfl)
  · refine ⟨?_, ?_, ?_⟩
    all_goals (rw [cell_of_row _ _ _ _ 34 (0, 0) hb]; rfl)
theorem begun_two {x : Int} {fl : List Int} {S : Nat → Bool} (h : FlowIs 3 [(0, 1, 3), (1, 2, 2)] 0 2 x fl S) : x = 2 := by
  have h1 := h.cut
  have h2 := h.bal 2
  have h3 := h.fit 1 (by simp)
  have h4 := h.ends
  simp [sumN, fromA, toA, capA, List.getD] at h1 h2 h3
  rw [h4.1, h4.2] at h1
  cases e : S 1
  · rw [e] at h1; simp at h1; omega
  · rw [e] at h1; simp at h1; omega

set_option maxHeartbeats 2000000 in
theorem begun_call (w : World) : Calls Try.prog 9 #[] w fun e w' => e = .returned (.bool true) ∧ Below w.heap.size w w' := by
  have hm := most_ok (n := 3) (s := 0) (t := 2) (arcs_two w) (by omega) (by simp) (by intro a ha; simp at ha; rcases ha with rfl | rfl <;> decide) (by omega) (by omega) (by omega)
  have HM : Hid _ := hm
  clear hm
  go_enter Try.func9, Try.ntmps9
  go_upto_region 2 with (first | (go_at_call 11; refine Calls.mono HM.out ?_; rintro r W1 ⟨x, fv, sv, rfl, hmi, hb⟩) | go_in)
  obtain ⟨fl, S, hfl, _, _⟩ := hmi
  have hx := begun_two hfl
  subst hx
  have t1 := two_new W1 (.int .i64 0) (.int .i64 0) 26
  have hb2 := below_alloc (below_next (below_alloc (Below.refl _ w) _) hb) (Obj.cells #[.int .i64 0, .int .i64 0] 26)
  generalize W1.alloc (Obj.cells #[.int .i64 0, .int .i64 0] 26) = W2 at t1 hb2 ⊢
  have q1 := cell_two t1
  clear hfl
  go_wp2
  go_ret
  exact ⟨rfl, hb2⟩
end Go.Proofs.Ytkakmaalmhofmaa
