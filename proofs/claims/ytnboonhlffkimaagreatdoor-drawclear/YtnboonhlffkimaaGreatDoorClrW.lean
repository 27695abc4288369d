/- Clear. -/
import Derived.Test.YtnboonhlffkimaaGreatDoorCrsW
namespace Go.Proofs.YtnboonhlffkimaaGreatDoor
set_option maxRecDepth 8000
open Go.RowKit Go.Maps
attribute [local go_sem ↓] Go.wp_at_zero Go.wp_at_succ
def okP (p : Pt) : Bool := valB p.1 && valB p.2
theorem okP_bd {p : Pt} (h : okP p = true) : BdP p := by
  unfold okP valB at h
  simp at h
  exact h
/-- The first point that is too far out. -/
def farP (P : Nat → Pt) (n : Nat) : Option Nat := (List.range n).find? fun i => !(okP (P i))
theorem farP_some {P : Nat → Pt} {n k : Nat} (h1 : ∀ j, j < k → okP (P j) = true) (hk : k < n) (h2 : okP (P k) = false) : farP P n = some k := by
  unfold farP
  rw [List.find?_eq_some_iff_getElem]
  refine ⟨by rw [h2]; rfl, k, by simpa using hk, by simp, fun j hj => ?_⟩
  have := h1 j hj
  simp [this]
theorem farP_none {P : Nat → Pt} {n : Nat} (h : ∀ j, j < n → okP (P j) = true) : farP P n = none := by
  unfold farP
  rw [List.find?_eq_none]
  intro j hj
  have := h j (List.mem_range.1 hj)
  simp [this]
theorem farP_all {P : Nat → Pt} {n : Nat} (h : farP P n = none) : ∀ j, j < n → okP (P j) = true := fun j hj => by
  unfold farP at h
  rw [List.find?_eq_none] at h
  have := h j (List.mem_range.2 hj)
  simpa using this
/-- What is wrong with a drawing. -/
def clrP (n : Int) (es : List Pair) (ln : Nat) (P : Nat → Pt) : Int × Int := if (chk n es).1 ≠ 0 then chk n es else if (ln : Int) ≠ n then (6, 0) else match farP P ln with
  | some i => (3, (i : Int))
  | none => (0, 0)
/-- The edges as numbers. -/
def gE (es : List Pair) (k : Nat) : Nat × Nat := ((es.getD k (0, 0)).1.toNat, (es.getD k (0, 0)).2.toNat)
def clearB (N : Nat) (es : List Pair) (P : Nat → Pt) : Bool := !(anyB N (rowB es.length (gE es) P)) && !(anyB es.length (acrB (gE es) P))
theorem gE_lt {n : Nat} {es : List Pair} (h : ∀ e ∈ es, (0 ≤ e.1 ∧ e.1 < n ∧ 0 ≤ e.2 ∧ e.2 < n) ∧ e.1 ≠ e.2) : ∀ k, k < es.length → (gE es k).1 < n ∧ (gE es k).2 < n ∧ eZ (gE es k) = es.getD k (0, 0) := fun k hk => by
  have e1 : es.getD k (0, 0) = es[k] := by rw [List.getD_eq_getElem?_getD, List.getElem?_eq_getElem hk]; rfl
  have := h es[k] (List.getElem_mem _)
  unfold gE eZ
  rw [e1]
  refine ⟨by simp only; omega, by simp only; omega, ?_⟩
  refine Prod.ext ?_ ?_ <;> simp only <;> omega
theorem PF.gE {w : World} {ao : Option Addr} {el cap n : Nat} {es : List Pair} (hel : el = es.length) (h : EdgesAt w (.slice ao el cap) es) (hg : ∀ e ∈ es, (0 ≤ e.1 ∧ e.1 < n ∧ 0 ≤ e.2 ∧ e.2 < n) ∧ e.1 ≠ e.2) : PF w ao el (fun k => eZ (gE es k)) := by
  obtain ⟨ao', cap', e, hp⟩ := PF.edges h
  injection e with e1 e2 e3
  subst e1
  rw [hel]
  intro j hj
  obtain ⟨b, off, e, c1, c2⟩ := hp j hj
  have := (gE_lt hg j hj).2.2
  exact ⟨b, off, e, by simp only [this]; exact c1, by simp only [this]; exact c2⟩
set_option maxHeartbeats 16000000 in
theorem clear_call {w : World} {n : Int} {eo ao : Option Addr} {ec ln ac : Nat} {es : List Pair} {P : Nat → Pt} (hE : EdgesAt w (.slice eo es.length ec) es) (hec : es.length ≤ ec) (hP : PF w ao ln P) (hac : ln ≤ ac) (hln : ln ≤ 8796093022208) :
    Calls Tryz.prog 7 #[.agg #[.int .i64 n, .slice eo es.length ec], .slice ao ln ac] w fun e w' => e = .returned (.tuple #[.bool (decide ((clrP n es ln P).1 = 0) && clearB ln es P), .agg #[.int .i64 (clrP n es ln P).1, .int .i64 (clrP n es ln P).2]]) ∧ Below w.heap.size w w' := by
  obtain ⟨el, hel⟩ : ∃ el, el = es.length := ⟨_, rfl⟩
  rw [← hel] at hE hec ⊢
  have C12 : Hid (∀ A, Below w.heap.size w A → Calls Tryz.prog 12 #[.agg #[.int .i64 n, .slice eo el ec]] A fun e w' => e = .returned (.agg #[.int .i64 (chk n es).1, .int .i64 (chk n es).2]) ∧ Below A.heap.size A w') := fun A hA => check_any n _ es A (hE.below hA)
  have C13 : Hid (∀ (A : World) x, Calls Tryz.prog 13 #[.int .i64 x] A fun e w' => e = .returned (.bool (valB x)) ∧ A = w') := fun A x => value_call x
  obtain ⟨Q, hQ⟩ : ∃ Q, Q = clrP n es ln P := ⟨_, rfl⟩
  obtain ⟨K, hK⟩ : ∃ K, K = chk n es := ⟨_, rfl⟩
  obtain ⟨CB, hCB⟩ : ∃ C, C = clearB ln es P := ⟨_, rfl⟩
  have HQ : Hid (Q = (if K.1 ≠ 0 then K else if (ln : Int) ≠ n then (6, 0) else match farP P ln with
    | some i => (3, (i : Int))
    | none => (0, 0)) ∧ K = chk n es ∧ CB = clearB ln es P ∧ el = es.length) := ⟨by rw [hQ, hK]; rfl, hK, hCB, hel⟩
  have HH : Hid (EdgesAt w (.slice eo el ec) es ∧ PF w ao ln P) := ⟨hE, hP⟩
  rw [← hK] at C12
  rw [← hQ, ← hCB]
  clear hE hP hQ hK hCB hel
  obtain ⟨k1, k2⟩ := K
  obtain ⟨q1, q2⟩ := Q
  simp only at C12 HQ ⊢
  go_enter Tryz.func7, Tryz.ntmps7
  go_upto_region 1 with (fail)
  have t2 : Two ((w.alloc (Obj.cells #[.int .i64 n, .slice eo el ec] 24)).alloc (Obj.cells #[.int .i64 0, .int .i64 0] 28)) w.heap.size (.int .i64 n) (.slice eo el ec) 24 := two_alloc (two_new _ _ _ _) _
  have t5 : Two ((w.alloc (Obj.cells #[.int .i64 n, .slice eo el ec] 24)).alloc (Obj.cells #[.int .i64 0, .int .i64 0] 28)) (w.heap.size + 1) (.int .i64 0) (.int .i64 0) 28 := two_nxt _ _ _ _ _
  have hB0 : Below w.heap.size w ((w.alloc (Obj.cells #[.int .i64 n, .slice eo el ec] 24)).alloc (Obj.cells #[.int .i64 0, .int .i64 0] 28)) := below_alloc (below_alloc (Below.refl _ w) _) _
  obtain ⟨b2, hb2⟩ : ∃ b, b = w.heap.size := ⟨_, rfl⟩
  obtain ⟨b5, hb5⟩ : ∃ b, b = w.heap.size + 1 := ⟨_, rfl⟩
  rw [← hb5] at t5 ⊢
  rw [← hb2] at t2 ⊢
  generalize ((w.alloc (Obj.cells #[.int .i64 n, .slice eo el ec] 24)).alloc (Obj.cells #[.int .i64 0, .int .i64 0] 28)) = W1 at *
  have HW1 : Hid (∀ A, Below W1.heap.size W1 A → Two A b2 (.int .i64 n) (.slice eo el ec) 24 ∧ Two A b5 (.int .i64 0) (.int .i64 0) 28 ∧ Below w.heap.size w A) := fun A hA => ⟨two_next t2 hA, two_next t5 hA, below_next hB0 hA⟩
  have HB5 : Hid (w.heap.size ≤ b5) := by show _ ≤ _; omega
  obtain ⟨c0, c1⟩ := cell_two t2
  clear t2 t5 hB0 hb2 hb5
  go_upto_region 2 with (first | (go_at_call 12; refine Calls.mono (C12.out _ (HW1.out _ (Below.refl _ _)).2.2) ?_; rintro e W2 ⟨rfl, h2⟩) | fail)
  have x6 := two_new W2 (.int .i64 k1) (.int .i64 k2) 28
  have hB3 := below_next h2 (below_alloc (Below.refl _ W2) (Obj.cells #[.int .i64 k1, .int .i64 k2] 28))
  generalize W2.heap.size = b6 at x6 ⊢
  generalize W2.alloc (Obj.cells #[.int .i64 k1, .int .i64 k2] 28) = W3 at *
  have HW3 : Hid (Below W1.heap.size W1 W3) := hB3
  obtain ⟨d0, d1⟩ := cell_two x6
  obtain ⟨e0, e1⟩ := cell_two (HW1.out _ hB3).1
  clear h2 hB3 x6 c0 c1 C12
  by_cases hk : k1 = 0
  · have kc : (k1 != 0) = false := by simpa using hk
    have hq := HQ.out.1
    rw [if_neg (by simpa using hk)] at hq
    by_cases hn : (ln : Int) = n
    · have kn : ((ln : Int) != n) = false := by simpa using hn
      rw [if_neg (by simpa using hn)] at hq
      have HQ2 : Hid ((q1, q2) = (match farP P ln with
        | some i => (3, (i : Int))
        | none => (0, 0))) := hq
      have HCK : Hid ((chk n es).1 = 0 ∧ n = (ln : Int)) := ⟨by rw [← HQ.out.2.1]; exact hk, hn.symm⟩
      clear hk hq hn
      go_upto_region 7 with (fail)
      clear d0 d1 e0 e1
      go_loopw [7, 8, 23] (fun _ _ s23 wz => ∃ k : Nat, k ≤ ln ∧ s23 = .int .i64 (k : Int) ∧ Hid ((∀ j, j < k → okP (P j) = true) ∧ Below W3.heap.size W3 wz)) (fun _ _ s23 _ => ln - (numOf s23).toNat)
      case atStart => exact ⟨0, Nat.zero_le _, rfl, fun j hj => by omega, Below.refl _ _⟩
      case round =>
        obtain ⟨k, hk, rfl, hJ⟩ := hrel
        by_cases hlt : k < ln
        · have hBw : Below w.heap.size w wr := (HW1.out _ (below_next HW3.out hJ.out.2)).2.2
          obtain ⟨b, off, hao, c0, c1⟩ := HH.out.2.below hBw k hlt
          subst hao
          obtain ⟨v1, hv1⟩ : ∃ x, x = (P k).1 := ⟨_, rfl⟩
          obtain ⟨v2, hv2⟩ : ∃ x, x = (P k).2 := ⟨_, rfl⟩
          rw [← hv1] at c0
          rw [← hv2] at c1
          obtain ⟨B1, hB1⟩ : ∃ B, B = valB v1 := ⟨_, rfl⟩
          obtain ⟨B2, hB2⟩ : ∃ B, B = valB v2 := ⟨_, rfl⟩
          have HOK : Hid (okP (P k) = (B1 && B2)) := by show okP (P k) = _; rw [hB1, hB2, hv1, hv2]; rfl
          have D1 : Hid (∀ A, Calls Tryz.prog 13 #[.int .i64 v1] A fun e w' => e = .returned (.bool B1) ∧ A = w') := fun A => by rw [hB1]; exact C13.out A v1
          have D2 : Hid (∀ A, Calls Tryz.prog 13 #[.int .i64 v2] A fun e w' => e = .returned (.bool B2) ∧ A = w') := fun A => by rw [hB2]; exact C13.out A v2
          have i1 : (0 : Int) ≤ (k : Int) := by omega
          have i2 : (k : Int) < (ln : Int) := by omega
          clear hv1 hv2 hB1 hB2 hBw
          go_upto_region 9 with (fail)
          have t8 := two_new wr (.int .i64 v1) (.int .i64 v2) 32
          have hB8 := below_next hJ.out.2 (below_alloc (Below.refl _ wr) (Obj.cells #[.int .i64 v1, .int .i64 v2] 32))
          generalize wr.heap.size = b8 at t8 ⊢
          generalize wr.alloc (Obj.cells #[.int .i64 v1, .int .i64 v2] 32) = W8 at *
          obtain ⟨g0, g1⟩ := cell_two t8
          have HW8 : Hid (Below W3.heap.size W3 W8) := hB8
          clear t8 hB8 c0 c1
          obtain ⟨_, z5, zB⟩ := HW1.out _ (below_next HW3.out HW8.out)
          obtain ⟨s1, s2, s3, s4, s5, s6⟩ := store_two' z5 (.int .i64 3) (.int .i64 (k : Int))
          have HZ : Hid (Below w.heap.size w W8) := zB
          clear z5 zB
          cases B1 with
          | false =>
            have HQ3 : Hid (q1 = 3 ∧ q2 = (k : Int)) := by
              have h := HQ2.out
              rw [farP_some hJ.out.1 hlt HOK.out] at h
              show _ ∧ _
              simpa using h
            clear HQ2
            go_wp2_with (first | (go_at_call 13; refine Calls.mono (D1.out _) ?_; rintro e w9 ⟨rfl, rfl⟩) | fail)
            refine bodyPost_ret (v := .tuple #[.bool false, .agg #[.int .i64 3, .int .i64 (k : Int)]]) ?_ rfl ⟨?_, (HZ.out.setCell HB5.out _).setCell HB5.out _⟩
            · simp [results, Tryz.results7, go_sem, s5, s6]
            · rw [HQ3.out.1, HQ3.out.2]; rfl
          | true =>
            cases B2 with
            | false =>
              have HQ3 : Hid (q1 = 3 ∧ q2 = (k : Int)) := by
                have h := HQ2.out
                rw [farP_some hJ.out.1 hlt HOK.out] at h
                show _ ∧ _
                simpa using h
              clear HQ2
              go_wp2_with (first | (go_at_call 13; (have hh := HD1; clear hh); refine Calls.mono (D2.out _) ?_; rintro e w10 ⟨rfl, rfl⟩) | (go_at_call 13; refine Calls.mono (D1.out _) ?_; rintro e w9 ⟨rfl, rfl⟩; have HD1 : Hid True := trivial) | fail)
              refine bodyPost_ret (v := .tuple #[.bool false, .agg #[.int .i64 3, .int .i64 (k : Int)]]) ?_ rfl ⟨?_, (HZ.out.setCell HB5.out _).setCell HB5.out _⟩
              · simp [results, Tryz.results7, go_sem, s5, s6]
              · rw [HQ3.out.1, HQ3.out.2]; rfl
            | true =>
              go_wp2_with (first | (go_at_call 13; (have hh := HD1; clear hh); refine Calls.mono (D2.out _) ?_; rintro e w10 ⟨rfl, rfl⟩) | (go_at_call 13; refine Calls.mono (D1.out _) ?_; rintro e w9 ⟨rfl, rfl⟩; have HD1 : Hid True := trivial) | fail)
              go_roundw
              case rel => exact ⟨k + 1, by omega, by go_num, fun j hj => by
                by_cases e : j = k
                · subst e; exact HOK.out
                · exact hJ.out.1 j (by omega), HW8.out⟩
              case measure => simp [numOf]; omega
        · obtain rfl : k = ln := by omega
          have hq := HQ2.out
          rw [farP_none hJ.out.1] at hq
          simp only [Prod.mk.injEq] at hq
          have HQ3 : Hid (q1 = 0 ∧ q2 = 0) := hq
          clear hq HQ2
          obtain ⟨hck, hnk⟩ := HCK.out
          obtain ⟨_, h0, h100, hl1, hgood⟩ := chk_good hck
          rw [hnk] at hgood h100
          have hg2 := gE_lt hgood
          have hbd : ∀ j, j < k → BdP (P j) := fun j hj => okP_bd (hJ.out.1 j hj)
          obtain ⟨R1, hR1⟩ : ∃ R, R = anyB k (rowB es.length (gE es) P) := ⟨_, rfl⟩
          obtain ⟨R2, hR2⟩ : ∃ R, R = anyB es.length (acrB (gE es) P) := ⟨_, rfl⟩
          have HCB : Hid (CB = (!R1 && !R2)) := by show CB = _; rw [HQ.out.2.2.1, hR1, hR2]; rfl
          have hel := HQ.out.2.2.2
          have C14 : Hid (∀ A, Below w.heap.size w A → Calls Tryz.prog 14 #[.slice eo el ec, .slice ao k ac] A fun e w' => e = .returned (.bool R1) ∧ Below A.heap.size A w') := fun A hA => by
            rw [hR1, ← hel]
            exact oneMeets_call ((PF.gE hel HH.out.1 hgood).below hA) (HH.out.2.below hA) hbd (fun j hj => ⟨(hg2 j (by omega)).1, (hg2 j (by omega)).2.1⟩) (by omega) (by omega) hac
          have C15 : Hid (∀ A, Below w.heap.size w A → Calls Tryz.prog 15 #[.slice eo el ec, .slice ao k ac] A fun e w' => e = .returned (.bool R2) ∧ Below A.heap.size A w') := fun A hA => by
            rw [hR2, ← hel]
            exact twoCross_call ((PF.gE hel HH.out.1 hgood).below hA) (HH.out.2.below hA) hbd (fun j hj => ⟨(hg2 j (by omega)).1, (hg2 j (by omega)).2.1⟩) (by omega) hec
          clear hck hnk h0 h100 hl1 hgood hg2 hbd hR1 hR2 hel
          obtain ⟨z2, z5, zB⟩ := HW1.out _ (below_next HW3.out hJ.out.2)
          obtain ⟨e0, e1⟩ := cell_two z2
          have HZ : Hid (Below w.heap.size w wr) := zB
          clear z2 z5 zB
          cases R1 with
          | true =>
            have HC : Hid (CB = false) := by show CB = false; rw [HCB.out]; rfl
            go_wp2_with (first | (go_at_call 14; refine Calls.mono (C14.out _ HZ.out) ?_; rintro e W9 ⟨rfl, g9⟩; have z5 := (HW1.out _ (below_next (below_next HW3.out hJ.out.2) g9)).2.1; obtain ⟨s1, s2, s3, s4, s5, s6⟩ := store_two' z5 (.int .i64 0) (.int .i64 0); have H9 : Hid (Below w.heap.size w W9) := below_next HZ.out g9; clear z5 g9) | fail)
            refine bodyPost_ret (v := .tuple #[.bool false, .agg #[.int .i64 0, .int .i64 0]]) ?_ rfl ⟨?_, (H9.out.setCell HB5.out _).setCell HB5.out _⟩
            · simp [results, Tryz.results7, go_sem, s5, s6]
            · rw [HQ3.out.1, HQ3.out.2, HC.out]; rfl
          | false =>
            have HC : Hid (CB = !R2) := by show CB = _; rw [HCB.out]; rfl
            go_wp2_with (first | (go_at_call 14; refine Calls.mono (C14.out _ HZ.out) ?_; rintro e W9 ⟨rfl, g9⟩; have zz := HW1.out _ (below_next (below_next HW3.out hJ.out.2) g9); obtain ⟨y0, y1⟩ := cell_two zz.1; have H9 : Hid (Below w.heap.size w W9 ∧ Below W1.heap.size W1 W9) := ⟨below_next HZ.out g9, below_next (below_next HW3.out hJ.out.2) g9⟩; clear zz g9) | (go_at_call 15; refine Calls.mono (C15.out _ H9.out.1) ?_; rintro e W10 ⟨rfl, g10⟩; have z5 := (HW1.out _ (below_next H9.out.2 g10)).2.1; obtain ⟨s1, s2, s3, s4, s5, s6⟩ := store_two' z5 (.int .i64 0) (.int .i64 0); have H10 : Hid (Below w.heap.size w W10) := below_next H9.out.1 g10; clear z5 g10) | fail)
            refine bodyPost_ret (v := .tuple #[.bool (!R2), .agg #[.int .i64 0, .int .i64 0]]) ?_ rfl ⟨?_, (H10.out.setCell HB5.out _).setCell HB5.out _⟩
            · simp [results, Tryz.results7, go_sem, s5, s6]
            · rw [HQ3.out.1, HQ3.out.2, HC.out]; rfl
    · have kn : ((ln : Int) != n) = true := by simpa using hn
      rw [if_pos hn] at hq
      simp only [Prod.mk.injEq] at hq
      have HQ3 : Hid (q1 = 6 ∧ q2 = 0) := hq
      obtain ⟨_, z5, zB⟩ := HW1.out _ HW3.out
      obtain ⟨s1, s2, s3, s4, s5, s6⟩ := store_two' z5 (.int .i64 6) (.int .i64 0)
      have HZ : Hid (Below w.heap.size w W3) := zB
      clear hk hq hn z5 zB
      go_wp2
      refine bodyPost_ret (v := .tuple #[.bool false, .agg #[.int .i64 6, .int .i64 0]]) ?_ rfl ⟨?_, (HZ.out.setCell HB5.out _).setCell HB5.out _⟩
      · simp [results, Tryz.results7, go_sem, s5, s6]
      · rw [HQ3.out.1, HQ3.out.2]; rfl
  · have kc : (k1 != 0) = true := by simpa using hk
    have hq := HQ.out.1
    rw [if_pos hk] at hq
    simp only [Prod.mk.injEq] at hq
    have HQ3 : Hid (q1 = k1 ∧ q2 = k2 ∧ k1 ≠ 0) := ⟨hq.1, hq.2, hk⟩
    clear hk hq
    go_upto_region 3 with (fail)
    have g0 := cell_growD d0
    have g1 := cell_growD d1
    clear d0 d1 e0 e1
    refine wp_region_tailT 2 (by kernel_rfl) (by kernel_rfl) (by kernel_rfl) (by decide) ?_
    simp only [List.take_succ_cons, List.take_zero, List.drop_succ_cons, List.drop_zero]
    repeat (go_big_quiet_step (fail))
    refine wpQuiet_nil ?_
    rintro _ ⟨gp, rfl⟩
    obtain ⟨_, z5, zB⟩ := HW1.out _ (below_next HW3.out (growD_below W3 gp))
    obtain ⟨s1, s2, s3, s4, s5, s6⟩ := store_two' z5 (.int .i64 k1) (.int .i64 k2)
    have HZ : Hid (Below w.heap.size w (growD W3 gp)) := zB
    clear g0 g1 z5 zB
    generalize growD W3 gp = w8 at *
    go_wp2
    refine bodyPost_ret (v := .tuple #[.bool false, .agg #[.int .i64 k1, .int .i64 k2]]) ?_ rfl ⟨?_, (HZ.out.setCell HB5.out _).setCell HB5.out _⟩
    · simp [results, Tryz.results7, go_sem, s5, s6]
    · have : decide (k1 = 0) = false := by simpa using HQ3.out.2.2
      rw [HQ3.out.1, HQ3.out.2.1, this]; rfl
end Go.Proofs.YtnboonhlffkimaaGreatDoor
