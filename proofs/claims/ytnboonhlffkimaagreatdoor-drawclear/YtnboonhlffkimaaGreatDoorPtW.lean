/- Points and edges in rows: slices.Contains of points, slices.ContainsFunc of edges. -/
import Derived.Test.YtnboonhlffkimaaGreatDoorSideM
namespace Go.Proofs.YtnboonhlffkimaaGreatDoor
set_option maxRecDepth 8000
open Go.RowKit Go.Maps
attribute [local go_sem ↓] Go.wp_at_zero Go.wp_at_succ
/-- From vo on lie n pairs of numbers. -/
def PF (w : World) (vo : Option Addr) (n : Nat) (E : Nat → Pt) : Prop := ∀ j, j < n → ∃ b off, vo = some ⟨b, off, none⟩ ∧ w.cell? ⟨b, off + j * 2, none⟩ = some (.int .i64 (E j).1) ∧ w.cell? ⟨b, off + j * 2 + 1, none⟩ = some (.int .i64 (E j).2)
theorem PF.below {w w' : World} {vo : Option Addr} {n : Nat} {E : Nat → Pt} (h : PF w vo n E) (hb : Below w.heap.size w w') : PF w' vo n E := fun j hj => by
  obtain ⟨b, off, e, c1, c2⟩ := h j hj
  exact ⟨b, off, e, (hb.cell (World.block_lt_of_cell? w _ c1)).trans c1, (hb.cell (World.block_lt_of_cell? w _ c2)).trans c2⟩
theorem PF.less {w : World} {vo : Option Addr} {n m : Nat} {E : Nat → Pt} (h : PF w vo n E) (hm : m ≤ n) : PF w vo m E := fun j hj => h j (by omega)
theorem PF.edges {w : World} {v : Value} {es : List Pair} (h : EdgesAt w v es) : ∃ ao cap, v = .slice ao es.length cap ∧ PF w ao es.length (fun k => es.getD k (0, 0)) := by
  obtain ⟨ao, cap, h1, _, _, h4⟩ := h
  refine ⟨ao, cap, h1, fun j hj => ?_⟩
  obtain ⟨b, off, e, c1, c2⟩ := h4 j hj
  have : es.getD j (0, 0) = es[j] := by rw [List.getD_eq_getElem?_getD, List.getElem?_eq_getElem hj]; rfl
  exact ⟨b, off, e, by simp only [this]; exact c1, by simp only [this]; exact c2⟩
theorem Tryz.fields32 : Tryz.prog.fieldsOf 32 = #[{ name := "X", type := 3, offset := 0, embedded := false, tag := "", pkgPath := "", byteOffset := 0 }, { name := "Y", type := 3, offset := 1, embedded := false, tag := "", pkgPath := "", byteOffset := 8 }] := by kernel_rfl
theorem Tryz.stood32 : Tryz.prog.stoodInHeld 32 = false := by kernel_rfl
theorem equal32 (a b c d : Int) (w : World) : (Op.equal 32 (.agg #[.int .i64 a, .int .i64 b]) (.agg #[.int .i64 c, .int .i64 d])).run Tryz.prog w = .ok (decide (a = c ∧ b = d)) w := by
  have ht : Tryz.prog.underlying 32 = some (.struct (Tryz.prog.fieldsOf 32)) := by rw [Tryz.fields32]; exact Tryz.underlying32
  unfold Op.equal Op.maxDepth
  rw [run_equalIn_struct w 9999 32 _ _ ht Tryz.stood32, Tryz.fields32]
  by_cases h1 : a = c
  · by_cases h2 : b = d
    · simp [Op.eqFields, go_sem, Tryz.underlying3, h1, h2]
    · simp [Op.eqFields, go_sem, Tryz.underlying3, h1, h2]
  · simp [Op.eqFields, go_sem, Tryz.underlying3, h1]
def samP (a b : Pt) : Bool := decide (a.1 = b.1 ∧ a.2 = b.2)
theorem samP_iff {a b : Pt} : samP a b = true ↔ a = b := by
  unfold samP
  rw [decide_eq_true_eq]
  exact ⟨fun h => Prod.ext h.1 h.2, fun h => by rw [h]; exact ⟨rfl, rfl⟩⟩
theorem eql32 (a b c d : Int) (w : World) : (binOp .eql 32 (.agg #[.int .i64 a, .int .i64 b]) (.agg #[.int .i64 c, .int .i64 d])).run Tryz.prog w = .ok (.bool (samP (a, b) (c, d))) w := by
  simp only [binOp]
  simp [equal32 a b c d w, Result.andThen, samP]
def IdxA (n : Nat) (q : Nat → Bool) (r : Int) : Prop := 0 ≤ r ↔ ∃ k, k < n ∧ q k = true
set_option maxHeartbeats 4000000 in
theorem indexP_call {w : World} {vo : Option Addr} {n vc : Nat} {E : Nat → Pt} {p : Pt} (hP : PF w vo n E) (hn : n ≤ 100000) :
    Calls Tryz.prog 41 #[.slice vo n vc, ptv p] w fun e w' => (∃ r : Int, e = .returned (.int .i64 r) ∧ IdxA n (fun k => samP p (E k)) r) ∧ Below w.heap.size w w' := by
  obtain ⟨px, py⟩ := p
  have HP : Hid (PF w vo n E) := hP
  unfold ptv
  have HEQ : Hid (∀ c d w, (binOp .eql 32 (.agg #[.int .i64 px, .int .i64 py]) (.agg #[.int .i64 c, .int .i64 d])).run Tryz.prog w = .ok (.bool (samP (px, py) (c, d))) w) := fun c d w => eql32 px py c d w
  clear hP
  simp only
  go_enter Tryz.func41, Tryz.ntmps41
  go_upto_region 2 with (fail)
  have t1 := two_new w (.int .i64 px) (.int .i64 py) 32
  have hB0 := below_alloc (Below.refl _ w) (Obj.cells #[.int .i64 px, .int .i64 py] 32)
  obtain ⟨b3, hb3⟩ : ∃ b, b = w.heap.size := ⟨_, rfl⟩
  rw [← hb3] at t1 ⊢
  generalize w.alloc (Obj.cells #[.int .i64 px, .int .i64 py] 32) = W1 at *
  have HW : Hid (Two W1 b3 (.int .i64 px) (.int .i64 py) 32 ∧ Below w.heap.size w W1) := ⟨t1, hB0⟩
  clear t1 hB0 hb3
  go_loopw [5, 8] (fun _ s8 wz => ∃ k : Nat, k ≤ n ∧ s8 = .int .i64 (k : Int) ∧ Hid ((∀ j, j < k → samP (px, py) (E j) = false) ∧ Below W1.heap.size W1 wz)) (fun _ s8 _ => n - (numOf s8).toNat)
  case atStart => exact ⟨0, Nat.zero_le _, rfl, fun j hj => by omega, Below.refl _ _⟩
  case round =>
    obtain ⟨k, hk, rfl, hJ⟩ := hrel
    by_cases hlt : k < n
    · have hBw : Below w.heap.size w wr := below_next HW.out.2 hJ.out.2
      obtain ⟨b, off, rfl, c0, c1⟩ := HP.out.below hBw k hlt
      obtain ⟨ex, hex⟩ : ∃ x, x = (E k).1 := ⟨_, rfl⟩
      obtain ⟨ey, hey⟩ : ∃ x, x = (E k).2 := ⟨_, rfl⟩
      rw [← hex] at c0
      rw [← hey] at c1
      obtain ⟨d0, d1⟩ := cell_two (two_next HW.out.1 hJ.out.2)
      have i1 : (0 : Int) ≤ (k : Int) := by omega
      have i2 : (k : Int) < (n : Int) := by omega
      have hk' := HEQ.out ex ey
      obtain ⟨t, ht⟩ : ∃ t, t = samP (px, py) (ex, ey) := ⟨_, rfl⟩
      rw [← ht] at hk'
      have HT : Hid (t = samP (px, py) (E k)) := by show t = _; rw [ht, hex, hey]
      clear ht hex hey hBw
      cases t with
      | true =>
        go_upto_region 4 with (fail)
        go_quiet (fail)
        have HB8 : Hid _ := below_next hJ.out.2 (drewN_below wr nq)
        clear c0 c1 d0 d1 hk'
        generalize wr.drewN nq = w8 at *
        go_wp2
        go_ret
        exact ⟨⟨(k : Int), rfl, fun _ => ⟨k, hlt, HT.out.symm⟩, fun _ => by omega⟩, below_next HW.out.2 HB8.out⟩
      | false =>
        go_upto_region 4 with (fail)
        go_quiet (fail)
        have HB8 : Hid _ := below_next hJ.out.2 (drewN_below wr nq)
        clear c0 c1 d0 d1 hk'
        generalize wr.drewN nq = w8 at *
        go_wp2
        go_roundw
        case rel => exact ⟨k + 1, by omega, by go_num, fun j hj => by
          by_cases e : j = k
          · subst e; exact HT.out.symm
          · exact hJ.out.1 j (by omega), HB8.out⟩
        case measure => simp [numOf]; omega
    · obtain rfl : k = n := by omega
      go_wp2
      go_ret
      refine ⟨⟨-1, rfl, fun h => by omega, fun ⟨j, hj, hq⟩ => ?_⟩, below_next HW.out.2 hJ.out.2⟩
      simp only at hq
      rw [hJ.out.1 j hj] at hq
      cases hq
def anyB (n : Nat) (q : Nat → Bool) : Bool := (List.range n).any q
theorem anyB_iff {n : Nat} {q : Nat → Bool} : anyB n q = true ↔ ∃ k, k < n ∧ q k = true := by
  unfold anyB
  rw [List.any_eq_true]
  exact ⟨fun ⟨k, h1, h2⟩ => ⟨k, List.mem_range.1 h1, h2⟩, fun ⟨k, h1, h2⟩ => ⟨k, List.mem_range.2 h1, h2⟩⟩
theorem idx_any {n : Nat} {q : Nat → Bool} {r : Int} (h : IdxA n q r) : decide (0 ≤ r) = anyB n q := by
  rw [Bool.eq_iff_iff, decide_eq_true_eq, anyB_iff]
  exact h
theorem containsP_call {w : World} {vo : Option Addr} {n vc : Nat} {E : Nat → Pt} {p : Pt} (hP : PF w vo n E) (hn : n ≤ 100000) :
    Calls Tryz.prog 22 #[.slice vo n vc, ptv p] w fun e w' => e = .returned (.bool (anyB n (fun k => samP p (E k)))) ∧ Below w.heap.size w w' := by
  have C : Hid (∀ A, Below w.heap.size w A → Calls Tryz.prog 41 #[.slice vo n vc, ptv p] A fun e w' => (∃ r : Int, e = .returned (.int .i64 r) ∧ IdxA n (fun k => samP p (E k)) r) ∧ Below A.heap.size A w') := fun A hA => indexP_call (hP.below hA) hn
  obtain ⟨R, hR⟩ : ∃ R, R = anyB n (fun k => samP p (E k)) := ⟨_, rfl⟩
  have HR : Hid (∀ r, IdxA n (fun k => samP p (E k)) r → decide (0 ≤ r) = R) := fun r h => by rw [hR]; exact idx_any h
  rw [← hR]
  clear hP hR
  obtain ⟨px, py⟩ := p
  unfold ptv at C ⊢
  simp only at C ⊢
  have C1 : Hid _ := C.out _ (below_alloc (Below.refl _ w) (Obj.cells #[.int .i64 px, .int .i64 py] 32))
  go_enter Tryz.func22, Tryz.ntmps22
  go_wp2_with (first | (go_at_call 41; refine Calls.mono C1.out ?_; rintro e W2 ⟨⟨r, rfl, hr⟩, g2⟩; have HRr : Hid _ := HR.out r hr; have HB : Hid (Below w.heap.size w W2) := below_next (below_alloc (Below.refl _ w) _) g2; clear hr g2) | fail)
  go_ret
  exact ⟨by rw [← HRr.out]; rfl, HB.out⟩
theorem enter23 (args : Array Value) (w : World) : (callFunc 23 args).run Tryz.prog w = .ok (.enter 23 args) w := by
  simp [callFunc, Tryz.func23, go_sem]
  rw [if_neg (of_decide_eq_true (by kernel_rfl)), if_neg (by intro h; have : Tryz.f23.body.isSome = true := (by kernel_rfl); rw [h] at this; cases this)]
set_option maxHeartbeats 4000000 in
theorem indexE23_call {w : World} {vo : Option Addr} {n vc : Nat} {E : Nat → Pt} {q : Nat → Bool} {x1 x2 x3 : Value} (hP : PF w vo n E) (hn : n ≤ 100000) (hC : ∀ A k, Below w.heap.size w A → k < n → Calls Tryz.prog 23 #[ptv (E k), x1, x2, x3] A fun e w' => e = .returned (.bool (q k)) ∧ Below A.heap.size A w') :
    Calls Tryz.prog 43 #[.slice vo n vc, .func (.func 23) #[] #[x1, x2, x3]] w fun e w' => (∃ r : Int, e = .returned (.int .i64 r) ∧ IdxA n q r) ∧ Below w.heap.size w w' := by
  have HP : Hid (PF w vo n E) := hP
  have HC : Hid (∀ A k, Below w.heap.size w A → k < n → Calls Tryz.prog 23 #[ptv (E k), x1, x2, x3] A fun e w' => e = .returned (.bool (q k)) ∧ Below A.heap.size A w') := hC
  have hE := enter23
  clear hP hC
  go_enter Tryz.func43, Tryz.ntmps43
  go_upto_region 2 with (fail)
  go_loopw [5, 8] (fun _ s8 wz => ∃ k : Nat, k ≤ n ∧ s8 = .int .i64 (k : Int) ∧ Hid ((∀ j, j < k → q j = false) ∧ Below w.heap.size w wz)) (fun _ s8 _ => n - (numOf s8).toNat)
  case atStart => exact ⟨0, Nat.zero_le _, rfl, fun j hj => by omega, Below.refl _ _⟩
  case round =>
    obtain ⟨k, hk, rfl, hJ⟩ := hrel
    by_cases hlt : k < n
    · obtain ⟨b, off, rfl, c0, c1⟩ := HP.out.below hJ.out.2 k hlt
      have D : Hid (Calls Tryz.prog 23 #[ptv (E k), x1, x2, x3] wr fun e w' => e = .returned (.bool (q k)) ∧ Below wr.heap.size wr w') := HC.out wr k hJ.out.2 hlt
      unfold ptv at D
      generalize (E k).1 = ex at *
      generalize (E k).2 = ey at *
      obtain ⟨t, ht⟩ : ∃ t, t = q k := ⟨_, rfl⟩
      rw [← ht] at D
      have HT : Hid (t = q k) := ht
      have i1 : (0 : Int) ≤ (k : Int) := by omega
      have i2 : (k : Int) < (n : Int) := by omega
      clear ht
      cases t with
      | true =>
        go_wp2_with (first | (go_at_call 23; refine Calls.mono D.out ?_; rintro e W2 ⟨rfl, g2⟩; have HB : Hid (Below w.heap.size w W2) := below_next hJ.out.2 g2; clear g2) | fail)
        go_ret
        exact ⟨⟨(k : Int), rfl, fun _ => ⟨k, hlt, HT.out.symm⟩, fun _ => by omega⟩, HB.out⟩
      | false =>
        go_wp2_with (first | (go_at_call 23; refine Calls.mono D.out ?_; rintro e W2 ⟨rfl, g2⟩; have HB : Hid (Below w.heap.size w W2) := below_next hJ.out.2 g2; clear g2) | fail)
        go_roundw
        case rel => exact ⟨k + 1, by omega, by go_num, fun j hj => by
          by_cases e : j = k
          · subst e; exact HT.out.symm
          · exact hJ.out.1 j (by omega), HB.out⟩
        case measure => simp [numOf]; omega
    · obtain rfl : k = n := by omega
      go_wp2
      go_ret
      refine ⟨⟨-1, rfl, fun h => by omega, fun ⟨j, hj, hq⟩ => ?_⟩, hJ.out.2⟩
      rw [hJ.out.1 j hj] at hq
      cases hq
theorem containsE23_call {w : World} {vo : Option Addr} {n vc : Nat} {E : Nat → Pt} {q : Nat → Bool} {x1 x2 x3 : Value} (hP : PF w vo n E) (hn : n ≤ 100000) (hC : ∀ A k, Below w.heap.size w A → k < n → Calls Tryz.prog 23 #[ptv (E k), x1, x2, x3] A fun e w' => e = .returned (.bool (q k)) ∧ Below A.heap.size A w') :
    Calls Tryz.prog 26 #[.slice vo n vc, .func (.func 23) #[] #[x1, x2, x3]] w fun e w' => e = .returned (.bool (anyB n q)) ∧ Below w.heap.size w w' := by
  have C : Hid (Calls Tryz.prog 43 #[.slice vo n vc, .func (.func 23) #[] #[x1, x2, x3]] w fun e w' => (∃ r : Int, e = .returned (.int .i64 r) ∧ IdxA n q r) ∧ Below w.heap.size w w') := indexE23_call hP hn hC
  obtain ⟨R, hR⟩ : ∃ R, R = anyB n q := ⟨_, rfl⟩
  have HR : Hid (∀ r, IdxA n q r → decide (0 ≤ r) = R) := fun r h => by rw [hR]; exact idx_any h
  rw [← hR]
  clear hP hR hC
  go_enter Tryz.func26, Tryz.ntmps26
  go_wp2_with (first | (go_at_call 43; refine Calls.mono C.out ?_; rintro e W2 ⟨⟨r, rfl, hr⟩, g2⟩; have HRr : Hid _ := HR.out r hr; have HB : Hid (Below w.heap.size w W2) := g2; clear hr g2) | fail)
  go_ret
  exact ⟨by rw [← HRr.out]; rfl, HB.out⟩
theorem enter27 (args : Array Value) (w : World) : (callFunc 27 args).run Tryz.prog w = .ok (.enter 27 args) w := by
  simp [callFunc, Tryz.func27, go_sem]
  rw [if_neg (of_decide_eq_true (by kernel_rfl)), if_neg (by intro h; have : Tryz.f27.body.isSome = true := (by kernel_rfl); rw [h] at this; cases this)]
set_option maxHeartbeats 4000000 in
theorem indexE27_call {w : World} {vo : Option Addr} {n vc : Nat} {E : Nat → Pt} {q : Nat → Bool} {x1 x2 x3 : Value} (hP : PF w vo n E) (hn : n ≤ 100000) (hC : ∀ A k, Below w.heap.size w A → k < n → Calls Tryz.prog 27 #[ptv (E k), x1, x2, x3] A fun e w' => e = .returned (.bool (q k)) ∧ Below A.heap.size A w') :
    Calls Tryz.prog 43 #[.slice vo n vc, .func (.func 27) #[] #[x1, x2, x3]] w fun e w' => (∃ r : Int, e = .returned (.int .i64 r) ∧ IdxA n q r) ∧ Below w.heap.size w w' := by
  have HP : Hid (PF w vo n E) := hP
  have HC : Hid (∀ A k, Below w.heap.size w A → k < n → Calls Tryz.prog 27 #[ptv (E k), x1, x2, x3] A fun e w' => e = .returned (.bool (q k)) ∧ Below A.heap.size A w') := hC
  have hE := enter27
  clear hP hC
  go_enter Tryz.func43, Tryz.ntmps43
  go_upto_region 2 with (fail)
  go_loopw [5, 8] (fun _ s8 wz => ∃ k : Nat, k ≤ n ∧ s8 = .int .i64 (k : Int) ∧ Hid ((∀ j, j < k → q j = false) ∧ Below w.heap.size w wz)) (fun _ s8 _ => n - (numOf s8).toNat)
  case atStart => exact ⟨0, Nat.zero_le _, rfl, fun j hj => by omega, Below.refl _ _⟩
  case round =>
    obtain ⟨k, hk, rfl, hJ⟩ := hrel
    by_cases hlt : k < n
    · obtain ⟨b, off, rfl, c0, c1⟩ := HP.out.below hJ.out.2 k hlt
      have D : Hid (Calls Tryz.prog 27 #[ptv (E k), x1, x2, x3] wr fun e w' => e = .returned (.bool (q k)) ∧ Below wr.heap.size wr w') := HC.out wr k hJ.out.2 hlt
      unfold ptv at D
      generalize (E k).1 = ex at *
      generalize (E k).2 = ey at *
      obtain ⟨t, ht⟩ : ∃ t, t = q k := ⟨_, rfl⟩
      rw [← ht] at D
      have HT : Hid (t = q k) := ht
      have i1 : (0 : Int) ≤ (k : Int) := by omega
      have i2 : (k : Int) < (n : Int) := by omega
      clear ht
      cases t with
      | true =>
        go_wp2_with (first | (go_at_call 27; refine Calls.mono D.out ?_; rintro e W2 ⟨rfl, g2⟩; have HB : Hid (Below w.heap.size w W2) := below_next hJ.out.2 g2; clear g2) | fail)
        go_ret
        exact ⟨⟨(k : Int), rfl, fun _ => ⟨k, hlt, HT.out.symm⟩, fun _ => by omega⟩, HB.out⟩
      | false =>
        go_wp2_with (first | (go_at_call 27; refine Calls.mono D.out ?_; rintro e W2 ⟨rfl, g2⟩; have HB : Hid (Below w.heap.size w W2) := below_next hJ.out.2 g2; clear g2) | fail)
        go_roundw
        case rel => exact ⟨k + 1, by omega, by go_num, fun j hj => by
          by_cases e : j = k
          · subst e; exact HT.out.symm
          · exact hJ.out.1 j (by omega), HB.out⟩
        case measure => simp [numOf]; omega
    · obtain rfl : k = n := by omega
      go_wp2
      go_ret
      refine ⟨⟨-1, rfl, fun h => by omega, fun ⟨j, hj, hq⟩ => ?_⟩, hJ.out.2⟩
      rw [hJ.out.1 j hj] at hq
      cases hq
theorem containsE27_call {w : World} {vo : Option Addr} {n vc : Nat} {E : Nat → Pt} {q : Nat → Bool} {x1 x2 x3 : Value} (hP : PF w vo n E) (hn : n ≤ 100000) (hC : ∀ A k, Below w.heap.size w A → k < n → Calls Tryz.prog 27 #[ptv (E k), x1, x2, x3] A fun e w' => e = .returned (.bool (q k)) ∧ Below A.heap.size A w') :
    Calls Tryz.prog 26 #[.slice vo n vc, .func (.func 27) #[] #[x1, x2, x3]] w fun e w' => e = .returned (.bool (anyB n q)) ∧ Below w.heap.size w w' := by
  have C : Hid (Calls Tryz.prog 43 #[.slice vo n vc, .func (.func 27) #[] #[x1, x2, x3]] w fun e w' => (∃ r : Int, e = .returned (.int .i64 r) ∧ IdxA n q r) ∧ Below w.heap.size w w') := indexE27_call hP hn hC
  obtain ⟨R, hR⟩ : ∃ R, R = anyB n q := ⟨_, rfl⟩
  have HR : Hid (∀ r, IdxA n q r → decide (0 ≤ r) = R) := fun r h => by rw [hR]; exact idx_any h
  rw [← hR]
  clear hP hR hC
  go_enter Tryz.func26, Tryz.ntmps26
  go_wp2_with (first | (go_at_call 43; refine Calls.mono C.out ?_; rintro e W2 ⟨⟨r, rfl, hr⟩, g2⟩; have HRr : Hid _ := HR.out r hr; have HB : Hid (Below w.heap.size w W2) := g2; clear hr g2) | fail)
  go_ret
  exact ⟨by rw [← HRr.out]; rfl, HB.out⟩
end Go.Proofs.YtnboonhlffkimaaGreatDoor
