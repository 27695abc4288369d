/- Of each node the set of those that it has an edge with: nearSets. -/
import Derived.Test.YthjkjanibkpgiaaDoorBitsP
import Derived.Test.YthjkjanibkpgiaaDoorTalMM
import Derived.Test.YthjkjanibkpgiaaDoorPzT
import Derived.Test.YthjkjanibkpgiaaDoorTailM
namespace Go.Proofs.YthjkjanibkpgiaaDoor
set_option maxRecDepth 8000
open Go.RowKit Go.Maps
attribute [local go_sem ↓] Go.wp_at_zero Go.wp_at_succ
def nrS (A : Nat → Nat) (e : E2) : Nat → Nat := fun v => if v = e.2 then (if e.2 = e.1 then A e.1 ||| 2 ^ e.2 else A e.2) ||| 2 ^ e.1 else if v = e.1 then A e.1 ||| 2 ^ e.2 else A v
/-- The sets as numbers. -/
def nearF (L : List E2) : Nat → Nat := L.foldl nrS (fun _ => 0)
theorem nearF_snoc (L : List E2) (e : E2) : nearF (L ++ [e]) = nrS (nearF L) e := by simp [nearF, List.foldl_append]
theorem adjE_snoc (L : List E2) (e : E2) (v x : Nat) : adjE (L ++ [e]) v x = (adjE L v x || ((e.1 == v && e.2 == x) || (e.1 == x && e.2 == v))) := by simp [adjE, List.any_append]
theorem snocInd {P : List E2 → Prop} (h0 : P []) (h1 : ∀ l a, P l → P (l ++ [a])) (l : List E2) : P l := by
  have : ∀ n (l : List E2), l.length = n → P l := fun n => by
    induction n with
    | zero => intro l h; rw [List.length_eq_zero_iff.1 h]; exact h0
    | succ n ih =>
      intro l h
      have hne : l ≠ [] := fun e => by rw [e] at h; cases h
      rw [← List.dropLast_concat_getLast hne]
      exact h1 _ _ (ih _ (by rw [List.length_dropLast]; omega))
  exact this l.length l rfl
theorem nearF_bit : ∀ (L : List E2), (∀ e ∈ L, e.1 ≠ e.2) → ∀ v z, (nearF L v).testBit z = adjE L v z := fun L => by
  refine snocInd (P := fun L => (∀ e ∈ L, e.1 ≠ e.2) → ∀ v z, (nearF L v).testBit z = adjE L v z) ?_ ?_ L
  · intro _ v z; simp [nearF, adjE]
  · intro l e ih h v z
    have ih' := ih (fun e he => h e (by simp [he]))
    have hne : e.1 ≠ e.2 := h e (by simp)
    rw [nearF_snoc, adjE_snoc, ← ih']
    unfold nrS
    by_cases h2 : v = e.2
    · subst h2
      rw [if_pos rfl, if_neg (fun h => hne h.symm), Nat.testBit_or, Nat.testBit_two_pow]
      have : (e.1 == e.2) = false := by simpa using hne
      rw [this]
      simp only [Bool.false_and, Bool.false_or, beq_self_eq_true, Bool.and_true]
      congr 1
    · rw [if_neg h2]
      have e2 : (e.2 == v) = false := by simp; exact fun h => h2 h.symm
      by_cases h1 : v = e.1
      · subst h1
        rw [if_pos rfl, Nat.testBit_or, Nat.testBit_two_pow, e2]
        simp only [beq_self_eq_true, Bool.true_and, Bool.and_false, Bool.or_false]
        congr 1
      · rw [if_neg h1]
        have e1 : (e.1 == v) = false := by simp; exact fun h => h1 h.symm
        rw [e1, e2]
        simp
theorem nearF_lt {N : Nat} {L : List E2} (hne : ∀ e ∈ L, e.1 ≠ e.2) (hN : ∀ e ∈ L, e.1 < N ∧ e.2 < N) (v : Nat) : nearF L v < 2 ^ N := by
  refine Nat.lt_pow_two_of_testBit _ fun z hz => ?_
  rw [nearF_bit L hne]
  cases h : adjE L v z with
  | false => rfl
  | true =>
    unfold adjE at h
    obtain ⟨e, he, h'⟩ := List.any_eq_true.1 h
    have := hN e he
    simp at h'
    omega
theorem make47 (N : Nat) (hN : N ≤ 1000) (w : World) : (Instr.makeSlice 47 (.int .i64 (N : Int)) (.int .i64 (N : Int))).run Tryd.prog w = .ok (.slice (some ⟨w.heap.size, 0, none⟩) N N) (w.alloc (.cells (rep N (.int .u32 0)) 53)) := by
  have hx : (Tryd.prog.info? 53).map (fun i => (i.zero, i.size, i.bytes)) = some (some (.int .u32 0), 1, 4) := by kernel_rfl
  obtain ⟨i65, hi65, hy0, hy1, hy2⟩ := info_parts hx
  have hr := run_make (P := Tryd.prog) w 47 53 i65 (.int .u32 0) Tryd.underlying47 hi65 hy0 .i64 .i64 N N (by omega) (Int.le_refl _) (by rw [hy2]; omega) (by omega)
  simpa [hy1, Value.cells] using hr
def nv (A : Nat → Nat) : Nat → Value := fun v => .int .u32 (A v : Int)
set_option maxHeartbeats 8000000 in
theorem nearSets_call {w : World} {N : Nat} {ao : Option Addr} {cap : Nat} {es : List E2} (hE : EdgesAt w (.slice ao es.length cap) (pzT es)) (hes : ∀ e ∈ es, e.1 < N ∧ e.2 < N) (hne : ∀ e ∈ es, e.1 ≠ e.2) (hN : N ≤ 24) (hm : es.length ≤ 1000) :
    Calls Tryd.prog 19 #[.agg #[.int .i64 (N : Int), .slice ao es.length cap]] w fun e w' => (∃ b, e = .returned (sl b N) ∧ w.heap.size ≤ b ∧ RowV w' b 53 N (nv (nearF es))) ∧ Below w.heap.size w w' := by
  have hmk := make47 N (by omega)
  have HH : Hid (EdgesAt w (.slice ao es.length cap) (pzT es) ∧ (∀ e ∈ es, e.1 < N ∧ e.2 < N) ∧ (∀ e ∈ es, e.1 ≠ e.2)) := ⟨hE, hes, hne⟩
  clear hE hes hne
  go_enter Tryd.func19, Tryd.ntmps19
  go_upto_region 3 with (fail)
  have t1 : Two ((w.alloc (Obj.cells #[.int .i64 (N : Int), .slice ao es.length cap] 24)).alloc (Obj.cells (rep N (.int .u32 0)) 53)) w.heap.size (.int .i64 (N : Int)) (.slice ao es.length cap) 24 := two_alloc (two_new _ _ _ _) _
  have t3 : RowV ((w.alloc (Obj.cells #[.int .i64 (N : Int), .slice ao es.length cap] 24)).alloc (Obj.cells (rep N (.int .u32 0)) 53)) (w.heap.size + 1) 53 N (nv fun _ => 0) := by
    refine rowV_rep ?_
    have := heap_alloc_new (w.alloc (Obj.cells #[.int .i64 (N : Int), .slice ao es.length cap] 24)) (Obj.cells (rep N (.int .u32 0)) 53)
    simpa using this
  have hB0 : Below w.heap.size w ((w.alloc (Obj.cells #[.int .i64 (N : Int), .slice ao es.length cap] 24)).alloc (Obj.cells (rep N (.int .u32 0)) 53)) := below_alloc (below_alloc (Below.refl _ w) _) _
  obtain ⟨b1, hb1⟩ : ∃ b, b = w.heap.size := ⟨_, rfl⟩
  obtain ⟨b3, hb3⟩ : ∃ b, b = w.heap.size + 1 := ⟨_, rfl⟩
  rw [← hb3] at t3 ⊢
  rw [← hb1] at t1 ⊢
  generalize ((w.alloc (Obj.cells #[.int .i64 (N : Int), .slice ao es.length cap] 24)).alloc (Obj.cells (rep N (.int .u32 0)) 53)) = W0 at *
  have HW0 : Hid (RowV W0 b3 53 N (nv fun _ => 0) ∧ Below w.heap.size w W0 ∧ w.heap.size ≤ b3) := ⟨t3, hB0, by omega⟩
  clear t1 t3 hB0 hb1 hb3 hmk
  go_loopw [5, 12] (fun _ s12 wz => ∃ i : Nat, i ≤ es.length ∧ s12 = .int .i64 (i : Int) ∧ Hid (RowV wz b3 53 N (nv (nearF (es.take i))) ∧ Below w.heap.size w wz)) (fun _ s12 _ => es.length - (numOf s12).toNat)
  case atStart => exact ⟨0, Nat.zero_le _, rfl, HW0.out.1, HW0.out.2.1⟩
  case round =>
    obtain ⟨i, hi, rfl, hJ⟩ := hrel
    by_cases hlt : i < es.length
    · have k1 : decide ((i : Int) < (es.length : Int)) = true := by simp; omega
      obtain ⟨e, he⟩ : ∃ e, e = es[i] := ⟨_, rfl⟩
      have hmem : e ∈ es := by rw [he]; exact List.getElem_mem hlt
      have heN := HH.out.2.1 e hmem
      have hen := HH.out.2.2 e hmem
      have hedge : ∃ eb eoff, ao = some ⟨eb, eoff, none⟩ ∧ wr.cell? ⟨eb, eoff + i * 2, none⟩ = some (.int .i64 (e.1 : Int)) ∧ wr.cell? ⟨eb, eoff + i * 2 + 1, none⟩ = some (.int .i64 (e.2 : Int)) := by
        obtain ⟨ao', cap', e1, _, _, hcl⟩ := HH.out.1.below hJ.out.2
        simp only [Value.slice.injEq] at e1
        obtain ⟨rfl, _, rfl⟩ := e1
        obtain ⟨b, off, h1, h2, h3⟩ := hcl i (by simp [pzT]; exact hlt)
        refine ⟨b, off, h1, ?_, ?_⟩
        · simpa [pzT, he] using h2
        · simpa [pzT, he] using h3
      obtain ⟨eb, eoff, hao, ce0, ce1⟩ := hedge
      subst hao
      have hstep : nearF (es.take (i + 1)) = nrS (nearF (es.take i)) e := by
        rw [List.take_add_one, List.getElem?_eq_getElem hlt, ← he]
        exact nearF_snoc _ _
      have i0 : (0 : Int) ≤ (i : Int) := by omega
      have i1 : (i : Int) < (es.length : Int) := by omega
      obtain ⟨A, hA⟩ : ∃ A, A = nearF (es.take i) := ⟨_, rfl⟩
      have hA32 : ∀ v, A v < 16777216 := fun v => by
        have h1 := nearF_lt (N := N) (L := es.take i) (fun e he => HH.out.2.2 e (List.mem_of_mem_take he)) (fun e he => HH.out.2.1 e (List.mem_of_mem_take he)) v
        rw [← hA] at h1
        have h2 : (2 : Nat) ^ N ≤ 2 ^ 24 := Nat.pow_le_pow_right (by decide) hN
        omega
      rw [← hA] at hJ hstep
      have HS : Hid (nearF (es.take (i + 1)) = nrS A e) := hstep
      have HA : Hid (∀ v, A v < 16777216) := hA32
      clear he hmem hstep hA hA32
      go_upto_region 5 with (fail)
      have x5 := two_new wr (.int .i64 (e.1 : Int)) (.int .i64 (e.2 : Int)) 61
      have hB4 := below_alloc (Below.refl _ wr) (Obj.cells #[.int .i64 (e.1 : Int), .int .i64 (e.2 : Int)] 61)
      obtain ⟨b5, hb5⟩ : ∃ b, b = wr.heap.size := ⟨_, rfl⟩
      rw [← hb5] at x5 ⊢
      generalize wr.alloc (Obj.cells #[.int .i64 (e.1 : Int), .int .i64 (e.2 : Int)] 61) = W4 at *
      have HW4 : Hid (Two W4 b5 (.int .i64 (e.1 : Int)) (.int .i64 (e.2 : Int)) 61 ∧ RowV W4 b3 53 N (nv A) ∧ Below w.heap.size w W4 ∧ b5 ≠ b3) := ⟨x5, hJ.out.1.block (hB4.block _ hJ.out.1.lt), below_next hJ.out.2 hB4, by have := hJ.out.1.lt; omega⟩
      clear ce0 ce1 hJ hB4 x5 hb5
      obtain ⟨d0, d1⟩ := cell_two HW4.out.1
      obtain ⟨p1, hp1⟩ : ∃ p, p = 2 ^ e.2 := ⟨_, rfl⟩
      obtain ⟨p2, hp2⟩ : ∃ p, p = 2 ^ e.1 := ⟨_, rfl⟩
      have hp1l : p1 < 4294967296 := by rw [hp1]; exact Nat.pow_lt_pow_right (by decide) (show e.2 < 32 by omega)
      have hp2l : p2 < 4294967296 := by rw [hp2]; exact Nat.pow_lt_pow_right (by decide) (show e.1 < 32 by omega)
      have C1 : Hid (∀ B : World, Calls Tryd.prog 34 #[.int .i64 (e.2 : Int)] B fun e w' => e = .returned (.int .u32 (p1 : Int)) ∧ Below B.heap.size B w') := fun B => by
        rw [hp1]
        exact (only_call (by omega)).mono fun e w' ⟨h1, h2⟩ => ⟨h1, h2 ▸ Below.refl _ _⟩
      have C2 : Hid (∀ B : World, Calls Tryd.prog 34 #[.int .i64 (e.1 : Int)] B fun e w' => e = .returned (.int .u32 (p2 : Int)) ∧ Below B.heap.size B w') := fun B => by
        rw [hp2]
        exact (only_call (by omega)).mono fun e w' ⟨h1, h2⟩ => ⟨h1, h2 ▸ Below.refl _ _⟩
      have HP : Hid (p1 = 2 ^ e.2 ∧ p2 = 2 ^ e.1) := ⟨hp1, hp2⟩
      clear hp1 hp2
      have c0 : W4.cell? ⟨b3, e.1, none⟩ = some (.int .u32 (A e.1 : Int)) := HW4.out.2.1.cell heN.1
      have a0 := HA.out e.1
      have o1 := or_u32 (a := A e.1) (b := p1) (by omega) hp1l
      have e0 : (0 : Int) ≤ (e.1 : Int) := by omega
      have e1' : (e.1 : Int) < (N : Int) := by omega
      have e2' : (0 : Int) ≤ (e.2 : Int) := by omega
      have e3' : (e.2 : Int) < (N : Int) := by omega
      have g0 := cell_growD d0
      have g1 := cell_growD d1
      have g2 := cell_growD c0
      clear d0 d1 c0 a0
      refine wp_region_tailT 10 (by kernel_rfl) (by kernel_rfl) (by kernel_rfl) (by decide) ?_
      simp only [List.take_succ_cons, List.take_zero, List.drop_succ_cons, List.drop_zero]
      repeat (go_big_quiet_step (first | (go_at_call 34; exact Calls.belowQ (fun W hW => C1.out W))))
      refine wpQuiet_nil ?_
      rintro _ ⟨gp, rfl⟩
      have hB8 := growD_below W4 gp
      clear g0 g1 g2
      generalize growD W4 gp = W5 at *
      have hR5 := HW4.out.2.1.block (hB8.block _ HW4.out.2.1.lt)
      have c5 := hR5.cell (j := e.1) heN.1
      have f5 := hR5.free e.1
      have HW5 : Hid (Two W5 b5 (.int .i64 (e.1 : Int)) (.int .i64 (e.2 : Int)) 61 ∧ RowV W5 b3 53 N (nv A) ∧ Below w.heap.size w W5) := ⟨two_next HW4.out.1 hB8, hR5, below_next HW4.out.2.2.1 hB8⟩
      have c5' : W5.cell? ⟨b3, e.1, none⟩ = some (.int .u32 (A e.1 : Int)) := c5
      clear hB8 hR5 c5
      have hB8 : Hid True := trivial
      have w0 : 0 ≤ ((A e.1 ||| p1 : Nat) : Int) := by omega
      go_upto_region 6 with (fail)
      clear c5' f5
      obtain ⟨o, ho⟩ : ∃ o, o = A e.1 ||| p1 := ⟨_, rfl⟩
      rw [← ho]
      have HW6 : Hid (Two (W5.setCell ⟨b3, e.1, none⟩ (.int .u32 (o : Int))) b5 (.int .i64 (e.1 : Int)) (.int .i64 (e.2 : Int)) 61 ∧ RowV (W5.setCell ⟨b3, e.1, none⟩ (.int .u32 (o : Int))) b3 53 N (nv fun j => if j = e.1 then o else A j) ∧ Below w.heap.size w (W5.setCell ⟨b3, e.1, none⟩ (.int .u32 (o : Int)))) := by
        refine ⟨two_far HW5.out.1 HW4.out.2.2.2, ?_, HW5.out.2.2.setCell HW0.out.2.2 _⟩
        refine (HW5.out.2.1.set e.1 _).congr fun j _ => ?_
        by_cases h : j = e.1
        · rw [if_pos h]; simp [nv, h]
        · rw [if_neg h]; simp [nv, h]
      generalize W5.setCell ⟨b3, e.1, none⟩ (.int .u32 (o : Int)) = W6 at *
      obtain ⟨d0, d1⟩ := cell_two HW6.out.1
      obtain ⟨q, hq⟩ : ∃ q, q = (if e.2 = e.1 then o else A e.2) := ⟨_, rfl⟩
      have hqA : q = A e.2 := by rw [hq, if_neg (fun h => hen h.symm)]
      have c0 : W6.cell? ⟨b3, e.2, none⟩ = some (.int .u32 (q : Int)) := by rw [hq]; exact HW6.out.2.1.cell heN.2
      have f0 := HW6.out.2.1.free e.2
      have a0 := HA.out e.2
      have o2 := or_u32 (a := q) (b := p2) (by omega) hp2l
      have HO : Hid (o = A e.1 ||| p1 ∧ q = A e.2 ∧ q = (if e.2 = e.1 then o else A e.2)) := ⟨ho, hqA, hq⟩
      have g0 := cell_growD d0
      have g1 := cell_growD d1
      have g2 := cell_growD c0
      clear d0 d1 c0 a0 ho hq hqA
      refine wp_region_tailT 10 (by kernel_rfl) (by kernel_rfl) (by kernel_rfl) (by decide) ?_
      simp only [List.take_succ_cons, List.take_zero, List.drop_succ_cons, List.drop_zero]
      repeat (go_big_quiet_step (first | (go_at_call 34; exact Calls.belowQ (fun W hW => C2.out W))))
      refine wpQuiet_nil ?_
      rintro _ ⟨gp2, rfl⟩
      have hB9 := growD_below W6 gp2
      clear g0 g1 g2 f0
      generalize growD W6 gp2 = W7 at *
      have hR7 := HW6.out.2.1.block (hB9.block _ HW6.out.2.1.lt)
      have c7 := hR7.cell (j := e.2) heN.2
      have f7 := hR7.free e.2
      have HW7 : Hid (RowV W7 b3 53 N (nv fun j => if j = e.1 then o else A j) ∧ Below w.heap.size w W7) := ⟨hR7, below_next HW6.out.2.2 hB9⟩
      clear hB9 hR7
      have s0 : (i : Int) + 1 < 9223372036854775808 := by omega
      have s1 : -9223372036854775808 ≤ (i : Int) + 1 := by omega
      go_wp2
      go_round
      case measure => simp [numOf]; omega
      case rel =>
        refine ⟨i + 1, by omega, by go_num, ?_, HW7.out.2.setCell HW0.out.2.2 _⟩
        rw [HS.out]
        refine (HW7.out.1.set e.2 _).congr fun j _ => ?_
        have h1 := HO.out
        have h2 := HP.out
        unfold nrS
        by_cases h : j = e.2
        · rw [if_pos h]
          simp only [nv]
          rw [if_pos h, if_neg (fun h => hen h.symm), h1.2.1, h2.2]
        · rw [if_neg h]
          simp only [nv]
          rw [if_neg h, h1.1, h2.1]
    · have k1 : decide ((i : Int) < (es.length : Int)) = false := by simp; omega
      have he : i = es.length := by omega
      have HE : Hid (RowV wr b3 53 N (nv (nearF es)) ∧ Below w.heap.size w wr) := by
        have := hJ.out
        rw [he, List.take_length] at this
        exact this
      clear he hJ
      go_wp2
      go_ret
      exact ⟨⟨b3, rfl, HW0.out.2.2, HE.out.1⟩, HE.out.2⟩
end Go.Proofs.YthjkjanibkpgiaaDoor
