/- countRings. -/
import Derived.Test.YtmeodnkmhakidaaDoorRgW
import Derived.Test.YtmeodnkmhakidaaDoorTryM
namespace Go.Proofs.YtmeodnkmhakidaaDoor
set_option maxRecDepth 8000
open Go.RowKit Go.Maps
attribute [local go_sem ↓] Go.wp_at_zero Go.wp_at_succ
def FxS (b0 nb N : Nat) (es : List E2) (A : World) : Prop := One A b0 (sl nb N) 48 ∧ One A (b0 + 2) (.map (some (b0 + 1))) 69 ∧ One A (b0 + 3) (.func (.func 37) #[] #[ptr b0, ptr (b0 + 2), ptr (b0 + 3)]) 70 ∧ RowV A nb 65 N (nv (nearF es)) ∧ T32 A
theorem fxS_ok {b0 nb N : Nat} {es : List E2} (hnb : nb < b0) (hb0 : 0 < b0) (hes : ∀ e ∈ es, e.1 < N ∧ e.2 < N) (hS : Simp es) (hN : N ≤ 12) : FxR (FxS b0 nb N es) b0 (b0 + 2) (b0 + 3) nb (b0 + 1) N es where
  keep := fun A A' ⟨h1, h2, h3, h4, h5⟩ hT => by
    have q : ∀ x, x < A.heap.size → x ≠ b0 + 1 → A'.heap[x]? = A.heap[x]? := fun x hx hb => hT.block x hx (fun h => hb h)
    refine ⟨(q _ (lt_of_block h1) (by omega)).trans h1, (q _ (lt_of_block h2) (by omega)).trans h2, (q _ (lt_of_block h3) (by omega)).trans h3, h4.block (q _ h4.lt (by omega)), ?_⟩
    intro j hj
    refine Eq.trans ?_ (h5 j hj)
    have := q 0 (World.block_lt_of_cell? A _ (h5 0 (by decide))) (by omega)
    simp [World.cell?, this]
  n := fun A h => h.1
  m := fun A h => h.2.1
  f := fun A h => h.2.2.1
  row := fun A h => h.2.2.2.1
  tab := fun A h => h.2.2.2.2
  hes := hes
  sim := hS
  hN := hN
/-- How many rings go through all nodes. -/
def ringN (N : Nat) (es : List E2) : Nat := if N < 3 then 0 else rC N (adjE es) (N - 1) 0 (outB (2 ^ N - 1).testBit 0) / 2
theorem cst_lt : ∀ c, c < 12 → cst c < 1000000000 := by decide
theorem crd_all : ∀ {n : Nat} {s : Nat → Bool}, (∀ x, x < n → s x = true) → crd n s = n
  | 0, _, _ => rfl
  | n + 1, s, h => by
    have := crd_all (n := n) (s := s) (fun x hx => h x (by omega))
    unfold crd at this ⊢
    rw [ns, this, if_pos (h n (by omega))]
set_option maxHeartbeats 8000000 in
theorem rings_call {w : World} {nb N : Nat} {es : List E2} (hR : RowV w nb 65 N (nv (nearF es))) (hT : T32 w) (hes : ∀ e ∈ es, e.1 < N ∧ e.2 < N) (hS : Simp es) (hN : N ≤ 12) :
    Calls Tryd.prog 23 #[sl nb N] w fun e w' => e = .returned (.int .i64 (ringN N es : Int)) ∧ Below w.heap.size w w' := by
  have HH : Hid (RowV w nb 65 N (nv (nearF es)) ∧ T32 w ∧ (∀ e ∈ es, e.1 < N ∧ e.2 < N) ∧ Simp es ∧ ringN N es = if N < 3 then 0 else rC N (adjE es) (N - 1) 0 (outB (2 ^ N - 1).testBit 0) / 2) := ⟨hR, hT, hes, hS, rfl⟩
  have hE37 := enter37
  have hmk := makeMap42
  clear hR hT hes hS
  by_cases h3 : N < 3
  · have k1 : decide ((N : Int) < 3) = true := by simp; omega
    go_enter Tryd.func23, Tryd.ntmps23
    go_wp2
    go_ret
    exact ⟨by rw [HH.out.2.2.2.2, if_pos h3]; rfl, below_alloc (Below.refl _ w) _⟩
  · have k1 : decide ((N : Int) < 3) = false := by simp; omega
    go_enter Tryd.func23, Tryd.ntmps23
    go_upto_region 6 with (fail)
    clear hmk
    obtain ⟨W0, hW0⟩ : ∃ W0, W0 = ((((w.alloc (Obj.cells #[sl nb N] 48)).alloc (Obj.map #[] 0)).alloc (Obj.cells #[Value.map (some (w.heap.size + 1))] 69)).alloc (Obj.cells #[Value.func (Fn.func 37) #[] #[Value.pointer (some ⟨w.heap.size, 0, none⟩), Value.pointer (some ⟨w.heap.size + 1 + 1, 0, none⟩), Value.pointer (some ⟨w.heap.size + 1 + 1 + 1, 0, none⟩)]] 70)) := ⟨_, rfl⟩
    rw [← hW0]
    have hB0 : Below w.heap.size w W0 := by rw [hW0]; exact below_alloc (below_alloc (below_alloc (below_alloc (Below.refl _ w) _) _) _) _
    have hnb := HH.out.1.lt
    have hw0 : 0 < w.heap.size := World.block_lt_of_cell? w _ (HH.out.2.1 0 (by decide))
    have hFx : FxS w.heap.size nb N es W0 := by
      refine ⟨?_, ?_, ?_, HH.out.1.block (hB0.block _ hnb), HH.out.2.1.below hB0⟩
      · rw [hW0]; exact one_alloc' (one_alloc' (one_alloc' (heap_alloc_new _ _) _) _) _
      · rw [hW0]
        refine one_alloc' ?_ _
        have := heap_alloc_new ((w.alloc (Obj.cells #[sl nb N] 48)).alloc (Obj.map #[] 0)) (Obj.cells #[Value.map (some (w.heap.size + 1))] 69)
        rw [show ((w.alloc (Obj.cells #[sl nb N] 48)).alloc (Obj.map #[] 0)).heap.size = w.heap.size + 2 by simp] at this
        exact this
      · rw [hW0]
        have := heap_alloc_new (((w.alloc (Obj.cells #[sl nb N] 48)).alloc (Obj.map #[] 0)).alloc (Obj.cells #[Value.map (some (w.heap.size + 1))] 69)) (Obj.cells #[Value.func (Fn.func 37) #[] #[Value.pointer (some ⟨w.heap.size, 0, none⟩), Value.pointer (some ⟨w.heap.size + 1 + 1, 0, none⟩), Value.pointer (some ⟨w.heap.size + 1 + 1 + 1, 0, none⟩)]] 70)
        rw [show (((w.alloc (Obj.cells #[sl nb N] 48)).alloc (Obj.map #[] 0)).alloc (Obj.cells #[Value.map (some (w.heap.size + 1))] 69)).heap.size = w.heap.size + 3 by simp] at this
        exact this
    have hKn : KnM W0 (w.heap.size + 1) 0 (fun _ => none) := by
      have h1 := knM_made (w.alloc (Obj.cells #[sl nb N] 48))
      rw [show (w.alloc (Obj.cells #[sl nb N] 48)).heap.size = w.heap.size + 1 by simp] at h1
      rw [hW0]
      exact (h1.under (below_alloc (Below.refl _ _) _)).under (below_alloc (Below.refl _ _) _)
    have hM := fxS_ok hnb hw0 HH.out.2.2.1 HH.out.2.2.2.1 hN
    obtain ⟨b0, hb0⟩ : ∃ b, b = w.heap.size := ⟨_, rfl⟩
    rw [← hb0] at hFx hKn hM ⊢
    have h24 : (2 : Nat) ^ N ≤ 4096 := (Nat.pow_le_pow_right (by decide) hN : 2 ^ N ≤ 2 ^ 12)
    have h2p := Nat.two_pow_pos N
    obtain ⟨m, hm⟩ : ∃ m, m = 2 ^ N - 1 := ⟨_, rfl⟩
    obtain ⟨l0, hl0⟩ : ∃ l, l = m &&& (4294967295 - 1) := ⟨_, rfl⟩
    have hl0b : l0.testBit = outB m.testBit 0 := by rw [hl0]; exact andNot_bits (c := 0) (by omega) (by decide)
    have hmb : ∀ x, x < N → m.testBit x = true := fun x hx => by rw [hm, Nat.testBit_two_pow_sub_one]; simpa using hx
    have hl0c : crd N l0.testBit = N - 1 := by
      have h1 := crd_out (n := N) (v := 0) (by omega) (hmb 0 (by omega))
      rw [crd_all hmb, ← hl0b] at h1
      omega
    have hl0N : l0 < 2 ^ N := by rw [hl0]; exact out_lt (by omega)
    have a4 : bits BinOp.andNot IntKind.u32 (m : Int) 1 = (l0 : Int) := by
      have := u32_andNot_nat m 1 (by omega) (by decide)
      rw [← hl0] at this
      exact this
    obtain ⟨r, hr⟩ : ∃ r, r = rC N (adjE es) (N - 1) 0 l0.testBit := ⟨_, rfl⟩
    have hr2 : r ≤ 479001600 := by rw [hr]; exact Nat.le_trans (rC_le _ _ _ hl0c) (Nat.le_trans (fac_le (show N - 1 ≤ 12 by omega)) (by decide))
    have C35 : Hid (∀ B : World, Calls Tryd.prog 35 #[.int .i64 (N : Int)] B fun e w' => e = .returned (.int .u32 (m : Int)) ∧ Below B.heap.size B w') := fun B => by
      rw [hm]
      exact (below_call (by omega)).mono fun e w' ⟨h1, h2⟩ => ⟨h1, h2 ▸ Below.refl _ _⟩
    have C34 : Hid (∀ B : World, Calls Tryd.prog 34 #[.int .i64 0] B fun e w' => e = .returned (.int .u32 1) ∧ Below B.heap.size B w') := fun B => (only_call (v := 0) (by decide)).mono fun e w' ⟨h1, h2⟩ => ⟨h1, h2 ▸ Below.refl _ _⟩
    have C37 : Hid (∀ B, Below W0.heap.size W0 B → Calls Tryd.prog 37 #[.int .i64 0, .int .u32 (l0 : Int), ptr b0, ptr (b0 + 2), ptr (b0 + 3)] B fun e w' => e = .returned (.int .i64 (r : Int)) ∧ Turns (fun x => x = b0 + 1) B w') := fun B hB => by
      have hT5 : Turns (fun x => x = b0 + 1) W0 B := Turns.of_below hB _
      refine (rg_call hM (N - 1) 0 l0 0 _ B hl0c hl0N (by omega) (hM.keep _ _ hFx hT5) (hKn.under hB) (fun _ _ _ _ h => by cases h) (by have := cst_lt (N - 1) (by omega); omega)).mono ?_
      rintro e w' ⟨g1, _, g3⟩
      rw [← hr] at g1
      exact ⟨g1, g3⟩
    have c0 : W0.cell? ⟨b0, 0, none⟩ = some (sl nb N) := box_cell (i := 0) (hM.n W0 hFx) rfl
    have c1 : W0.cell? ⟨b0 + 1 + 1 + 1, 0, none⟩ = some (.func (.func 37) #[] #[ptr b0, ptr (b0 + 1 + 1), ptr (b0 + 1 + 1 + 1)]) := box_cell (i := 0) (hM.f W0 hFx) rfl
    have g0 := cell_growD c0
    have g1 := cell_growD c1
    have HB : Hid (Below w.heap.size w W0 ∧ b0 = w.heap.size ∧ r = rC N (adjE es) (N - 1) 0 (outB (2 ^ N - 1).testBit 0) ∧ w.heap.size ≤ W0.heap.size) := ⟨hB0, hb0, by rw [hr, hl0b, hm], hB0.size⟩
    clear c0 c1 hFx hM hB0 hW0 hm hb0 hnb hKn hl0 hl0b hmb hl0c hl0N hr h24 h2p hw0
    refine wp_region_tailT 6 (by kernel_rfl) (by kernel_rfl) (by kernel_rfl) (by decide) ?_
    simp only [List.take_succ_cons, List.take_zero, List.drop_succ_cons, List.drop_zero]
    repeat (go_big_quiet_step (first | (go_at_call 35; exact Calls.belowQ (fun W hW => C35.out W)) | (go_at_call 34; exact Calls.belowQ (fun W hW => C34.out W))))
    refine wpQuiet_nil ?_
    rintro _ ⟨gp, rfl⟩
    have hB8 := growD_below W0 gp
    clear g0 g1
    generalize growD W0 gp = W5 at *
    have C37' : Hid _ := C37.out W5 hB8
    have HB8 : Hid (Below W0.heap.size W0 W5) := hB8
    clear hB8 C37 C35 C34
    go_wp2_with (first | (go_at_call 37; refine Calls.mono C37'.out ?_; rintro e V2 ⟨rfl, g1⟩; have HG : Hid _ := g1; clear g1) | fail)
    go_ret
    refine ⟨?_, Turns.below (below_next HB.out.1 HB8.out) HG.out (Nat.le_trans HB.out.2.2.2 HB8.out.size) (fun k hk => by have := HB.out.2.1; omega)⟩
    rw [HH.out.2.2.2.2, if_neg h3, ← HB.out.2.2.1]
    rfl
end Go.Proofs.YtmeodnkmhakidaaDoor
