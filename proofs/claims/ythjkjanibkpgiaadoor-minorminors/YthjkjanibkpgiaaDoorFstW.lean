/- firstFit. -/
import Derived.Test.YthjkjanibkpgiaaDoorFitC
namespace Go.Proofs.YthjkjanibkpgiaaDoor
set_option maxRecDepth 8000
open Go.RowKit Go.Maps
attribute [local go_sem ↓] Go.wp_at_zero Go.wp_at_succ
/-- What is fixed: four boxes one behind the other, and the two rows. -/
def FxB (b0 wb nb N M : Nat) (near wanted : Nat → Nat) (A : World) : Prop := One A b0 (sl nb N) 47 ∧ One A (b0 + 1) (sl wb M) 47 ∧ One A (b0 + 3) (.func (.func 41) #[] #[ptr (b0 + 2), ptr (b0 + 1), ptr b0, ptr (b0 + 3)]) 65 ∧ RowV A nb 53 N (nv near) ∧ RowV A wb 53 M (nv wanted) ∧ T32 A ∧ b0 + 4 ≤ A.heap.size
theorem fxB_ok {b0 wb nb N M : Nat} {near wanted : Nat → Nat} (hnb : nb < b0) (hwb : wb < b0) (nl : ∀ v, near v < 2 ^ N) (wl : ∀ v, wanted v < 2 ^ M) (hN : N ≤ 12) (hM : M ≤ 12) : FxF (FxB b0 wb nb N M near wanted) (b0 + 4) (b0 + 2) (b0 + 1) b0 (b0 + 3) wb nb N M near wanted where
  keep := fun A A' ⟨h1, h2, h3, h4, h5, h6, h7⟩ hT => by
    have q : ∀ x, x < b0 + 4 → x ≠ b0 + 2 → A'.heap[x]? = A.heap[x]? := fun x hx hb => hT.block x (by omega) (fun h => by rcases h with h | h <;> omega)
    refine ⟨(q _ (by omega) (by omega)).trans h1, (q _ (by omega) (by omega)).trans h2, (q _ (by omega) (by omega)).trans h3, h4.block (q _ (by omega) (by omega)), h5.block (q _ (by omega) (by omega)), ?_, Nat.le_trans h7 hT.size⟩
    intro j hj
    refine Eq.trans ?_ (h6 j hj)
    have := q 0 (by omega) (by omega)
    simp [World.cell?, this]
  w := fun A h => h.2.1
  wr := fun A h => h.2.2.2.2.1
  n := fun A h => h.1
  nr := fun A h => h.2.2.2.1
  f := fun A h => h.2.2.1
  tab := fun A h => h.2.2.2.2.2.1
  sz := fun A h => h.2.2.2.2.2.2
  nl := nl
  wl := wl
  hN := hN
  hM := hM
/-- What firstFit answers. -/
def FstA (B : Nat) (r : Option (List Nat)) (e : Ending) (w' : World) : Prop := match r with
  | some l => ∃ vo vc, e = .returned (.tuple #[.slice vo l.length vc, .bool true]) ∧ w'.ownsRow B 3 1 (.slice vo l.length vc) l.length (qv l)
  | none => e = .returned (.tuple #[.slice none 0 0, .bool false])
set_option maxHeartbeats 8000000 in
theorem fst_call {w : World} {wb nb N M : Nat} {near wanted : Nat → Nat} (hn : RowV w nb 53 N (nv near)) (hw : RowV w wb 53 M (nv wanted)) (hT : T32 w) (nl : ∀ v, near v < 2 ^ N) (wl : ∀ v, wanted v < 2 ^ M) (hN : N ≤ 12) (hM : M ≤ 12) :
    Calls Tryd.prog 22 #[sl nb N, sl wb M] w fun e w' => FstA (w.heap.size + 4) (fitL N (gB near) (hB wanted) M []) e w' ∧ Below w.heap.size w w' := by
  have HH : Hid (RowV w nb 53 N (nv near) ∧ RowV w wb 53 M (nv wanted) ∧ T32 w ∧ (∀ v, near v < 2 ^ N) ∧ (∀ v, wanted v < 2 ^ M)) := ⟨hn, hw, hT, nl, wl⟩
  have hE41 := enter41
  obtain ⟨R, hR⟩ : ∃ R, R = fitL N (gB near) (hB wanted) M [] := ⟨_, rfl⟩
  clear hn hw hT nl wl
  rw [← hR]
  have HR : Hid (R = fitL N (gB near) (hB wanted) M []) := hR
  clear hR
  go_enter Tryd.func22, Tryd.ntmps22
  go_upto_region 4 with (fail)
  obtain ⟨W0, hW0⟩ : ∃ W0, W0 = ((((w.alloc (Obj.cells #[sl nb N] 47)).alloc (Obj.cells #[sl wb M] 47)).alloc (Obj.cells #[Value.slice none 0 0] 39)).alloc (Obj.cells #[Value.func (Fn.func 41) #[] #[Value.pointer (some ⟨w.heap.size + 1 + 1, 0, none⟩), Value.pointer (some ⟨w.heap.size + 1, 0, none⟩), Value.pointer (some ⟨w.heap.size, 0, none⟩), Value.pointer (some ⟨w.heap.size + 1 + 1 + 1, 0, none⟩)]] 65)) := ⟨_, rfl⟩
  have hB0 : Below w.heap.size w W0 := by rw [hW0]; exact below_alloc (below_alloc (below_alloc (below_alloc (Below.refl _ w) _) _) _) _
  have hnb := HH.out.1.lt
  have hwb := HH.out.2.1.lt
  have hFx : FxB w.heap.size wb nb N M near wanted W0 ∧ One W0 (w.heap.size + 2) (.slice none 0 0) 39 := by
    refine ⟨⟨?_, ?_, ?_, HH.out.1.block (hB0.block _ hnb), HH.out.2.1.block (hB0.block _ hwb), HH.out.2.2.1.below hB0, by rw [hW0]; simp⟩, ?_⟩
    · rw [hW0]; exact one_alloc' (one_alloc' (one_alloc' (heap_alloc_new _ _) _) _) _
    · rw [hW0]
      refine one_alloc' (one_alloc' ?_ _) _
      have := heap_alloc_new (w.alloc (Obj.cells #[sl nb N] 47)) (Obj.cells #[sl wb M] 47)
      rw [show (w.alloc (Obj.cells #[sl nb N] 47)).heap.size = w.heap.size + 1 by simp] at this
      exact this
    · rw [hW0]
      have := heap_alloc_new (((w.alloc (Obj.cells #[sl nb N] 47)).alloc (Obj.cells #[sl wb M] 47)).alloc (Obj.cells #[Value.slice none 0 0] 39)) (Obj.cells #[Value.func (Fn.func 41) #[] #[Value.pointer (some ⟨w.heap.size + 1 + 1, 0, none⟩), Value.pointer (some ⟨w.heap.size + 1, 0, none⟩), Value.pointer (some ⟨w.heap.size, 0, none⟩), Value.pointer (some ⟨w.heap.size + 1 + 1 + 1, 0, none⟩)]] 65)
      rw [show (((w.alloc (Obj.cells #[sl nb N] 47)).alloc (Obj.cells #[sl wb M] 47)).alloc (Obj.cells #[Value.slice none 0 0] 39)).heap.size = w.heap.size + 1 + 1 + 1 by simp] at this
      exact this
    · rw [hW0]
      refine one_alloc' ?_ _
      have := heap_alloc_new ((w.alloc (Obj.cells #[sl nb N] 47)).alloc (Obj.cells #[sl wb M] 47)) (Obj.cells #[Value.slice none 0 0] 39)
      rw [show ((w.alloc (Obj.cells #[sl nb N] 47)).alloc (Obj.cells #[sl wb M] 47)).heap.size = w.heap.size + 1 + 1 by simp] at this
      exact this
  have hTA : TA W0 (w.heap.size + 4) (w.heap.size + 2) 39 [] := ⟨none, 0, hFx.2, World.ownsRow_nil _ _ _ _⟩
  have hFx := hFx.1
  have hF := fxB_ok hnb hwb HH.out.2.2.2.1 HH.out.2.2.2.2 hN hM
  rw [← hW0]
  obtain ⟨b0, hb0⟩ : ∃ b, b = w.heap.size := ⟨_, rfl⟩
  rw [← hb0] at hFx hTA hF ⊢
  obtain ⟨m, hm⟩ : ∃ m, m = 2 ^ N - 1 := ⟨_, rfl⟩
  have C35 : Hid (∀ B : World, Calls Tryd.prog 35 #[.int .i64 (N : Int)] B fun e w' => e = .returned (.int .u32 (m : Int)) ∧ Below B.heap.size B w') := fun B => by
    rw [hm]
    exact (below_call (by omega)).mono fun e w' ⟨h1, h2⟩ => ⟨h1, h2 ▸ Below.refl _ _⟩
  have C41 : Hid (∀ B, Below W0.heap.size W0 B → Calls Tryd.prog 41 #[.int .u32 (m : Int), ptr (b0 + 2), ptr (b0 + 1), ptr b0, ptr (b0 + 3)] B fun e w' => FitP (b0 + 4) (b0 + 2) R [] e w' ∧ Turns (FrT (b0 + 4) (b0 + 2)) B w') := fun B hB => by
    have hT5 : Turns (FrT (b0 + 4) (b0 + 2)) W0 B := Turns.of_below hB _
    rw [HR.out]
    refine fit_call hF (by omega) M [] m B (by simp) (hF.keep _ _ hFx hT5) (hTA.below hB) (by simp) (by rw [hm]; have := Nat.two_pow_pos N; omega) (fun x hx => ?_)
    rw [hm, Nat.testBit_two_pow_sub_one]
    simp [hx]
  have c0 : W0.cell? ⟨b0, 0, none⟩ = some (sl nb N) := box_cell (i := 0) (hF.n W0 hFx) rfl
  have c1 : W0.cell? ⟨b0 + 1 + 1 + 1, 0, none⟩ = some (.func (.func 41) #[] #[ptr (b0 + 1 + 1), ptr (b0 + 1), ptr b0, ptr (b0 + 1 + 1 + 1)]) := box_cell (i := 0) (hF.f W0 hFx) rfl
  have g0 := cell_growD c0
  have g1 := cell_growD c1
  have HB : Hid (Below w.heap.size w W0 ∧ b0 = w.heap.size) := ⟨hB0, hb0⟩
  clear c0 c1 hTA hFx hF hB0 hW0 hm hb0 hnb hwb
  refine wp_region_tailT 4 (by kernel_rfl) (by kernel_rfl) (by kernel_rfl) (by decide) ?_
  simp only [List.take_succ_cons, List.take_zero, List.drop_succ_cons, List.drop_zero]
  repeat (go_big_quiet_step (first | (go_at_call 35; exact Calls.belowQ (fun W hW => C35.out W))))
  refine wpQuiet_nil ?_
  rintro _ ⟨gp, rfl⟩
  have hB8 := growD_below W0 gp
  clear g0 g1
  generalize growD W0 gp = W5 at *
  have C41' : Hid _ := C41.out W5 hB8
  have HB8 : Hid (Below W0.heap.size W0 W5) := hB8
  clear hB8 C41 C35
  have hend : ∀ V2, Turns (FrT (b0 + 4) (b0 + 2)) W5 V2 → Below w.heap.size w V2 := fun V2 h => Turns.below (below_next HB.out.1 HB8.out) h (Nat.le_trans HB.out.1.size HB8.out.size) (fun k hk => by have := HB.out.2; rcases hk with hk | hk <;> omega)
  have HE : Hid _ := hend
  clear hend
  cases R with
  | none =>
    go_wp2_with (first | (go_at_call 41; refine Calls.mono C41'.out ?_; rintro e V2 ⟨⟨rfl, g1⟩, g2⟩; have HG : Hid _ := And.intro g1 g2; clear g1 g2) | fail)
    go_ret2
    exact ⟨rfl, HE.out _ HG.out.2⟩
  | some l =>
    go_upto_region 6 with (first | (go_at_call 41; refine Calls.mono C41'.out ?_; rintro e V2 ⟨⟨rfl, g1⟩, g2⟩; have HG : Hid _ := And.intro g1 g2; clear g1 g2) | fail)
    obtain ⟨vo, vc, g3, g4⟩ := id HG.out.1
    have c2 : V2.cell? ⟨b0 + 1 + 1, 0, none⟩ = some (.slice vo l.length vc) := box_cell (i := 0) g3 rfl
    have HO : Hid _ := g4
    clear g3 g4
    go_wp2
    go_ret2
    exact ⟨⟨vo, vc, rfl, HB.out.2 ▸ HO.out⟩, HE.out _ HG.out.2⟩
end Go.Proofs.YthjkjanibkpgiaaDoor
