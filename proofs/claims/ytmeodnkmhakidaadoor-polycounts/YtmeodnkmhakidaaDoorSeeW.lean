/- What is told of a set of edges is counted: the literal of powers. -/
import Derived.Test.YtmeodnkmhakidaaDoorCntMR
import Derived.Test.YtmeodnkmhakidaaDoorRegM
namespace Go.Proofs.YtmeodnkmhakidaaDoor
set_option maxRecDepth 8000
open Go.RowKit Go.Maps Go.WideElems Go.ChangeMaps
attribute [local go_sem ↓] Go.wp_at_zero Go.wp_at_succ
def cn (F : Cts) (k : Nat × Nat) : Nat := (F k).getD 0
/-- What the statement keeps while its order is drawn. -/
structure SE (W : World) (mb n : Nat) (F : Cts) (k : Nat × Nat) (V : Nat → Value) (L : Nat → Bool) (f : Nat → Value) (w : World) : Prop where
  told : L 15 = false → ∀ i, i < 13 → L i = true → f i = V i
  w0 : L 13 = false → Below W.heap.size W w
  e13 : L 13 = true → L 15 = false → ∃ (st : Nat) (es1 : Array MapEntry) (clock1 : Nat) (A : World), f 13 = .tuple #[.int .i64 (cn F k : Int), goInt st] ∧ Turns (fun x => x = mb) W w ∧ w.heap[mb]? = some (.map es1 clock1) ∧ CntM w mb (n + 1) (updC F k (cn F k)) ∧ mb < A.heap.size ∧
    ∀ (w2 : World) (c : Nat), c < 1000000 → w2.heap[mb]? = some (.map es1 clock1) → ∃ es' clock', (Instr.entryStore 69 (.map (some mb)) (goInt st) (.int .i64 (c : Int))).run Tryd.prog w2 = .ok () (setBlock w2 mb (.map es' clock')) ∧ CntM (setBlock A mb (.map es' clock')) mb (n + 1) (updC F k c)
  t14 : L 14 = true → L 15 = false → ∃ v, f 13 = .tuple #[v, f 14]
  fin : L 15 = true → CntM w mb (n + 1) (updC F k (cn F k + 1)) ∧ Turns (fun x => x = mb) W w
  cl : L 15 = true → ∀ j, j < 15 → L j = true
section
variable {W : World} {mb n : Nat} {F : Cts} {k : Nat × Nat} {V : Nat → Value} {L : Nat → Bool} {f : Nat → Value} {w : World}
theorem SE.start : SE W mb n F k V (fun _ => false) f W.drew := ⟨fun _ _ _ h => (by cases h), fun _ => (Below.refl _ W).drew, fun h => (by cases h), fun h => (by cases h), fun h => (by cases h), fun h => (by cases h)⟩
theorem SE.open_ (h : SE W mb n F k V L f w) {i : Nat} (hL : L i = false) (hi : i < 15) : L 15 = false := by
  cases e : L 15 with
  | false => rfl
  | true => have := h.cl e i hi; rw [hL] at this; cases this
theorem SE.put (h : SE W mb n F k V L f w) {i : Nat} (hL : L i = false) (hi : i < 13) : SE W mb n F k V (also L i) (updV f i (V i)) w := by
  have h7 := h.open_ hL (by omega)
  have a7 : also L i 15 = false := by rw [also_at (by omega)]; exact h7
  refine ⟨fun _ j hj hk => ?_, fun hk => ?_, fun hk _ => ?_, fun hk _ => ?_, fun hk => (by rw [a7] at hk; cases hk), fun hk => (by rw [a7] at hk; cases hk)⟩
  · by_cases e : j = i
    · subst e; rw [updV_same]
    · rw [updV_ne _ _ e]; exact h.told h7 j hj (by rwa [also_at e] at hk)
  · rw [also_at (by omega)] at hk; exact h.w0 hk
  · rw [also_at (by omega)] at hk
    rw [updV_ne _ _ (by omega)]
    exact h.e13 hk h7
  · rw [also_at (by omega)] at hk
    rw [updV_ne _ _ (by omega), updV_ne _ _ (by omega)]
    exact h.t14 hk h7
end
theorem setBlock_turns (w : World) (b : Nat) (o : Obj) : Turns (fun x => x = b) w (setBlock w b o) := ⟨rfl, rfl, rfl, by simp [setBlock], fun k hk hn => by
  show (w.heap.setIfInBounds b o)[k]? = w.heap[k]?
  rw [Array.getElem?_setIfInBounds_ne (fun e => hn e.symm)]⟩
theorem setBlock_at {w : World} {b : Nat} (h : b < w.heap.size) (o : Obj) : (setBlock w b o).heap[b]? = some o := by
  show (w.heap.setIfInBounds b o)[b]? = some o
  rw [Array.getElem?_setIfInBounds_self_of_lt h]
def V29 (mb bg p s whole N : Nat) (F : Cts) (k : Nat × Nat) : Nat → Value
  | 0 => .map (some mb)
  | 1 => .int .i64 (p : Int)
  | 2 => .int .i64 (whole : Int)
  | 3 => .int .i64 (k.1 : Int)
  | 4 => .int .i64 (p : Int)
  | 5 => .int .i64 (s : Int)
  | 6 => .int .i64 ((p : Int) + (s : Int))
  | 7 => .pointer (some ⟨bg, 0, none⟩)
  | 8 => .int .i64 (N : Int)
  | 9 => .int .i64 (k.2 : Int)
  | 10 => kv k
  | 11 => .int .i64 (cn F k : Int)
  | 12 => .int .i64 ((cn F k : Int) + 1)
  | _ => undef
set_option maxHeartbeats 4000000 in
theorem see_call {w : World} {bm bw bg mb p s whole N n : Nat} {ev : Value} {F : Cts} (h1 : One w bm (.map (some mb)) 69) (h2 : One w bw (.int .i64 (whole : Int)) 3) (h3 : Two w bg (.int .i64 (N : Int)) ev 24) (hM : CntM w mb n F) (hp : whole ≤ p) (hp2 : p ≤ 500) (hs : s ≤ 400) (hN : N ≤ p + s) (hc : cn F (p - whole, p + s - N) < 900000) (hn : n < 1000000000) :
    Calls Tryd.prog 52 #[.int .i64 (p : Int), .int .i64 (s : Int), ptr bm, ptr bw, ptr bg] w fun e w' => e = .returned (.tuple #[]) ∧ CntM w' mb (n + 1) (updC F (p - whole, p + s - N) (cn F (p - whole, p + s - N) + 1)) ∧ Turns (fun x => x = mb) w w' := by
  obtain ⟨k, hk⟩ : ∃ k : Nat × Nat, k = (p - whole, p + s - N) := ⟨_, rfl⟩
  rw [← hk] at hc ⊢
  have hko : KOk k := by rw [hk]; exact ⟨by show p - whole < 1000; omega, by show p + s - N < 1000; omega⟩
  have hk1 : (p : Int) - (whole : Int) = (k.1 : Int) := by rw [hk]; show (p : Int) - (whole : Int) = ((p - whole : Nat) : Int); omega
  have hk2 : (p : Int) + (s : Int) - (N : Int) = (k.2 : Int) := by rw [hk]; show (p : Int) + (s : Int) - (N : Int) = ((p + s - N : Nat) : Int); omega
  have H1 : Hid (One w bm (.map (some mb)) 69 ∧ One w bw (.int .i64 (whole : Int)) 3 ∧ Two w bg (.int .i64 (N : Int)) ev 24) := ⟨h1, h2, h3⟩
  have HM : Hid (CntM w mb n F) := hM
  clear h1 h2 h3 hM hk
  go_enter Tryd.func52, Tryd.ntmps52
  go_upto_region 0 with (fail)
  refine region_ext (J := SE w mb n F k (V29 mb bg p s whole N F k)) (by kernel_rfl) (by kernel_rfl) (by kernel_rfl) SE.start ?_ ?_
  · intro i o hi L xs a w1 hJ hL hd hcl hX
    have before : ∀ {i : Nat}, L i = false → i < 11 → L 13 = false := fun {i} hL hi => by
      cases e : L 13 with
      | false => rfl
      | true =>
        have : L i = true := by
          have : i = 0 ∨ i = 1 ∨ i = 2 ∨ i = 3 ∨ i = 4 ∨ i = 5 ∨ i = 6 ∨ i = 7 ∨ i = 8 ∨ i = 9 ∨ i = 10 := by omega
          rcases this with rfl | rfl | rfl | rfl | rfl | rfl | rfl | rfl | rfl | rfl | rfl
          · exact hcl 13 _ rfl e ⟨0, .phase⟩ (by simp) rfl
          · exact hcl 13 _ rfl e ⟨1, .phase⟩ (by simp) rfl
          · exact hcl 13 _ rfl e ⟨2, .phase⟩ (by simp) rfl
          · exact hcl 13 _ rfl e ⟨3, .phase⟩ (by simp) rfl
          · exact hcl 13 _ rfl e ⟨4, .phase⟩ (by simp) rfl
          · exact hcl 13 _ rfl e ⟨5, .phase⟩ (by simp) rfl
          · exact hcl 13 _ rfl e ⟨6, .phase⟩ (by simp) rfl
          · exact hcl 13 _ rfl e ⟨7, .phase⟩ (by simp) rfl
          · exact hcl 13 _ rfl e ⟨8, .phase⟩ (by simp) rfl
          · exact hcl 13 _ rfl e ⟨9, .phase⟩ (by simp) rfl
          · exact hcl 13 _ rfl e ⟨10, .phase⟩ (by simp) rfl
        rw [hL] at this; cases this
    match i, hi with
    | 0, hi =>
      cases hi
      have hb := hJ.w0 (before hL (by omega))
      have c : w1.cell? ⟨bm, 0, none⟩ = some (.map (some mb)) := box_cell (cs := #[.map (some mb)]) ((hb.block _ (lt_of_block H1.out.1)).trans H1.out.1) rfl
      have s2 := hX.out (s := 2) rfl
      refine wpOp_value rfl rfl (v := .map (some mb)) (w' := w1) ?_ ⟨_, rfl, hJ.put hL (by omega)⟩
      simp [go_sem, Act.eval, s2, c]
    | 1, hi =>
      cases hi
      have s0 := hX.out (s := 0) rfl
      refine wpOp_value rfl rfl (v := .int .i64 (p : Int)) (w' := w1) ?_ ⟨_, rfl, hJ.put hL (by omega)⟩
      simp [go_sem, Act.eval, s0]
    | 2, hi =>
      cases hi
      have hb := hJ.w0 (before hL (by omega))
      have c : w1.cell? ⟨bw, 0, none⟩ = some (.int .i64 (whole : Int)) := box_cell (cs := #[.int .i64 (whole : Int)]) ((hb.block _ (lt_of_block H1.out.2.1)).trans H1.out.2.1) rfl
      have s3 := hX.out (s := 3) rfl
      refine wpOp_value rfl rfl (v := .int .i64 (whole : Int)) (w' := w1) ?_ ⟨_, rfl, hJ.put hL (by omega)⟩
      simp [go_sem, Act.eval, s3, c]
    | 3, hi =>
      cases hi
      have l1 := hd ⟨1, .data⟩ (by simp) rfl
      have l2 := hd ⟨2, .data⟩ (by simp) rfl
      have r1 := (hX.rd 1 _ 8 rfl rfl l1).trans (hJ.told (hJ.open_ hL (by omega)) 1 (by omega) l1)
      have r2 := (hX.rd 2 _ 9 rfl rfl l2).trans (hJ.told (hJ.open_ hL (by omega)) 2 (by omega) l2)
      simp only [V29] at r1 r2
      refine wpOp_value rfl rfl (v := .int .i64 (k.1 : Int)) (w' := w1) ?_ ⟨_, rfl, hJ.put hL (by omega)⟩
      have hw : IntKind.i64.wrap (k.1 : Int) = (k.1 : Int) := by rw [IntKind.wrap_i64]; have := hko.1; omega
      simp [go_sem, Act.eval, r1, r2, hk1, hw]
    | 4, hi =>
      cases hi
      have s0 := hX.out (s := 0) rfl
      refine wpOp_value rfl rfl (v := .int .i64 (p : Int)) (w' := w1) ?_ ⟨_, rfl, hJ.put hL (by omega)⟩
      simp [go_sem, Act.eval, s0]
    | 5, hi =>
      cases hi
      have s1 := hX.out (s := 1) rfl
      refine wpOp_value rfl rfl (v := .int .i64 (s : Int)) (w' := w1) ?_ ⟨_, rfl, hJ.put hL (by omega)⟩
      simp [go_sem, Act.eval, s1]
    | 6, hi =>
      cases hi
      have l4 := hd ⟨4, .data⟩ (by simp) rfl
      have l5 := hd ⟨5, .data⟩ (by simp) rfl
      have r4 := (hX.rd 4 _ 11 rfl rfl l4).trans (hJ.told (hJ.open_ hL (by omega)) 4 (by omega) l4)
      have r5 := (hX.rd 5 _ 12 rfl rfl l5).trans (hJ.told (hJ.open_ hL (by omega)) 5 (by omega) l5)
      simp only [V29] at r4 r5
      refine wpOp_value rfl rfl (v := .int .i64 ((p : Int) + (s : Int))) (w' := w1) ?_ ⟨_, rfl, hJ.put hL (by omega)⟩
      have hw : IntKind.i64.wrap ((p : Int) + (s : Int)) = (p : Int) + (s : Int) := by rw [IntKind.wrap_i64]; omega
      simp [go_sem, Act.eval, r4, r5, hw]
    | 7, hi =>
      cases hi
      have s4 := hX.out (s := 4) rfl
      refine wpOp_value rfl rfl (v := .pointer (some ⟨bg, 0, none⟩)) (w' := w1) ?_ ⟨_, rfl, hJ.put hL (by omega)⟩
      simp [go_sem, Act.eval, s4]
    | 8, hi =>
      cases hi
      have hb := hJ.w0 (before hL (by omega))
      have l7 := hd ⟨7, .data⟩ (by simp) rfl
      have r7 := (hX.rd 7 _ 14 rfl rfl l7).trans (hJ.told (hJ.open_ hL (by omega)) 7 (by omega) l7)
      simp only [V29] at r7
      obtain ⟨c, _⟩ := cell_two (two_next H1.out.2.2 hb)
      refine wpOp_value rfl rfl (v := .int .i64 (N : Int)) (w' := w1) ?_ ⟨_, rfl, hJ.put hL (by omega)⟩
      simp [go_sem, Act.eval, r7, c]
    | 9, hi =>
      cases hi
      have l6 := hd ⟨6, .data⟩ (by simp) rfl
      have l8 := hd ⟨8, .data⟩ (by simp) rfl
      have r6 := (hX.rd 6 _ 13 rfl rfl l6).trans (hJ.told (hJ.open_ hL (by omega)) 6 (by omega) l6)
      have r8 := (hX.rd 8 _ 15 rfl rfl l8).trans (hJ.told (hJ.open_ hL (by omega)) 8 (by omega) l8)
      simp only [V29] at r6 r8
      refine wpOp_value rfl rfl (v := .int .i64 (k.2 : Int)) (w' := w1) ?_ ⟨_, rfl, hJ.put hL (by omega)⟩
      have hw : IntKind.i64.wrap (k.2 : Int) = (k.2 : Int) := by rw [IntKind.wrap_i64]; have := hko.2; omega
      simp [go_sem, Act.eval, r6, r8, hk2, hw]
    | 10, hi =>
      cases hi
      have l3 := hd ⟨3, .data⟩ (by simp) rfl
      have l9 := hd ⟨9, .data⟩ (by simp) rfl
      have r3 := (hX.rd 3 _ 10 rfl rfl l3).trans (hJ.told (hJ.open_ hL (by omega)) 3 (by omega) l3)
      have r9 := (hX.rd 9 _ 16 rfl rfl l9).trans (hJ.told (hJ.open_ hL (by omega)) 9 (by omega) l9)
      simp only [V29, Array.getD_eq_getD_getElem?] at r3 r9
      refine wpOp_value rfl rfl (v := kv k) (w' := w1) ?_ ⟨_, rfl, hJ.put hL (by omega)⟩
      simp [go_sem, Act.eval, r3, r9]
    | 11, hi =>
      cases hi
      have l0 := hd ⟨0, .data⟩ (by simp) rfl
      have l10 := hd ⟨10, .data⟩ (by simp) rfl
      have r0 := (hX.rd 0 _ 7 rfl rfl l0).trans (hJ.told (hJ.open_ hL (by omega)) 0 (by omega) l0)
      have r10 := (hX.rd 10 _ 17 rfl rfl l10).trans (hJ.told (hJ.open_ hL (by omega)) 10 (by omega) l10)
      simp only [V29] at r0 r10
      have hg : (Instr.lookup 69 (.map (some mb)) (kv k) false).run Tryd.prog w1 = .ok (.int .i64 (cn F k : Int)) w1 := by
        cases e : L 13 with
        | false => exact (HM.out.under (hJ.w0 e)).get hko
        | true =>
          obtain ⟨st, es1, clock1, A, _, _, _, hC, _⟩ := hJ.e13 e (hJ.open_ hL (by omega))
          have := hC.get hko
          rw [updC_same] at this
          exact this
      refine wpOp_value rfl rfl (v := .int .i64 (cn F k : Int)) (w' := w1) ?_ ⟨_, rfl, hJ.put hL (by omega)⟩
      simp [go_sem, Act.eval, r0, r10, hg]
    | 12, hi =>
      cases hi
      have l11 := hd ⟨11, .data⟩ (by simp) rfl
      have r11 := (hX.rd 11 _ 18 rfl rfl l11).trans (hJ.told (hJ.open_ hL (by omega)) 11 (by omega) l11)
      simp only [V29] at r11
      refine wpOp_value rfl rfl (v := .int .i64 ((cn F k : Int) + 1)) (w' := w1) ?_ ⟨_, rfl, hJ.put hL (by omega)⟩
      have hw : IntKind.i64.wrap ((cn F k : Int) + 1) = (cn F k : Int) + 1 := by rw [IntKind.wrap_i64]; omega
      simp [go_sem, Act.eval, r11, hw]
    | 13, hi =>
      cases hi
      have l0 := hd ⟨0, .data⟩ (by simp) rfl
      have l10 := hd ⟨10, .data⟩ (by simp) rfl
      have h15 := hJ.open_ hL (by omega)
      have r0 := (hX.rd 0 _ 7 rfl rfl l0).trans (hJ.told h15 0 (by omega) l0)
      have r10 := (hX.rd 10 _ 17 rfl rfl l10).trans (hJ.told h15 10 (by omega) l10)
      simp only [V29] at r0 r10
      have hb := hJ.w0 hL
      have hM1 := HM.out.under hb
      obtain ⟨st, es1, clock1, hrun, hC, hst⟩ := hM1.entry hko hc hn
      refine wpOp_value rfl rfl (v := .tuple #[.int .i64 (cn F k : Int), goInt st]) (w' := setBlock w1 mb (.map es1 clock1)) ?_ ⟨_, rfl, ?_⟩
      · simp [go_sem, Act.eval, r0, r10]
        rw [hrun]
        rfl
      · have a15 : also L 13 15 = false := by rw [also_at (by omega)]; exact h15
        refine ⟨fun _ j hj hk => ?_, fun hk => ?_, fun _ _ => ⟨st, es1, clock1, w1, updV_same _ _ _, ?_, setBlock_at hM1.lt _, hC, hM1.lt, hst⟩, fun hk _ => ?_, fun hk => (by rw [a15] at hk; cases hk), fun hk => (by rw [a15] at hk; cases hk)⟩
        · rw [updV_ne _ _ (by omega)]; exact hJ.told h15 j hj (by rwa [also_at (by omega)] at hk)
        · rw [also_self] at hk; cases hk
        · exact (Turns.of_below hb _).trans (setBlock_turns _ _ _)
        · rw [also_at (by omega)] at hk
          have := hcl 14 _ rfl hk ⟨13, .data⟩ (by simp) rfl
          rw [hL] at this; cases this
    | 14, hi =>
      cases hi
      have l13 := hd ⟨13, .data⟩ (by simp) rfl
      have h15 := hJ.open_ hL (by omega)
      obtain ⟨st, es1, clock1, A, e13, h2', h3', h4', h5', h6'⟩ := hJ.e13 l13 h15
      have r13 := (hX.rd 13 _ 20 rfl rfl l13).trans e13
      refine wpOp_value rfl rfl (v := goInt st) (w' := w1) ?_ ⟨_, rfl, ?_⟩
      · simp [go_sem, Act.eval, r13]
      · have a15 : also L 14 15 = false := by rw [also_at (by omega)]; exact h15
        refine ⟨fun _ j hj hk => ?_, fun hk => ?_, fun _ _ => ⟨st, es1, clock1, A, ?_, h2', h3', h4', h5', h6'⟩, fun hk _ => ⟨_, by rw [updV_same, updV_ne _ _ (by omega)]; exact e13⟩, fun hk => (by rw [a15] at hk; cases hk), fun hk => (by rw [a15] at hk; cases hk)⟩
        · rw [updV_ne _ _ (by omega)]; exact hJ.told h15 j hj (by rwa [also_at (by omega)] at hk)
        · rw [also_at (by omega), l13] at hk; cases hk
        · rw [updV_ne _ _ (by omega)]; exact e13
    | 15, hi =>
      cases hi
      have l0 := hd ⟨0, .data⟩ (by simp) rfl
      have l12 := hd ⟨12, .data⟩ (by simp) rfl
      have l13 := hd ⟨13, .chain⟩ (by simp) rfl
      have l14 := hd ⟨14, .data⟩ (by simp) rfl
      have r0 := (hX.rd 0 _ 7 rfl rfl l0).trans (hJ.told hL 0 (by omega) l0)
      have r12 := (hX.rd 12 _ 19 rfl rfl l12).trans (hJ.told hL 12 (by omega) l12)
      simp only [V29] at r0 r12
      obtain ⟨st, es1, clock1, A, e13, hT, hw1, _, hA, hst⟩ := hJ.e13 l13 hL
      obtain ⟨v, e14⟩ := hJ.t14 l14 hL
      rw [e13] at e14
      simp only [Value.tuple.injEq, Array.mk.injEq, List.cons.injEq, and_true] at e14
      have r14 := (hX.rd 14 _ 21 rfl rfl l14).trans e14.2.symm
      obtain ⟨es', clock', hrun, hC⟩ := hst w1 (cn F k + 1) (by omega) hw1
      have hmb : mb < w1.heap.size := (Array.getElem?_eq_some_iff.1 hw1).1
      have hrun' : (Instr.entryStore 69 (.map (some mb)) (.int .i64 (st : Int)) (.int .i64 ((cn F k : Int) + 1))).run Tryd.prog w1 = .ok () (setBlock w1 mb (.map es' clock')) := by
        have e : ((cn F k + 1 : Nat) : Int) = (cn F k : Int) + 1 := by omega
        rw [← e]; exact hrun
      refine wpOp_skip rfl rfl (w' := setBlock w1 mb (.map es' clock')) ?_ ⟨undef, rfl, ?_⟩
      · simp [go_sem, Act.eval, r0, r12, r14]
        rw [hrun']
        rfl
      · have hall : ∀ j, j < 15 → L j = true := fun j hj => by
          have : j = 0 ∨ j = 1 ∨ j = 2 ∨ j = 3 ∨ j = 4 ∨ j = 5 ∨ j = 6 ∨ j = 7 ∨ j = 8 ∨ j = 9 ∨ j = 10 ∨ j = 11 ∨ j = 12 ∨ j = 13 ∨ j = 14 := by omega
          rcases this with rfl | rfl | rfl | rfl | rfl | rfl | rfl | rfl | rfl | rfl | rfl | rfl | rfl | rfl | rfl
          · exact hd ⟨0, .phase⟩ (by simp) rfl
          · exact hd ⟨1, .phase⟩ (by simp) rfl
          · exact hd ⟨2, .phase⟩ (by simp) rfl
          · exact hd ⟨3, .phase⟩ (by simp) rfl
          · exact hd ⟨4, .phase⟩ (by simp) rfl
          · exact hd ⟨5, .phase⟩ (by simp) rfl
          · exact hd ⟨6, .phase⟩ (by simp) rfl
          · exact hd ⟨7, .phase⟩ (by simp) rfl
          · exact hd ⟨8, .phase⟩ (by simp) rfl
          · exact hd ⟨9, .phase⟩ (by simp) rfl
          · exact hd ⟨10, .phase⟩ (by simp) rfl
          · exact hd ⟨11, .phase⟩ (by simp) rfl
          · exact hd ⟨12, .phase⟩ (by simp) rfl
          · exact hd ⟨13, .phase⟩ (by simp) rfl
          · exact hd ⟨14, .phase⟩ (by simp) rfl
        have a15 : also L 15 15 = true := also_self _ _
        have a13 : also L 15 13 = true := by rw [also_at (by omega)]; exact l13
        refine ⟨fun hk => (by rw [a15] at hk; cases hk), fun hk => (by rw [a13] at hk; cases hk), fun _ hk => (by rw [a15] at hk; cases hk), fun _ hk => (by rw [a15] at hk; cases hk), fun _ => ⟨hC.block ?_, hT.trans (setBlock_turns _ _ _)⟩, fun _ j hj => also_of (hall j hj) _⟩
        rw [setBlock_at hmb, setBlock_at hA]
    | m + 16, hi => cases hi
  · intro L0 xv w1 hJ hall
    obtain ⟨h1, h2⟩ := hJ.fin (hall 15 (by simp))
    have HF : Hid _ := And.intro h1 h2
    clear hJ hall h1 h2
    simp only [puts, Act.put, List.setIfInBounds_toArray, List.set_cons_succ, List.set_cons_zero]
    go_wp2
    go_end0
    exact ⟨rfl, HF.out⟩
end Go.Proofs.YtmeodnkmhakidaaDoor
