/- greatestClique, and Clique. -/
import Derived.Test.YtdnmoifbkojnlaaDoorCliqW
import Derived.Test.YtdnmoifbkojnlaaDoorNum
namespace Go.Proofs.YtdnmoifbkojnlaaDoor
open Go.RowKit Go.Maps
attribute [local go_sem ↓] Go.wp_at_zero Go.wp_at_succ

set_option maxHeartbeats 600000 in
theorem below_call {w : World} {n : Nat} (hn : n ≤ 24) : Calls Tryd.prog 29 #[.int .i64 (n : Int)] w fun e w' => e = .returned (.int .u32 ((2 ^ n - 1 : Nat) : Int)) ∧ w' = w := by
  have hp := pow_lt32 (v := n) (by omega)
  have hp0 := Nat.two_pow_pos n
  obtain ⟨P, hP⟩ : ∃ P, P = 2 ^ n := ⟨_, rfl⟩
  have H24 : Hid (Calls Tryd.prog 24 #[.int .i64 (n : Int)] w fun e w' => e = .returned (.int .u32 (P : Int)) ∧ w' = w) := by
    show Calls _ _ _ _ _
    rw [hP]; exact only_call (by omega)
  rw [← hP] at hp hp0 ⊢
  clear hP
  go_enter Tryd.func29, Tryd.ntmps29
  go_wp2_with (first | (go_at_call 24; refine Calls.mono H24.out ?_; rintro e _ ⟨rfl, rfl⟩) | go_in)
  go_ret
  exact ⟨by rw [show ((P - 1 : Nat) : Int) = (P : Int) - 1 by omega]; rfl, rfl⟩
set_option maxRecDepth 4000 in
set_option maxHeartbeats 3000000 in
theorem greatest_call {w : World} {gn n : Nat} {mask : Nat → Nat} {adj : Nat → Nat → Bool} (hn : n ≤ 24) (hrow : RowV w gn 57 n (fun v => .int .u32 ((mask v : Nat) : Int))) (hadj : ∀ v z, v < n → (mask v).testBit z = adj v z) (hmask : ∀ v, v < n → mask v < 4294967296) (ht : T32 w) {T : List Nat} (hT : T = cq adj (List.range n) [] []) :
    Calls Tryd.prog 16 #[sl gn n] w fun e w' => ∃ bo bc, e = .returned (.slice bo T.length bc) ∧ NumsAt w' bo T ∧ (∀ x, bo = some x → w.heap.size ≤ x.block) ∧ Below w.heap.size w w' := by
  have HROW : Hid (RowV w gn 57 n (fun v => .int .u32 ((mask v : Nat) : Int))) := hrow
  have HADJ : Hid (∀ v z, v < n → (mask v).testBit z = adj v z) := hadj
  have HMASK : Hid (∀ v, v < n → mask v < 4294967296) := hmask
  have HTAB : Hid (T32 w) := ht
  have hw0 : 0 < w.heap.size := World.block_lt_of_cell? w _ (ht 0 (by decide))
  have HT : Hid (T = cq adj (List.range n) [] []) := hT
  clear hrow hadj hmask ht hT
  go_enter Tryd.func16, Tryd.ntmps16
  go_upto_region 4 with (fail)
  have hB := below_alloc (below_alloc (below_alloc (below_alloc (Below.refl _ w) (Obj.cells #[sl gn n] 44)) (Obj.cells #[.slice none 0 0] 29)) (Obj.cells #[.slice none 0 0] 29)) (Obj.cells #[.func (.func 25) #[] #[ptr (w.heap.size + 1 + 1), ptr (w.heap.size + 1), ptr (w.heap.size + 1 + 1 + 1), ptr w.heap.size]] 59)
  have o1 : One ((((w.alloc (Obj.cells #[sl gn n] 44)).alloc (Obj.cells #[.slice none 0 0] 29)).alloc (Obj.cells #[.slice none 0 0] 29)).alloc (Obj.cells #[.func (.func 25) #[] #[ptr (w.heap.size + 1 + 1), ptr (w.heap.size + 1), ptr (w.heap.size + 1 + 1 + 1), ptr w.heap.size]] 59)) w.heap.size (sl gn n) 44 := box_up (box_up (box_up (atk rfl) _) _) _
  have o3 : One ((((w.alloc (Obj.cells #[sl gn n] 44)).alloc (Obj.cells #[.slice none 0 0] 29)).alloc (Obj.cells #[.slice none 0 0] 29)).alloc (Obj.cells #[.func (.func 25) #[] #[ptr (w.heap.size + 1 + 1), ptr (w.heap.size + 1), ptr (w.heap.size + 1 + 1 + 1), ptr w.heap.size]] 59)) (w.heap.size + 1) (.slice none 0 0) 29 := box_up (box_up (atk (by simp)) _) _
  have o4 : One ((((w.alloc (Obj.cells #[sl gn n] 44)).alloc (Obj.cells #[.slice none 0 0] 29)).alloc (Obj.cells #[.slice none 0 0] 29)).alloc (Obj.cells #[.func (.func 25) #[] #[ptr (w.heap.size + 1 + 1), ptr (w.heap.size + 1), ptr (w.heap.size + 1 + 1 + 1), ptr w.heap.size]] 59)) (w.heap.size + 1 + 1) (.slice none 0 0) 29 := box_up (atk (by simp)) _
  have o5 : One ((((w.alloc (Obj.cells #[sl gn n] 44)).alloc (Obj.cells #[.slice none 0 0] 29)).alloc (Obj.cells #[.slice none 0 0] 29)).alloc (Obj.cells #[.func (.func 25) #[] #[ptr (w.heap.size + 1 + 1), ptr (w.heap.size + 1), ptr (w.heap.size + 1 + 1 + 1), ptr w.heap.size]] 59)) (w.heap.size + 1 + 1 + 1) (.func (.func 25) #[] #[ptr (w.heap.size + 1 + 1), ptr (w.heap.size + 1), ptr (w.heap.size + 1 + 1 + 1), ptr w.heap.size]) 59 := atk (by simp)
  have hsz : ((((w.alloc (Obj.cells #[sl gn n] 44)).alloc (Obj.cells #[.slice none 0 0] 29)).alloc (Obj.cells #[.slice none 0 0] 29)).alloc (Obj.cells #[.func (.func 25) #[] #[ptr (w.heap.size + 1 + 1), ptr (w.heap.size + 1), ptr (w.heap.size + 1 + 1 + 1), ptr w.heap.size]] 59)).heap.size = w.heap.size + 4 := by simp
  obtain ⟨s0, hs0⟩ : ∃ s0, s0 = w.heap.size := ⟨_, rfl⟩
  have HS0 : Hid (s0 = w.heap.size) := hs0
  rw [← hs0] at hB o1 o3 o4 o5 hsz ⊢
  generalize (((w.alloc (Obj.cells #[sl gn n] 44)).alloc (Obj.cells #[.slice none 0 0] 29)).alloc (Obj.cells #[.slice none 0 0] 29)).alloc (Obj.cells #[.func (.func 25) #[] #[ptr (s0 + 1 + 1), ptr (s0 + 1), ptr (s0 + 1 + 1 + 1), ptr s0]] 59) = W at hB o1 o3 o4 o5 hsz ⊢
  have hBw : Below w.heap.size w W := by rw [← hs0]; exact hB
  have hgn := HROW.out.lt
  have hrW : RowV W gn 57 n (fun v => .int .u32 ((mask v : Nat) : Int)) := HROW.out.block (hBw.block _ hgn)
  have htW : T32 W := t32_turns HTAB.out (Turns.of_below hBw (fun _ => False)) id
  rw [← hs0] at hgn hw0
  obtain ⟨c, hc⟩ : ∃ c : Cl, c = ⟨s0 + 1 + 1, s0 + 1, s0 + 1 + 1 + 1, s0, gn, s0 + 4, n, mask⟩ := ⟨_, rfl⟩
  have hok : c.ok := by
    subst hc
    refine ⟨?_, ?_⟩ <;> simp only <;> omega
  have hcr : CR c W := by
    subst hc
    exact ⟨o5, o1, hrW, htW, Nat.le_of_eq hsz.symm⟩
  have hcq : CQ c W [] [] none 0 none 0 := by
    subst hc
    exact ⟨o4, World.ownsRow_nil _ _ _ _, o3, World.ownsRow_nil _ _ _ _, fun x hx => by simp [Value.ownBlock] at hx⟩
  have q5 : W.cell? ⟨s0 + 1 + 1 + 1, 0, none⟩ = some (.func (.func 25) #[] #[ptr (s0 + 1 + 1), ptr (s0 + 1), ptr (s0 + 1 + 1 + 1), ptr s0]) := box_cell o5 rfl
  have q1 : W.cell? ⟨s0, 0, none⟩ = some (sl gn n) := box_cell o1 rfl
  have hF25 := enter25
  obtain ⟨R, hR⟩ : ∃ R, R = 2 ^ n - 1 := ⟨_, rfl⟩
  have H29 : Hid (∀ W : World, Calls Tryd.prog 29 #[.int .i64 (n : Int)] W fun e w' => e = .returned (.int .u32 (R : Int)) ∧ w' = W) := fun W => by rw [hR]; exact below_call hn
  have hbR : bl R = List.range n := by rw [hR]; exact bl_below n (by omega)
  have hRl : R < 4294967296 := by have := pow_lt32 (v := n) (by omega); omega
  have hT := HT.out
  have hBd := (Below.refl W.heap.size W).drew
  have h25 := from25_call hok (adj := adj) (by subst hc; exact HADJ.out) (by subst hc; exact HMASK.out) (bl R).length R [] [] W.drew none 0 none 0 rfl hRl (by rw [hbR]; subst hc; exact fun v hv => List.mem_range.1 hv) (by rw [hbR]; simp; omega) (by simp) (hcr.turns hok (Turns.of_below hBd _)) (hcq.below hBd)
  have H25 : Hid (Calls Tryd.prog 25 #[.int .u32 (R : Int), ptr (s0 + 1 + 1), ptr (s0 + 1), ptr (s0 + 1 + 1 + 1), ptr s0] W.drew fun e w' => e = .returned (.tuple #[]) ∧ (∃ po pc bo bc, CQ c w' [] T po pc bo bc) ∧ Turns c.M W.drew w') := by
    have hu : upL [] [] = [] := rfl
    subst hc
    refine h25.mono (fun e w' h => ?_)
    obtain ⟨h1, h2, h3⟩ := h
    rw [hbR, hu, ← hT] at h2
    exact ⟨h1, h2, h3⟩
  have HCB : Hid (c.bb = s0 + 1 ∧ (∀ x, c.M x → s0 ≤ x) ∧ s0 ≤ c.lo) := by
    subst hc
    refine ⟨rfl, fun x hx => ?_, by simp only; omega⟩
    rcases hx with e | e | e <;> simp only at e <;> omega
  have HBW : Hid (Below w.heap.size w W) := hBw
  clear h25 hcq hcr hok hc hR hbR hRl hT o1 o3 o4 o5 hrW htW hBw hB hs0 hsz
  go_cut [] from 7 to 11 (fun wc => (∃ po pc bo bc, CQ c wc [] T po pc bo bc) ∧ Turns c.M W wc)
  case first =>
    go_region_with (first | (go_at_call 29; refine Calls.mono (H29.out _) ?_; rintro e Wx ⟨rfl, rfl⟩) | (refine Calls.mono H25.out ?_; rintro e W4 ⟨rfl, hq4, ht4⟩))
    all_goals
      go_wp2_with fail
      go_meet
      case rel => exact ⟨hq4, (Turns.of_below hBd _).trans ht4⟩
  case rest =>
    obtain ⟨⟨po, pc, bo, bc, hq⟩, ht⟩ := hcut
    generalize wc = W5 at hq ht ⊢
    have cb := hq.cells.2
    rw [HCB.out.1] at cb
    have hnum : NumsAt W5 bo T := numsAt_own hq.bown
    have hBf : Below w.heap.size w W5 := by
      have h0 := HBW.out
      refine Turns.below h0 ht h0.size (fun x hx => ?_)
      have := HCB.out.2.1 x hx
      have := HS0.out
      omega
    have hbl : ∀ x, bo = some x → w.heap.size ≤ x.block := fun x hx => by
      have h1 := (hq.bown.lt x.block (by rw [hx]; rfl)).1
      have h2 := HCB.out.2.2
      have h3 := HS0.out
      omega
    clear hq ht
    go_wp2
    go_ret
    exact ⟨bo, bc, rfl, hnum, hbl, hBf⟩
end Go.Proofs.YtdnmoifbkojnlaaDoor
