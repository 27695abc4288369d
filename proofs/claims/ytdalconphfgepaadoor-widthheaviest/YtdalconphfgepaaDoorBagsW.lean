/- Bags along an order: width.bagsAlong answers (what the bags are is not told here). -/
import Derived.Test.YtdalconphfgepaaDoorOrderW
import Derived.Test.YtdalconphfgepaaDoorHasF
namespace Go.Proofs.YtdalconphfgepaaDoor
set_option maxRecDepth 8000
open Go.RowKit Go.Maps
attribute [local go_sem ↓] Go.wp_at_zero Go.wp_at_succ
theorem own_turns {w w' : World} {base : Nat} {t : TypeId} {sz : Nat} {v : Value} {n : Nat} {xs : List Value} (h : w.ownsRow base t sz v n xs) {row : Option Nat} (hg : w.grownBy w' row) (hne : ∀ g, v.ownBlock = some g → row ≠ some g) : w'.ownsRow base t sz v n xs :=
  ownsRow_blocks h (fun g hv => hg.block g (h.lt g hv).2 (fun e => hne g hv e.symm))
theorem own_types {w : World} {base base' : Nat} {t t' : TypeId} {sz sz' : Nat} {v v' : Value} {n n' : Nat} {xs xs' : List Value} (h : w.ownsRow base t sz v n xs) (h' : w.ownsRow base' t' sz' v' n' xs') (ht : t ≠ t') : ∀ g, v.ownBlock = some g → v'.ownBlock ≠ some g := fun g hg hg' => by
  obtain ⟨c, h1⟩ := own_cells h hg
  obtain ⟨c', h2⟩ := own_cells h' hg'
  rw [h1] at h2
  simp at h2
  exact ht h2.2
set_option maxHeartbeats 8000000 in
theorem bags_call {w : World} {bn N vc : Nat} {vo : Option Addr} {near : List Nat} {f : Nat → Nat} (hS : SetsAt w bn near) (hl : near.length = N) (hN : N ≤ 100) (hbit : ∀ u x, (at' near u).testBit x = true → x < N) (ht : T64 w) (hO : NumF w vo N (fun j => (f j : Int))) (hf : ∀ j, j < N → f j < N) :
    Calls Tryd.prog 28 #[sl bn N, .slice vo N vc] w fun e w' => (∃ bv uv, e = .returned (.tuple #[bv, uv])) ∧ Below w.heap.size w w' := by
  have HH : Hid (SetsAt w bn near ∧ T64 w ∧ NumF w vo N (fun j => (f j : Int)) ∧ (∀ j, j < N → f j < N) ∧ (∀ u x, (at' near u).testBit x = true → x < N) ∧ near.length = N) := ⟨hS, ht, hO, hf, hbit, hl⟩
  obtain ⟨i3, hi3, hy0, hy1, hy2⟩ := info_parts Tryd.info3
  obtain ⟨i30, hi30, hz0, hz1, hz2⟩ := info_parts Tryd.info30
  clear hS ht hO hf hbit hl
  go_enter Tryd.func28, Tryd.ntmps28
  go_upto_region 3 with (fail)
  have x6 : SBox (w.alloc (Obj.cells #[.int .u64 0, .int .u64 0] 76)) w.heap.size 0 := two_new w (.int .u64 0) (.int .u64 0) 76
  have hB0 := below_alloc (Below.refl _ w) (Obj.cells #[.int .u64 0, .int .u64 0] 76)
  have hsz : (w.alloc (Obj.cells #[.int .u64 0, .int .u64 0] 76)).heap.size = w.heap.size + 1 := by simp
  obtain ⟨b6, hb6⟩ : ∃ b, b = w.heap.size := ⟨_, rfl⟩
  rw [← hb6] at x6 hsz ⊢
  generalize w.alloc (Obj.cells #[.int .u64 0, .int .u64 0] 76) = W0 at *
  have HB6 : Hid (w.heap.size ≤ b6) := by rw [hb6]; exact Nat.le_refl _
  have HW0 : Hid (SBox W0 b6 0 ∧ Below w.heap.size w W0 ∧ W0.heap.size = b6 + 1) := ⟨x6, hB0, hsz⟩
  clear x6 hB0 hsz hb6
  go_loopw [4, 5, 7, 8, 9, 12] (fun s4 s5 _ _ _ s12 wz => ∃ (k g : Nat) (xs ys : List Value) (ba ua : Option Addr) (bc uc : Nat), k ≤ N ∧ s12 = .int .i64 (k : Int) ∧ s4 = .slice ba k bc ∧ s5 = .slice ua k uc ∧ Hid (g < 2 ^ 128 ∧ SBox wz b6 g ∧ Below w.heap.size w wz ∧ wz.ownsRow (b6 + 1) 30 1 (.slice ba k bc) k xs ∧ wz.ownsRow (b6 + 1) 3 1 (.slice ua k uc) k ys)) (fun _ _ _ _ _ s12 _ => N - (numOf s12).toNat)
  case atStart => exact ⟨0, 0, [], [], none, none, 0, 0, Nat.zero_le _, rfl, rfl, rfl, ⟨by decide, HW0.out.1, HW0.out.2.1, World.ownsRow_nil _ _ _ _, World.ownsRow_nil _ _ _ _⟩⟩
  case round =>
    obtain ⟨k, g, xs, ys, ba, ua, bc, uc, hk, rfl, rfl, rfl, hI⟩ := hrel
    clear HW0
    by_cases hlt : k < N
    · obtain ⟨ob, off, he, co⟩ := HH.out.2.2.1 k hlt
      have co' : wr.cell? ⟨ob, off + k, none⟩ = some (.int .i64 (f k : Int)) := by rw [hI.out.2.2.1.cell (World.block_lt_of_cell? w _ co)]; exact co
      have hfk := HH.out.2.2.2.1 k hlt
      have hgl := hI.out.1
      obtain ⟨a0, a1⟩ := cell_two hI.out.2.1
      have C49 : Hid _ := behind_call (v := f k) (gone := g) (HH.out.1.under hI.out.2.2.1) HH.out.2.2.2.2.2 hN HH.out.2.2.2.2.1 hgl hfk (HH.out.2.1.under hI.out.2.2.1)
      obtain ⟨led, hled⟩ : ∃ l, l = behS near g (f k) := ⟨_, rfl⟩
      have hll : led < 2 ^ 128 := by rw [hled]; exact behS_lt HH.out.1.lt (by omega)
      rw [← hled] at C49
      have C53 : Hid (∀ A, Calls Tryd.prog 53 #[sv led, .int .i64 (f k : Int)] A fun e w' => e = .returned (sv (sAdd led (f k))) ∧ Below A.heap.size A w') := fun A => with_call hll (by omega)
      have C43 : Hid (∀ A, T64 A → Calls Tryd.prog 43 #[sv (sAdd led (f k))] A fun e w' => RisA A w' e (elems (sAdd led (f k)))) := fun A hA => rising_call (add_lt hll (by omega)) hA
      have C54 : Hid (∀ A, Below w.heap.size w A → Calls Tryd.prog 54 #[.slice vo N vc, .int .i64 ((k + 1 : Nat) : Int), sv led] A fun e w' => e = .returned (.int .i64 (firstIn N f led (k + 1))) ∧ Below A.heap.size A w') := fun A hA => firstIn_call (fun j hj => by
        obtain ⟨b', off', e', hc'⟩ := HH.out.2.2.1 j hj
        exact ⟨b', off', e', by rw [hA.cell (World.block_lt_of_cell? w _ hc')]; exact hc'⟩) (by omega) (fun j hj => by have := HH.out.2.2.2.1 j hj; omega) hll (by omega)
      have C46 : Hid (∀ A, SBox A b6 g → Calls Tryd.prog 46 #[.pointer (some ⟨b6, 0, none⟩), .int .i64 (f k : Int)] A fun e w' => e = .returned (.tuple #[]) ∧ SBox w' b6 (sAdd g (f k)) ∧ Turns (fun x => x = b6) A w') := fun A hA => add_sbox hgl (by omega) hA
      have HGL : Hid (sAdd g (f k) < 2 ^ 128) := add_lt hgl (by omega)
      have HEL : Hid ((elems (sAdd led (f k))).length ≤ 128) := count_le _
      generalize hfi : firstIn N f led (k + 1) = fi at *
      generalize elems (sAdd led (f k)) = EE at *
      generalize sAdd led (f k) = lv at *
      generalize sAdd g (f k) = g2 at *
      subst he
      have i1 : (0 : Int) ≤ (k : Int) := by omega
      have i2 : (k : Int) < (N : Int) := by omega
      clear co hled hfi
      go_upto_region 6 with (first | (go_at_call 49; refine Calls.mono C49.out ?_; rintro e w3 ⟨rfl, h3⟩) | fail)
      have x9 := two_new w3 (.int .u64 (lo64 led : Int)) (.int .u64 (hi64 led : Int)) 76
      have hB4 := below_alloc h3 (Obj.cells #[.int .u64 (lo64 led : Int), .int .u64 (hi64 led : Int)] 76)
      obtain ⟨b9, hb9⟩ : ∃ b, b = w3.heap.size := ⟨_, rfl⟩
      have hle9 : wr.heap.size ≤ b9 := by rw [hb9]; exact h3.size
      rw [← hb9] at x9 ⊢
      generalize w3.alloc (Obj.cells #[.int .u64 (lo64 led : Int), .int .u64 (hi64 led : Int)] 76) = W4 at *
      have HW4 : Hid (SBox W4 b6 g ∧ SBox W4 b9 led ∧ Below w.heap.size w W4 ∧ Below wr.heap.size wr W4 ∧ wr.heap.size ≤ b9) := ⟨two_next hI.out.2.1 hB4, x9, below_next hI.out.2.2.1 hB4, hB4, hle9⟩
      have HI : Hid _ := hI.out
      clear x9 hB4 hb9 hle9 h3 hI C49 a0 a1 co'
      obtain ⟨d0, d1⟩ := cell_two HW4.out.2.1
      have HKP : Hid (∀ A, Below W4.heap.size W4 A → A.ownsRow (b6 + 1) 30 1 (.slice ba k bc) k xs ∧ A.ownsRow (b6 + 1) 3 1 (.slice ua k uc) k ys ∧ T64 A ∧ b6 + 1 ≤ A.heap.size ∧ SBox A b6 g ∧ SBox A b9 led ∧ Below w.heap.size w A ∧ ∀ j, (Value.slice ba k bc).ownBlock = some j → j < b9) := fun A hA => by
        have hb := below_next HW4.out.2.2.2.1 hA
        have hg : wr.grownBy A none := ⟨hb.os, hb.tape, hb.output, hb.size, fun j hj _ => hb.block j hj⟩
        refine ⟨own_turns HI.out.2.2.2.1 hg (fun j hj e => by cases e), own_turns HI.out.2.2.2.2 hg (fun j hj e => by cases e), HH.out.2.1.under (below_next HW4.out.2.2.1 hA), ?_, two_next HW4.out.1 hA, two_next HW4.out.2.1 hA, below_next HW4.out.2.2.1 hA, fun j hj => ?_⟩
        · have h1 := lt_of_block HI.out.2.1
          have h2 := hb.size
          omega
        · have h1 := (HI.out.2.2.2.1.lt j hj).2
          have h2 := HW4.out.2.2.2.2
          omega
      have HK2 : Hid (∀ j, (Value.slice ua k uc).ownBlock = some j → j < b9 ∧ b6 + 1 ≤ j) := fun j hj => by
        have h1 := HI.out.2.2.2.2.lt j hj
        have h2 := HW4.out.2.2.2.2
        exact ⟨by omega, h1.1⟩
      go_upto_region 7 with (first | (go_at_call 53; refine Calls.mono (C53.out _) ?_; rintro e w5 ⟨rfl, h5⟩) | (go_at_call 43; refine Calls.mono (C43.out _ (HKP.out _ h5).2.2.1) ?_; rintro e w6 ⟨lo, rc, rfl, hR6, h6⟩) | (at_builtin; refine wpList_append_own _ rfl _ _ 29 rfl (b6 + 1) 30 i30 (.slice none 0 0) 1 24 Tryd.underlying29 hi30 hz0 hz1 hz2 rfl (by decide) _ _ _ rfl ((HKP.out _ (below_next h5 h6)).1.alloc _) ⟨w6.heap.size, 0, none⟩ 1 1 [.slice lo EE.length rc] rfl rfl ?n1 ?n2 ?n3 ?n4 ?n5 ?_) | fail)
      case n1 => exact cell_one_new _ _ _
      case n2 => intro x hx; simp at hx; subst hx; rfl
      case n3 => unfold maxLen; omega
      case n4 => omega
      case n5 => have := (HKP.out _ (below_next h5 h6)).2.2.2.1; simp; omega
      intro bv' w7 hown7 hg7 _
      obtain ⟨ba', bc', rfl⟩ := form_row hown7
      have h56 := below_next h5 h6
      obtain ⟨k1, k2, k3, k4, k5, k6, k7, k8⟩ := HKP.out _ h56
      have hga : w6.grownBy w7 (Value.slice ba k bc).ownBlock := (World.grownBy_alloc w6 _ _).trans hg7
      have HW7 : Hid (w7.ownsRow (b6 + 1) 30 1 (.slice ba' (k + 1) bc') (k + 1) (xs ++ [.slice lo EE.length rc]) ∧ w7.ownsRow (b6 + 1) 3 1 (.slice ua k uc) k ys ∧ SBox w7 b6 g ∧ SBox w7 b9 led ∧ Below w.heap.size w w7 ∧ b6 + 1 ≤ w7.heap.size) := by
        refine ⟨hown7, own_turns k2 hga (fun j hj e => own_types k1 k2 (by decide) j e hj), ?_, ?_, ?_, by have := hga.size; omega⟩
        · exact (hga.block b6 (lt_of_block k5) (fun e => by have := (k1.lt b6 e.symm).1; omega)).trans k5
        · exact (hga.block b9 (lt_of_block k6) (fun e => by have := k8 b9 e.symm; omega)).trans k6
        · exact k7.grown hga k7.size (fun j hj => by have := (k1.lt j hj).1; have := HB6.out; omega)
      obtain ⟨d2, d3⟩ := cell_two HW7.out.2.2.2.1
      clear hown7 hg7 k1 k2 k3 k4 k5 k6 k7 k8 hga h5 h6 h56 d0 d1 HKP HI hR6 C53 C43
      have j1 : (k : Int) + 1 = ((k + 1 : Nat) : Int) := by omega
      have C54' : Hid (∀ A, Below w7.heap.size w7 A → Calls Tryd.prog 54 #[.slice (some ⟨ob, off, none⟩) N vc, .int .i64 ((k : Int) + 1), .agg #[.int .u64 (lo64 led : Int), .int .u64 (hi64 led : Int)]] A fun e w' => e = .returned (.int .i64 fi) ∧ Below A.heap.size A w') := fun A hA => by
        rw [j1]
        exact C54.out A (below_next HW7.out.2.2.2.2.1 hA)
      clear C54 j1
      go_upto_region 8 with (first | (go_at_call 54; refine Calls.mono (C54'.out _ (Below.refl _ _)) ?_; rintro e w8 ⟨rfl, h8⟩) | (at_builtin; refine wpList_append_own _ rfl _ _ 30 rfl (b6 + 1) 3 i3 (.int .i64 0) 1 8 Tryd.underlying30 hi3 hy0 hy1 hy2 rfl (by decide) _ _ _ rfl ((own_turns HW7.out.2.1 (row := none) ⟨h8.os, h8.tape, h8.output, h8.size, fun j hj _ => h8.block j hj⟩ (fun j hj e => by cases e)).alloc _) ⟨w8.heap.size, 0, none⟩ 1 1 [.int .i64 fi] rfl rfl ?n1 ?n2 ?n3 ?n4 ?n5 ?_) | fail)
      case n1 => exact cell_one_new _ _ _
      case n2 => intro x hx; simp at hx; subst hx; rfl
      case n3 => unfold maxLen; omega
      case n4 => omega
      case n5 => have := HW7.out.2.2.2.2.2; have := h8.size; simp; omega
      intro uv' w9 hown9 hg9 _
      obtain ⟨ua', uc', rfl⟩ := form_row hown9
      have hg8 : w7.grownBy w8 none := ⟨h8.os, h8.tape, h8.output, h8.size, fun j hj _ => h8.block j hj⟩
      have k1 := own_turns HW7.out.1 hg8 (fun j hj e => by cases e)
      have k2 := own_turns HW7.out.2.1 hg8 (fun j hj e => by cases e)
      have k5 := two_next HW7.out.2.2.1 h8
      have k7 := below_next HW7.out.2.2.2.2.1 h8
      have hga : w8.grownBy w9 (Value.slice ua k uc).ownBlock := (World.grownBy_alloc w8 _ _).trans hg9
      have HW9 : Hid (w9.ownsRow (b6 + 1) 30 1 (.slice ba' (k + 1) bc') (k + 1) (xs ++ [.slice lo EE.length rc]) ∧ w9.ownsRow (b6 + 1) 3 1 (.slice ua' (k + 1) uc') (k + 1) (ys ++ [.int .i64 fi]) ∧ SBox w9 b6 g ∧ Below w.heap.size w w9) := by
        refine ⟨own_turns k1 hga (fun j hj e => own_types k1 k2 (by decide) j hj e), hown9, ?_, ?_⟩
        · exact (hga.block b6 (lt_of_block k5) (fun e => by have := (k2.lt b6 e.symm).1; omega)).trans k5
        · exact k7.grown hga k7.size (fun j hj => by have := (k2.lt j hj).1; have := HB6.out; omega)
      have C46' : Hid _ := C46.out w9 HW9.out.2.2.1
      clear hown9 hg9 k1 k2 k5 k7 hga hg8 h8 d2 d3 C46 C54'
      go_wp2_with (first | (go_at_call 46; refine Calls.mono C46'.out ?_; rintro e w10 ⟨rfl, s10, t10⟩) | go_in)
      have hg10 : w9.grownBy w10 (some b6) := t10.grown
      have HWA : Hid (g2 < 2 ^ 128 ∧ SBox w10 b6 g2 ∧ Below w.heap.size w w10 ∧ w10.ownsRow (b6 + 1) 30 1 (.slice ba' (k + 1) bc') (k + 1) (xs ++ [.slice lo EE.length rc]) ∧ w10.ownsRow (b6 + 1) 3 1 (.slice ua' (k + 1) uc') (k + 1) (ys ++ [.int .i64 fi])) := ⟨HGL.out, s10, t10.below HW9.out.2.2.2 HW9.out.2.2.2.size (fun x hx => by subst hx; exact HB6.out), own_turns HW9.out.1 hg10 (fun j hj e => by cases e; have := (HW9.out.1.lt b6 hj).1; omega), own_turns HW9.out.2.1 hg10 (fun j hj e => by cases e; have := (HW9.out.2.1.lt b6 hj).1; omega)⟩
      go_roundw
      case rel => exact ⟨k + 1, g2, _, _, ba', ua', bc', uc', by omega, by go_num, rfl, rfl, HWA⟩
      case measure => simp [numOf]; omega
    · obtain rfl : k = N := by omega
      go_wp2
      refine bodyPost_ret (v := .tuple #[.slice ba k bc, .slice ua k uc]) ?_ rfl ⟨⟨_, _, rfl⟩, hI.out.2.2.1⟩
      simp [results, Tryd.results28, go_sem]
end Go.Proofs.YtdalconphfgepaaDoor
