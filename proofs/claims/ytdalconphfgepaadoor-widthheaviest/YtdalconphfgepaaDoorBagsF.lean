/- Bags along an order: what width.bagsAlong answers. -/
import Derived.Test.YtdalconphfgepaaDoorOrdMN
namespace Go.Proofs.YtdalconphfgepaaDoor
set_option maxRecDepth 8000
open Go.RowKit Go.Maps
attribute [local go_sem ↓] Go.wp_at_zero Go.wp_at_succ
/-- The nodes that are gone ahead of place i, one by one. -/
def goneF (f : Nat → Nat) : Nat → Nat
  | 0 => 0
  | i + 1 => sAdd (goneF f i) (f i)
theorem goneF_bit (f : Nat → Nat) (x : Nat) : ∀ i, (goneF f i).testBit x = true ↔ ∃ j, j < i ∧ f j = x
  | 0 => by simp [goneF]
  | i + 1 => by
    show (sAdd (goneF f i) (f i)).testBit x = true ↔ _
    rw [bit_add, Bool.or_eq_true, goneF_bit f x i, decide_eq_true_eq]
    constructor
    · rintro (⟨j, hj, e⟩ | e)
      · exact ⟨j, by omega, e⟩
      · exact ⟨i, by omega, e.symm⟩
    · rintro ⟨j, hj, e⟩
      by_cases e2 : j = i
      · subst e2; exact Or.inr e.symm
      · exact Or.inl ⟨j, by omega, e⟩
/-- The bag of place i. -/
def bagO (near : List Nat) (f : Nat → Nat) (i : Nat) : List Nat := elems (sAdd (ledO near f (goneF f) i) (f i))
def upsO (near : List Nat) (f : Nat → Nat) (N k : Nat) : List Value := (List.range k).map fun i => Value.int .i64 (upO near f (goneF f) N i)
/-- The rows of the bags, apart from the row u. -/
def BR (w : World) (base : Nat) (near : List Nat) (f : Nat → Nat) (k : Nat) (xs : List Value) (u : Value) : Prop := xs.length = k ∧ ∀ i, i < k → ∃ lo rc, xs[i]? = some (.slice lo (bagO near f i).length rc) ∧ w.ownsRow base 3 1 (.slice lo (bagO near f i).length rc) (bagO near f i).length (qv (bagO near f i)) ∧ ∀ j, (Value.slice lo (bagO near f i).length rc).ownBlock = some j → u.ownBlock ≠ some j
theorem BR.keep {w w' : World} {base : Nat} {near : List Nat} {f : Nat → Nat} {k : Nat} {xs : List Value} {u u' : Value} {row : Option Nat} (h : BR w base near f k xs u) (hg : w.grownBy w' row) (hr : ∀ j, row = some j → (base ≤ j → (∃ cur t, t ≠ 3 ∧ w.heap[j]? = some (.cells cur t (0, 0))) ∨ u.ownBlock = some j)) (hu : ∀ j, u'.ownBlock = some j → u.ownBlock = some j ∨ w.heap.size ≤ j) : BR w' base near f k xs u' := by
  refine ⟨h.1, fun i hi => ?_⟩
  obtain ⟨lo, rc, h1, h2, h3⟩ := h.2 i hi
  refine ⟨lo, rc, h1, own_turns h2 hg (fun j hj e => ?_), fun j hj e => ?_⟩
  · rcases hr j e (h2.lt j hj).1 with ⟨cur, t, ht, hc⟩ | hc
    · obtain ⟨c, h4⟩ := own_cells h2 hj
      rw [hc] at h4
      simp at h4
      exact ht h4.2
    · exact h3 j hj hc
  · rcases hu j e with h4 | h4
    · exact h3 j hj h4
    · have := (h2.lt j hj).2; omega
theorem BR.base {w : World} {base base' : Nat} {near : List Nat} {f : Nat → Nat} {k : Nat} {xs : List Value} {u : Value} (h : BR w base near f k xs u) (hb : base' ≤ base) : BR w base' near f k xs u := ⟨h.1, fun i hi => by
  obtain ⟨lo, rc, h1, h2, h3⟩ := h.2 i hi
  exact ⟨lo, rc, h1, ownsRow_base h2 hb, h3⟩⟩
theorem BR.push {w : World} {base : Nat} {near : List Nat} {f : Nat → Nat} {k : Nat} {xs : List Value} {u : Value} (h : BR w base near f k xs u) {lo : Option Addr} {rc : Nat} (h1 : w.ownsRow base 3 1 (.slice lo (bagO near f k).length rc) (bagO near f k).length (qv (bagO near f k))) (h2 : ∀ j, (Value.slice lo (bagO near f k).length rc).ownBlock = some j → u.ownBlock ≠ some j) : BR w base near f (k + 1) (xs ++ [.slice lo (bagO near f k).length rc]) u := by
  refine ⟨by simp [h.1], fun i hi => ?_⟩
  by_cases e : i = k
  · subst e
    exact ⟨lo, rc, by rw [List.getElem?_append_right (by rw [h.1]; exact Nat.le_refl _), h.1]; simp, h1, h2⟩
  · obtain ⟨lo', rc', g1, g2, g3⟩ := h.2 i (by omega)
    exact ⟨lo', rc', by rw [List.getElem?_append_left (by rw [h.1]; omega)]; exact g1, g2, g3⟩
set_option maxHeartbeats 8000000 in
theorem bags_full {w : World} {bn N vc : Nat} {vo : Option Addr} {near : List Nat} {f : Nat → Nat} (hS : SetsAt w bn near) (hl : near.length = N) (hN : N ≤ 100) (hbit : ∀ u x, (at' near u).testBit x = true → x < N) (ht : T64 w) (hO : NumF w vo N (fun j => (f j : Int))) (hf : ∀ j, j < N → f j < N) :
    Calls Tryd.prog 28 #[sl bn N, .slice vo N vc] w fun e w' => (∃ ba bc ua uc xs, e = .returned (.tuple #[.slice ba N bc, .slice ua N uc]) ∧ w'.ownsRow w.heap.size 30 1 (.slice ba N bc) N xs ∧ w'.ownsRow w.heap.size 3 1 (.slice ua N uc) N (upsO near f N N) ∧ BR w' w.heap.size near f N xs (.slice ua N uc)) ∧ Below w.heap.size w w' := by
  have HH : Hid (SetsAt w bn near ∧ T64 w ∧ NumF w vo N (fun j => (f j : Int)) ∧ (∀ j, j < N → f j < N) ∧ (∀ u x, (at' near u).testBit x = true → x < N) ∧ near.length = N) := ⟨hS, ht, hO, hf, hbit, hl⟩
  obtain ⟨i3, hi3, hy0, hy1, hy2⟩ := info_parts Tryd.info3
  obtain ⟨i30, hi30, hz0, hz1, hz2⟩ := info_parts Tryd.info30
  clear hS ht hO hf hbit hl
  go_enter Tryd.func28, Tryd.ntmps28
  go_upto_region 3 with (fail)
  have x6 : SBox (w.alloc (Obj.cells #[.int .u64 0, .int .u64 0] 76)) w.heap.size 0 := two_new w (.int .u64 0) (.int .u64 0) 76
  have hB0 := below_alloc (Below.refl _ w) (Obj.cells #[.int .u64 0, .int .u64 0] 76)
  have hsz : (w.alloc (Obj.cells #[.int .u64 0, .int .u64 0] 76)).heap.size = w.heap.size + 1 := by simp
  obtain ⟨b6, hb6⟩ : ∃ b, b = w.heap.size := ⟨_, rfl⟩
  rw [← hb6] at x6 hsz ⊢
  generalize w.alloc (Obj.cells #[.int .u64 0, .int .u64 0] 76) = W0 at *
  have HB6 : Hid (w.heap.size ≤ b6) := by rw [hb6]; exact Nat.le_refl _
  have HW0 : Hid (SBox W0 b6 0 ∧ Below w.heap.size w W0 ∧ W0.heap.size = b6 + 1) := ⟨x6, hB0, hsz⟩
  clear x6 hB0 hsz hb6
  go_loopw [4, 5, 7, 8, 9, 12] (fun s4 s5 _ _ _ s12 wz => ∃ (k g : Nat) (xs : List Value) (ba ua : Option Addr) (bc uc : Nat), k ≤ N ∧ s12 = .int .i64 (k : Int) ∧ s4 = .slice ba k bc ∧ s5 = .slice ua k uc ∧ Hid (g < 2 ^ 128 ∧ SBox wz b6 g ∧ Below w.heap.size w wz ∧ wz.ownsRow (b6 + 1) 30 1 (.slice ba k bc) k xs ∧ wz.ownsRow (b6 + 1) 3 1 (.slice ua k uc) k (upsO near f N k) ∧ g = goneF f k ∧ BR wz (b6 + 1) near f k xs (.slice ua k uc))) (fun _ _ _ _ _ s12 _ => N - (numOf s12).toNat)
  case atStart => exact ⟨0, 0, [], none, none, 0, 0, Nat.zero_le _, rfl, rfl, rfl, ⟨by decide, HW0.out.1, HW0.out.2.1, World.ownsRow_nil _ _ _ _, World.ownsRow_nil _ _ _ _, rfl, rfl, fun i hi => by omega⟩⟩
  case round =>
    obtain ⟨k, g, xs, ba, ua, bc, uc, hk, rfl, rfl, rfl, hI⟩ := hrel
    clear HW0
    by_cases hlt : k < N
    · obtain ⟨ob, off, he, co⟩ := HH.out.2.2.1 k hlt
      have co' : wr.cell? ⟨ob, off + k, none⟩ = some (.int .i64 (f k : Int)) := by rw [hI.out.2.2.1.cell (World.block_lt_of_cell? w _ co)]; exact co
      have hfk := HH.out.2.2.2.1 k hlt
      have hgl := hI.out.1
      obtain ⟨a0, a1⟩ := cell_two hI.out.2.1
      have C49 : Hid _ := behind_call (v := f k) (gone := g) (HH.out.1.under hI.out.2.2.1) HH.out.2.2.2.2.2 hN HH.out.2.2.2.2.1 hgl hfk (HH.out.2.1.under hI.out.2.2.1)
      obtain ⟨led, hled⟩ : ∃ l, l = behS near g (f k) := ⟨_, rfl⟩
      have hll : led < 2 ^ 128 := by rw [hled]; exact behS_lt HH.out.1.lt (by omega)
      rw [← hled] at C49
      have C53 : Hid (∀ A, Calls Tryd.prog 53 #[sv led, .int .i64 (f k : Int)] A fun e w' => e = .returned (sv (sAdd led (f k))) ∧ Below A.heap.size A w') := fun A => with_call hll (by omega)
      have C43 : Hid (∀ A, T64 A → Calls Tryd.prog 43 #[sv (sAdd led (f k))] A fun e w' => RisA A w' e (elems (sAdd led (f k)))) := fun A hA => rising_call (add_lt hll (by omega)) hA
      have C54 : Hid (∀ A, Below w.heap.size w A → Calls Tryd.prog 54 #[.slice vo N vc, .int .i64 ((k + 1 : Nat) : Int), sv led] A fun e w' => e = .returned (.int .i64 (firstIn N f led (k + 1))) ∧ Below A.heap.size A w') := fun A hA => firstIn_call (fun j hj => by
        obtain ⟨b', off', e', hc'⟩ := HH.out.2.2.1 j hj
        exact ⟨b', off', e', by rw [hA.cell (World.block_lt_of_cell? w _ hc')]; exact hc'⟩) (by omega) (fun j hj => by have := HH.out.2.2.2.1 j hj; omega) hll (by omega)
      have C46 : Hid (∀ A, SBox A b6 g → Calls Tryd.prog 46 #[.pointer (some ⟨b6, 0, none⟩), .int .i64 (f k : Int)] A fun e w' => e = .returned (.tuple #[]) ∧ SBox w' b6 (sAdd g (f k)) ∧ Turns (fun x => x = b6) A w') := fun A hA => add_sbox hgl (by omega) hA
      have HGL : Hid (sAdd g (f k) < 2 ^ 128) := add_lt hgl (by omega)
      have HEL : Hid ((elems (sAdd led (f k))).length ≤ 128) := count_le _
      have HFI : Hid (firstIn N f led (k + 1) = upO near f (goneF f) N k ∧ elems (sAdd led (f k)) = bagO near f k ∧ sAdd g (f k) = goneF f (k + 1)) := by
        have hg := hI.out.2.2.2.2.2.1
        unfold upO bagO ledO
        rw [hled, hg]
        exact ⟨rfl, rfl, rfl⟩
      generalize hfi : firstIn N f led (k + 1) = fi at *
      generalize elems (sAdd led (f k)) = EE at *
      generalize sAdd led (f k) = lv at *
      generalize sAdd g (f k) = g2 at *
      subst he
      have i1 : (0 : Int) ≤ (k : Int) := by omega
      have i2 : (k : Int) < (N : Int) := by omega
      clear co hled hfi
      go_upto_region 6 with (first | (go_at_call 49; refine Calls.mono C49.out ?_; rintro e w3 ⟨rfl, h3⟩) | fail)
      have x9 := two_new w3 (.int .u64 (lo64 led : Int)) (.int .u64 (hi64 led : Int)) 76
      have hB4 := below_alloc h3 (Obj.cells #[.int .u64 (lo64 led : Int), .int .u64 (hi64 led : Int)] 76)
      obtain ⟨b9, hb9⟩ : ∃ b, b = w3.heap.size := ⟨_, rfl⟩
      have hle9 : wr.heap.size ≤ b9 := by rw [hb9]; exact h3.size
      rw [← hb9] at x9 ⊢
      generalize w3.alloc (Obj.cells #[.int .u64 (lo64 led : Int), .int .u64 (hi64 led : Int)] 76) = W4 at *
      have HW4 : Hid (SBox W4 b6 g ∧ SBox W4 b9 led ∧ Below w.heap.size w W4 ∧ Below wr.heap.size wr W4 ∧ wr.heap.size ≤ b9) := ⟨two_next hI.out.2.1 hB4, x9, below_next hI.out.2.2.1 hB4, hB4, hle9⟩
      have HI : Hid _ := hI.out
      clear x9 hB4 hb9 hle9 h3 hI C49 a0 a1 co'
      obtain ⟨d0, d1⟩ := cell_two HW4.out.2.1
      have HKP : Hid (∀ A, Below W4.heap.size W4 A → A.ownsRow (b6 + 1) 30 1 (.slice ba k bc) k xs ∧ A.ownsRow (b6 + 1) 3 1 (.slice ua k uc) k (upsO near f N k) ∧ T64 A ∧ b6 + 1 ≤ A.heap.size ∧ SBox A b6 g ∧ SBox A b9 led ∧ Below w.heap.size w A ∧ (∀ j, (Value.slice ba k bc).ownBlock = some j → j < b9) ∧ BR A (b6 + 1) near f k xs (.slice ua k uc)) := fun A hA => by
        have hb := below_next HW4.out.2.2.2.1 hA
        have hg : wr.grownBy A none := ⟨hb.os, hb.tape, hb.output, hb.size, fun j hj _ => hb.block j hj⟩
        refine ⟨own_turns HI.out.2.2.2.1 hg (fun j hj e => by cases e), own_turns HI.out.2.2.2.2.1 hg (fun j hj e => by cases e), HH.out.2.1.under (below_next HW4.out.2.2.1 hA), ?_, two_next HW4.out.1 hA, two_next HW4.out.2.1 hA, below_next HW4.out.2.2.1 hA, fun j hj => ?_, HI.out.2.2.2.2.2.2.keep hg (fun j e => by cases e) (fun j hj => Or.inl hj)⟩
        · have h1 := lt_of_block HI.out.2.1
          have h2 := hb.size
          omega
        · have h1 := (HI.out.2.2.2.1.lt j hj).2
          have h2 := HW4.out.2.2.2.2
          omega
      have HK2 : Hid (∀ j, (Value.slice ua k uc).ownBlock = some j → j < b9 ∧ b6 + 1 ≤ j) := fun j hj => by
        have h1 := HI.out.2.2.2.2.1.lt j hj
        have h2 := HW4.out.2.2.2.2
        exact ⟨by omega, h1.1⟩
      go_upto_region 7 with (first | (go_at_call 53; refine Calls.mono (C53.out _) ?_; rintro e w5 ⟨rfl, h5⟩) | (go_at_call 43; refine Calls.mono (C43.out _ (HKP.out _ h5).2.2.1) ?_; rintro e w6 ⟨lo, rc, rfl, hR6, h6⟩) | (at_builtin; refine wpList_append_own _ rfl _ _ 29 rfl (b6 + 1) 30 i30 (.slice none 0 0) 1 24 Tryd.underlying29 hi30 hz0 hz1 hz2 rfl (by decide) _ _ _ rfl ((HKP.out _ (below_next h5 h6)).1.alloc _) ⟨w6.heap.size, 0, none⟩ 1 1 [.slice lo EE.length rc] rfl rfl ?n1 ?n2 ?n3 ?n4 ?n5 ?_) | fail)
      case n1 => exact cell_one_new _ _ _
      case n2 => intro x hx; simp at hx; subst hx; rfl
      case n3 => unfold maxLen; omega
      case n4 => omega
      case n5 => have := (HKP.out _ (below_next h5 h6)).2.2.2.1; simp; omega
      intro bv' w7 hown7 hg7 _
      obtain ⟨ba', bc', rfl⟩ := form_row hown7
      have h56 := below_next h5 h6
      obtain ⟨k1, k2, k3, k4, k5, k6, k7, k8, k9⟩ := HKP.out _ h56
      have hga : w6.grownBy w7 (Value.slice ba k bc).ownBlock := (World.grownBy_alloc w6 _ _).trans hg7
      have HW7 : Hid (w7.ownsRow (b6 + 1) 30 1 (.slice ba' (k + 1) bc') (k + 1) (xs ++ [.slice lo EE.length rc]) ∧ w7.ownsRow (b6 + 1) 3 1 (.slice ua k uc) k (upsO near f N k) ∧ SBox w7 b6 g ∧ SBox w7 b9 led ∧ Below w.heap.size w w7 ∧ b6 + 1 ≤ w7.heap.size ∧ BR w7 (b6 + 1) near f (k + 1) (xs ++ [.slice lo EE.length rc]) (.slice ua k uc)) := by
        refine ⟨hown7, own_turns k2 hga (fun j hj e => own_types k1 k2 (by decide) j e hj), ?_, ?_, ?_, by have := hga.size; omega, ?_⟩
        · exact (hga.block b6 (lt_of_block k5) (fun e => by have := (k1.lt b6 e.symm).1; omega)).trans k5
        · exact (hga.block b9 (lt_of_block k6) (fun e => by have := k8 b9 e.symm; omega)).trans k6
        · exact k7.grown hga k7.size (fun j hj => by have := (k1.lt j hj).1; have := HB6.out; omega)
        · have e9 := HFI.out.2.1
          rw [e9] at hR6 ⊢
          refine BR.push (k9.keep hga (fun j hj _ => Or.inl ?_) (fun j hj => Or.inl hj)) ?_ (fun j hj e => ?_)
          · obtain ⟨c9, h9⟩ := own_cells k1 hj
            exact ⟨c9, 30, by decide, h9⟩
          · exact own_turns (ownsRow_base hR6 (by have := (HKP.out _ h5).2.2.2.1; omega)) hga (fun j hj e => own_types k1 (ownsRow_base hR6 (Nat.le_refl _)) (by decide) j e hj)
          · have h10 := (hR6.lt j hj).1
            have h11 := (HK2.out j e).1
            have h12 := lt_of_block (HKP.out _ h5).2.2.2.2.2.1
            omega
      obtain ⟨d2, d3⟩ := cell_two HW7.out.2.2.2.1
      clear hown7 hg7 k1 k2 k3 k4 k5 k6 k7 k8 k9 hga h5 h6 h56 d0 d1 HKP HI hR6 C53 C43
      have j1 : (k : Int) + 1 = ((k + 1 : Nat) : Int) := by omega
      have C54' : Hid (∀ A, Below w7.heap.size w7 A → Calls Tryd.prog 54 #[.slice (some ⟨ob, off, none⟩) N vc, .int .i64 ((k : Int) + 1), .agg #[.int .u64 (lo64 led : Int), .int .u64 (hi64 led : Int)]] A fun e w' => e = .returned (.int .i64 fi) ∧ Below A.heap.size A w') := fun A hA => by
        rw [j1]
        exact C54.out A (below_next HW7.out.2.2.2.2.1 hA)
      clear C54 j1
      go_upto_region 8 with (first | (go_at_call 54; refine Calls.mono (C54'.out _ (Below.refl _ _)) ?_; rintro e w8 ⟨rfl, h8⟩) | (at_builtin; refine wpList_append_lies _ rfl _ _ 30 rfl (b6 + 1) 3 i3 (.int .i64 0) 1 8 Tryd.underlying30 hi3 hy0 hy1 hy2 rfl (by decide) _ _ _ rfl ((own_turns HW7.out.2.1 (row := none) ⟨h8.os, h8.tape, h8.output, h8.size, fun j hj _ => h8.block j hj⟩ (fun j hj e => by cases e)).alloc _) ⟨w8.heap.size, 0, none⟩ 1 1 [.int .i64 fi] rfl rfl ?n1 ?n2 (by omega) ?n3 ?n4 ?n5 (w8.heap.size + 1) (by simp) ?_) | fail)
      case n1 => exact cell_one_new _ _ _
      case n2 => intro x hx; simp at hx; subst hx; rfl
      case n3 => unfold maxLen; omega
      case n4 => omega
      case n5 => have := HW7.out.2.2.2.2.2; have := h8.size; simp; omega
      intro gu uc' w9 hown9 hg9 hlies _
      have hg8 : w7.grownBy w8 none := ⟨h8.os, h8.tape, h8.output, h8.size, fun j hj _ => h8.block j hj⟩
      have k1 := own_turns HW7.out.1 hg8 (fun j hj e => by cases e)
      have k2 := own_turns HW7.out.2.1 hg8 (fun j hj e => by cases e)
      have k5 := two_next HW7.out.2.2.1 h8
      have k7 := below_next HW7.out.2.2.2.2.1 h8
      have hga : w8.grownBy w9 (Value.slice ua k uc).ownBlock := (World.grownBy_alloc w8 _ _).trans hg9
      have HW9 : Hid (w9.ownsRow (b6 + 1) 30 1 (.slice ba' (k + 1) bc') (k + 1) (xs ++ [.slice lo EE.length rc]) ∧ w9.ownsRow (b6 + 1) 3 1 (.slice (some ⟨gu, 0, none⟩) (k + 1) uc') (k + 1) (upsO near f N k ++ [.int .i64 fi]) ∧ SBox w9 b6 g ∧ Below w.heap.size w w9 ∧ BR w9 (b6 + 1) near f (k + 1) (xs ++ [.slice lo EE.length rc]) (.slice (some ⟨gu, 0, none⟩) (k + 1) uc')) := by
        refine ⟨own_turns k1 hga (fun j hj e => own_types k1 k2 (by decide) j hj e), hown9, ?_, ?_, ?_⟩
        · exact (hga.block b6 (lt_of_block k5) (fun e => by have := (k2.lt b6 e.symm).1; omega)).trans k5
        · exact k7.grown hga k7.size (fun j hj => by have := (k2.lt j hj).1; have := HB6.out; omega)
        · refine BR.keep (HW7.out.2.2.2.2.2.2.keep hg8 (fun j e => by cases e) (fun j hj => Or.inl hj)) hga (fun j hj _ => Or.inr hj) (fun j hj => ?_)
          have e10 : gu = j := by simpa [Value.ownBlock] using hj
          subst e10
          exact hlies.imp id (fun h => by omega)
      have C46' : Hid _ := C46.out w9 HW9.out.2.2.1
      clear hown9 hg9 k1 k2 k5 k7 hga hg8 h8 d2 d3 C46 C54'
      go_wp2_with (first | (go_at_call 46; refine Calls.mono C46'.out ?_; rintro e w10 ⟨rfl, s10, t10⟩) | go_in)
      have hg10 : w9.grownBy w10 (some b6) := t10.grown
      have HWA : Hid (g2 < 2 ^ 128 ∧ SBox w10 b6 g2 ∧ Below w.heap.size w w10 ∧ w10.ownsRow (b6 + 1) 30 1 (.slice ba' (k + 1) bc') (k + 1) (xs ++ [.slice lo EE.length rc]) ∧ w10.ownsRow (b6 + 1) 3 1 (.slice (some ⟨gu, 0, none⟩) (k + 1) uc') (k + 1) (upsO near f N k ++ [.int .i64 fi]) ∧ BR w10 (b6 + 1) near f (k + 1) (xs ++ [.slice lo EE.length rc]) (.slice (some ⟨gu, 0, none⟩) (k + 1) uc')) := ⟨HGL.out, s10, t10.below HW9.out.2.2.2.1 HW9.out.2.2.2.1.size (fun x hx => by subst hx; exact HB6.out), own_turns HW9.out.1 hg10 (fun j hj e => by cases e; have := (HW9.out.1.lt b6 hj).1; omega), own_turns HW9.out.2.1 hg10 (fun j hj e => by cases e; have := (HW9.out.2.1.lt b6 hj).1; omega), HW9.out.2.2.2.2.keep hg10 (fun j e h => by cases e; omega) (fun j hj => Or.inl hj)⟩
      go_roundw
      case rel =>
        have e11 : upsO near f N (k + 1) = upsO near f N k ++ [.int .i64 fi] := by
          unfold upsO
          rw [List.range_succ, List.map_append, HFI.out.1]
          rfl
        exact ⟨k + 1, g2, _, ba', (some ⟨gu, 0, none⟩), bc', uc', by omega, by go_num, rfl, rfl, ⟨HWA.out.1, HWA.out.2.1, HWA.out.2.2.1, HWA.out.2.2.2.1, by rw [e11]; exact HWA.out.2.2.2.2.1, HFI.out.2.2, HWA.out.2.2.2.2.2⟩⟩
      case measure => simp [numOf]; omega
    · obtain rfl : k = N := by omega
      go_wp2
      refine bodyPost_ret (v := .tuple #[.slice ba k bc, .slice ua k uc]) ?_ rfl ⟨⟨ba, bc, ua, uc, xs, rfl, ownsRow_base hI.out.2.2.2.1 (by have := HB6.out; omega), ownsRow_base hI.out.2.2.2.2.1 (by have := HB6.out; omega), BR.base hI.out.2.2.2.2.2.2 (by have := HB6.out; omega)⟩, hI.out.2.2.1⟩
      simp [results, Tryd.results28, go_sem]
end Go.Proofs.YtdalconphfgepaaDoor
