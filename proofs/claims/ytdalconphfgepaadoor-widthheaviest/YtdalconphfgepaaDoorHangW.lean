/- Just one bag of each node has it not in the bag above: width.hangTogether. -/
import Derived.Test.YtdalconphfgepaaDoorRegX
import Derived.Test.YtdalconphfgepaaDoorBagAW
import Derived.Test.YtdalconphfgepaaDoorTreeMN
namespace Go.Proofs.YtdalconphfgepaaDoor
set_option maxRecDepth 8000
open Go.RowKit Go.Maps
attribute [local go_sem ↓] Go.wp_at_zero Go.wp_at_succ
def topS (bags : List Nat) (f : Nat → Int) (j : Nat) : Nat := sLess (at' bags j) (aboveS bags f j)
def topsN (bags : List Nat) (f : Nat → Int) (k v : Nat) : Nat := ((List.range k).filter fun j => (topS bags f j).testBit v).length
def hangB (N : Nat) (bags : List Nat) (f : Nat → Int) (m : Nat) : Bool := (List.range N).all fun v => topsN bags f m v == 1
theorem topsN_succ (bags : List Nat) (f : Nat → Int) (k v : Nat) : topsN bags f (k + 1) v = topsN bags f k v + if (topS bags f k).testBit v = true then 1 else 0 := by
  unfold topsN
  rw [List.range_succ, List.filter_append, List.length_append]
  by_cases h : (topS bags f k).testBit v = true <;> simp [h]
theorem topsN_le (bags : List Nat) (f : Nat → Int) (v : Nat) : ∀ k, topsN bags f k v ≤ k
  | 0 => by simp [topsN]
  | k + 1 => by have := topsN_le bags f v k; rw [topsN_succ]; split <;> omega
theorem at_lt {near : List Nat} (h : ∀ s ∈ near, s < 2 ^ 128) (v : Nat) : at' near v < 2 ^ 128 := by
  unfold at'
  rw [List.getD_eq_getElem?_getD]
  cases e : near[v]? with
  | none => decide
  | some x => exact h x (List.mem_of_getElem? e)
theorem ownsRow_base {w : World} {base base' : Nat} {t : TypeId} {sz : Nat} {v : Value} {n : Nat} {xs : List Value} (h : w.ownsRow base t sz v n xs) (hb : base' ≤ base) : w.ownsRow base' t sz v n xs := by
  refine ⟨h.1, ?_⟩
  rcases h.2 with h2 | ⟨g, cap, cur, h1, h2, h3⟩
  · exact Or.inl h2
  · exact Or.inr ⟨g, cap, cur, h1, by omega, h3⟩
/-- What the told values of the region are. -/
def VH (b m vc k z u : Nat) (vo : Option Addr) (W : World) (E : List Nat) : Nat → Value → World → Prop
  | 0, x, _ => x = sv z
  | 1, x, _ => x = sl b m
  | 2, x, _ => x = .slice vo m vc
  | 3, x, _ => x = .int .i64 (k : Int)
  | 4, x, _ => x = sv u
  | 5, x, _ => x = sv (sLess z u)
  | 6, x, w => ∃ lo c, x = .slice lo E.length c ∧ w.ownsRow W.heap.size 3 1 x E.length (qv E)
  | 7, x, _ => x = .int .i64 (E.length : Int)
  | 8, x, _ => x = .int .i64 0
  | _, _, _ => True
theorem VH_mono {b m vc k z u : Nat} {vo : Option Addr} {W : World} {E : List Nat} : ∀ i x w w', VH b m vc k z u vo W E i x w → Below w.heap.size w w' → VH b m vc k z u vo W E i x w' := fun i x w w' h hb => by
  match i with
  | 0 | 1 | 2 | 3 | 4 | 5 | 7 | 8 => exact h
  | 6 =>
    obtain ⟨lo, c, rfl, h2⟩ := h
    exact ⟨lo, c, rfl, ownsRow_blocks h2 (fun g hg => hb.block g (h2.lt g hg).2)⟩
  | n + 9 => exact h
set_option maxHeartbeats 4000000 in
theorem hang_call {w : World} {b m vc N : Nat} {vo : Option Addr} {bags : List Nat} {f : Nat → Int} (hS : SetsAt w b bags) (hl : bags.length = m) (hm : m ≤ 100) (hF : NumF w vo m f) (hup : ∀ k, k < m → f k = -1 ∨ (0 ≤ f k ∧ f k < m)) (hN : N ≤ 100) (hbit : ∀ j v, (at' bags j).testBit v = true → v < N) (ht : T64 w) :
    Calls Tryd.prog 60 #[.int .i64 (N : Int), sl b m, .slice vo m vc] w fun e w' => e = .returned (.bool (hangB N bags f m)) ∧ Below w.heap.size w w' := by
  have HH : Hid (SetsAt w b bags ∧ bags.length = m ∧ NumF w vo m f ∧ (∀ k, k < m → f k = -1 ∨ (0 ≤ f k ∧ f k < m)) ∧ (∀ j v, (at' bags j).testBit v = true → v < N) ∧ T64 w) := ⟨hS, hl, hF, hup, hbit, ht⟩
  clear hS hl hF hup hbit ht
  have hmk := make30 N (by omega)
  go_enter Tryd.func60, Tryd.ntmps60
  go_upto_region 3 with (fail)
  obtain ⟨g, hg⟩ : ∃ b, b = w.heap.size := ⟨_, rfl⟩
  have r0 : RowV (w.alloc (.cells (rep N (.int .i64 0)) 3)) g 3 N (fun _ => .int .i64 0) := rowV_rep (by rw [hg]; exact heap_alloc_new _ _)
  have hB0 := below_alloc (Below.refl _ w) (Obj.cells (rep N (.int .i64 0)) 3)
  have HG : Hid (w.heap.size ≤ g) := Nat.le_of_eq hg.symm
  rw [← hg]
  generalize w.alloc (.cells (rep N (.int .i64 0)) 3) = W5 at *
  have HW5 : Hid (RowV W5 g 3 N (fun _ => .int .i64 0) ∧ Below w.heap.size w W5) := ⟨r0, hB0⟩
  clear r0 hB0 hg hmk
  go_loopw [8, 9, 11, 18] (fun _ _ _ s18 wz => ∃ k : Nat, k ≤ m ∧ s18 = .int .i64 (k : Int) ∧ Hid (RowV wz g 3 N (fun v => .int .i64 (topsN bags f k v : Int)) ∧ Below w.heap.size w wz)) (fun _ _ _ s18 _ => m - (numOf s18).toNat)
  case atStart => exact ⟨0, Nat.zero_le _, rfl, ⟨HW5.out.1.congr fun _ _ => by simp [topsN], HW5.out.2⟩⟩
  case round =>
    obtain ⟨k, hk, rfl, hJ⟩ := hrel
    by_cases hlt : k < m
    · obtain ⟨c0, c1⟩ := (HH.out.1.under hJ.out.2).cell (at_some (show k < bags.length by rw [HH.out.2.1]; exact hlt))
      have i1 : (0 : Int) ≤ (k : Int) := by omega
      have i2 : (k : Int) < (m : Int) := by omega
      have hz := at_lt HH.out.1.lt k
      have hbz := HH.out.2.2.2.2.1 k
      obtain ⟨z, hzz⟩ : ∃ z, z = at' bags k := ⟨_, rfl⟩
      obtain ⟨u, huu⟩ : ∃ u, u = aboveS bags f k := ⟨_, rfl⟩
      have hu : u < 2 ^ 128 := by
        rw [huu]; unfold aboveS; split
        · decide
        · exact at_lt HH.out.1.lt _
      have C73 : Hid (∀ A, Below w.heap.size w A → Calls Tryd.prog 73 #[sl b m, .slice vo m vc, .int .i64 (k : Int)] A fun e w' => e = .returned (sv u) ∧ Below A.heap.size A w') := fun A hA => by
        rw [huu]
        exact above_call (HH.out.1.under hA) HH.out.2.1 (fun j hj => by
          obtain ⟨b', off, e, hc⟩ := HH.out.2.2.1 j hj
          exact ⟨b', off, e, by rw [hA.cell (World.block_lt_of_cell? w _ hc)]; exact hc⟩) hlt (HH.out.2.2.2.1 k hlt)
      rw [← hzz] at c0 c1 hz hbz
      have C67 : Hid (∀ A, Calls Tryd.prog 67 #[sv z, sv u] A fun e w' => e = .returned (sv (sLess z u)) ∧ Below A.heap.size A w') := fun A => less_call hz hu
      have hlz : sLess z u < 2 ^ 128 := less_lt hz
      have C43 : Hid (∀ A, T64 A → Calls Tryd.prog 43 #[sv (sLess z u)] A fun e w' => RisA A w' e (elems (sLess z u))) := fun A hA => rising_call hlz hA
      have HT : Hid (topS bags f k = sLess z u ∧ ∀ v, v ∈ elems (sLess z u) → v < N) := ⟨by rw [hzz, huu]; rfl, fun v hv => by
        have h1 := (mem_elems hlz).1 hv
        refine hbz v ?_
        rw [bit_less] at h1
        exact (Bool.and_eq_true_iff.1 h1).1⟩
      have HE : Hid (∀ v, v ∈ elems (sLess z u) ↔ (sLess z u).testBit v = true) := fun v => mem_elems hlz
      have HSO : Hid ((elems (sLess z u)).Pairwise (· < ·)) := elems_sorted _
      have hEl : (elems (sLess z u)).length ≤ 128 := by unfold elems; have := List.length_filter_le (sLess z u).testBit (List.range 128); simpa using this
      clear hzz huu hz hu hbz hlz
      go_upto_region 5 with (fail)
      have t9 := two_new wr (.int .u64 (lo64 z : Int)) (.int .u64 (hi64 z : Int)) 76
      have hB1 := below_alloc (Below.refl _ wr) (Obj.cells #[.int .u64 (lo64 z : Int), .int .u64 (hi64 z : Int)] 76)
      obtain ⟨b9, hb9⟩ : ∃ b, b = wr.heap.size := ⟨_, rfl⟩
      have HN9 : Hid (g ≠ b9 ∧ w.heap.size ≤ b9) := ⟨by have := hJ.out.1.lt; omega, by rw [hb9]; exact hJ.out.2.size⟩
      rw [← hb9] at t9 ⊢
      generalize wr.alloc (Obj.cells #[.int .u64 (lo64 z : Int), .int .u64 (hi64 z : Int)] 76) = W1 at *
      have HJ1 : Hid (RowV W1 g 3 N (fun v => .int .i64 (topsN bags f k v : Int)) ∧ Below w.heap.size w W1) := ⟨hJ.out.1.block (hB1.block g hJ.out.1.lt), below_next hJ.out.2 hB1⟩
      have HCELL : Hid (∀ A, Below W1.heap.size W1 A → A.cell? ⟨b9, 0, none⟩ = some (.int .u64 (lo64 z : Int)) ∧ A.cell? ⟨b9, 1, none⟩ = some (.int .u64 (hi64 z : Int))) := fun A hA => cell_two ((hA.block _ (lt_of_block t9)).trans t9)
      clear t9 hB1 hb9 hJ c0 c1
      obtain ⟨E, hE⟩ : ∃ E, E = elems (sLess z u) := ⟨_, rfl⟩
      rw [← hE] at C43 HT HE HSO hEl
      clear hE
      refine region_ext (J := ST W1 (VH b m vc k z u vo W1 E)) (by kernel_rfl) (by kernel_rfl) (by kernel_rfl) ST.start ?_ ?_
      · intro i o hi L xs a w1 hJ hL hd hc hX
        match i, hi with
        | 0, hi =>
          cases hi
          obtain ⟨e1, e2⟩ := HCELL.out _ hJ.bel
          have s9 := hX.out (s := 9) rfl
          refine wpOp_value rfl rfl (v := sv z) (w' := w1) ?_ ⟨_, rfl, hJ.put VH_mono (Below.refl _ _) rfl⟩
          simp [go_sem, Act.eval, s9, e1, e2]
        | 1, hi =>
          cases hi
          have s1 := hX.out (s := 1) rfl
          refine wpOp_value rfl rfl (v := sl b m) (w' := w1) ?_ ⟨_, rfl, hJ.put VH_mono (Below.refl _ _) rfl⟩
          simp [go_sem, Act.eval, s1]
        | 2, hi =>
          cases hi
          have s2 := hX.out (s := 2) rfl
          refine wpOp_value rfl rfl (v := .slice vo m vc) (w' := w1) ?_ ⟨_, rfl, hJ.put VH_mono (Below.refl _ _) rfl⟩
          simp [go_sem, Act.eval, s2]
        | 3, hi =>
          cases hi
          have s8 := hX.out (s := 8) rfl
          refine wpOp_value rfl rfl (v := .int .i64 (k : Int)) (w' := w1) ?_ ⟨_, rfl, hJ.put VH_mono (Below.refl _ _) rfl⟩
          simp [go_sem, Act.eval, s8]
        | 4, hi =>
          cases hi
          have l1 := hd ⟨1, .data⟩ (by simp) rfl
          have l2 := hd ⟨2, .data⟩ (by simp) rfl
          have l3 := hd ⟨3, .data⟩ (by simp) rfl
          have r1 := (hX.rd 1 _ 24 rfl rfl l1).trans (hJ.told 1 l1)
          have r2 := (hX.rd 2 _ 25 rfl rfl l2).trans (hJ.told 2 l2)
          have r3 := (hX.rd 3 _ 26 rfl rfl l3).trans (hJ.told 3 l3)
          refine wpOp_call (f := 73) (args := #[sl b m, .slice vo m vc, .int .i64 (k : Int)]) rfl rfl (w' := w1) ?_ ?_
          · simp [go_sem, Act.eval, r1, r2, r3]
          · refine (C73.out w1 (below_next HJ1.out.2 hJ.bel)).mono ?_
            rintro e w3 ⟨rfl, hB3⟩
            exact ⟨_, rfl, _, rfl, hJ.put VH_mono hB3 rfl⟩
        | 5, hi =>
          cases hi
          have l0 := hd ⟨0, .data⟩ (by simp) rfl
          have l4 := hd ⟨4, .data⟩ (by simp) rfl
          have r0 := (hX.rd 0 _ 23 rfl rfl l0).trans (hJ.told 0 l0)
          have r4 := (hX.rd 4 _ 27 rfl rfl l4).trans (hJ.told 4 l4)
          refine wpOp_call (f := 67) (args := #[sv z, sv u]) rfl rfl (w' := w1) ?_ ?_
          · simp [go_sem, Act.eval, r0, r4]
          · refine (C67.out w1).mono ?_
            rintro e w3 ⟨rfl, hB3⟩
            exact ⟨_, rfl, _, rfl, hJ.put VH_mono hB3 rfl⟩
        | 6, hi =>
          cases hi
          have l5 := hd ⟨5, .data⟩ (by simp) rfl
          have r5 := (hX.rd 5 _ 28 rfl rfl l5).trans (hJ.told 5 l5)
          refine wpOp_call (f := 43) (args := #[sv (sLess z u)]) rfl rfl (w' := w1) ?_ ?_
          · simp [go_sem, Act.eval, r5]
          · refine (C43.out w1 (HH.out.2.2.2.2.2.under (below_next HJ1.out.2 hJ.bel))).mono ?_
            rintro e w3 ⟨lo, c, rfl, hR, hB3⟩
            exact ⟨_, rfl, _, rfl, hJ.put VH_mono hB3 ⟨lo, c, rfl, ownsRow_base hR hJ.bel.size⟩⟩
        | 7, hi =>
          cases hi
          have l6 := hd ⟨6, .data⟩ (by simp) rfl
          obtain ⟨lo, c, e6, _⟩ := hJ.told 6 l6
          have r6 := (hX.rd 6 _ 29 rfl rfl l6).trans e6
          refine wpOp_value rfl rfl (v := .int .i64 (E.length : Int)) (w' := w1) ?_ ⟨_, rfl, hJ.put VH_mono (Below.refl _ _) rfl⟩
          simp [go_sem, Act.eval, r6]
        | 8, hi =>
          cases hi
          refine wpOp_value rfl rfl (v := .int .i64 0) (w' := w1) ?_ ⟨_, rfl, hJ.put VH_mono (Below.refl _ _) rfl⟩
          simp [go_sem, Act.eval]
        | n + 9, hi => cases hi
      · intro L xs w1 hJ hall
        have e0 := hJ.told 0 (hall 0 (by simp))
        have e1 := hJ.told 1 (hall 1 (by simp))
        have e2 := hJ.told 2 (hall 2 (by simp))
        have e3 := hJ.told 3 (hall 3 (by simp))
        have e4 := hJ.told 4 (hall 4 (by simp))
        have e5 := hJ.told 5 (hall 5 (by simp))
        obtain ⟨lo, c, e6, hR⟩ := hJ.told 6 (hall 6 (by simp))
        have e7 := hJ.told 7 (hall 7 (by simp))
        have e8 := hJ.told 8 (hall 8 (by simp))
        simp only [VH] at e0 e1 e2 e3 e4 e5 e6 e7 e8
        rw [e6] at hR
        simp only [puts, Act.put, e0, e1, e2, e3, e4, e5, e6, e7, e8, List.setIfInBounds_toArray, List.set_cons_succ, List.set_cons_zero]
        have HR : Hid (w1.ownsRow W1.heap.size 3 1 (.slice lo E.length c) E.length (qv E)) := hR
        have HB1 : Hid (RowV w1 g 3 N (fun v => .int .i64 (topsN bags f k v : Int)) ∧ Below w.heap.size w w1 ∧ g < W1.heap.size) := ⟨HJ1.out.1.block (hJ.bel.block g HJ1.out.1.lt), below_next HJ1.out.2 hJ.bel, HJ1.out.1.lt⟩
        clear e0 e1 e2 e3 e4 e5 e6 e7 e8 hall hR hJ C73 C67 C43 HCELL
        go_wp2
        go_loopw [11, 31] (fun _ s31 wz => ∃ i : Nat, i ≤ E.length ∧ s31 = .int .i64 (i : Int) ∧ Hid (RowV wz g 3 N (fun v => .int .i64 ((topsN bags f k v + if v ∈ E.take i then 1 else 0 : Nat) : Int)) ∧ Turns (fun x => x = g) w1 wz)) (fun _ s31 _ => E.length - (numOf s31).toNat)
        case atStart => exact ⟨0, Nat.zero_le _, rfl, ⟨HB1.out.1.congr fun _ _ => by simp, Turns.refl _ _⟩⟩
        case round =>
          obtain ⟨i, hi, rfl, hI⟩ := hrel
          by_cases hlt2 : i < E.length
          · obtain ⟨v, hv⟩ : ∃ v, E[i]? = some v := ⟨_, List.getElem?_eq_getElem hlt2⟩
            obtain ⟨gq, rfl, cq⟩ := qcell HR.out hv
            have hgq : gq ≠ g := fun e => by
              have := (HR.out.lt gq rfl).1
              have := HB1.out.2.2
              omega
            have cq' : wr.cell? ⟨gq, i, none⟩ = some (.int .i64 (v : Int)) := by
              rw [World.cell?_of_block (w := w1) (hI.out.2.block gq (World.block_lt_of_cell? w1 _ cq) hgq)]; exact cq
            have hvN : v < N := HT.out.2 v (List.mem_of_getElem? hv)
            have hnt : v ∉ E.take i := fun hm => by
              obtain ⟨j, hj, e⟩ := List.getElem_of_mem hm
              rw [List.length_take] at hj
              rw [List.getElem_take] at e
              have h1 := List.pairwise_iff_getElem.1 HSO.out j i (by omega) hlt2 (by omega)
              rw [List.getElem?_eq_getElem hlt2] at hv
              have h2 := Option.some.inj hv
              omega
            have hcell := hI.out.1.cell hvN
            simp only [if_neg hnt, Nat.add_zero] at hcell
            have hfree := hI.out.1.free v
            have htl := topsN_le bags f v k
            have HS : Hid (RowV (wr.setCell ⟨g, v, none⟩ (.int .i64 ((topsN bags f k v : Nat) + 1 : Int))) g 3 N (fun v => .int .i64 ((topsN bags f k v + if v ∈ E.take (i + 1) then 1 else 0 : Nat) : Int))) := (hI.out.1.set v _).congr fun j hj => by
              have hE1 : E.take (i + 1) = E.take i ++ [v] := by
                rw [List.take_succ_eq_append_getElem hlt2]
                rw [List.getElem?_eq_getElem hlt2] at hv
                rw [Option.some.inj hv]
              by_cases e : j = v
              · subst e
                rw [if_pos rfl, hE1, if_pos (by simp)]
                rfl
              · rw [if_neg e, hE1]
                simp [e]
            have HTn : Hid (Turns (fun x => x = g) w1 (wr.setCell ⟨g, v, none⟩ (.int .i64 ((topsN bags f k v : Nat) + 1 : Int)))) := hI.out.2.trans (setCell_turns _ _ _ _)
            have i3 : (0 : Int) ≤ (i : Int) := by omega
            have i4 : (i : Int) < (E.length : Int) := by omega
            have i5 : (0 : Int) ≤ (v : Int) := by omega
            have i6 : (v : Int) < (N : Int) := by omega
            generalize topsN bags f k v = tv at *
            clear hI cq hv hnt hgq
            go_wp2
            go_roundw
            case rel => exact ⟨i + 1, by omega, by go_num, ⟨HS.out, HTn.out⟩⟩
            case measure => simp [numOf]; omega
          · obtain rfl : i = E.length := by omega
            have HS : Hid (RowV wr g 3 N (fun v => .int .i64 ((topsN bags f (k + 1) v : Nat) : Int)) ∧ Below w.heap.size w wr) := ⟨hI.out.1.congr fun v hv => by
              rw [List.take_length, topsN_succ, HT.out.1]
              by_cases e : v ∈ E
              · rw [if_pos e, if_pos ((HE.out v).1 e)]
              · rw [if_neg e, if_neg fun h => e ((HE.out v).2 h)], hI.out.2.below HB1.out.2.1 HB1.out.2.1.size (fun x hx => by subst hx; exact HG.out)⟩
            clear hI
            go_wp2
            go_roundw
            case rel => exact ⟨k + 1, by omega, by go_num, HS⟩
            case measure => simp [numOf]; omega
    · obtain rfl : k = m := by omega
      go_upto_region 12 with (fail)
      go_loopw [13, 45] (fun _ s45 wz => ∃ i : Nat, i ≤ N ∧ s45 = .int .i64 (i : Int) ∧ Hid (∀ v, v < i → topsN bags f k v = 1) ∧ wz = wr) (fun _ s45 _ => N - (numOf s45).toNat)
      case atStart => exact ⟨0, Nat.zero_le _, rfl, fun v hv => by omega, rfl⟩
      case round =>
        obtain ⟨i, hi, rfl, hA, hwr⟩ := hrel
        subst hwr
        by_cases hlt2 : i < N
        · have hcell := hJ.out.1.cell hlt2
          have htl := topsN_le bags f i k
          have i3 : (0 : Int) ≤ (i : Int) := by omega
          have i4 : (i : Int) < (N : Int) := by omega
          by_cases h1 : topsN bags f k i = 1
          · have HA : Hid (∀ v, v < i + 1 → topsN bags f k v = 1) := fun v hv => by
              by_cases e : v = i
              · subst e; exact h1
              · exact hA.out v (by omega)
            rw [h1] at hcell
            clear h1
            go_wp2
            go_roundw
            case rel => exact ⟨i + 1, by omega, by go_num, HA, trivial⟩
            case measure => simp [numOf]; omega
          · have HF : Hid (hangB N bags f k = false) := by
              show _ = _
              unfold hangB
              rw [List.all_eq_false]
              exact ⟨i, List.mem_range.2 hlt2, by simpa using h1⟩
            have k1 : ((topsN bags f k i : Int) != 1) = true := by simp; omega
            generalize topsN bags f k i = tv at *
            go_wp2
            go_ret
            exact ⟨by rw [HF.out]; rfl, hJ.out.2⟩
        · obtain rfl : i = N := by omega
          have HF : Hid (hangB i bags f k = true) := by
            show _ = _
            unfold hangB
            rw [List.all_eq_true]
            exact fun v hv => by simpa using hA.out v (List.mem_range.1 hv)
          go_wp2
          go_ret
          exact ⟨by rw [HF.out]; rfl, hJ.out.2⟩
end Go.Proofs.YtdalconphfgepaaDoor
