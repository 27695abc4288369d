/- An order in which to take the nodes away: width.leastOrder. -/
import Derived.Test.YtdalconphfgepaaDoorLastMW
namespace Go.Proofs.YtdalconphfgepaaDoor
set_option maxRecDepth 8000
open Go.RowKit Go.Maps
attribute [local go_sem ↓] Go.wp_at_zero Go.wp_at_succ
/-- What is left when k of the nodes are left to be taken. -/
def leftF (near : List Nat) (S : Nat) : Nat → Nat
  | 0 => S
  | k + 1 => sDrop (leftF near S k) (lastL near (leftF near S k)).2
/-- The order: at place N - 1 - k the one that goes last of what is left then. -/
def ordL (near : List Nat) (N : Nat) : List Nat := (List.range N).map fun i => (lastL near (leftF near (setOf (List.range N)) (N - 1 - i))).2
theorem leftF_lt {near : List Nat} {S : Nat} (hS : S < 2 ^ 128) : ∀ k, leftF near S k < 2 ^ 128
  | 0 => hS
  | k + 1 => drop_lt (leftF_lt hS k)
theorem leftF_bits {near : List Nat} {S N : Nat} (hS : ∀ x, S.testBit x = true → x < N) : ∀ k x, (leftF near S k).testBit x = true → x < N
  | 0, x, h => hS x h
  | k + 1, x, h => by
    unfold leftF at h
    rw [bit_drop] at h
    exact leftF_bits hS k x (Bool.and_eq_true_iff.1 h).1
theorem last_lt {near : List Nat} {gone : Nat} (hg : gone < 2 ^ 128) : (lastL near gone).2 < 128 := by
  cases hc : countS gone with
  | zero =>
    rw [(count_zero hg).1 hc, lastL_zero]
    decide
  | succ c =>
    rw [lastL_eq hg hc]
    have : ∀ (l : List Nat) (b : Int × Nat), (∀ v ∈ l, v < 128) → b.2 < 128 → (l.foldl (lastStep near (lastL near) gone) b).2 < 128 := fun l => by
      induction l with
      | nil => exact fun b _ h => h
      | cons v l ih =>
        intro b hl hb
        refine ih _ (fun x hx => hl x (by simp [hx])) ?_
        unfold lastStep
        split
        · exact hl v (by simp)
        · exact hb
    exact this _ _ (fun v hv => elems_lt hv) (show (0 : Nat) < 128 by decide)
theorem set_lt (N : Nat) (hN : N ≤ 12) : setOf (List.range N) < 2 ^ 128 := setOf_lt (fun x hx => by have := List.mem_range.1 hx; omega)
theorem count_bits {s N : Nat} (hs : s < 2 ^ 128) (hb : ∀ x, s.testBit x = true → x < N) : countS s ≤ N := by
  unfold countS
  refine inj_len (g := fun i => (elems s).getD i 0) (fun i hi => ?_) (fun a b hab hb' => ?_)
  · simp only [List.getD_eq_getElem?_getD, List.getElem?_eq_getElem hi, Option.getD_some]
    exact hb _ ((mem_elems hs).1 (List.getElem_mem hi))
  · have := List.pairwise_iff_getElem.1 (elems_sorted s) a b (by omega) hb' hab
    simp only [List.getD_eq_getElem?_getD, List.getElem?_eq_getElem hb', List.getElem?_eq_getElem (show a < (elems s).length by omega), Option.getD_some]
    omega
set_option maxHeartbeats 8000000 in
theorem order_call {w : World} {bn N : Nat} {near : List Nat} (hS : SetsAt w bn near) (hl : near.length = N) (hN : N ≤ 12) (hbit : ∀ u x, (at' near u).testBit x = true → x < N) (ht : T64 w) :
    Calls Tryd.prog 27 #[sl bn N] w fun e w' => ∃ bo, e = .returned (.tuple #[.int .i64 (lastL near (setOf (List.range N))).1, .slice (some ⟨bo, 0, none⟩) N N]) ∧ w.heap.size ≤ bo ∧ RowV w' bo 3 N (fun i => .int .i64 ((ordL near N).getD i 0 : Int)) ∧ Below w.heap.size w w' := by
  have HH : Hid (SetsAt w bn near ∧ T64 w) := ⟨hS, ht⟩
  obtain ⟨S, hSd⟩ : ∃ S, S = setOf (List.range N) := ⟨_, rfl⟩
  have hSl : S < 2 ^ 128 := by rw [hSd]; exact set_lt N hN
  have hSb : ∀ x, S.testBit x = true → x < N := fun x hx => by
    rw [hSd, bit_setOf] at hx
    exact List.mem_range.1 (of_decide_eq_true hx)
  have HSS : Hid (S = setOf (List.range N)) := hSd
  have C51 : Hid (∀ A, Calls Tryd.prog 51 #[.int .i64 (N : Int)] A fun e w' => e = .returned (sv S) ∧ Below A.heap.size A w') := fun A => by rw [hSd]; exact all_call (by omega)
  rw [← hSd]
  clear hSd hS ht
  have hmm := @run_makeMap Tryd.prog
  have hE := enter47
  have hmk := make30 N (by omega)
  have z0 : ((lo64 0 : Nat) : Int) = 0 := by decide
  have z1 : ((hi64 0 : Nat) : Int) = 0 := by decide
  obtain ⟨A, hA⟩ : ∃ A, A = Obj.cells #[sl bn N] 56 := ⟨_, rfl⟩
  have hmade := mapM_made (w.alloc A)
  have hsz : (w.alloc A).heap.size = w.heap.size + 1 := by simp
  rw [hsz] at hmade
  obtain ⟨w2, hst, hm2, ht2⟩ := hmade.store (s := 0) (by decide) (-1, 0) (by omega)
  have hst' : (Instr.mapUpdate 91 (.map (some (w.heap.size + 1))) (.agg #[.int .u64 0, .int .u64 0]) (.agg #[.int .i64 (-1), .int .i64 0])).run Tryd.prog ((w.alloc A).alloc (.map #[] 0)) = .ok () w2 := by
    have e : sv 0 = .agg #[.int .u64 0, .int .u64 0] := by unfold sv; rw [z0, z1]
    rw [← e]; exact hst
  rw [hA] at hst'
  go_enter Tryd.func27, Tryd.ntmps27
  go_upto_region 4 with (fail)
  obtain ⟨b1, hb1⟩ : ∃ b, b = w2.heap.size := ⟨_, rfl⟩
  obtain ⟨b3, hb3⟩ : ∃ b, b = w2.heap.size + 1 := ⟨_, rfl⟩
  obtain ⟨b2, hb2⟩ : ∃ b, b = w.heap.size := ⟨_, rfl⟩
  obtain ⟨bm, hbm⟩ : ∃ b, b = w.heap.size + 1 := ⟨_, rfl⟩
  have hT2 := grown_turns ht2.grown
  have hB2 : Below w.heap.size w w2 := hT2.below (below_alloc (below_alloc (Below.refl _ w) A) (.map #[] 0)) (by simp; omega) (fun k e => by omega)
  have hA2 : Box w2 w.heap.size #[sl bn N] 56 := by
    refine (hT2.block w.heap.size (by simp; omega) (fun e => by omega)).trans ?_
    rw [Below.heap_alloc _ _ _ (by simp), hA]
    exact heap_alloc_new _ _
  have hs2 : w.heap.size + 2 ≤ w2.heap.size := by have := hT2.size; simp at this; omega
  rw [← hb3, ← hb1, ← hbm, ← hb2]
  rw [← hbm] at hm2
  rw [← hb2] at hA2
  have hB4 : Below w2.heap.size w2 ((w2.alloc (Obj.cells #[Value.map (some bm)] 91)).alloc (Obj.cells #[loF b1 b2 b3] 92)) := below_alloc (below_alloc (Below.refl _ w2) _) _
  have hk1 : Box ((w2.alloc (Obj.cells #[Value.map (some bm)] 91)).alloc (Obj.cells #[loF b1 b2 b3] 92)) b1 #[.map (some bm)] 91 := by
    show ((w2.alloc _).alloc _).heap[b1]? = _
    rw [Below.heap_alloc _ _ _ (by simp; omega), hb1]
    exact heap_alloc_new _ _
  have hk3 : Box ((w2.alloc (Obj.cells #[Value.map (some bm)] 91)).alloc (Obj.cells #[loF b1 b2 b3] 92)) b3 #[loF b1 b2 b3] 92 := by
    have := heap_alloc_new (w2.alloc (Obj.cells #[Value.map (some bm)] 91)) (Obj.cells #[loF b1 b2 b3] 92)
    rw [show (w2.alloc (Obj.cells #[Value.map (some bm)] 91)).heap.size = b3 by rw [hb3]; simp] at this
    exact this
  generalize (w2.alloc (Obj.cells #[Value.map (some bm)] 91)).alloc (Obj.cells #[loF b1 b2 b3] 92) = W4 at *
  have hBW : Below w.heap.size w W4 := below_next hB2 hB4
  have HLO : Hid (LO W4 b1 b2 b3 bm bn N near 1 (updM (fun _ => none) 0 (-1, 0)) ∧ Below w.heap.size w W4 ∧ w.heap.size ≤ bm) := ⟨⟨hk1, (hB4.block _ (lt_of_block hA2)).trans hA2, hk3, HH.out.1.under hBW, hm2.block (hB4.block _ hm2.lt), HH.out.2.under hBW, rfl, fun s p hs hp => by
    unfold updM at hp
    by_cases e : s = 0
    · rw [if_pos e] at hp
      rw [e, lastL_zero]
      exact (Option.some.inj hp).symm
    · rw [if_neg e] at hp
      cases hp⟩, hBW, by omega⟩
  have cnb := box_cell HLO.out.1.nb (i := 0) rfl
  have hfd : ∀ (a b : Int) (w : World), (Instr.field 90 (.agg #[.int .i64 a, .int .i64 b]) 0).run Tryd.prog w = .ok (.int .i64 a) w := fun a b w => by kernel_rfl
  have hfd1 : ∀ (a b : Int) (w : World), (Instr.field 90 (.agg #[.int .i64 a, .int .i64 b]) 1).run Tryd.prog w = .ok (.int .i64 b) w := fun a b w => by kernel_rfl
  clear hmade hst hst' hm2 ht2 hT2 hB2 hA2 hs2 hB4 hk1 hk3 hBW hA hsz hb1 hb2 hb3 hbm z0 z1 hmm
  go_upto_region 5 with (first | (go_at_call 51; refine Calls.mono (C51.out _) ?_; rintro e w5 ⟨rfl, h5⟩) | fail)
  have x6 := two_new w5 (.int .u64 (lo64 S : Int)) (.int .u64 (hi64 S : Int)) 76
  have hB6 := below_alloc h5 (Obj.cells #[.int .u64 (lo64 S : Int), .int .u64 (hi64 S : Int)] 76)
  obtain ⟨b6, hb6⟩ : ∃ b, b = w5.heap.size := ⟨_, rfl⟩
  have hle6 : W4.heap.size ≤ b6 := by rw [hb6]; exact h5.size
  rw [← hb6] at x6 ⊢
  generalize w5.alloc (Obj.cells #[.int .u64 (lo64 S : Int), .int .u64 (hi64 S : Int)] 76) = W6 at *
  have HW6 : Hid (LO W6 b1 b2 b3 bm bn N near 1 (updM (fun _ => none) 0 (-1, 0)) ∧ SBox W6 b6 S ∧ Below w.heap.size w W6 ∧ W4.heap.size ≤ b6) := ⟨HLO.out.1.below hB6, x6, below_next HLO.out.2.1 hB6, hle6⟩
  obtain ⟨a0, a1⟩ := cell_two x6
  have cfb := box_cell HW6.out.1.fb (i := 0) rfl
  have HCB : Hid (∀ T, T < 2 ^ 128 → (∀ x, T.testBit x = true → x < N) → cost (countS T) ≤ 1302061345) := fun T hT hb => by
    have := cost_mono (Nat.le_trans (count_bits hT hb) hN)
    rw [cost_12] at this
    exact this
  have C47 : Hid (∀ (T : Nat) (A : World) n F, T < 2 ^ 128 → (∀ x, T.testBit x = true → x < N) → LO A b1 b2 b3 bm bn N near n F → n + cost (countS T) ≤ 1000000000000 → Calls Tryd.prog 47 #[sv T, .pointer (some ⟨b1, 0, none⟩), .pointer (some ⟨b2, 0, none⟩), .pointer (some ⟨b3, 0, none⟩)] A fun e w' => ∃ (n' : Nat) (F' : Nat → Option (Int × Nat)), e = .returned (.agg #[.int .i64 (lastL near T).1, .int .i64 ((lastL near T).2 : Int)]) ∧ LO w' b1 b2 b3 bm bn N near n' F' ∧ n' ≤ n + cost (countS T) ∧ Turns (fun k => k = bm) A w') := fun T A n F h1 h2 h3 h4 => lastOf_call hN hl hbit (countS T) T rfl h1 h2 A n F h3 h4
  have C47a : Hid _ := C47.out S W6 1 _ hSl hSb HW6.out.1 (by have := HCB.out S hSl hSb; omega)
  obtain ⟨lw, hlw⟩ : ∃ lw, lw = (lastL near S).1 := ⟨_, rfl⟩
  rw [← hlw] at C47a
  have HLW : Hid (lw = (lastL near S).1) := hlw
  clear hlw x6 hB6 h5 hb6 hle6 cnb
  go_upto_region 6 with (first | (go_at_call 47; refine Calls.mono C47a.out ?_; rintro e w7 ⟨n7, F7, rfl, g1, g2, g3⟩) | fail)
  have hb6m : b6 ≠ bm := by have := HLO.out.1.map.lt; have := HW6.out.2.2.2; omega
  have HW7 : Hid (LO w7 b1 b2 b3 bm bn N near n7 F7 ∧ n7 ≤ 1 + 1302061345 ∧ SBox w7 b6 S ∧ Below w.heap.size w w7) := ⟨g1, by have := HCB.out S hSl hSb; omega, two_turns HW6.out.2.1 g3 hb6m, g3.below HW6.out.2.2.1 HW6.out.2.2.1.size (fun k hk => by subst hk; exact HLO.out.2.2)⟩
  have cnb7 := box_cell g1.nb (i := 0) rfl
  clear g1 g2 g3 a0 a1 cfb C47a
  go_upto_region 7 with (fail)
  have hB8 := below_alloc (Below.refl _ w7) (Obj.cells (rep N (.int .i64 0)) 3)
  obtain ⟨bo, hbo⟩ : ∃ b, b = w7.heap.size := ⟨_, rfl⟩
  have r8 : RowV (w7.alloc (.cells (rep N (.int .i64 0)) 3)) bo 3 N (fun _ => .int .i64 0) := rowV_rep (by rw [hbo]; exact heap_alloc_new _ _)
  have HBO : Hid (w.heap.size ≤ bo ∧ b6 ≠ bo ∧ bm ≠ bo ∧ W4.heap.size ≤ bo) := ⟨by rw [hbo]; exact HW7.out.2.2.2.size, by have := lt_of_block HW7.out.2.2.1; omega, by have := HW7.out.1.map.lt; omega, by have h1 := lt_of_block HW7.out.2.2.1; have := HW6.out.2.2.2; omega⟩
  rw [← hbo]
  have cnb8 : (w7.alloc (.cells (rep N (.int .i64 0)) 3)).cell? ⟨b2, 0, none⟩ = some (sl bn N) := by rw [hB8.cell (World.block_lt_of_cell? w7 _ cnb7)]; exact cnb7
  generalize w7.alloc (.cells (rep N (.int .i64 0)) 3) = W8 at *
  have HW8 : Hid (LO W8 b1 b2 b3 bm bn N near n7 F7 ∧ n7 ≤ 1 + 1302061345 ∧ SBox W8 b6 S ∧ Below w.heap.size w W8 ∧ RowV W8 bo 3 N (fun _ => .int .i64 0)) := ⟨HW7.out.1.below hB8, HW7.out.2.1, two_next HW7.out.2.2.1 hB8, below_next HW7.out.2.2.2 hB8, r8⟩
  clear hB8 hbo r8 cnb7 hmk HW7
  go_upto_region 8 with (fail)
  clear cnb8
  go_loopw [7] (fun s7 wz => ∃ (k n' : Nat) (F' : Nat → Option (Int × Nat)), k ≤ N ∧ s7 = .int .i64 ((N : Int) - 1 - (k : Int)) ∧ Hid (LO wz b1 b2 b3 bm bn N near n' F' ∧ n' ≤ 1 + (k + 1) * 1302061345 ∧ SBox wz b6 (leftF near S k) ∧ Below w.heap.size w wz ∧ RowV wz bo 3 N (fun i => if N - k ≤ i then .int .i64 ((ordL near N).getD i 0 : Int) else .int .i64 0))) (fun s7 _ => (numOf s7 + 1).toNat)
  case atStart => exact ⟨0, n7, F7, Nat.zero_le _, by go_num, ⟨HW8.out.1, by have := HW8.out.2.1; omega, HW8.out.2.2.1, HW8.out.2.2.2.1, HW8.out.2.2.2.2.congr fun i hi => by rw [if_neg (by omega)]⟩⟩
  case round =>
    obtain ⟨k, n', F', hk, rfl, hI⟩ := hrel
    clear HW8
    by_cases hlt : k < N
    · obtain ⟨j, hj⟩ : ∃ j : Nat, (N : Int) - 1 - (k : Int) = (j : Int) := ⟨N - 1 - k, by omega⟩
      have hjN : j < N := by omega
      have hjk : N - 1 - j = k := by omega
      have hjk2 : N - (k + 1) = j := by omega
      rw [hj]
      obtain ⟨T, hT⟩ : ∃ T, T = leftF near S k := ⟨_, rfl⟩
      have hTl : T < 2 ^ 128 := by rw [hT]; exact leftF_lt hSl k
      have hTb : ∀ x, T.testBit x = true → x < N := fun x hx => by rw [hT] at hx; exact leftF_bits hSb k x hx
      have hll := last_lt (near := near) hTl
      obtain ⟨la, hla⟩ : ∃ la, la = (lastL near T).2 := ⟨_, rfl⟩
      have HOL : Hid ((ordL near N).getD j 0 = la) := by
        show _ = _
        unfold ordL
        rw [List.getD_eq_getElem?_getD, List.getElem?_map, List.getElem?_range hjN, hla, hT, HSS.out]
        simp only [Option.map_some, Option.getD_some, hjk]
      have HLF : Hid (leftF near S (k + 1) = sDrop T la) := by
        show sDrop (leftF near S k) (lastL near (leftF near S k)).2 = _
        rw [← hT, ← hla]
      have C47b : Hid _ := C47.out T wr n' F' hTl hTb hI.out.1 (by
        have h1 := HCB.out T hTl hTb
        have h2 := hI.out.2.1
        have h3 : (k + 1) * 1302061345 ≤ 12 * 1302061345 := Nat.mul_le_mul_right _ (by omega)
        omega)
      rw [← hla] at C47b hll
      have hsb := hI.out.2.2.1
      rw [← hT] at hsb
      obtain ⟨a0, a1⟩ := cell_two hsb
      have cfb := box_cell hI.out.1.fb (i := 0) rfl
      have HST : Hid (∀ A, Turns (fun x => x = bm) wr A → SBox A b6 T ∧ RowV A bo 3 N (fun i => if N - k ≤ i then .int .i64 ((ordL near N).getD i 0 : Int) else .int .i64 0) ∧ Below w.heap.size w A) := fun A hA => ⟨two_turns hsb hA (by have := HLO.out.1.map.lt; have := HW6.out.2.2.2; omega), hI.out.2.2.2.2.turns hA (fun e => HBO.out.2.2.1 e.symm), hA.below hI.out.2.2.2.1 hI.out.2.2.2.1.size (fun x hx => by subst hx; exact HLO.out.2.2)⟩
      have hn2 : n' + cost (countS T) ≤ 1 + (k + 1 + 1) * 1302061345 := by
        have h1 := HCB.out T hTl hTb
        have h2 := hI.out.2.1
        rw [Nat.succ_mul (k + 1)]
        omega
      have i1 : (0 : Int) ≤ (j : Int) := by omega
      have i2 : (j : Int) < (N : Int) := by omega
      have k1 : decide ((0 : Int) ≤ (j : Int)) = true := by simp
      clear hI hT hla hsb
      go_upto_region 11 with (first | (go_at_call 47; refine Calls.mono C47b.out ?_; rintro e w9 ⟨n9, F9, rfl, g1, g2, g3⟩; obtain ⟨s9, r9, B9⟩ := HST.out _ g3; have c9 := r9.cell hjN; have f9 := r9.free j) | fail)
      have hrs := r9.set j (.int .i64 (la : Int))
      have hts := setCell_turns w9 bo j (.int .i64 (la : Int))
      have s10 : SBox (w9.setCell ⟨bo, j, none⟩ (.int .i64 (la : Int))) b6 T := two_far s9 HBO.out.2.1
      have c10 := hrs.cell hjN
      simp only [if_true] at c10
      have HW10 : Hid (LO (w9.setCell ⟨bo, j, none⟩ (.int .i64 (la : Int))) b1 b2 b3 bm bn N near n9 F9 ∧ n9 ≤ 1 + (k + 1 + 1) * 1302061345 ∧ RowV (w9.setCell ⟨bo, j, none⟩ (.int .i64 (la : Int))) bo 3 N (fun i => if N - (k + 1) ≤ i then .int .i64 ((ordL near N).getD i 0 : Int) else .int .i64 0) ∧ Below w.heap.size w (w9.setCell ⟨bo, j, none⟩ (.int .i64 (la : Int)))) := ⟨LO.apart HLO.out.1 g1 hts (fun x hx => by subst hx; exact HBO.out.2.2.2), by omega, hrs.congr fun i hi => by
        by_cases e : i = j
        · rw [if_pos e, if_pos (by omega), e, HOL.out]
        · rw [if_neg e]
          by_cases e2 : N - k ≤ i
          · rw [if_pos e2, if_pos (by omega)]
          · rw [if_neg e2, if_neg (by omega)], B9.setCell HBO.out.1 _⟩
      have C52 : Hid _ := drop_sbox hTl hll s10
      clear g1 g2 g3 s9 r9 B9 c9 f9 hrs hts a0 a1 cfb C47b HST s10
      generalize w9.setCell ⟨bo, j, none⟩ (.int .i64 (la : Int)) = w10 at *
      go_wp2_with (first | (go_at_call 52; refine Calls.mono C52.out ?_; rintro e w11 ⟨rfl, s11, t11⟩) | go_in)
      have HW11 : Hid (LO w11 b1 b2 b3 bm bn N near n9 F9 ∧ n9 ≤ 1 + (k + 1 + 1) * 1302061345 ∧ SBox w11 b6 (leftF near S (k + 1)) ∧ Below w.heap.size w w11 ∧ RowV w11 bo 3 N (fun i => if N - (k + 1) ≤ i then .int .i64 ((ordL near N).getD i 0 : Int) else .int .i64 0)) := ⟨LO.apart HLO.out.1 HW10.out.1 t11 (fun x hx => by subst hx; exact HW6.out.2.2.2), HW10.out.2.1, by rw [HLF.out]; exact s11, t11.below HW10.out.2.2.2 HW10.out.2.2.2.size (fun x hx => by subst hx; have := HW6.out.2.2.2; have := HLO.out.2.1.size; omega), HW10.out.2.2.1.turns t11 (fun e => HBO.out.2.1 e.symm)⟩
      go_roundw
      case rel => exact ⟨k + 1, n9, F9, by omega, by (have e1 : (j : Int) - 1 = (N : Int) - 1 - ((k + 1 : Nat) : Int) := by omega); rw [← e1], HW11⟩
      case measure => simp [numOf]
    · obtain rfl : k = N := by omega
      have k1 : decide ((0 : Int) ≤ (k : Int) - 1 - (k : Int)) = false := by simp; omega
      have k2 : ¬ (0 : Int) ≤ (k : Int) - 1 - (k : Int) := by omega
      have HE : Hid (RowV wr bo 3 k (fun i => .int .i64 ((ordL near k).getD i 0 : Int)) ∧ Below w.heap.size w wr) := ⟨hI.out.2.2.2.2.congr fun i hi => by rw [if_pos (by omega)], hI.out.2.2.2.1⟩
      go_wp2
      refine bodyPost_ret (v := .tuple #[.int .i64 lw, .slice (some ⟨bo, 0, none⟩) k k]) ?_ rfl ⟨bo, by rw [HLW.out], HBO.out.1, HE.out.1, HE.out.2⟩
      simp [results, Tryd.results27, go_sem]
end Go.Proofs.YtdalconphfgepaaDoor
