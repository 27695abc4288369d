/- The document's Unpacked: its size. -/
import Derived.Test.YtbaghbodjpehpaaDoorUnpackedFaults
namespace Go.Proofs.YtbaghbodjpehpaaDoor
open Go.RowKit Go.Maps
attribute [local go_sem ↓] Go.wp_at_zero Go.wp_at_succ

structure ShortAt (s : ByteArray) (x N : Nat) : Prop where
  pos : 0 < s.size
  h0 : s[0].toNat = x
  bx : 63 ≤ x ∧ x ≤ 125
  hN : x - 63 = N

theorem pairs_num : ∀ N : Nat, N < 101 → wrap64 ((wrap64 ((N : Int) * ((N : Int) - 1))).tdiv 2) = (prs N : Int) := by decide +kernel

set_option maxRecDepth 100000 in
set_option maxHeartbeats 4000000 in
theorem unpacked_few1 (s : ByteArray) (w : World) (h : s.size ≤ 20000) (hg : ∀ i (h : i < s.size), goodB s[i] = true) {x N : Nat} (hL : ShortAt s x N) (hN : N ≤ 100) (hc : s.size < 1 + nby N) : Tells 15 #[.string s] w ⟨0, [], 1, s.size⟩ := by
  have h1 : ¬ (20000 : Int) < (s.size : Int) := by omega
  have HG : Hid _ := hg
  clear hg
  have HL : Hid _ := hL
  have HC : Hid _ := hc
  clear hL hc
  have G := rs0 w
  unfold Tells
  go_enter Tryd.func15, Tryd.ntmps15
  go_upto_region 1 with fail
  generalize (w.alloc (Obj.cells #[.int .i64 0, .slice none 0 0] 24)).alloc (Obj.cells #[.int .i64 0, .int .i64 0] 27) = W at G ⊢
  go_upto_region 4 with fail
  go_loop [4] (fun t => ∃ i : Nat, i ≤ s.size ∧ t = .int .i64 i) (fun t => s.size - (intOf t).toNat)
  case atStart => exact ⟨0, Nat.zero_le _, rfl⟩
  case round =>
    obtain ⟨i, hi, rfl⟩ := hrel
    have k0 : (0 : Int) ≤ (i : Int) := by omega
    by_cases hiK : i < s.size
    · have k1 : (i : Int) < (s.size : Int) := by omega
      obtain ⟨g0, g1⟩ := (goodB_iff _).1 (HG.out i hiK)
      have k2 : ¬ (s[i].toNat : Int) < 63 := by omega
      have k3 : ¬ (126 : Int) < (s[i].toNat : Int) := by omega
      clear g0 g1
      go_wp2
      go_round
      case rel => exact ⟨i + 1, by omega, by go_num⟩
      case measure => simp [intOf]; omega
    · have k1 : ¬ (i : Int) < (s.size : Int) := by omega
      clear hiK hi
      go_upto_region 8 with fail
      clear k0 k1
      have e0 := ne_empty HL.out.pos
      have h4 := HL.out.pos
      have e2 : (0 : Int) < (s.size : Int) := by omega
      have q0 := HL.out.h0
      obtain ⟨b1, b2⟩ := HL.out.bx
      have hx : ((x : Int) == 126) = false := by simp; omega
      have hv : (x : Int) - 63 = (N : Int) := by have := HL.out.hN; omega
      go_upto_region 11 with fail
      have l2 : ¬ (100 : Int) < (N : Int) := by omega
      go_upto_region 21 with fail
      rw [pairs_num N (by omega)]
      have hp9 := prs_le100 N hN
      have hnb : 6 * nby N < prs N + 6 ∧ prs N ≤ 6 * nby N := by unfold nby; omega
      generalize nby N = NB at hnb HC ⊢
      generalize prs N = PR at hnb hp9 ⊢
      obtain ⟨nb1, nb2⟩ := hnb
      go_loop [8] (fun t => ∃ z : Nat, 1 ≤ z ∧ z ≤ 1 + NB ∧ t = .int .i64 z) (fun t => 1 + NB - (intOf t).toNat)
      case atStart => exact ⟨1, by omega, by omega, rfl⟩
      case round =>
        obtain ⟨z, hz1, hz2, rfl⟩ := hrel
        by_cases hzl : z < 1 + NB
        · have k1 : (z : Int) * 6 < 6 + (PR : Int) := by omega
          go_wp2
          go_round
          case rel => exact ⟨z + 1, by omega, by omega, by go_num⟩
          case measure => simp [intOf]; omega
        · have k1 : ¬ (z : Int) * 6 < 6 + (PR : Int) := by omega
          have hze : z = 1 + NB := by omega
          clear hzl hz1 hz2
          have k2 : (s.size : Int) < (z : Int) := by have := HC.out; omega
          go_wp2_with (go_at_call 17; refine (refF_any _ _ _).mono ?_; rintro e w9 ⟨rfl, hb9⟩; obtain ⟨z0, z1, z2⟩ := kk (two_next G.r0 hb9); obtain ⟨y0, y1, y2⟩ := kapart (two_next G.r1 hb9) (show w.heap.size ≠ w.heap.size + 1 by omega))
          obtain ⟨⟨r3, r4, r5, r6⟩, hb2⟩ := ends (two_next G.r0 hb9) (two_next G.r1 hb9) (below_next G.below hb9) (.int .i64 0) (.slice none 0 0) (.int .i64 1) (.int .i64 s.size)
          exact bodyPost_ret (v := .tuple #[.agg #[.int .i64 0, .slice none 0 0], .agg #[.int .i64 1, .int .i64 s.size]]) (by simp [results, Tryd.results15, go_sem, r3, r4, r5, r6]) rfl ⟨hb2, none, 0, rfl, edgesAt_nil _, fun x h => by cases h⟩

set_option maxRecDepth 100000 in
set_option maxHeartbeats 4000000 in
theorem unpacked_few4 (s : ByteArray) (w : World) (h : s.size ≤ 20000) (hg : ∀ i (h : i < s.size), goodB s[i] = true) {x y z N : Nat} (hL : LongAt s x y z N) (h63 : 63 ≤ N) (hN : N ≤ 100) (hc : s.size < 4 + nby N) : Tells 15 #[.string s] w ⟨0, [], 1, s.size⟩ := by
  have h1 : ¬ (20000 : Int) < (s.size : Int) := by omega
  have HG : Hid _ := hg
  clear hg
  have HL : Hid _ := hL
  have HC : Hid _ := hc
  clear hL hc
  have G := rs0 w
  unfold Tells
  go_enter Tryd.func15, Tryd.ntmps15
  go_upto_region 1 with fail
  generalize (w.alloc (Obj.cells #[.int .i64 0, .slice none 0 0] 24)).alloc (Obj.cells #[.int .i64 0, .int .i64 0] 27) = W at G ⊢
  go_upto_region 4 with fail
  go_loop [4] (fun t => ∃ i : Nat, i ≤ s.size ∧ t = .int .i64 i) (fun t => s.size - (intOf t).toNat)
  case atStart => exact ⟨0, Nat.zero_le _, rfl⟩
  case round =>
    obtain ⟨i, hi, rfl⟩ := hrel
    have k0 : (0 : Int) ≤ (i : Int) := by omega
    by_cases hiK : i < s.size
    · have k1 : (i : Int) < (s.size : Int) := by omega
      obtain ⟨g0, g1⟩ := (goodB_iff _).1 (HG.out i hiK)
      have k2 : ¬ (s[i].toNat : Int) < 63 := by omega
      have k3 : ¬ (126 : Int) < (s[i].toNat : Int) := by omega
      clear g0 g1
      go_wp2
      go_round
      case rel => exact ⟨i + 1, by omega, by go_num⟩
      case measure => simp [intOf]; omega
    · have k1 : ¬ (i : Int) < (s.size : Int) := by omega
      clear hiK hi
      go_upto_region 8 with fail
      clear k0 k1
      have e0 := ne_empty (show 0 < s.size by have := HL.out.four; omega)
      have e1 : ¬ (s.size : Int) < 4 := by have := HL.out.four; omega
      have e2 : (0 : Int) < (s.size : Int) := by omega
      have e3 : (1 : Int) < (s.size : Int) := by omega
      have e4 : (2 : Int) < (s.size : Int) := by omega
      have e5 : (3 : Int) < (s.size : Int) := by omega
      have h4 := HL.out.four
      have q0 := HL.out.h0
      have q1 := HL.out.h1
      have q2 := HL.out.h2
      have q3 := HL.out.h3
      obtain ⟨b1, b2⟩ := HL.out.bx
      obtain ⟨b3, b4⟩ := HL.out.by_
      obtain ⟨b5, b6⟩ := HL.out.bz
      go_upto_region 13 with fail
      go_quiet (fail)
      replace G := G.drewN nq
      generalize W.drewN nq = V at G ⊢
      have hv : ((x : Int) - 63) * 4096 + ((y : Int) - 63) * 64 + (z : Int) - 63 = (N : Int) := by have := HL.out.hN; omega
      rw [hv]
      have l1 : ¬ (N : Int) < 63 := by omega
      have l2 : ¬ (100 : Int) < (N : Int) := by omega
      go_upto_region 21 with fail
      rw [pairs_num N (by omega)]
      have hp9 := prs_le100 N hN
      have hnb : 6 * nby N < prs N + 6 ∧ prs N ≤ 6 * nby N := by unfold nby; omega
      generalize nby N = NB at hnb HC ⊢
      generalize prs N = PR at hnb hp9 ⊢
      obtain ⟨nb1, nb2⟩ := hnb
      go_loop [8] (fun t => ∃ z : Nat, 4 ≤ z ∧ z ≤ 4 + NB ∧ t = .int .i64 z) (fun t => 4 + NB - (intOf t).toNat)
      case atStart => exact ⟨4, by omega, by omega, rfl⟩
      case round =>
        obtain ⟨z, hz1, hz2, rfl⟩ := hrel
        by_cases hzl : z < 4 + NB
        · have k1 : (z : Int) * 6 < 24 + (PR : Int) := by omega
          go_wp2
          go_round
          case rel => exact ⟨z + 1, by omega, by omega, by go_num⟩
          case measure => simp [intOf]; omega
        · have k1 : ¬ (z : Int) * 6 < 24 + (PR : Int) := by omega
          have hze : z = 4 + NB := by omega
          clear hzl hz1 hz2
          have k2 : (s.size : Int) < (z : Int) := by have := HC.out; omega
          go_wp2_with (go_at_call 17; refine (refF_any _ _ _).mono ?_; rintro e w9 ⟨rfl, hb9⟩; obtain ⟨z0, z1, z2⟩ := kk (two_next G.r0 hb9); obtain ⟨y0, y1, y2⟩ := kapart (two_next G.r1 hb9) (show w.heap.size ≠ w.heap.size + 1 by omega))
          obtain ⟨⟨r3, r4, r5, r6⟩, hb2⟩ := ends (two_next G.r0 hb9) (two_next G.r1 hb9) (below_next G.below hb9) (.int .i64 0) (.slice none 0 0) (.int .i64 1) (.int .i64 s.size)
          exact bodyPost_ret (v := .tuple #[.agg #[.int .i64 0, .slice none 0 0], .agg #[.int .i64 1, .int .i64 s.size]]) (by simp [results, Tryd.results15, go_sem, r3, r4, r5, r6]) rfl ⟨hb2, none, 0, rfl, edgesAt_nil _, fun x h => by cases h⟩

set_option maxRecDepth 100000 in
set_option maxHeartbeats 4000000 in
theorem unpacked_more1 (s : ByteArray) (w : World) (h : s.size ≤ 20000) (hg : ∀ i (h : i < s.size), goodB s[i] = true) {x N : Nat} (hL : ShortAt s x N) (hN : N ≤ 100) {T : Nat} (hc : 1 + nby N = T ∧ T < s.size) : Tells 15 #[.string s] w ⟨0, [], 1, T⟩ := by
  have h1 : ¬ (20000 : Int) < (s.size : Int) := by omega
  have HG : Hid _ := hg
  clear hg
  have HL : Hid _ := hL
  have HC : Hid _ := hc
  clear hL hc
  have G := rs0 w
  unfold Tells
  go_enter Tryd.func15, Tryd.ntmps15
  go_upto_region 1 with fail
  generalize (w.alloc (Obj.cells #[.int .i64 0, .slice none 0 0] 24)).alloc (Obj.cells #[.int .i64 0, .int .i64 0] 27) = W at G ⊢
  go_upto_region 4 with fail
  go_loop [4] (fun t => ∃ i : Nat, i ≤ s.size ∧ t = .int .i64 i) (fun t => s.size - (intOf t).toNat)
  case atStart => exact ⟨0, Nat.zero_le _, rfl⟩
  case round =>
    obtain ⟨i, hi, rfl⟩ := hrel
    have k0 : (0 : Int) ≤ (i : Int) := by omega
    by_cases hiK : i < s.size
    · have k1 : (i : Int) < (s.size : Int) := by omega
      obtain ⟨g0, g1⟩ := (goodB_iff _).1 (HG.out i hiK)
      have k2 : ¬ (s[i].toNat : Int) < 63 := by omega
      have k3 : ¬ (126 : Int) < (s[i].toNat : Int) := by omega
      clear g0 g1
      go_wp2
      go_round
      case rel => exact ⟨i + 1, by omega, by go_num⟩
      case measure => simp [intOf]; omega
    · have k1 : ¬ (i : Int) < (s.size : Int) := by omega
      clear hiK hi
      go_upto_region 8 with fail
      clear k0 k1
      have e0 := ne_empty HL.out.pos
      have h4 := HL.out.pos
      have e2 : (0 : Int) < (s.size : Int) := by omega
      have q0 := HL.out.h0
      obtain ⟨b1, b2⟩ := HL.out.bx
      have hx : ((x : Int) == 126) = false := by simp; omega
      have hv : (x : Int) - 63 = (N : Int) := by have := HL.out.hN; omega
      go_upto_region 11 with fail
      have l2 : ¬ (100 : Int) < (N : Int) := by omega
      go_upto_region 21 with fail
      rw [pairs_num N (by omega)]
      have hp9 := prs_le100 N hN
      have hnb : 6 * nby N < prs N + 6 ∧ prs N ≤ 6 * nby N := by unfold nby; omega
      generalize nby N = NB at hnb HC ⊢
      generalize prs N = PR at hnb hp9 ⊢
      obtain ⟨nb1, nb2⟩ := hnb
      go_loop [8] (fun t => ∃ z : Nat, 1 ≤ z ∧ z ≤ 1 + NB ∧ t = .int .i64 z) (fun t => 1 + NB - (intOf t).toNat)
      case atStart => exact ⟨1, by omega, by omega, rfl⟩
      case round =>
        obtain ⟨z, hz1, hz2, rfl⟩ := hrel
        by_cases hzl : z < 1 + NB
        · have k1 : (z : Int) * 6 < 6 + (PR : Int) := by omega
          go_wp2
          go_round
          case rel => exact ⟨z + 1, by omega, by omega, by go_num⟩
          case measure => simp [intOf]; omega
        · have k1 : ¬ (z : Int) * 6 < 6 + (PR : Int) := by omega
          have hze : z = 1 + NB := by omega
          clear hzl hz1 hz2
          have hzT : z = T := by have := HC.out.1; omega
          have HT := HC.out.2
          subst hzT
          have k2 : ¬ (s.size : Int) < (z : Int) := by omega
          have k3 : (z : Int) < (s.size : Int) := by omega
          clear hze HC
          go_wp2_with (go_at_call 17; refine (refF_any _ _ _).mono ?_; rintro e w9 ⟨rfl, hb9⟩; obtain ⟨z0, z1, z2⟩ := kk (two_next G.r0 hb9); obtain ⟨y0, y1, y2⟩ := kapart (two_next G.r1 hb9) (show w.heap.size ≠ w.heap.size + 1 by omega))
          obtain ⟨⟨r3, r4, r5, r6⟩, hb2⟩ := ends (two_next G.r0 hb9) (two_next G.r1 hb9) (below_next G.below hb9) (.int .i64 0) (.slice none 0 0) (.int .i64 1) (.int .i64 z)
          exact bodyPost_ret (v := .tuple #[.agg #[.int .i64 0, .slice none 0 0], .agg #[.int .i64 1, .int .i64 z]]) (by simp [results, Tryd.results15, go_sem, r3, r4, r5, r6]) rfl ⟨hb2, none, 0, rfl, edgesAt_nil _, fun x h => by cases h⟩

set_option maxRecDepth 100000 in
set_option maxHeartbeats 4000000 in
theorem unpacked_more4 (s : ByteArray) (w : World) (h : s.size ≤ 20000) (hg : ∀ i (h : i < s.size), goodB s[i] = true) {x y z N : Nat} (hL : LongAt s x y z N) (h63 : 63 ≤ N) (hN : N ≤ 100) {T : Nat} (hc : 4 + nby N = T ∧ T < s.size) : Tells 15 #[.string s] w ⟨0, [], 1, T⟩ := by
  have h1 : ¬ (20000 : Int) < (s.size : Int) := by omega
  have HG : Hid _ := hg
  clear hg
  have HL : Hid _ := hL
  have HC : Hid _ := hc
  clear hL hc
  have G := rs0 w
  unfold Tells
  go_enter Tryd.func15, Tryd.ntmps15
  go_upto_region 1 with fail
  generalize (w.alloc (Obj.cells #[.int .i64 0, .slice none 0 0] 24)).alloc (Obj.cells #[.int .i64 0, .int .i64 0] 27) = W at G ⊢
  go_upto_region 4 with fail
  go_loop [4] (fun t => ∃ i : Nat, i ≤ s.size ∧ t = .int .i64 i) (fun t => s.size - (intOf t).toNat)
  case atStart => exact ⟨0, Nat.zero_le _, rfl⟩
  case round =>
    obtain ⟨i, hi, rfl⟩ := hrel
    have k0 : (0 : Int) ≤ (i : Int) := by omega
    by_cases hiK : i < s.size
    · have k1 : (i : Int) < (s.size : Int) := by omega
      obtain ⟨g0, g1⟩ := (goodB_iff _).1 (HG.out i hiK)
      have k2 : ¬ (s[i].toNat : Int) < 63 := by omega
      have k3 : ¬ (126 : Int) < (s[i].toNat : Int) := by omega
      clear g0 g1
      go_wp2
      go_round
      case rel => exact ⟨i + 1, by omega, by go_num⟩
      case measure => simp [intOf]; omega
    · have k1 : ¬ (i : Int) < (s.size : Int) := by omega
      clear hiK hi
      go_upto_region 8 with fail
      clear k0 k1
      have e0 := ne_empty (show 0 < s.size by have := HL.out.four; omega)
      have e1 : ¬ (s.size : Int) < 4 := by have := HL.out.four; omega
      have e2 : (0 : Int) < (s.size : Int) := by omega
      have e3 : (1 : Int) < (s.size : Int) := by omega
      have e4 : (2 : Int) < (s.size : Int) := by omega
      have e5 : (3 : Int) < (s.size : Int) := by omega
      have h4 := HL.out.four
      have q0 := HL.out.h0
      have q1 := HL.out.h1
      have q2 := HL.out.h2
      have q3 := HL.out.h3
      obtain ⟨b1, b2⟩ := HL.out.bx
      obtain ⟨b3, b4⟩ := HL.out.by_
      obtain ⟨b5, b6⟩ := HL.out.bz
      go_upto_region 13 with fail
      go_quiet (fail)
      replace G := G.drewN nq
      generalize W.drewN nq = V at G ⊢
      have hv : ((x : Int) - 63) * 4096 + ((y : Int) - 63) * 64 + (z : Int) - 63 = (N : Int) := by have := HL.out.hN; omega
      rw [hv]
      have l1 : ¬ (N : Int) < 63 := by omega
      have l2 : ¬ (100 : Int) < (N : Int) := by omega
      go_upto_region 21 with fail
      rw [pairs_num N (by omega)]
      have hp9 := prs_le100 N hN
      have hnb : 6 * nby N < prs N + 6 ∧ prs N ≤ 6 * nby N := by unfold nby; omega
      generalize nby N = NB at hnb HC ⊢
      generalize prs N = PR at hnb hp9 ⊢
      obtain ⟨nb1, nb2⟩ := hnb
      go_loop [8] (fun t => ∃ z : Nat, 4 ≤ z ∧ z ≤ 4 + NB ∧ t = .int .i64 z) (fun t => 4 + NB - (intOf t).toNat)
      case atStart => exact ⟨4, by omega, by omega, rfl⟩
      case round =>
        obtain ⟨z, hz1, hz2, rfl⟩ := hrel
        by_cases hzl : z < 4 + NB
        · have k1 : (z : Int) * 6 < 24 + (PR : Int) := by omega
          go_wp2
          go_round
          case rel => exact ⟨z + 1, by omega, by omega, by go_num⟩
          case measure => simp [intOf]; omega
        · have k1 : ¬ (z : Int) * 6 < 24 + (PR : Int) := by omega
          have hze : z = 4 + NB := by omega
          clear hzl hz1 hz2
          have hzT : z = T := by have := HC.out.1; omega
          have HT := HC.out.2
          subst hzT
          have k2 : ¬ (s.size : Int) < (z : Int) := by omega
          have k3 : (z : Int) < (s.size : Int) := by omega
          clear hze HC
          go_wp2_with (go_at_call 17; refine (refF_any _ _ _).mono ?_; rintro e w9 ⟨rfl, hb9⟩; obtain ⟨z0, z1, z2⟩ := kk (two_next G.r0 hb9); obtain ⟨y0, y1, y2⟩ := kapart (two_next G.r1 hb9) (show w.heap.size ≠ w.heap.size + 1 by omega))
          obtain ⟨⟨r3, r4, r5, r6⟩, hb2⟩ := ends (two_next G.r0 hb9) (two_next G.r1 hb9) (below_next G.below hb9) (.int .i64 0) (.slice none 0 0) (.int .i64 1) (.int .i64 z)
          exact bodyPost_ret (v := .tuple #[.agg #[.int .i64 0, .slice none 0 0], .agg #[.int .i64 1, .int .i64 z]]) (by simp [results, Tryd.results15, go_sem, r3, r4, r5, r6]) rfl ⟨hb2, none, 0, rfl, edgesAt_nil _, fun x h => by cases h⟩

end Go.Proofs.YtbaghbodjpehpaaDoor
