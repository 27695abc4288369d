/- The document's Unpacked: its first faults. -/
import Derived.Test.YtbaghbodjpehpaaDoorGridNew
namespace Go.Proofs.YtbaghbodjpehpaaDoor
open Go.RowKit Go.Maps
attribute [local go_sem ↓] Go.wp_at_zero Go.wp_at_succ

set_option maxRecDepth 100000 in
set_option maxHeartbeats 4000000 in
theorem unpacked_long (s : ByteArray) (w : World) (h : 20000 < s.size) : Tells 15 #[.string s] w ⟨0, [], 2, 0⟩ := by
  have h1 : (20000 : Int) < (s.size : Int) := by omega
  have G := rs0 w
  unfold Tells
  go_enter Tryd.func15, Tryd.ntmps15
  go_upto_region 1 with fail
  generalize (w.alloc (Obj.cells #[.int .i64 0, .slice none 0 0] 24)).alloc (Obj.cells #[.int .i64 0, .int .i64 0] 27) = W at G ⊢
  go_wp2_with (go_at_call 17; refine (refF_any _ _ _).mono ?_; rintro e w9 ⟨rfl, hb9⟩; obtain ⟨z0, z1, z2⟩ := kk (two_next G.r0 hb9); obtain ⟨y0, y1, y2⟩ := kapart (two_next G.r1 hb9) (show w.heap.size ≠ w.heap.size + 1 by omega))
  obtain ⟨⟨r3, r4, r5, r6⟩, hb2⟩ := ends (two_next G.r0 hb9) (two_next G.r1 hb9) (below_next G.below hb9) (.int .i64 0) (.slice none 0 0) (.int .i64 2) (.int .i64 0)
  exact bodyPost_ret (v := .tuple #[.agg #[.int .i64 0, .slice none 0 0], .agg #[.int .i64 2, .int .i64 0]]) (by simp [results, Tryd.results15, go_sem, r3, r4, r5, r6]) rfl ⟨hb2, none, 0, rfl, edgesAt_nil _, fun x h => by cases h⟩

set_option maxRecDepth 100000 in
set_option maxHeartbeats 4000000 in
theorem unpacked_byte (s : ByteArray) (w : World) (h : s.size ≤ 20000) (K : Nat) (hK : ∀ i (h : i < s.size), i < K → goodB s[i] = true) (hlt : K < s.size) (hb : goodB s[K] = false) : Tells 15 #[.string s] w ⟨0, [], 1, K⟩ := by
  have h1 : ¬ (20000 : Int) < (s.size : Int) := by omega
  have HK : Hid _ := hK
  have hc : (s[K].toNat : Int) < 63 ∨ (¬ (s[K].toNat : Int) < 63 ∧ 126 < (s[K].toNat : Int)) := by
    have : ¬ (63 ≤ s[K].toNat ∧ s[K].toNat ≤ 126) := fun h => by rw [(goodB_iff _).2 h] at hb; cases hb
    omega
  clear hK hb
  have G := rs0 w
  unfold Tells
  go_enter Tryd.func15, Tryd.ntmps15
  go_upto_region 1 with fail
  generalize (w.alloc (Obj.cells #[.int .i64 0, .slice none 0 0] 24)).alloc (Obj.cells #[.int .i64 0, .int .i64 0] 27) = W at G ⊢
  go_upto_region 4 with fail
  go_loop [4] (fun t => ∃ i : Nat, i ≤ K ∧ t = .int .i64 i) (fun t => s.size - (intOf t).toNat)
  case atStart => exact ⟨0, Nat.zero_le _, rfl⟩
  case round =>
    obtain ⟨i, hi, rfl⟩ := hrel
    have k0 : (0 : Int) ≤ (i : Int) := by omega
    have k1 : (i : Int) < (s.size : Int) := by omega
    by_cases hiK : i < K
    · have hl : i < s.size := by omega
      obtain ⟨g0, g1⟩ := (goodB_iff _).1 (HK.out i hl hiK)
      have k2 : ¬ (s[i].toNat : Int) < 63 := by omega
      have k3 : ¬ (126 : Int) < (s[i].toNat : Int) := by omega
      clear g0 g1
      go_wp2
      go_round
      case rel => exact ⟨i + 1, by omega, by go_num⟩
      case measure => simp [intOf]; omega
    · have : i = K := by omega
      subst this
      rcases hc with hc | ⟨hc, hc2⟩
      · go_wp2_with (go_at_call 17; refine (refF_any _ _ _).mono ?_; rintro e w9 ⟨rfl, hb9⟩; obtain ⟨z0, z1, z2⟩ := kk (two_next G.r0 hb9); obtain ⟨y0, y1, y2⟩ := kapart (two_next G.r1 hb9) (show w.heap.size ≠ w.heap.size + 1 by omega))
        obtain ⟨⟨r3, r4, r5, r6⟩, hb2⟩ := ends (two_next G.r0 hb9) (two_next G.r1 hb9) (below_next G.below hb9) (.int .i64 0) (.slice none 0 0) (.int .i64 1) (.int .i64 i)
        exact bodyPost_ret (v := .tuple #[.agg #[.int .i64 0, .slice none 0 0], .agg #[.int .i64 1, .int .i64 i]]) (by simp [results, Tryd.results15, go_sem, r3, r4, r5, r6]) rfl ⟨hb2, none, 0, rfl, edgesAt_nil _, fun x h => by cases h⟩
      · go_wp2_with (go_at_call 17; refine (refF_any _ _ _).mono ?_; rintro e w9 ⟨rfl, hb9⟩; obtain ⟨z0, z1, z2⟩ := kk (two_next G.r0 hb9); obtain ⟨y0, y1, y2⟩ := kapart (two_next G.r1 hb9) (show w.heap.size ≠ w.heap.size + 1 by omega))
        obtain ⟨⟨r3, r4, r5, r6⟩, hb2⟩ := ends (two_next G.r0 hb9) (two_next G.r1 hb9) (below_next G.below hb9) (.int .i64 0) (.slice none 0 0) (.int .i64 1) (.int .i64 i)
        exact bodyPost_ret (v := .tuple #[.agg #[.int .i64 0, .slice none 0 0], .agg #[.int .i64 1, .int .i64 i]]) (by simp [results, Tryd.results15, go_sem, r3, r4, r5, r6]) rfl ⟨hb2, none, 0, rfl, edgesAt_nil _, fun x h => by cases h⟩

set_option maxRecDepth 100000 in
set_option maxHeartbeats 4000000 in
theorem unpacked_nil (s : ByteArray) (w : World) (h : s.size ≤ 20000) (hg : ∀ i (h : i < s.size), goodB s[i] = true) (h0 : s.size = 0) : Tells 15 #[.string s] w ⟨0, [], 1, s.size⟩ := by
  have h1 : ¬ (20000 : Int) < (s.size : Int) := by omega
  have HG : Hid _ := hg
  clear hg
  have he : s.toList.isEmpty = true := by
    rw [ByteArray.toList_eq]
    have : s.data.toList.length = 0 := by rw [Array.length_toList]; exact h0
    rw [List.isEmpty_iff]
    exact List.length_eq_zero_iff.1 this
  clear h0
  have G := rs0 w
  unfold Tells
  go_enter Tryd.func15, Tryd.ntmps15
  go_upto_region 1 with fail
  generalize (w.alloc (Obj.cells #[.int .i64 0, .slice none 0 0] 24)).alloc (Obj.cells #[.int .i64 0, .int .i64 0] 27) = W at G ⊢
  go_upto_region 4 with fail
  go_loop [4] (fun t => ∃ i : Nat, i ≤ s.size ∧ t = .int .i64 i) (fun t => s.size - (intOf t).toNat)
  case atStart => exact ⟨0, Nat.zero_le _, rfl⟩
  case round =>
    obtain ⟨i, hi, rfl⟩ := hrel
    have k0 : (0 : Int) ≤ (i : Int) := by omega
    by_cases hiK : i < s.size
    · have k1 : (i : Int) < (s.size : Int) := by omega
      obtain ⟨g0, g1⟩ := (goodB_iff _).1 (HG.out i hiK)
      have k2 : ¬ (s[i].toNat : Int) < 63 := by omega
      have k3 : ¬ (126 : Int) < (s[i].toNat : Int) := by omega
      clear g0 g1
      go_wp2
      go_round
      case rel => exact ⟨i + 1, by omega, by go_num⟩
      case measure => simp [intOf]; omega
    · have k1 : ¬ (i : Int) < (s.size : Int) := by omega
      clear hiK hi
      go_upto_region 8 with fail
      clear k0 k1
      go_wp2_with (go_at_call 17; refine (refF_any _ _ _).mono ?_; rintro e w9 ⟨rfl, hb9⟩; obtain ⟨z0, z1, z2⟩ := kk (two_next G.r0 hb9); obtain ⟨y0, y1, y2⟩ := kapart (two_next G.r1 hb9) (show w.heap.size ≠ w.heap.size + 1 by omega))
      obtain ⟨⟨r3, r4, r5, r6⟩, hb2⟩ := ends (two_next G.r0 hb9) (two_next G.r1 hb9) (below_next G.below hb9) (.int .i64 0) (.slice none 0 0) (.int .i64 1) (.int .i64 s.size)
      exact bodyPost_ret (v := .tuple #[.agg #[.int .i64 0, .slice none 0 0], .agg #[.int .i64 1, .int .i64 s.size]]) (by simp [results, Tryd.results15, go_sem, r3, r4, r5, r6]) rfl ⟨hb2, none, 0, rfl, edgesAt_nil _, fun x h => by cases h⟩

set_option maxRecDepth 100000 in
set_option maxHeartbeats 4000000 in
theorem unpacked_cut (s : ByteArray) (w : World) (h : s.size ≤ 20000) (hg : ∀ i (h : i < s.size), goodB s[i] = true) (h0 : 0 < s.size) (h4 : s.size < 4) (h5 : s[0].toNat = 126) : Tells 15 #[.string s] w ⟨0, [], 1, s.size⟩ := by
  have h1 : ¬ (20000 : Int) < (s.size : Int) := by omega
  have HG : Hid _ := hg
  clear hg
  have he := ne_empty h0
  have h6 : (s.size : Int) < 4 := by omega
  have G := rs0 w
  unfold Tells
  go_enter Tryd.func15, Tryd.ntmps15
  go_upto_region 1 with fail
  generalize (w.alloc (Obj.cells #[.int .i64 0, .slice none 0 0] 24)).alloc (Obj.cells #[.int .i64 0, .int .i64 0] 27) = W at G ⊢
  go_upto_region 4 with fail
  go_loop [4] (fun t => ∃ i : Nat, i ≤ s.size ∧ t = .int .i64 i) (fun t => s.size - (intOf t).toNat)
  case atStart => exact ⟨0, Nat.zero_le _, rfl⟩
  case round =>
    obtain ⟨i, hi, rfl⟩ := hrel
    have k0 : (0 : Int) ≤ (i : Int) := by omega
    by_cases hiK : i < s.size
    · have k1 : (i : Int) < (s.size : Int) := by omega
      obtain ⟨g0, g1⟩ := (goodB_iff _).1 (HG.out i hiK)
      have k2 : ¬ (s[i].toNat : Int) < 63 := by omega
      have k3 : ¬ (126 : Int) < (s[i].toNat : Int) := by omega
      clear g0 g1
      go_wp2
      go_round
      case rel => exact ⟨i + 1, by omega, by go_num⟩
      case measure => simp [intOf]; omega
    · have k1 : ¬ (i : Int) < (s.size : Int) := by omega
      clear hiK hi
      go_upto_region 8 with fail
      clear k0 k1
      go_wp2_with (go_at_call 17; refine (refF_any _ _ _).mono ?_; rintro e w9 ⟨rfl, hb9⟩; obtain ⟨z0, z1, z2⟩ := kk (two_next G.r0 hb9); obtain ⟨y0, y1, y2⟩ := kapart (two_next G.r1 hb9) (show w.heap.size ≠ w.heap.size + 1 by omega))
      obtain ⟨⟨r3, r4, r5, r6⟩, hb2⟩ := ends (two_next G.r0 hb9) (two_next G.r1 hb9) (below_next G.below hb9) (.int .i64 0) (.slice none 0 0) (.int .i64 1) (.int .i64 s.size)
      exact bodyPost_ret (v := .tuple #[.agg #[.int .i64 0, .slice none 0 0], .agg #[.int .i64 1, .int .i64 s.size]]) (by simp [results, Tryd.results15, go_sem, r3, r4, r5, r6]) rfl ⟨hb2, none, 0, rfl, edgesAt_nil _, fun x h => by cases h⟩

theorem RS0.drewN {w wr : World} (h : RS0 w wr) (n : Nat) : RS0 w (wr.drewN n) := ⟨h.r0, h.r1, below_next h.below ⟨rfl, rfl, rfl, Nat.le_refl _, fun _ _ => rfl⟩, h.size⟩

/-- What the head of a code tells: the number of nodes. -/
structure LongAt (s : ByteArray) (x y z N : Nat) : Prop where
  four : 4 ≤ s.size
  h0 : s[0].toNat = 126
  h1 : s[1].toNat = x
  h2 : s[2].toNat = y
  h3 : s[3].toNat = z
  bx : 63 ≤ x ∧ x ≤ 126
  by_ : 63 ≤ y ∧ y ≤ 126
  bz : 63 ≤ z ∧ z ≤ 126
  hN : (x - 63) * 4096 + (y - 63) * 64 + (z - 63) = N

set_option maxRecDepth 100000 in
set_option maxHeartbeats 4000000 in
theorem unpacked_low (s : ByteArray) (w : World) (h : s.size ≤ 20000) (hg : ∀ i (h : i < s.size), goodB s[i] = true) {x y z N : Nat} (hL : LongAt s x y z N) (hlow : N < 63) : Tells 15 #[.string s] w ⟨0, [], 7, 0⟩ := by
  have h1 : ¬ (20000 : Int) < (s.size : Int) := by omega
  have HG : Hid _ := hg
  clear hg
  have HL : Hid _ := hL
  clear hL
  have G := rs0 w
  unfold Tells
  go_enter Tryd.func15, Tryd.ntmps15
  go_upto_region 1 with fail
  generalize (w.alloc (Obj.cells #[.int .i64 0, .slice none 0 0] 24)).alloc (Obj.cells #[.int .i64 0, .int .i64 0] 27) = W at G ⊢
  go_upto_region 4 with fail
  go_loop [4] (fun t => ∃ i : Nat, i ≤ s.size ∧ t = .int .i64 i) (fun t => s.size - (intOf t).toNat)
  case atStart => exact ⟨0, Nat.zero_le _, rfl⟩
  case round =>
    obtain ⟨i, hi, rfl⟩ := hrel
    have k0 : (0 : Int) ≤ (i : Int) := by omega
    by_cases hiK : i < s.size
    · have k1 : (i : Int) < (s.size : Int) := by omega
      obtain ⟨g0, g1⟩ := (goodB_iff _).1 (HG.out i hiK)
      have k2 : ¬ (s[i].toNat : Int) < 63 := by omega
      have k3 : ¬ (126 : Int) < (s[i].toNat : Int) := by omega
      clear g0 g1
      go_wp2
      go_round
      case rel => exact ⟨i + 1, by omega, by go_num⟩
      case measure => simp [intOf]; omega
    · have k1 : ¬ (i : Int) < (s.size : Int) := by omega
      clear hiK hi
      go_upto_region 8 with fail
      clear k0 k1
      have e0 := ne_empty (show 0 < s.size by have := HL.out.four; omega)
      have e1 : ¬ (s.size : Int) < 4 := by have := HL.out.four; omega
      have e2 : (0 : Int) < (s.size : Int) := by omega
      have e3 : (1 : Int) < (s.size : Int) := by omega
      have e4 : (2 : Int) < (s.size : Int) := by omega
      have e5 : (3 : Int) < (s.size : Int) := by omega
      have h4 := HL.out.four
      have q0 := HL.out.h0
      have q1 := HL.out.h1
      have q2 := HL.out.h2
      have q3 := HL.out.h3
      obtain ⟨b1, b2⟩ := HL.out.bx
      obtain ⟨b3, b4⟩ := HL.out.by_
      obtain ⟨b5, b6⟩ := HL.out.bz
      go_upto_region 13 with fail
      go_quiet (fail)
      replace G := G.drewN nq
      generalize W.drewN nq = V at G ⊢
      have hv : ((x : Int) - 63) * 4096 + ((y : Int) - 63) * 64 + (z : Int) - 63 = (N : Int) := by have := HL.out.hN; omega
      rw [hv]
      have l1 : (N : Int) < 63 := by omega
      go_wp2_with (go_at_call 17; refine (refF_any _ _ _).mono ?_; rintro e w9 ⟨rfl, hb9⟩; obtain ⟨z0, z1, z2⟩ := kk (two_next G.r0 hb9); obtain ⟨y0, y1, y2⟩ := kapart (two_next G.r1 hb9) (show w.heap.size ≠ w.heap.size + 1 by omega))
      obtain ⟨⟨r3, r4, r5, r6⟩, hb2⟩ := ends (two_next G.r0 hb9) (two_next G.r1 hb9) (below_next G.below hb9) (.int .i64 0) (.slice none 0 0) (.int .i64 7) (.int .i64 0)
      exact bodyPost_ret (v := .tuple #[.agg #[.int .i64 0, .slice none 0 0], .agg #[.int .i64 7, .int .i64 0]]) (by simp [results, Tryd.results15, go_sem, r3, r4, r5, r6]) rfl ⟨hb2, none, 0, rfl, edgesAt_nil _, fun x h => by cases h⟩

set_option maxRecDepth 100000 in
set_option maxHeartbeats 4000000 in
theorem unpacked_many (s : ByteArray) (w : World) (h : s.size ≤ 20000) (hg : ∀ i (h : i < s.size), goodB s[i] = true) {x y z N : Nat} (hL : LongAt s x y z N) (hhi : 100 < N) : Tells 15 #[.string s] w ⟨0, [], 2, 0⟩ := by
  have h1 : ¬ (20000 : Int) < (s.size : Int) := by omega
  have HG : Hid _ := hg
  clear hg
  have HL : Hid _ := hL
  clear hL
  have G := rs0 w
  unfold Tells
  go_enter Tryd.func15, Tryd.ntmps15
  go_upto_region 1 with fail
  generalize (w.alloc (Obj.cells #[.int .i64 0, .slice none 0 0] 24)).alloc (Obj.cells #[.int .i64 0, .int .i64 0] 27) = W at G ⊢
  go_upto_region 4 with fail
  go_loop [4] (fun t => ∃ i : Nat, i ≤ s.size ∧ t = .int .i64 i) (fun t => s.size - (intOf t).toNat)
  case atStart => exact ⟨0, Nat.zero_le _, rfl⟩
  case round =>
    obtain ⟨i, hi, rfl⟩ := hrel
    have k0 : (0 : Int) ≤ (i : Int) := by omega
    by_cases hiK : i < s.size
    · have k1 : (i : Int) < (s.size : Int) := by omega
      obtain ⟨g0, g1⟩ := (goodB_iff _).1 (HG.out i hiK)
      have k2 : ¬ (s[i].toNat : Int) < 63 := by omega
      have k3 : ¬ (126 : Int) < (s[i].toNat : Int) := by omega
      clear g0 g1
      go_wp2
      go_round
      case rel => exact ⟨i + 1, by omega, by go_num⟩
      case measure => simp [intOf]; omega
    · have k1 : ¬ (i : Int) < (s.size : Int) := by omega
      clear hiK hi
      go_upto_region 8 with fail
      clear k0 k1
      have e0 := ne_empty (show 0 < s.size by have := HL.out.four; omega)
      have e1 : ¬ (s.size : Int) < 4 := by have := HL.out.four; omega
      have e2 : (0 : Int) < (s.size : Int) := by omega
      have e3 : (1 : Int) < (s.size : Int) := by omega
      have e4 : (2 : Int) < (s.size : Int) := by omega
      have e5 : (3 : Int) < (s.size : Int) := by omega
      have h4 := HL.out.four
      have q0 := HL.out.h0
      have q1 := HL.out.h1
      have q2 := HL.out.h2
      have q3 := HL.out.h3
      obtain ⟨b1, b2⟩ := HL.out.bx
      obtain ⟨b3, b4⟩ := HL.out.by_
      obtain ⟨b5, b6⟩ := HL.out.bz
      go_upto_region 13 with fail
      go_quiet (fail)
      replace G := G.drewN nq
      generalize W.drewN nq = V at G ⊢
      have hv : ((x : Int) - 63) * 4096 + ((y : Int) - 63) * 64 + (z : Int) - 63 = (N : Int) := by have := HL.out.hN; omega
      rw [hv]
      have l1 : ¬ (N : Int) < 63 := by omega
      have l2 : (100 : Int) < (N : Int) := by omega
      go_wp2_with (go_at_call 17; refine (refF_any _ _ _).mono ?_; rintro e w9 ⟨rfl, hb9⟩; obtain ⟨z0, z1, z2⟩ := kk (two_next G.r0 hb9); obtain ⟨y0, y1, y2⟩ := kapart (two_next G.r1 hb9) (show w.heap.size ≠ w.heap.size + 1 by omega))
      obtain ⟨⟨r3, r4, r5, r6⟩, hb2⟩ := ends (two_next G.r0 hb9) (two_next G.r1 hb9) (below_next G.below hb9) (.int .i64 0) (.slice none 0 0) (.int .i64 2) (.int .i64 0)
      exact bodyPost_ret (v := .tuple #[.agg #[.int .i64 0, .slice none 0 0], .agg #[.int .i64 2, .int .i64 0]]) (by simp [results, Tryd.results15, go_sem, r3, r4, r5, r6]) rfl ⟨hb2, none, 0, rfl, edgesAt_nil _, fun x h => by cases h⟩
end Go.Proofs.YtbaghbodjpehpaaDoor
