/- The document's own table: R.Tutte. -/
import Derived.Test.YtmeodnkmhakidaaRefM
import Derived.Deep.CutBlock
namespace Go.Proofs.Ytmeodnkmhakidaa
set_option maxRecDepth 8000
open Go.RowKit Go.Maps
attribute [local go_sem ↓] Go.wp_at_zero Go.wp_at_succ
theorem wrap_n {a : Nat} (h : a < 2 ^ 63) : IntKind.i64.wrap (a : Int) = (a : Int) := by rw [IntKind.wrap_i64]; omega
theorem ofInt_n {n : Nat} (h : n < 2 ^ 64) : (BitVec.ofInt 64 (n : Int)).toNat = n := by simp; omega
theorem bitN {s v : Nat} (hs : s < 2 ^ 62) : bits .and .i64 ((s : Int) / 2 ^ v) 1 = (((s.testBit v).toNat : Nat) : Int) := by
  have e : (s : Int) / 2 ^ v = ((s / 2 ^ v : Nat) : Int) := by push_cast; rfl
  have hl : s / 2 ^ v < 2 ^ 62 := Nat.lt_of_le_of_lt (Nat.div_le_self _ _) hs
  rw [e, show (1 : Int) = ((1 : Nat) : Int) from rfl]
  show IntKind.i64.wrap ((BitVec.ofInt 64 ((s / 2 ^ v : Nat) : Int) &&& BitVec.ofInt 64 ((1 : Nat) : Int)).toNat : Nat) = _
  rw [BitVec.toNat_and, ofInt_n (by omega), ofInt_n (by decide), Nat.and_one_is_mod, wrap_n (by omega), Nat.testBit_eq_decide_div_mod_eq]
  rcases Nat.mod_two_eq_zero_or_one (s / 2 ^ v) with h | h <;> simp [h]
/-- GridOf, then Parts: how many components. -/
theorem parts_kf {w : World} {N : Nat} {es : List E2} {ao : Option Addr} {cap : Nat} (hG : GridAt w (.slice ao N cap) N (hasB (pzT es))) (hN : N ≤ 100) (hes : ∀ e ∈ es, e.1 < N ∧ e.2 < N) :
    Calls Try.prog 20 #[.slice ao N cap, .slice none 0 0] w fun r w' => r = .returned (.int .i64 (kf N es : Int)) ∧ Below w.heap.size w w' := by
  obtain ⟨R, hR⟩ := ex2 (fun v x => Star (St N (pn (hasB (pzT es))) (openB fun _ => false)) v x)
  refine (parts_call N ao cap (hasB (pzT es)) w hG hN (shutAt_nil w N) R hR).mono ?_
  rintro r w' ⟨rfl, hB⟩
  refine ⟨?_, hB⟩
  unfold partsN
  rw [first_kf (L := openB fun _ => false) hes (fun _ => rfl) (fun _ _ => rfl) hR]
def VR (N wh k ln : Nat) (ev : Value) (lv : Value) (b1 B : Nat) : Nat → Value → World → Prop
  | 0, x, _ => x = .int .i64 (k : Int)
  | 1, x, _ => x = .int .i64 (wh : Int)
  | 2, x, _ => x = .int .i64 ((k - wh : Nat) : Int)
  | 3, x, w => ∃ g cap, x = .slice (some ⟨g, 0, none⟩) (k - wh + 1) cap ∧ OwF w B g 3 cap (k - wh + 1) (coV (k - wh))
  | 4, x, _ => x = .int .i64 (k : Int)
  | 5, x, _ => x = lv
  | 6, x, _ => x = .int .i64 (ln : Int)
  | 7, x, _ => x = .int .i64 ((k + ln : Nat) : Int)
  | 8, x, _ => x = .pointer (some ⟨b1, 0, none⟩)
  | 9, x, _ => x = .int .i64 (N : Int)
  | 10, x, _ => x = .int .i64 ((k + ln - N : Nat) : Int)
  | 11, x, w => ∃ g cap, x = .slice (some ⟨g, 0, none⟩) (k + ln - N + 1) cap ∧ OwF w B g 3 cap (k + ln - N + 1) (coV (k + ln - N))
  | 12, x, w => ∃ g cap, x = .slice (some ⟨g, 0, none⟩) (k - wh + 1) cap ∧ OwF w B g 3 cap (k - wh + 1) (coV (k - wh))
  | 13, x, w => ∃ g cap, x = .slice (some ⟨g, 0, none⟩) (k + ln - N + 1) cap ∧ OwF w B g 3 cap (k + ln - N + 1) (coV (k + ln - N))
  | _, _, _ => ev = ev
theorem VR_mono {N wh k ln : Nat} {ev lv : Value} {b1 B : Nat} : ∀ i x w w', VR N wh k ln ev lv b1 B i x w → Below w.heap.size w w' → VR N wh k ln ev lv b1 B i x w' := fun i x w w' h hb => by
  match i with
  | 0 => exact h
  | 1 => exact h
  | 2 => exact h
  | 3 => obtain ⟨g, cap, h1, h2⟩ := h; exact ⟨g, cap, h1, h2.below hb⟩
  | 4 => exact h
  | 5 => exact h
  | 6 => exact h
  | 7 => exact h
  | 8 => exact h
  | 9 => exact h
  | 10 => exact h
  | 11 => obtain ⟨g, cap, h1, h2⟩ := h; exact ⟨g, cap, h1, h2.below hb⟩
  | 12 => obtain ⟨g, cap, h1, h2⟩ := h; exact ⟨g, cap, h1, h2.below hb⟩
  | 13 => obtain ⟨g, cap, h1, h2⟩ := h; exact ⟨g, cap, h1, h2.below hb⟩
  | n + 14 => rfl
set_option maxHeartbeats 32000000 in
theorem refT_call {w : World} {N : Nat} {ao : Option Addr} {cap : Nat} {es : List E2} (hE : EdgesAt w (.slice ao es.length cap) (pzT es)) (hN : N ≤ 12) (hm : es.length ≤ 9) (hgood : ∀ e ∈ pzT es, (0 ≤ e.1 ∧ e.1 < N ∧ 0 ≤ e.2 ∧ e.2 < N) ∧ e.1 ≠ e.2) (hes : ∀ e ∈ es, e.1 < N ∧ e.2 < N) :
    Calls Try.prog 11 #[.agg #[.int .i64 (N : Int), .slice ao es.length cap]] w fun e w' => (∃ v, e = .returned v ∧ RowsAt w' v ((List.range (N - kf N es + 1)).map fun i => (List.range (kf N es + es.length - N + 1)).map fun j => tT N (kf N es) es i j)) ∧ Below w.heap.size w w' := by
  obtain ⟨m, hml⟩ : ∃ m, m = es.length := ⟨_, rfl⟩
  obtain ⟨wh, hwh⟩ : ∃ wh, wh = kf N es := ⟨_, rfl⟩
  have hkw := kf_le hes
  have HC : Hid (EdgesAt w (.slice ao m cap) (pzT es) ∧ (∀ e ∈ pzT es, (0 ≤ e.1 ∧ e.1 < N ∧ 0 ≤ e.2 ∧ e.2 < N) ∧ e.1 ≠ e.2) ∧ (∀ e ∈ es, e.1 < N ∧ e.2 < N) ∧ m = es.length ∧ wh = kf N es) := ⟨by rw [hml]; exact hE, hgood, hes, hml, hwh⟩
  rw [← hml, ← hwh] at hkw
  rw [← hwh, ← hml]
  have hm9 : m ≤ 9 := by omega
  have C21 : Hid (∀ (A : World) (v : Value) (L : List E2), EdgesAt A v (pzT L) → L.length ≤ 9 → (∀ e ∈ L, e ∈ es) → Calls Try.prog 21 #[.agg #[.int .i64 (N : Int), v]] A fun e w' => Below A.heap.size A w' ∧ ∃ ao cap, e = .returned (.slice ao N cap) ∧ GridAt w' (.slice ao N cap) N (hasB (pzT L))) := fun A v L h1 h2 h3 => by
    refine gridOf_any N v (pzT L) A h1 (by omega) (by simp [pzT]; omega) (fun e he => ?_)
    obtain ⟨e', he', rfl⟩ := List.mem_map.1 he
    exact hgood _ (pzT_mem (h3 e' he'))
  clear hE hgood hes hml hwh hm
  go_enter Try.func11, Try.ntmps11
  go_upto_region 3 with (fail)
  have t1 : Two ((w.alloc (Obj.cells #[.int .i64 (N : Int), .slice ao m cap] 24)).alloc (Obj.cells Try.zeroCells48 48)) w.heap.size (.int .i64 (N : Int)) (.slice ao m cap) 24 := two_alloc (two_new _ _ _ _) _
  have t4 : AT ((w.alloc (Obj.cells #[.int .i64 (N : Int), .slice ao m cap] 24)).alloc (Obj.cells Try.zeroCells48 48)) (w.heap.size + 1) (fun _ _ => 0) := by
    have := AT.start (w.alloc (Obj.cells #[.int .i64 (N : Int), .slice ao m cap] 24))
    simpa using this
  have hB0 : Below w.heap.size w ((w.alloc (Obj.cells #[.int .i64 (N : Int), .slice ao m cap] 24)).alloc (Obj.cells Try.zeroCells48 48)) := below_alloc (below_alloc (Below.refl _ w) _) _
  obtain ⟨b1, hb1⟩ : ∃ b, b = w.heap.size := ⟨_, rfl⟩
  obtain ⟨b4, hb4⟩ : ∃ b, b = w.heap.size + 1 := ⟨_, rfl⟩
  rw [← hb4] at t4 ⊢
  rw [← hb1] at t1 ⊢
  generalize ((w.alloc (Obj.cells #[.int .i64 (N : Int), .slice ao m cap] 24)).alloc (Obj.cells Try.zeroCells48 48)) = W0 at *
  have HW0 : Hid (Two W0 b1 (.int .i64 (N : Int)) (.slice ao m cap) 24 ∧ AT W0 b4 (fun _ _ => 0) ∧ Below w.heap.size w W0 ∧ b1 < b4 ∧ w.heap.size ≤ b1) := ⟨t1, t4, hB0, by omega, by omega⟩
  obtain ⟨c0, c1⟩ := cell_two t1
  clear t1 t4 hB0 hb1 hb4
  have C20 : Hid (∀ (A : World) (go : Option Addr) (gc : Nat), GridAt A (.slice go N gc) N (hasB (pzT es)) → Calls Try.prog 20 #[.slice go N gc, .slice none 0 0] A fun r w' => r = .returned (.int .i64 (wh : Int)) ∧ Below A.heap.size A w') := fun A go gc h => by
    rw [HC.out.2.2.2.2]
    exact parts_kf h (by omega) HC.out.2.2.1
  go_upto_region 4 with (first | (go_at_call 21; refine Calls.mono (C21.out _ _ es (HC.out.1.below HW0.out.2.2.1) (by have := HC.out.2.2.2.1; omega) (fun e h => h)) ?_; rintro e W1 ⟨h1, go, gc, rfl, hG⟩) | (go_at_call 20; refine Calls.mono (C20.out _ _ _ hG) ?_; rintro e W2 ⟨rfl, h2⟩) | fail)
  have HW2 : Hid (Two W2 b1 (.int .i64 (N : Int)) (.slice ao m cap) 24 ∧ AT W2 b4 (fun _ _ => 0) ∧ Below w.heap.size w W2 ∧ b1 < b4 ∧ w.heap.size ≤ b1 ∧ b4 < W2.heap.size ∧ EdgesAt W2 (.slice ao m cap) (pzT es)) := by
    have hb := below_next h1 h2
    have ha := RowV.block HW0.out.2.1 (hb.block _ (RowV.lt HW0.out.2.1))
    exact ⟨two_next HW0.out.1 hb, ha, below_next HW0.out.2.2.1 hb, HW0.out.2.2.2.1, HW0.out.2.2.2.2, RowV.lt ha, HC.out.1.below (below_next HW0.out.2.2.1 hb)⟩
  clear h1 h2 hG c0 c1 C20 HW0
  obtain ⟨M, hM⟩ : ∃ M, M = 2 ^ m := ⟨_, rfl⟩
  have hM1 : M ≤ 2 ^ 9 := by rw [hM]; exact Nat.pow_le_pow_right (by decide) hm9
  have hcast : (M : Int) = (2 : Int) ^ m := by rw [hM]; simp
  have HSH : Hid (IntKind.i64.wrap ((2 : Int) ^ m) = (M : Int)) := by
    show IntKind.i64.wrap ((2 : Int) ^ m) = (M : Int)
    rw [← hcast, IntKind.wrap_i64]; omega
  have HMM : Hid (M = 2 ^ es.length) := by
    show M = 2 ^ es.length
    rw [hM, HC.out.2.2.2.1]
  clear hM hcast
  go_upto_block 0 with (fail)
  go_cut [6] from 26 to 96 (fun _ wd => Hid (Turns (fun x => x = b4) W2 wd ∧ AT wd b4 (tT N wh es)))
  case first =>
    go_wp2_with (fail)
    go_loopw [6, 7, 8, 9, 10, 11, 12, 13] (fun s6 _ _ _ _ _ _ _ wz => ∃ s : Nat, s ≤ M ∧ s6 = .int .i64 (s : Int) ∧ Hid (Turns (fun x => x = b4) W2 wz ∧ AT wz b4 (tS N wh es s))) (fun s6 _ _ _ _ _ _ _ _ => M - (numOf s6).toNat)
    case atStart => exact ⟨0, Nat.zero_le _, rfl, Turns.refl _ _, HW2.out.2.1.congr (fun _ _ _ _ => rfl)⟩
    case round =>
      obtain ⟨s, hs, rfl, hJ⟩ := hrel
      generalize wr = WR at *
      have hsh := HSH.out
      have hm63 : (m : Int) < 64 := by omega
      have hm0 : (0 : Int) ≤ (m : Int) := by omega
      by_cases hlt : s < M
      · have k1 : decide ((s : Int) < (M : Int)) = true := by simp; omega
        have n1 : (s : Int) < (M : Int) := by omega
        have hs62 : s < 2 ^ 62 := by omega
        go_upto_region 8 with (fail)
        clear k1 n1 hsh
        go_wp2_with (fail)
        go_loopw [7, 8] (fun s7 s8 wz => ∃ (i : Nat) (vo : Option Addr) (vc : Nat), i ≤ m ∧ s8 = .int .i64 (i : Int) ∧ s7 = .slice vo (selK es s i).length vc ∧ Hid (wz.ownsRow WR.heap.size 38 2 (.slice vo (selK es s i).length vc) (selK es s i).length (flat (pzT (selK es s i))) ∧ Below WR.heap.size WR wz)) (fun _ s8 _ => m - (numOf s8).toNat)
        case atStart => exact ⟨0, none, 0, Nat.zero_le _, rfl, rfl, World.ownsRow_nil _ _ _ _, Below.refl _ _⟩
        case round =>
          obtain ⟨i, vo, vc, hi, rfl, rfl, hI⟩ := hrel
          have hJw : Hid (Turns (fun x => x = b4) W2 wr ∧ AT wr b4 (tS N wh es s)) := by
            have hb := hI.out.2
            exact ⟨hJ.out.1.trans (Turns.of_below hb _), RowV.block hJ.out.2 (hb.block _ (RowV.lt hJ.out.2))⟩
          have t1 := two_turns HW2.out.1 hJw.out.1 (by have := HW2.out.2.2.2.1; omega)
          obtain ⟨c0, c1⟩ := cell_two t1
          by_cases him : i < m
          · have k1 : decide ((i : Int) < (m : Int)) = true := by simp; omega
            have i0 : (0 : Int) ≤ (i : Int) := by omega
            have i1 : (i : Int) < (m : Int) := by omega
            have i2 : (i : Int) < 64 := by omega
            have hbt := bitN (v := i) hs62
            have hil : i < es.length := by rw [← HC.out.2.2.2.1]; exact him
            obtain ⟨ei, hei⟩ : ∃ e, e = es[i] := ⟨_, rfl⟩
            have hedge : ∃ eb eoff, ao = some ⟨eb, eoff, none⟩ ∧ wr.cell? ⟨eb, eoff + i * 2, none⟩ = some (.int .i64 (ei.1 : Int)) ∧ wr.cell? ⟨eb, eoff + i * 2 + 1, none⟩ = some (.int .i64 (ei.2 : Int)) := by
              obtain ⟨ao', cap', e1, _, _, hcl⟩ := HC.out.1.turns ((Turns.of_below HW2.out.2.2.1 _).trans hJw.out.1) (fun b o x hc e => by
                have := World.block_lt_of_cell? w _ hc
                have h2 := HW2.out.2.2.2.1
                have h3 := HW2.out.2.2.2.2.1
                simp only at this
                omega)
              simp only [Value.slice.injEq] at e1
              obtain ⟨rfl, _, rfl⟩ := e1
              obtain ⟨b, off, h1, h2, h3⟩ := hcl i (by simp [pzT]; exact hil)
              refine ⟨b, off, h1, ?_, ?_⟩
              · simpa [pzT, hei] using h2
              · simpa [pzT, hei] using h3
            obtain ⟨eb, eoff, hao, ce0, ce1⟩ := hedge
            subst hao
            obtain ⟨i38, hi38, hz0, hz1, hz2⟩ := info_parts Try.info38
            cases hb1 : s.testBit i with
            | true =>
              have k2 : (bits .and .i64 ((s : Int) / 2 ^ i) 1 == 1) = true := by rw [hbt, hb1]; rfl
              obtain ⟨ln, hln⟩ : ∃ ln, ln = (selK es s i).length := ⟨_, rfl⟩
              have hll := selK_len es s i
              rw [← hln] at hI hll ⊢
              have HL : Hid (ln = (selK es s i).length ∧ selK es s (i + 1) = selK es s i ++ [ei]) := ⟨hln, by rw [hei]; exact selK_take hil hb1⟩
              clear hln hbt hei hil
              go_wp2_with (at_builtin; refine wpList_append_own _ rfl _ _ 22 rfl WR.heap.size 38 i38 (.agg #[.int .i64 0, .int .i64 0]) 2 16 Try.underlying22 hi38 hz0 hz1 hz2 rfl (by decide) _ _ _ rfl (hI.out.1.alloc _) ⟨wr.heap.size, 0, none⟩ 1 1 [.int .i64 (ei.1 : Int), .int .i64 (ei.2 : Int)] rfl rfl ?n1 ?n2 ?n3 ?n4 ?n5 ?_)
              case n1 =>
                intro j u hj
                match j, hj with
                | 0, hj => simp at hj; subst hj; simp [Addr.add]
                | 1, hj => simp at hj; subst hj; simp [Addr.add]
              case n2 => intro u hu; simp at hu; rcases hu with rfl | rfl <;> rfl
              case n3 => unfold maxLen; omega
              case n4 => omega
              case n5 => have := hI.out.2.size; simp; omega
              intro v' w3 hown' hgrow _
              obtain ⟨vo', vc', rfl⟩ := form_row hown'
              have HR : Hid (w3.ownsRow WR.heap.size 38 2 (.slice vo' (ln + 1) vc') (ln + 1) (flat (pzT (selK es s (i + 1)))) ∧ Below WR.heap.size WR w3) := by
                refine ⟨?_, ?_⟩
                · rw [HL.out.2, pzT_app]
                  show World.ownsRow w3 _ _ _ _ _ (flat (pzT (selK es s i) ++ [((ei.1 : Int), (ei.2 : Int))]))
                  rw [flat_snoc]
                  exact hown'
                · have hb : Below WR.heap.size WR (wr.alloc (Obj.cells #[.int .i64 (ei.1 : Int), .int .i64 (ei.2 : Int)] 38)) := below_alloc hI.out.2 _
                  exact hb.grown hgrow hb.size (fun k hk => (hI.out.1.lt k hk).1)
              have hll2 : (selK es s (i + 1)).length = ln + 1 := by rw [HL.out.2, List.length_append, ← HL.out.1]; rfl
              clear hown' hgrow
              go_wp2
              go_roundw
              case rel => exact ⟨i + 1, vo', vc', by omega, by go_num, by rw [hll2], by rw [hll2]; exact HR.out⟩
              case measure => simp [numOf]; omega
            | false =>
              have k2 : (bits .and .i64 ((s : Int) / 2 ^ i) 1 == 1) = false := by rw [hbt, hb1]; rfl
              clear hbt
              go_wp2
              go_roundw
              case rel => exact ⟨i + 1, vo, vc, by omega, by go_num, by rw [selK_skip hb1], by rw [selK_skip hb1]; exact hI⟩
              case measure => simp [numOf]; omega
          · obtain rfl : i = m := by omega
            have k1 : decide ((i : Int) < (i : Int)) = false := by simp
            have hsel : selK es s i = sel es s := by rw [HC.out.2.2.2.1]; exact selK_all es s
            obtain ⟨L, hL⟩ : ∃ L, L = selK es s i := ⟨_, rfl⟩
            obtain ⟨ln, hln⟩ : ∃ ln, ln = L.length := ⟨_, rfl⟩
            rw [← hL] at hI hsel ⊢
            rw [← hln] at hI ⊢
            have hsub : L ∈ sub es := by rw [hsel]; exact sel_mem
            have hks := kf_sub HC.out.2.2.1 hsub
            have hln9 : ln ≤ 9 := by have := selK_len es s i; rw [← hL] at this; omega
            have hEL : EdgesAt wr (.slice vo ln vc) (pzT L) := by
              have hrow := hI.out.1
              rw [hln] at hrow ⊢
              have e : L.length = (pzT L).length := by simp [pzT]
              rw [e] at hrow ⊢
              refine edgesAt_row hrow (fun e he => ?_) (by rw [← e]; omega)
              obtain ⟨e', he', rfl⟩ := List.mem_map.1 he
              have := sub_nodes HC.out.2.2.1 hsub e' he'
              exact ⟨⟨by omega, by simp only; omega⟩, ⟨by omega, by simp only; omega⟩⟩
            have HEL : Hid (EdgesAt wr (.slice vo ln vc) (pzT L) ∧ (∀ e ∈ L, e ∈ es) ∧ (∀ e ∈ L, e.1 < N ∧ e.2 < N) ∧ L = sel es s) := ⟨hEL, fun e he => by rw [hL] at he; exact selK_in he, sub_nodes HC.out.2.2.1 hsub, hsel⟩
            obtain ⟨kk, hkk⟩ : ∃ kk, kk = kf N L := ⟨_, rfl⟩
            have HKK : Hid (kk = kf N L ∧ ln = L.length) := ⟨hkk, hln⟩
            have hk1 : wh ≤ kk := by rw [hkk, HC.out.2.2.2.2]; exact hks.1
            have hk2 : kk ≤ N := by rw [hkk]; exact hks.2.1
            have hk3 : N ≤ kk + ln := by rw [hkk, hln]; exact hks.2.2.1
            have hk4 : kk + ln ≤ wh + i := by rw [hkk, hln, HC.out.2.2.2.2, HC.out.2.2.2.1]; exact hks.2.2.2
            have C20 : Hid (∀ (A : World) (go : Option Addr) (gc : Nat), GridAt A (.slice go N gc) N (hasB (pzT L)) → Calls Try.prog 20 #[.slice go N gc, .slice none 0 0] A fun r w' => r = .returned (.int .i64 (kk : Int)) ∧ Below A.heap.size A w') := fun A go gc h => by
              rw [hkk]
              exact parts_kf h (by omega) HEL.out.2.2.1
            clear hsel hL hln hsub hks hEL hkk t1 hs62
            go_upto_region 14 with (first | (go_at_call 21; refine Calls.mono (C21.out _ _ L HEL.out.1 (by have := HKK.out.2; omega) HEL.out.2.1) ?_; rintro e W3 ⟨h1, go, gc, rfl, hG⟩) | (go_at_call 20; refine Calls.mono (C20.out _ _ _ hG) ?_; rintro e W4 ⟨rfl, h2⟩) | fail)
            have HW4 : Hid (∀ A, Below W4.heap.size W4 A → Turns (fun x => x = b4) W2 A ∧ AT A b4 (tS N wh es s) ∧ Two A b1 (.int .i64 (N : Int)) (.slice ao i cap) 24 ∧ b4 < W4.heap.size) := fun A hA => by
              have hb := below_next (below_next h1 h2) hA
              have ht := hJw.out.1.trans (Turns.of_below hb _)
              have h4 := RowV.block hJw.out.2 ((below_next h1 h2).block _ (RowV.lt hJw.out.2))
              exact ⟨ht, RowV.block hJw.out.2 (hb.block _ (RowV.lt hJw.out.2)), two_turns HW2.out.1 ht (by have := HW2.out.2.2.2.1; omega), RowV.lt h4⟩
            clear h1 h2 hG C20 c0 c1 hJw hI
            refine region_ext (J := ST W4 (VR N wh kk ln undef (.slice vo ln vc) b1 W4.heap.size)) (by kernel_rfl) (by kernel_rfl) (by kernel_rfl) ST.start ?_ ?_
            · intro q o hq Lx xs a w1 hX0 hLf hd hcl hX
              match q, hq with
              | 0, hq =>
                cases hq
                have s9 := hX.out (s := 9) rfl
                refine wpOp_value rfl rfl (v := .int .i64 (kk : Int)) (w' := w1) ?_ ⟨_, rfl, hX0.put VR_mono (Below.refl _ _) rfl⟩
                simp [go_sem, Act.eval, s9]
              | 1, hq =>
                cases hq
                have s5 := hX.out (s := 5) rfl
                refine wpOp_value rfl rfl (v := .int .i64 (wh : Int)) (w' := w1) ?_ ⟨_, rfl, hX0.put VR_mono (Below.refl _ _) rfl⟩
                simp [go_sem, Act.eval, s5]
              | 2, hq =>
                cases hq
                have l0 := hd ⟨0, .data⟩ (by simp) rfl
                have l1 := hd ⟨1, .data⟩ (by simp) rfl
                have r0 := (hX.rd 0 _ 56 rfl rfl l0).trans (hX0.told 0 l0)
                have r1 := (hX.rd 1 _ 57 rfl rfl l1).trans (hX0.told 1 l1)
                obtain ⟨d, hdd⟩ : ∃ d, d = kk - wh := ⟨_, rfl⟩
                have e : (kk : Int) - (wh : Int) = (d : Int) := by omega
                have hw := wrap_n (a := d) (by omega)
                refine wpOp_value rfl rfl (v := .int .i64 (d : Int)) (w' := w1) ?_ ⟨_, rfl, hX0.put VR_mono (Below.refl _ _) (by rw [hdd]; rfl)⟩
                simp [go_sem, Act.eval, r0, r1, e, hw]
              | 3, hq =>
                cases hq
                have l2 := hd ⟨2, .data⟩ (by simp) rfl
                have r2 := (hX.rd 2 _ 58 rfl rfl l2).trans (hX0.told 2 l2)
                refine wpOp_call rfl rfl (f := 22) (args := #[.int .i64 ((kk - wh : Nat) : Int)]) (w' := w1) ?_ ?_
                · simp [go_sem, Act.eval, r2]
                · refine (power_call (w := w1) (p := kk - wh) (by omega)).mono ?_
                  rintro e w2 ⟨g, cap, rfl, hO, hB⟩
                  exact ⟨_, rfl, _, rfl, hX0.put VR_mono hB ⟨g, cap, rfl, hO.base hX0.bel.size⟩⟩
              | 4, hq =>
                cases hq
                have s9 := hX.out (s := 9) rfl
                refine wpOp_value rfl rfl (v := .int .i64 (kk : Int)) (w' := w1) ?_ ⟨_, rfl, hX0.put VR_mono (Below.refl _ _) rfl⟩
                simp [go_sem, Act.eval, s9]
              | 5, hq =>
                cases hq
                have s7 := hX.out (s := 7) rfl
                refine wpOp_value rfl rfl (v := .slice vo ln vc) (w' := w1) ?_ ⟨_, rfl, hX0.put VR_mono (Below.refl _ _) rfl⟩
                simp [go_sem, Act.eval, s7]
              | 6, hq =>
                cases hq
                have l5 := hd ⟨5, .data⟩ (by simp) rfl
                have r5 := (hX.rd 5 _ 61 rfl rfl l5).trans (hX0.told 5 l5)
                refine wpOp_value rfl rfl (v := .int .i64 (ln : Int)) (w' := w1) ?_ ⟨_, rfl, hX0.put VR_mono (Below.refl _ _) rfl⟩
                simp [go_sem, Act.eval, r5]
              | 7, hq =>
                cases hq
                have l4 := hd ⟨4, .data⟩ (by simp) rfl
                have l6 := hd ⟨6, .data⟩ (by simp) rfl
                have r4 := (hX.rd 4 _ 60 rfl rfl l4).trans (hX0.told 4 l4)
                have r6 := (hX.rd 6 _ 62 rfl rfl l6).trans (hX0.told 6 l6)
                obtain ⟨d, hdd⟩ : ∃ d, d = kk + ln := ⟨_, rfl⟩
                have e : (kk : Int) + (ln : Int) = (d : Int) := by omega
                have hw := wrap_n (a := d) (by omega)
                refine wpOp_value rfl rfl (v := .int .i64 (d : Int)) (w' := w1) ?_ ⟨_, rfl, hX0.put VR_mono (Below.refl _ _) (by rw [hdd]; rfl)⟩
                simp [go_sem, Act.eval, r4, r6, e, hw]
              | 8, hq =>
                cases hq
                have s1 := hX.out (s := 1) rfl
                refine wpOp_value rfl rfl (v := .pointer (some ⟨b1, 0, none⟩)) (w' := w1) ?_ ⟨_, rfl, hX0.put VR_mono (Below.refl _ _) rfl⟩
                simp [go_sem, Act.eval, s1]
              | 9, hq =>
                cases hq
                have l8 := hd ⟨8, .data⟩ (by simp) rfl
                have r8 := (hX.rd 8 _ 64 rfl rfl l8).trans (hX0.told 8 l8)
                obtain ⟨q0, _⟩ := cell_two (HW4.out _ hX0.bel).2.2.1
                refine wpOp_value rfl rfl (v := .int .i64 (N : Int)) (w' := w1) ?_ ⟨_, rfl, hX0.put VR_mono (Below.refl _ _) rfl⟩
                simp [go_sem, Act.eval, r8, q0]
              | 10, hq =>
                cases hq
                have l7 := hd ⟨7, .data⟩ (by simp) rfl
                have l9 := hd ⟨9, .data⟩ (by simp) rfl
                have r7 := (hX.rd 7 _ 63 rfl rfl l7).trans (hX0.told 7 l7)
                have r9 := (hX.rd 9 _ 65 rfl rfl l9).trans (hX0.told 9 l9)
                obtain ⟨d, hdd⟩ : ∃ d, d = kk + ln - N := ⟨_, rfl⟩
                obtain ⟨d0, hdd0⟩ : ∃ d0, d0 = kk + ln := ⟨_, rfl⟩
                have e : (d0 : Int) - (N : Int) = (d : Int) := by omega
                have hw := wrap_n (a := d) (by omega)
                rw [← hdd0] at r7
                refine wpOp_value rfl rfl (v := .int .i64 (d : Int)) (w' := w1) ?_ ⟨_, rfl, hX0.put VR_mono (Below.refl _ _) (by rw [hdd]; rfl)⟩
                simp [go_sem, Act.eval, r7, r9, e, hw]
              | 11, hq =>
                cases hq
                have l10 := hd ⟨10, .data⟩ (by simp) rfl
                have r10 := (hX.rd 10 _ 66 rfl rfl l10).trans (hX0.told 10 l10)
                refine wpOp_call rfl rfl (f := 22) (args := #[.int .i64 ((kk + ln - N : Nat) : Int)]) (w' := w1) ?_ ?_
                · simp [go_sem, Act.eval, r10]
                · refine (power_call (w := w1) (p := kk + ln - N) (by omega)).mono ?_
                  rintro e w2 ⟨g, cap, rfl, hO, hB⟩
                  exact ⟨_, rfl, _, rfl, hX0.put VR_mono hB ⟨g, cap, rfl, hO.base hX0.bel.size⟩⟩
              | 12, hq =>
                cases hq
                have l3 := hd ⟨3, .data⟩ (by simp) rfl
                have v3 := hX0.told 3 l3
                have r3 := hX.rd 3 _ 59 rfl rfl l3
                refine wpOp_value rfl rfl (v := xs 3) (w' := w1) ?_ ⟨_, rfl, hX0.put VR_mono (Below.refl _ _) v3⟩
                simp [go_sem, Act.eval, r3]
              | 13, hq =>
                cases hq
                have l11 := hd ⟨11, .data⟩ (by simp) rfl
                have v11 := hX0.told 11 l11
                have r11 := hX.rd 11 _ 67 rfl rfl l11
                refine wpOp_value rfl rfl (v := xs 11) (w' := w1) ?_ ⟨_, rfl, hX0.put VR_mono (Below.refl _ _) v11⟩
                simp [go_sem, Act.eval, r11]
              | z + 14, hq => cases hq
            · intro L0 xv W5 hX0 hall
              obtain ⟨g1, cap1, e12, hO1⟩ := hX0.told 12 (hall 12 (by simp))
              obtain ⟨g2, cap2, e13, hO2⟩ := hX0.told 13 (hall 13 (by simp))
              have hB5 := hX0.bel
              simp only [puts, Act.put, e12, e13, List.setIfInBounds_toArray, List.set_cons_succ, List.set_cons_zero]
              have HW5 : Hid (OwF W5 W4.heap.size g1 3 cap1 (kk - wh + 1) (coV (kk - wh)) ∧ OwF W5 W4.heap.size g2 3 cap2 (kk + ln - N + 1) (coV (kk + ln - N)) ∧ Turns (fun x => x = b4) W2 W5 ∧ AT W5 b4 (tS N wh es s) ∧ b4 < W4.heap.size) := ⟨hO1, hO2, (HW4.out _ hB5).1, (HW4.out _ hB5).2.1, (HW4.out _ hB5).2.2.2⟩
              clear hX0 hall e12 e13 hO1 hO2 hB5 HW4
              generalize xv 0 = z0
              generalize xv 1 = z1
              generalize xv 2 = z2
              generalize xv 3 = z3
              generalize xv 4 = z4
              generalize xv 5 = z5
              generalize xv 6 = z6
              generalize xv 7 = z7
              generalize xv 8 = z8
              generalize xv 9 = z9
              generalize xv 10 = z10
              generalize xv 11 = z11
              obtain ⟨pa, hpa⟩ : ∃ pa, pa = kk - wh := ⟨_, rfl⟩
              obtain ⟨pb, hpb⟩ : ∃ pb, pb = kk + ln - N := ⟨_, rfl⟩
              rw [← hpa, ← hpb] at HW5 ⊢
              have hpa12 : pa ≤ 12 := by omega
              have hpb9 : pb ≤ 9 := by omega
              have HPB : Hid (∀ x y, tG N wh (sel es s) x y = co pa x * co pb y) := fun x y => by
                unfold tG
                rw [← HEL.out.2.2.2, ← HKK.out.1, ← HKK.out.2, ← hpa, ← hpb]
              have HTS : Hid (∀ x y, -68719476736 ≤ tS N wh es s x y ∧ tS N wh es s x y ≤ 68719476736) := fun x y => by
                have h1 := tS_small HC.out.2.2.1 hN (by have := HC.out.2.2.2.1; omega) x y s
                rw [← HC.out.2.2.2.2] at h1
                omega
              clear hpa hpb HEL HKK
              go_upto_region 15 with (fail)
              go_wp2_with (fail)
              go_loopw [12, 13] (fun s12 _ wz => ∃ x : Nat, x ≤ pa + 1 ∧ s12 = .int .i64 (x : Int) ∧ Hid (Turns (fun b => b = b4) W5 wz ∧ AT wz b4 (fun i j => tS N wh es s i j + if i < x then co pa i * co pb j else 0))) (fun s12 _ _ => pa + 1 - (numOf s12).toNat)
              case atStart => exact ⟨0, Nat.zero_le _, rfl, Turns.refl _ _, HW5.out.2.2.2.1.congr (fun i j _ _ => by simp)⟩
              case round =>
                obtain ⟨x, hx, rfl, hI3⟩ := hrel
                by_cases hxl : x < pa + 1
                · have kx : decide ((x : Int) < ((pa + 1 : Nat) : Int)) = true := by simp; omega
                  go_upto_region 18 with (fail)
                  go_wp2_with (fail)
                  go_loopw [13] (fun s13 wz => ∃ y : Nat, y ≤ pb + 1 ∧ s13 = .int .i64 (y : Int) ∧ Hid (Turns (fun b => b = b4) W5 wz ∧ AT wz b4 (fun i j => tS N wh es s i j + if i < x ∨ (i = x ∧ j < y) then co pa i * co pb j else 0))) (fun s13 _ => pb + 1 - (numOf s13).toNat)
                  case atStart => exact ⟨0, Nat.zero_le _, rfl, hI3.out.1, hI3.out.2.congr (fun i j _ _ => by simp)⟩
                  case round =>
                    obtain ⟨y, hy, rfl, hI4⟩ := hrel
                    clear hI3
                    by_cases hyl : y < pb + 1
                    · have ky : decide ((y : Int) < ((pb + 1 : Nat) : Int)) = true := by simp; omega
                      have cx : wr.cell? ⟨g1, x, none⟩ = some (.int .i64 (co pa x)) := (HW5.out.1.turns hI4.out.1 (fun e => by have := HW5.out.1.1; have := HW5.out.2.2.2.2; omega)).cell hxl
                      have cy : wr.cell? ⟨g2, y, none⟩ = some (.int .i64 (co pb y)) := (HW5.out.2.1.turns hI4.out.1 (fun e => by have := HW5.out.2.1.1; have := HW5.out.2.2.2.2; omega)).cell hyl
                      have ca : wr.cell? ⟨b4, x * 14 + y, none⟩ = some (.int .i64 (tS N wh es s x y)) := by
                        have := hI4.out.2.cell (i := x) (j := y) (by omega) (by omega)
                        rw [if_neg (by omega), Int.add_zero] at this
                        exact this
                      have x0 : (0 : Int) ≤ (x : Int) := by omega
                      have x1 : (x : Int) < ((pa + 1 : Nat) : Int) := by omega
                      have x2 : (x : Int) < 13 := by omega
                      have y0 : (0 : Int) ≤ (y : Int) := by omega
                      have y1 : (y : Int) < ((pb + 1 : Nat) : Int) := by omega
                      have y2 : (y : Int) < 14 := by omega
                      have b0 := HTS.out x y
                      have b1 := mul_small (co_small (k := pa) (by omega) x) (co_small (k := pb) (by omega) y)
                      obtain ⟨tm, htm⟩ : ∃ tm, tm = co pa x * co pb y := ⟨_, rfl⟩
                      rw [← htm] at b1
                      have em : co pa x * co pb y = tm := htm.symm
                      have v1 : -9223372036854775808 ≤ tm := by omega
                      have v2 : tm < 9223372036854775808 := by omega
                      have v3 : -9223372036854775808 ≤ tS N wh es s x y + tm := by omega
                      have v4 : tS N wh es s x y + tm < 9223372036854775808 := by omega
                      have HTm : Hid (tm = co pa x * co pb y) := htm
                      clear b0 b1 htm
                      go_upto_region 21 with (fail)
                      have d0 := cell_growD cx
                      have d1 := cell_growD cy
                      have d2 := cell_growD ca
                      clear cx cy ca
                      refine wp_region_tailT 17 (by kernel_rfl) (by kernel_rfl) (by kernel_rfl) (by decide) ?_
                      simp only [List.take_succ_cons, List.take_zero, List.drop_succ_cons, List.drop_zero]
                      repeat (go_big_quiet_step (fail))
                      refine wpQuiet_nil ?_
                      rintro _ ⟨gp, rfl⟩
                      have hB8 := growD_below wr gp
                      clear d0 d1 d2
                      generalize growD wr gp = w8 at *
                      have hA8 : AT w8 b4 (fun i j => tS N wh es s i j + if i < x ∨ (i = x ∧ j < y) then co pa i * co pb j else 0) := RowV.block hI4.out.2 (hB8.block _ (RowV.lt hI4.out.2))
                      have c8 := hA8.cell (i := x) (j := y) (by omega) (by omega)
                      have f8 := RowV.free hA8 (x * 14 + y)
                      have HA8 : Hid (AT w8 b4 (fun i j => tS N wh es s i j + if i < x ∨ (i = x ∧ j < y) then co pa i * co pb j else 0) ∧ Turns (fun b => b = b4) W5 w8) := ⟨hA8, hI4.out.1.trans (Turns.of_below hB8 _)⟩
                      clear hA8 hB8 hI4
                      go_wp2
                      go_roundw
                      case rel =>
                        refine ⟨y + 1, by omega, by go_num, HA8.out.2.trans (setCell_turns _ _ _ _), (HA8.out.1.set (i := x) (j := y) (by omega) (tS N wh es s x y + tm)).congr (fun i j _ _ => ?_)⟩
                        by_cases e : i = x ∧ j = y
                        · rw [if_pos e, if_pos (by omega), e.1, e.2, HTm.out]
                        · rw [if_neg e]
                          by_cases e2 : i < x ∨ (i = x ∧ j < y)
                          · rw [if_pos e2, if_pos (by omega)]
                          · rw [if_neg e2, if_neg (by omega)]
                      case measure => simp [numOf]; omega
                    · obtain rfl : y = pb + 1 := by omega
                      have ky : decide (((pb + 1 : Nat) : Int) < ((pb + 1 : Nat) : Int)) = false := by simp
                      go_wp2
                      go_roundw
                      case rel =>
                        refine ⟨x + 1, by omega, by go_num, hI4.out.1, hI4.out.2.congr (fun i j _ _ => ?_)⟩
                        by_cases e : i = x
                        · subst e
                          by_cases e2 : j < pb + 1
                          · rw [if_pos (by omega), if_pos (by omega)]
                          · rw [if_neg (by omega), if_pos (by omega), co_out (show pb < j by omega)]
                            simp
                        · by_cases e2 : i < x
                          · rw [if_pos (by omega), if_pos (by omega)]
                          · rw [if_neg (by omega), if_neg (by omega)]
                      case measure => simp [numOf]; omega
                · obtain rfl : x = pa + 1 := by omega
                  have kx : decide (((pa + 1 : Nat) : Int) < ((pa + 1 : Nat) : Int)) = false := by simp
                  have HE : Hid (Turns (fun x => x = b4) W2 wr ∧ AT wr b4 (tS N wh es (s + 1))) := by
                    refine ⟨HW5.out.2.2.1.trans hI3.out.1, hI3.out.2.congr (fun i j _ _ => ?_)⟩
                    show _ = tS N wh es s i j + tG N wh (sel es s) i j
                    rw [HPB.out]
                    by_cases e : i < pa + 1
                    · rw [if_pos e]
                    · rw [if_neg e, co_out (show pa < i by omega)]
                      simp
                  clear hI3 HW5
                  go_wp2
                  go_roundw
                  case rel => exact ⟨s + 1, by omega, by go_num, HE⟩
                  case measure => simp [numOf]; omega
      · obtain rfl : s = M := by omega
        have k1 : decide ((s : Int) < (s : Int)) = false := by simp
        go_wp2
        go_meet
        case rel => exact ⟨hJ.out.1, hJ.out.2.congr (fun i j _ _ => by rw [HMM.out]; exact tS_all _ _ _ _ _)⟩
  case rest =>
    have HX1 := hcut
    clear hcut C21 HSH HMM
    obtain ⟨WC, hWC⟩ : ∃ W, W = wc := ⟨_, rfl⟩
    rw [← hWC] at HX1 ⊢
    clear hWC
    have hlast : (∃ j, j < wh + m - N + 1 ∧ tT N wh es (N - wh) j ≠ 0) ∧ (∃ i, i < N - wh + 1 ∧ tT N wh es i (wh + m - N) ≠ 0) ∧ (∀ i j, N - wh < i → tT N wh es i j = 0) ∧ (∀ i j, wh + m - N < j → tT N wh es i j = 0) := by
      rw [HC.out.2.2.2.2, HC.out.2.2.2.1]
      have hm12 : es.length ≤ 12 := by rw [← HC.out.2.2.2.1]; omega
      obtain ⟨j, hj1, hj2⟩ := last_row HC.out.2.2.1 hm12
      obtain ⟨i, hi1, hi2⟩ := last_col HC.out.2.2.1 hm12
      exact ⟨⟨j, hj1, fun e => hj2 (by rw [e]; exact Int.dvd_zero _)⟩, ⟨i, hi1, fun e => hi2 (by rw [e]; exact Int.dvd_zero _)⟩, fun i j h => tT_row HC.out.2.2.1 h j, fun i j h => tT_col HC.out.2.2.1 i h⟩
    obtain ⟨rr, hrr⟩ : ∃ rr, rr = N - wh := ⟨_, rfl⟩
    obtain ⟨cc, hcc⟩ : ∃ cc, cc = wh + m - N := ⟨_, rfl⟩
    rw [← hrr, ← hcc] at hlast
    have HL : Hid _ := hlast
    have HRC : Hid (rr = N - wh ∧ cc = wh + m - N) := ⟨hrr, hcc⟩
    have hrr12 : rr ≤ 12 := by omega
    have hcc9 : cc ≤ 9 := by omega
    clear hlast hrr hcc
    go_upto_block 8 with (fail)
    go_cut [14, 15, 16, 17] from 97 to 122 (fun s14 s15 _ _ wd => s14 = .int .i64 ((rr : Int) + 1) ∧ s15 = .int .i64 ((cc : Int) + 1) ∧ wd = WC)
    case first =>
      go_wp2_with (fail)
      go_loopw [14, 15, 16, 17] (fun s14 s15 s16 _ wz => ∃ (x ro cl : Nat), x ≤ 13 ∧ s16 = .int .i64 (x : Int) ∧ s14 = .int .i64 (ro : Int) ∧ s15 = .int .i64 (cl : Int) ∧ wz = WC ∧ Hid (ro ≤ rr + 1 ∧ cl ≤ cc + 1 ∧ ∀ i j, i < x → j < 14 → tT N wh es i j ≠ 0 → i + 1 ≤ ro ∧ j + 1 ≤ cl)) (fun _ _ s16 _ _ => 13 - (numOf s16).toNat)
      case atStart => exact ⟨0, 0, 0, by omega, rfl, rfl, rfl, rfl, by omega, by omega, fun i j h => by omega⟩
      case round =>
        obtain ⟨x, ro, cl, hx, rfl, rfl, rfl, rfl, hI⟩ := hrel
        by_cases hxl : x < 13
        · have kx : decide ((x : Int) < 13) = true := by simp; omega
          go_upto_region 26 with (fail)
          go_wp2_with (fail)
          go_loopw [14, 15, 17] (fun s14 s15 s17 wz => ∃ (y ro cl : Nat), y ≤ 14 ∧ s17 = .int .i64 (y : Int) ∧ s14 = .int .i64 (ro : Int) ∧ s15 = .int .i64 (cl : Int) ∧ wz = wr ∧ Hid (ro ≤ rr + 1 ∧ cl ≤ cc + 1 ∧ ∀ i j, (i < x ∨ (i = x ∧ j < y)) → j < 14 → tT N wh es i j ≠ 0 → i + 1 ≤ ro ∧ j + 1 ≤ cl)) (fun _ _ s17 _ => 14 - (numOf s17).toNat)
          case atStart => exact ⟨0, ro, cl, by omega, rfl, rfl, rfl, rfl, hI.out.1, hI.out.2.1, fun i j h => hI.out.2.2 i j (by omega)⟩
          case round =>
            clear hI
            obtain ⟨y, ro, cl, hy, rfl, rfl, rfl, rfl, hI⟩ := hrel
            by_cases hyl : y < 14
            · have ky : decide ((y : Int) < 14) = true := by simp; omega
              have ca : wr.cell? ⟨b4, x * 14 + y, none⟩ = some (.int .i64 (tT N wh es x y)) := HX1.out.2.cell hxl hyl
              have x0 : (0 : Int) ≤ (x : Int) := by omega
              have x2 : (x : Int) < 13 := by omega
              have y0 : (0 : Int) ≤ (y : Int) := by omega
              have y2 : (y : Int) < 14 := by omega
              obtain ⟨tv, htv⟩ : ∃ tv, tv = tT N wh es x y := ⟨_, rfl⟩
              rw [← htv] at ca
              have HTV : Hid (tv = tT N wh es x y) := htv
              clear htv
              have hro := hI.out.1
              have hcl := hI.out.2.1
              by_cases hz : tv = 0
              · have kz : (tv != 0) = false := by simp [hz]
                have HN : Hid (∀ i j, (i < x ∨ (i = x ∧ j < y + 1)) → j < 14 → tT N wh es i j ≠ 0 → i + 1 ≤ ro ∧ j + 1 ≤ cl) := fun i j h hj hne => by
                  by_cases e : i = x ∧ j = y
                  · exact absurd (by rw [e.1, e.2, ← HTV.out]; exact hz) hne
                  · exact hI.out.2.2 i j (by omega) hj hne
                clear hz
                go_wp2
                go_roundw
                case rel => exact ⟨y + 1, ro, cl, by omega, by go_num, rfl, rfl, trivial, hI.out.1, hI.out.2.1, HN.out⟩
                case measure => simp [numOf]; omega
              · have kz : (tv != 0) = true := by simp [hz]
                have hxr : x ≤ rr := Classical.byContradiction fun h => hz (by rw [HTV.out]; exact HL.out.2.2.1 x y (by omega))
                have hyc : y ≤ cc := Classical.byContradiction fun h => hz (by rw [HTV.out]; exact HL.out.2.2.2 x y (by omega))
                have HN : Hid (∀ i j, (i < x ∨ (i = x ∧ j < y + 1)) → j < 14 → tT N wh es i j ≠ 0 → i + 1 ≤ max ro (x + 1) ∧ j + 1 ≤ max cl (y + 1)) := fun i j h hj hne => by
                  by_cases e : i = x ∧ j = y
                  · omega
                  · have := hI.out.2.2 i j (by omega) hj hne
                    omega
                clear hz
                by_cases hr : ro < x + 1
                · have kr : decide ((ro : Int) < (x : Int) + 1) = true := by simp; omega
                  have er : max ro (x + 1) = x + 1 := by omega
                  by_cases hc : cl < y + 1
                  · have kc : decide ((cl : Int) < (y : Int) + 1) = true := by simp; omega
                    have ec : max cl (y + 1) = y + 1 := by omega
                    have HN2 := HN.out
                    rw [er, ec] at HN2
                    have HN3 : Hid _ := HN2
                    clear HN HN2 er ec
                    go_wp2
                    go_roundw
                    case rel => exact ⟨y + 1, x + 1, y + 1, by omega, by go_num, by go_num, by go_num, trivial, by omega, by omega, HN3.out⟩
                    case measure => simp [numOf]; omega
                  · have kc : decide ((cl : Int) < (y : Int) + 1) = false := by simp; omega
                    have ec : max cl (y + 1) = cl := by omega
                    have HN2 := HN.out
                    rw [er, ec] at HN2
                    have HN3 : Hid _ := HN2
                    clear HN HN2 er ec
                    go_wp2
                    go_roundw
                    case rel => exact ⟨y + 1, x + 1, cl, by omega, by go_num, by go_num, rfl, trivial, by omega, by omega, HN3.out⟩
                    case measure => simp [numOf]; omega
                · have kr : decide ((ro : Int) < (x : Int) + 1) = false := by simp; omega
                  have er : max ro (x + 1) = ro := by omega
                  by_cases hc : cl < y + 1
                  · have kc : decide ((cl : Int) < (y : Int) + 1) = true := by simp; omega
                    have ec : max cl (y + 1) = y + 1 := by omega
                    have HN2 := HN.out
                    rw [er, ec] at HN2
                    have HN3 : Hid _ := HN2
                    clear HN HN2 er ec
                    go_wp2
                    go_roundw
                    case rel => exact ⟨y + 1, ro, y + 1, by omega, by go_num, rfl, by go_num, trivial, by omega, by omega, HN3.out⟩
                    case measure => simp [numOf]; omega
                  · have kc : decide ((cl : Int) < (y : Int) + 1) = false := by simp; omega
                    have ec : max cl (y + 1) = cl := by omega
                    have HN2 := HN.out
                    rw [er, ec] at HN2
                    have HN3 : Hid _ := HN2
                    clear HN HN2 er ec
                    go_wp2
                    go_roundw
                    case rel => exact ⟨y + 1, ro, cl, by omega, by go_num, rfl, rfl, trivial, by omega, by omega, HN3.out⟩
                    case measure => simp [numOf]; omega
            · obtain rfl : y = 14 := by omega
              go_wp2
              go_roundw
              case rel => exact ⟨x + 1, ro, cl, by omega, by go_num, rfl, rfl, trivial, hI.out.1, hI.out.2.1, fun i j h hj hne => hI.out.2.2 i j (by omega) hj hne⟩
              case measure => simp [numOf]; omega
        · obtain rfl : x = 13 := by omega
          have hfin : ro = rr + 1 ∧ cl = cc + 1 := by
            obtain ⟨⟨j, hj1, hj2⟩, ⟨i, hi1, hi2⟩, _⟩ := HL.out
            have h1 := hI.out.2.2 rr j (by omega) (by omega) hj2
            have h2 := hI.out.2.2 i cc (by omega) (by omega) hi2
            have := hI.out.1
            have := hI.out.2.1
            omega
          obtain ⟨rfl, rfl⟩ := hfin
          go_wp2
          go_meet
          case rel => exact ⟨by simp, by simp, rfl⟩
    case rest =>
      obtain ⟨rfl, rfl, rfl⟩ := hcut
      obtain ⟨i3, hi3, hy0, hy1, hy2⟩ := info_parts Try.info3
      obtain ⟨i45, hi45, hx0, hx1, hx2⟩ := info_parts Try.info45
      have HSM : Hid (∀ x y, I64 (tT N wh es x y)) := fun x y => by
        have h1 := tS_small HC.out.2.2.1 hN (by have := HC.out.2.2.2.1; omega) x y (2 ^ es.length)
        rw [← HC.out.2.2.2.2, tS_all] at h1
        have h2 : (2 : Nat) ^ es.length ≤ 2 ^ 9 := Nat.pow_le_pow_right (by decide) (by have := HC.out.2.2.2.1; omega)
        have h3 : ((2 ^ es.length : Nat) : Int) ≤ 512 := by omega
        exact ⟨by omega, by omega⟩
      go_upto_region 35 with (fail)
      go_wp2_with (fail)
      go_loopw [18, 19] (fun s18 s19 wz => ∃ (i : Nat) (vo : Option Addr) (vc : Nat) (vs : List Value), i ≤ rr + 1 ∧ s19 = .int .i64 (i : Int) ∧ s18 = .slice vo i vc ∧ Hid (wz.ownsRow wc.heap.size 45 1 (.slice vo i vc) i vs ∧ (∀ k x, vs[k]? = some x → ∃ g cap, x = .slice (some ⟨g, 0, none⟩) (cc + 1) cap ∧ OwF wz wc.heap.size g 3 cap (cc + 1) (fun j => .int .i64 (tT N wh es k j))) ∧ Below wc.heap.size wc wz)) (fun _ s19 _ => rr + 1 - (numOf s19).toNat)
      case atStart => exact ⟨0, none, 0, [], Nat.zero_le _, rfl, rfl, World.ownsRow_nil _ _ _ _, fun k x h => by simp at h, Below.refl _ _⟩
      case round =>
        obtain ⟨i, vo, vc, vs, hi, rfl, rfl, hI⟩ := hrel
        by_cases hil : i < rr + 1
        · have kx : decide ((i : Int) < (rr : Int) + 1) = true := by simp; omega
          have i0 : (0 : Int) ≤ (i : Int) := by omega
          have i1 : (i : Int) < 13 := by omega
          have c0 : (0 : Int) ≤ (cc : Int) + 1 := by omega
          have c1 : (cc : Int) + 1 ≤ 14 := by omega
          have hAT : AT wr b4 (tT N wh es) := RowV.block HX1.out.2 (hI.out.2.2.block _ (RowV.lt HX1.out.2))
          have hbw := hI.out.2.2.size
          go_wp2_with (at_builtin; refine wpList_append_own _ rfl _ _ 45 rfl wc.heap.size 3 i3 (.int .i64 0) 1 8 Try.underlying45 hi3 hy0 hy1 hy2 rfl (by decide) (.slice none 0 0) 0 [] rfl (World.ownsRow_nil _ _ _ _) ⟨b4, i * 14, none⟩ (cc + 1) 14 ((List.range (cc + 1)).map fun j => .int .i64 (tT N wh es i j)) rfl (by simp) ?n1 ?n2 ?n3 ?n4 ?n5 ?_)
          case n1 =>
            intro j u hj
            have hjl : j < cc + 1 := by
              have := (List.getElem?_eq_some_iff.1 hj).1
              simpa using this
            rw [List.getElem?_map, List.getElem?_range hjl] at hj
            simp at hj
            subst hj
            have e : (⟨b4, i * 14, none⟩ : Addr).add j = ⟨b4, i * 14 + j, none⟩ := by unfold Addr.add; split <;> simp_all
            rw [e]
            exact hAT.cell (by omega) (by omega)
          case n2 => intro u hu; obtain ⟨z, _, rfl⟩ := List.mem_map.1 hu; rfl
          case n3 => unfold maxLen; omega
          case n4 => omega
          case n5 => omega
          intro v1 w3 hown1 hgrow1 _
          try simp only [Nat.zero_add, List.nil_append] at hown1
          obtain ⟨g1, cap1, rfl, hO1⟩ := owF_of (f := fun j => .int .i64 (tT N wh es i j)) hown1 (by omega) (fun j hj => by
            by_cases e : j < cc
            · rw [List.getElem?_append_left (by simp; omega), List.getElem?_map, List.getElem?_range e]; rfl
            · have e' : j = cc := by omega
              subst e'
              rw [List.getElem?_append_right (by simp)]
              simp)
          have hB3 : Below wr.heap.size wr w3 := (Below.refl _ _).grown hgrow1 (Nat.le_refl _) (fun k hk => by cases hk)
          have hI3 : Hid (w3.ownsRow wc.heap.size 45 1 (.slice vo i vc) i vs ∧ (∀ k x, vs[k]? = some x → ∃ g cap, x = .slice (some ⟨g, 0, none⟩) (cc + 1) cap ∧ OwF w3 wc.heap.size g 3 cap (cc + 1) (fun j => .int .i64 (tT N wh es k j))) ∧ Below wc.heap.size wc w3 ∧ OwF w3 wc.heap.size g1 3 cap1 (cc + 1) (fun j => .int .i64 (tT N wh es i j))) := ⟨ownsRow_blocks hI.out.1 (fun b hb => hB3.block b (hI.out.1.lt b hb).2), fun k x hx => by
            obtain ⟨g, cap, h1, h2⟩ := hI.out.2.1 k x hx
            exact ⟨g, cap, h1, h2.below hB3⟩, below_next hI.out.2.2 hB3, hO1⟩
          have hbw3 := hI3.out.2.2.1.size
          clear hI hAT hown1 hgrow1 hO1 hB3 hbw
          go_wp2_with (at_builtin; refine wpList_append_own _ rfl _ _ 30 rfl wc.heap.size 45 i45 (.slice none 0 0) 1 24 Try.underlying30 hi45 hx0 hx1 hx2 rfl (by decide) _ _ _ rfl (hI3.out.1.alloc _) ⟨w3.heap.size, 0, none⟩ 1 1 [.slice (some ⟨g1, 0, none⟩) (cc + 1) cap1] rfl rfl ?n1 ?n2 ?n3 ?n4 ?n5 ?_)
          case n1 =>
            intro j u hj
            match j, hj with
            | 0, hj => simp at hj; subst hj; simp [Addr.add]
          case n2 => intro u hu; simp at hu; subst hu; rfl
          case n3 => unfold maxLen; omega
          case n4 => omega
          case n5 => simp; omega
          intro v2 w4 hown2 hgrow2 _
          obtain ⟨vo2, vc2, rfl⟩ := form_row hown2
          have HR : Hid (w4.ownsRow wc.heap.size 45 1 (.slice vo2 (i + 1) vc2) (i + 1) (vs ++ [.slice (some ⟨g1, 0, none⟩) (cc + 1) cap1]) ∧ (∀ k x, (vs ++ [.slice (some ⟨g1, 0, none⟩) (cc + 1) cap1])[k]? = some x → ∃ g cap, x = .slice (some ⟨g, 0, none⟩) (cc + 1) cap ∧ OwF w4 wc.heap.size g 3 cap (cc + 1) (fun j => .int .i64 (tT N wh es k j))) ∧ Below wc.heap.size wc w4) := by
            have hlen : vs.length = i := by have := hI3.out.1.1; omega
            have keepO : ∀ {g cap : Nat} {f : Nat → Value}, OwF w3 wc.heap.size g 3 cap (cc + 1) f → OwF w4 wc.heap.size g 3 cap (cc + 1) f := fun {g cap f} h => by
              have h1 := h.below (below_alloc (Below.refl _ w3) (Obj.cells #[.slice (some ⟨g1, 0, none⟩) (cc + 1) cap1] 45))
              refine h1.block (hgrow2.block g h1.lt (fun e => ?_))
              obtain ⟨cur, hc⟩ := own_cells (hI3.out.1.alloc (Obj.cells #[.slice (some ⟨g1, 0, none⟩) (cc + 1) cap1] 45)) e.symm
              obtain ⟨_, _, _, cur2, hc2, _⟩ := h1
              rw [hc] at hc2
              cases hc2
            refine ⟨hown2, fun k x hx => ?_, ?_⟩
            · by_cases hk : k < i
              · rw [List.getElem?_append_left (by omega)] at hx
                obtain ⟨g, cap, h1, h2⟩ := hI3.out.2.1 k x hx
                exact ⟨g, cap, h1, keepO h2⟩
              · have hkl := (List.getElem?_eq_some_iff.1 hx).1
                simp at hkl
                obtain rfl : k = i := by omega
                rw [List.getElem?_append_right (by omega), hlen, Nat.sub_self] at hx
                simp at hx
                exact ⟨g1, cap1, hx.symm, keepO hI3.out.2.2.2⟩
            · have hb : Below wc.heap.size wc (w3.alloc (Obj.cells #[.slice (some ⟨g1, 0, none⟩) (cc + 1) cap1] 45)) := below_alloc hI3.out.2.2.1 _
              exact hb.grown hgrow2 hb.size (fun k hk => (hI3.out.1.lt k hk).1)
          clear hown2 hgrow2 hI3 hbw3
          go_wp2
          go_roundw
          case rel => exact ⟨i + 1, vo2, vc2, _, by omega, by go_num, rfl, HR⟩
          case measure => simp [numOf]; omega
        · obtain rfl : i = rr + 1 := by omega
          have kx : decide (((rr + 1 : Nat) : Int) < (rr : Int) + 1) = false := by simp
          have HFIN : Hid (RowsAt wr (.slice vo (rr + 1) vc) ((List.range (rr + 1)).map fun i => (List.range (cc + 1)).map fun j => tT N wh es i j) ∧ Below w.heap.size w wr) := by
            refine ⟨?_, ?_⟩
            · obtain ⟨hvl, hown⟩ := hI.out.1
              rcases hown with ⟨_, h0⟩ | ⟨g, cap', cur, e1, h3, h4, h5, h6, h7, h8⟩
              · omega
              · simp only [Value.slice.injEq] at e1
                obtain ⟨rfl, _, rfl⟩ := e1
                refine ⟨some ⟨g, 0, none⟩, vc, by simp, by simp; omega, by simp; omega, fun k hk => ?_⟩
                have hk' : k < rr + 1 := by simpa using hk
                obtain ⟨xk, hvk⟩ : ∃ x, vs[k]? = some x := ⟨_, List.getElem?_eq_getElem (by omega)⟩
                obtain ⟨g', cap', hx1, hx2⟩ := hI.out.2.1 k _ hvk
                refine ⟨g, 0, xk, rfl, ?_, ?_⟩
                · rw [Nat.zero_add, cell_of_row wr g k cur 45 (0, 0) h4]
                  rw [← h8, Nat.mul_one, List.getElem?_take_of_lt hk'] at hvk
                  simpa using hvk
                · rw [hx1]
                  refine ⟨some ⟨g', 0, none⟩, cap', by simp, by simp; omega, fun z hz => ?_, fun j hj => ?_⟩
                  · simp at hz
                    obtain ⟨j, _, rfl⟩ := hz
                    exact HSM.out _ _
                  · have hj' : j < cc + 1 := by simpa using hj
                    refine ⟨g', 0, rfl, ?_⟩
                    rw [Nat.zero_add]
                    have := hx2.cell hj'
                    simpa using this
            · exact below_next (HX1.out.1.below HW2.out.2.2.1 HW2.out.2.2.1.size (fun k e => by have := HW2.out; omega)) hI.out.2.2
          clear hI
          go_wp2
          go_ret
          refine ⟨⟨_, rfl, ?_⟩, HFIN.out.2⟩
          rw [← HRC.out.1, ← HRC.out.2]
          exact HFIN.out.1
end Go.Proofs.Ytmeodnkmhakidaa
