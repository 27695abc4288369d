/- nearBy: of each node the set of those near it. -/
import Derived.Test.YtkkfjfphmlcieaaGreatPartC
import Derived.Deep.Cut
import Derived.Deep.CutRange
namespace Go.Proofs.YtkkfjfphmlcieaaGreat
set_option maxRecDepth 4000
open Go.RowKit Go.Maps
attribute [local go_sem ↓] Go.wp_at_zero Go.wp_at_succ
set_option maxHeartbeats 4000000 in
theorem nearBy_call (n : Nat) (eo : Option Addr) (ec : Nat) (es : List Pair) (w : World) (hE : EdgesAt w (.slice eo es.length ec) es) (hn : n ≤ 1000) (hgood : ∀ e ∈ es, 0 ≤ e.1 ∧ e.1 < n ∧ 0 ≤ e.2 ∧ e.2 < n) :
    Calls Tryz.prog 33 #[.agg #[.int .i64 (n : Int), .slice eo es.length ec]] w fun r w' => ∃ ao, r = .returned (.slice ao n n) ∧ (∀ g, ao = some g → w.heap.size ≤ g.block) ∧ ∃ bl, NearsAt w' ao n bl (bothB es) ∧ (∀ i, i < n → w.heap.size ≤ bl i) ∧ Below w.heap.size w w' := by
  have hmm := @run_makeMap Tryz.prog
  obtain ⟨i0, hi, hz0, hz1, hz2⟩ := info_parts Tryz.info71
  have HG : Hid (∀ e ∈ es, 0 ≤ e.1 ∧ e.1 < n ∧ 0 ≤ e.2 ∧ e.2 < n) := hgood
  have HE : Hid (EdgesAt w (.slice eo es.length ec) es) := hE
  clear hgood hE
  go_enter Tryz.func33, Tryz.ntmps33
  go_upto_region 1 with (fail)
  have t1 := two_new w (.int .i64 (n : Int)) (.slice eo es.length ec) 24
  have hB0 := below_alloc (Below.refl _ w) (Obj.cells #[.int .i64 (n : Int), .slice eo es.length ec] 24)
  obtain ⟨b1, hb1⟩ : ∃ b, b = w.heap.size := ⟨_, rfl⟩
  rw [← hb1] at t1 ⊢
  generalize w.alloc (Obj.cells #[.int .i64 (n : Int), .slice eo es.length ec] 24) = W0 at t1 hB0 ⊢
  have HT1 : Hid (Two W0 b1 (.int .i64 (n : Int)) (.slice eo es.length ec) 24) := t1
  obtain ⟨q0, q1⟩ := cell_two t1
  clear t1 hb1
  go_wp2_with (first | (at_make; refine wpList_make_full _ rfl _ _ 61 rfl W0.heap.size 71 i0 (.map none) 1 Tryz.underlying61 hi hz0 hz1 .i64 .i64 _ _ n rfl rfl rfl rfl ?_ ?_ ?_ ?_; (rw [hz2]; omega); (unfold maxLen; omega); (omega); intro w1 hmade hg1) | go_in)
  have hrow := rowV_made rfl hmade
  have hB1 : Below W0.heap.size W0 w1 := (Below.refl _ _).grown hg1 (Nat.le_refl _) (fun k hk => by cases hk)
  clear hmade hg1 q0 q1
  go_loopw [12] (fun i wr => ∃ (k : Nat) (bl : Nat → Nat), k ≤ n ∧ i = .int .i64 (k : Int) ∧ RowV wr W0.heap.size 71 n (fun j => if j < k then .map (some (bl j)) else .map none) ∧ (∀ i j, i < k → j < k → bl i = bl j → i = j) ∧ (∀ i, i < k → SetN wr (bl i) n (fun _ => false) ∧ W0.heap.size < bl i) ∧ Below W0.heap.size W0 wr) (fun i _ => n - (numOf i).toNat)
  case atStart => exact ⟨0, fun _ => 0, Nat.zero_le _, rfl, hrow.congr (fun j _ => by simp), fun i j h => absurd h (by omega), fun i h => absurd h (by omega), hB1⟩
  case round =>
    obtain ⟨k, bl, hk, rfl, hR, hinj, hsets, hB⟩ := hrel
    clear hrow hB1
    by_cases hlt : k < n
    · have c1 := all_alloc (hR.cell hlt)
      have f1 := all_free (a := ⟨W0.heap.size, k, none⟩) hR.lt (hR.free k)
      have i1 : (0 : Int) ≤ (k : Int) := by omega
      have i2 : (k : Int) < (n : Int) := by omega
      go_wp2
      go_roundw
      case rel =>
        have hlR := hR.lt
        have hR2 := (hR.turns (alloc_turns wr (.map #[] 0) (fun _ => False)) (fun h => h)).set k (.map (some wr.heap.size))
        have ht : Turns (fun j => j = W0.heap.size) wr ((wr.alloc (.map #[] 0)).setCell ⟨W0.heap.size, k, none⟩ (.map (some wr.heap.size))) := (alloc_turns _ _ _).trans (setCell_turns _ _ _ _)
        have hlt2 : ∀ i, i < k → bl i < wr.heap.size := fun i h => (hsets i h).1.lt
        refine ⟨k + 1, fun j => if j = k then wr.heap.size else bl j, by omega, by go_num, hR2.congr (fun j _ => ?_), ?_, ?_, (hB.alloc hB.size _).setCell (by simp) _⟩
        · by_cases e : j = k
          · subst e; simp
          · simp [e]
            by_cases h2 : j < k
            · rw [if_pos h2, if_pos (by omega)]
            · rw [if_neg h2, if_neg (by omega)]
        · intro i j hi hj e
          by_cases h1 : i = k <;> by_cases h2 : j = k <;> simp [h1, h2] at e ⊢
          · have := hlt2 j (by omega); omega
          · have := hlt2 i (by omega); omega
          · exact hinj i j (by omega) (by omega) e
        · intro i hi
          by_cases h1 : i = k
          · simp [h1]
            exact ⟨(setN_made wr n).turns (setCell_turns _ _ _ _) (by omega), by omega⟩
          · simp [h1]
            have h3 := hsets i (by omega)
            exact ⟨h3.1.turns ht (by omega), h3.2⟩
      case measure => simp [numOf]; omega
    · have hkn : k = n := by omega
      subst hkn
      have HN : Hid (NearsAt wr (some ⟨W0.heap.size, 0, none⟩) k bl (fun _ _ => false)) := ⟨hinj, fun i hi => ⟨_, rfl, by have := hR.cell hi; simpa [hi] using this⟩, fun i hi => (hsets i hi).1⟩
      have HBL : Hid (∀ i, i < k → W0.heap.size < bl i) := fun i hi => (hsets i hi).2
      have HT1r : Hid (Two wr b1 (.int .i64 (k : Int)) (.slice eo es.length ec) 24) := two_next HT1.out hB
      have HBr : Hid (Below w.heap.size w wr) := below_next hB0 hB
      have hszW : w.heap.size ≤ W0.heap.size := hB0.size
      obtain ⟨q0, q1⟩ := cell_two HT1r.out
      obtain ⟨gN, hgN⟩ : ∃ gN, gN = W0.heap.size := ⟨_, rfl⟩
      rw [← hgN] at HN HBL ⊢
      have hgN' : w.heap.size ≤ gN := by omega
      clear hR hinj hsets hB hB0 hgN hszW hmm
      obtain ⟨Wn, hWn⟩ : ∃ Wn, Wn = wr := ⟨_, rfl⟩
      rw [← hWn] at HN HT1r HBr q0 q1 ⊢
      clear hWn
      go_wp2
      go_loopw [23] (fun i wr => ∃ j : Nat, j ≤ es.length ∧ i = .int .i64 (j : Int) ∧ NearsAt wr (some ⟨gN, 0, none⟩) k bl (bothB (es.take j)) ∧ Below w.heap.size w wr) (fun i _ => es.length - (numOf i).toNat)
      case atStart => exact ⟨0, Nat.zero_le _, rfl, HN.out.congr (fun i j _ _ => by simp [bothB, hasB]), HBr.out⟩
      case round =>
        obtain ⟨j, hj, rfl, hNr, hBz⟩ := hrel
        have HNR : Hid (NearsAt wr (some ⟨gN, 0, none⟩) k bl (bothB (es.take j))) := hNr
        have HBZ : Hid (Below w.heap.size w wr) := hBz
        clear hNr hBz HN HBr q0 q1
        by_cases hlt : j < es.length
        · obtain ⟨ao', cap', e', _, _, hc⟩ := HE.out.below HBZ.out
          cases e'
          obtain ⟨b, off, rfl, cx, cy⟩ := hc j hlt
          have hgx := HG.out es[j] (List.getElem_mem _)
          obtain ⟨x, hx⟩ : ∃ x : Nat, es[j].1 = (x : Int) := ⟨es[j].1.toNat, by omega⟩
          obtain ⟨y, hy⟩ : ∃ y : Nat, es[j].2 = (y : Int) := ⟨es[j].2.toNat, by omega⟩
          rw [hx] at cx hgx
          rw [hy] at cy hgx
          have HXY : Hid (es[j] = ((x : Int), (y : Int))) := by rw [← hx, ← hy]; exact rfl
          have hxk : x < k := by omega
          have hyk : y < k := by omega
          have i1 : (0 : Int) ≤ (j : Int) := by omega
          have i2 : (j : Int) < (es.length : Int) := by omega
          clear hc hgx hx hy
          go_upto_region 10 with (fail)
          have t6 := two_new wr (.int .i64 (x : Int)) (.int .i64 (y : Int)) 38
          have hB6 := below_alloc (Below.refl _ wr) (Obj.cells #[.int .i64 (x : Int), .int .i64 (y : Int)] 38)
          obtain ⟨b6, hb6⟩ : ∃ b, b = wr.heap.size := ⟨_, rfl⟩
          rw [← hb6] at t6 ⊢
          generalize wr.alloc (Obj.cells #[.int .i64 (x : Int), .int .i64 (y : Int)] 38) = w6 at t6 hB6 ⊢
          have hn6 := (HNR.out.below hB6)
          have HB06 : Hid (Below w.heap.size w w6) := below_next HBZ.out hB6
          have HT6 : Hid (Two w6 b6 (.int .i64 (x : Int)) (.int .i64 (y : Int)) 38) := t6
          obtain ⟨p0, p1⟩ := cell_two t6
          obtain ⟨_, e1, cx1⟩ := hn6.row x hxk
          cases e1
          have h33 : Calls Tryz.prog 49 #[.map (some (bl x)), .int .i64 (y : Int)] w6.drew fun e w' => e = .returned (.tuple #[]) ∧ SetN w' (bl x) k (fun z => z == y || bothB (es.take j) x z) ∧ Turns (fun z => z = bl x) w6.drew w' := add_call ((hn6.below (drewN_below w6 1)).sets x hxk) (by omega) hyk
          have H33 : Hid (Calls Tryz.prog 49 #[.map (some (bl x)), .int .i64 (y : Int)] w6.drew fun e w' => e = .returned (.tuple #[]) ∧ SetN w' (bl x) k (fun z => z == y || bothB (es.take j) x z) ∧ Turns (fun z => z = bl x) w6.drew w') := h33
          have l1 : (0 : Int) ≤ (x : Int) := by omega
          have l2 : (x : Int) < (k : Int) := by omega
          have m1 : (0 : Int) ≤ (y : Int) := by omega
          have m2 : (y : Int) < (k : Int) := by omega
          have HN6 : Hid (NearsAt w6 (some ⟨gN, 0, none⟩) k bl (bothB (es.take j))) := hn6
          clear t6 hB6 hb6 cx cy hn6 h33
          go_cut [] from 27 to 34 (fun wc => NearsAt wc (some ⟨gN, 0, none⟩) k bl (fun u v => (u == x && v == y) || bothB (es.take j) u v) ∧ Turns (Marks k bl) w6 wc)
          case first =>
            go_region_with (first | (go_at_call 49; refine Calls.mono H33.out ?_; rintro e w7 ⟨rfl, hS7, hT7⟩))
            all_goals
              go_wp2
              go_meet
              case rel => exact ⟨(HN6.out.below (drewN_below w6 1)).put hxk hS7 hT7, (Turns.of_below (drewN_below w6 1) _).trans (hT7.mono (fun z _ e => ⟨x, hxk, e⟩))⟩
          case rest =>
            obtain ⟨hnc, htc⟩ := hcut
            generalize wc = w7 at hnc htc ⊢
            have hnm : ¬ Marks k bl b6 := fun ⟨i, hi, e⟩ => by
              obtain ⟨es', c', hm⟩ := (HN6.out.sets i hi).isMap
              have h0 : w6.heap[b6]? = _ := HT6.out
              rw [e, hm] at h0
              cases h0
            have t67 := two_turns HT6.out htc hnm
            clear p0 p1 cx1
            obtain ⟨p0, p1⟩ := cell_two t67
            obtain ⟨_, e2, cy1⟩ := hnc.row y hyk
            cases e2
            have h33 : Calls Tryz.prog 49 #[.map (some (bl y)), .int .i64 (x : Int)] w7.drew fun e w' => e = .returned (.tuple #[]) ∧ SetN w' (bl y) k (fun z => z == x || ((y == x && z == y) || bothB (es.take j) y z)) ∧ Turns (fun z => z = bl y) w7.drew w' := add_call ((hnc.below (drewN_below w7 1)).sets y hyk) (by omega) hxk
            have H33' : Hid (Calls Tryz.prog 49 #[.map (some (bl y)), .int .i64 (x : Int)] w7.drew fun e w' => e = .returned (.tuple #[]) ∧ SetN w' (bl y) k (fun z => z == x || ((y == x && z == y) || bothB (es.take j) y z)) ∧ Turns (fun z => z = bl y) w7.drew w') := h33
            have HN7 : Hid (NearsAt w7 (some ⟨gN, 0, none⟩) k bl (fun u v => (u == x && v == y) || bothB (es.take j) u v)) := hnc
            have HB07 : Hid (Below w.heap.size w w7) := Turns.below HB06.out htc HB06.out.size (fun z ⟨i, hi, e⟩ => by have := HBL.out i hi; omega)
            clear hnc htc t67 H33 h33 HT6 HN6
            go_upto_region 11 with (fail)
            go_region_with (first | (go_at_call 49; refine Calls.mono H33'.out ?_; rintro e w8 ⟨rfl, hS8, hT8⟩))
            all_goals
              have hnd := ((HN7.out.below (drewN_below w7 1)).put hyk hS8 hT8).congr (fun a c _ _ => (hasB_take es j hlt a c x y HXY.out).symm)
              have hbd : Below w.heap.size w w8 := Turns.below (below_next HB07.out (drewN_below w7 1)) hT8 (below_next HB07.out (drewN_below w7 1)).size (fun z e => by have := HBL.out y hyk; omega)
              go_wp2
              go_roundw
              case rel => exact ⟨j + 1, by omega, by go_num, hnd, hbd⟩
              case measure => simp [numOf]; omega
        · have i2 : ¬ (j : Int) < (es.length : Int) := by omega
          have hje : j = es.length := by omega
          have HX : Hid (NearsAt wr (some ⟨gN, 0, none⟩) k bl (bothB es)) := by
            have := HNR.out
            rw [hje, List.take_length] at this
            exact this
          clear hje
          go_wp2
          go_ret
          exact ⟨_, rfl, fun g e => by cases e; exact hgN', bl, HX.out, fun i hi => by have := HBL.out i hi; omega, HBZ.out⟩
end Go.Proofs.YtkkfjfphmlcieaaGreat
