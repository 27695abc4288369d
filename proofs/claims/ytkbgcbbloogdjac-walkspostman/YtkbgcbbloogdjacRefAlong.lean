/- The document's Walk and Along. -/
import Derived.BigQuiet
import Derived.Test.YtkbgcbbloogdjacRefEuler
import Derived.Test.YtkbgcbbloogdjacOf
import Derived.Test.YtkbgcbbloogdjacWithout
namespace Go.Proofs.Ytkbgcbbloogdjac
open Go.RowKit Go.Maps
attribute [local go_sem ↓] Go.wp_at_zero Go.wp_at_succ

/-- A slice of numbers. -/
def NumsAt (w : World) (lo : Option Addr) (L : List Nat) : Prop := ∀ k u : Nat, L[k]? = some u → ∃ b, lo = some ⟨b, 0, none⟩ ∧ w.cell? ⟨b, k, none⟩ = some (.int .i64 (u : Int))
theorem NumsAt.below {w w' : World} {lo : Option Addr} {L : List Nat} (h : NumsAt w lo L) (hb : Below w.heap.size w w') : NumsAt w' lo L := fun k u hu => by
  obtain ⟨b, h1, h2⟩ := h k u hu
  exact ⟨b, h1, (hb.cell (by exact World.block_lt_of_cell? w _ h2)).trans h2⟩
theorem nums_row {w : World} {base : Nat} {lo : Option Addr} {lc : Nat} {L : List Nat} (h : w.ownsRow base 3 1 (.slice lo L.length lc) L.length (qv L)) : NumsAt w lo L := fun _ _ hu => qcell h hu

set_option maxRecDepth 8000 in
set_option maxHeartbeats 2000000 in
theorem refWalk_call (N : Nat) (ao : Option Addr) (cap : Nat) (p : Int → Int → Bool) (w : World) (hG : GridAt w (.slice ao N cap) N p) {lo : Option Addr} {lc : Nat} {L : List Nat} (hL : NumsAt w lo L) (hlt : ∀ u, u ∈ L → u < N) (hst : ∀ i x y : Nat, L[i]? = some x → L[i + 1]? = some y → p x y = true) (hl : L.length ≤ 100000) :
    Calls Try.prog 24 #[.slice ao N cap, .slice lo L.length lc] w fun r w' => r = .returned (.bool true) ∧ Below w.heap.size w w' := by
  obtain ⟨ao', cap', e0, hgrid⟩ := hG
  cases e0
  have HG : Hid _ := hgrid
  have HL : Hid _ := hL
  have HLT : Hid _ := hlt
  have HST : Hid _ := hst
  clear hgrid hL hlt hst
  go_enter Try.func24, Try.ntmps24
  go_wp2
  go_loopw [5] (fun i wr => ∃ k : Nat, k ≤ L.length ∧ i = .int .i64 (k : Int) ∧ Below w.heap.size w wr) (fun i _ => L.length - (numOf i).toNat)
  case atStart => exact ⟨0, Nat.zero_le _, rfl, Below.refl _ _⟩
  case round =>
    obtain ⟨k, hk, rfl, hB⟩ := hrel
    by_cases hkl : k < L.length
    · obtain ⟨y, hy⟩ : ∃ y, L[k]? = some y := ⟨L[k], List.getElem?_eq_getElem hkl⟩
      have hyN := HLT.out y (List.mem_of_getElem? hy)
      obtain ⟨b, rfl, c1w⟩ := HL.out k y hy
      have c1 := (hB.cell (by exact World.block_lt_of_cell? w _ c1w)).trans c1w
      have i1 : (0 : Int) ≤ (k : Int) := by omega
      have i2 : (k : Int) < (L.length : Int) := by omega
      have z1 : ¬ (y : Int) < 0 := by omega
      have z2 : ¬ (N : Int) ≤ (y : Int) := by omega
      have HY : Hid _ := hy
      clear hy c1w
      cases k with
      | zero =>
        go_upto_region 4 with (fail)
        go_quiet (fail)
        all_goals
          go_wp2
          go_roundw
          case rel => exact ⟨1, by omega, by go_num, below_drewN hB _⟩
          case measure => simp [numOf]; omega
      | succ j =>
        obtain ⟨x, hx⟩ : ∃ x, L[j]? = some x := ⟨L[j]'(by omega), List.getElem?_eq_getElem (by omega)⟩
        have hxN := HLT.out x (List.mem_of_getElem? hx)
        obtain ⟨b', e1, c2w⟩ := HL.out j x hx
        cases e1
        have c2 := (hB.cell (by exact World.block_lt_of_cell? w _ c2w)).trans c2w
        have hp := HST.out j x y hx HY.out
        obtain ⟨g, gb, rfl, g0w, g1w⟩ := HG.out x hxN
        have g0 := (hB.cell (by exact World.block_lt_of_cell? w _ g0w)).trans g0w
        have g1k := g1w y hyN
        rw [hp] at g1k
        have g1 := (hB.cell (by exact World.block_lt_of_cell? w _ g1k)).trans g1k
        have j1 : (0 : Int) ≤ (j : Int) := by omega
        have j2 : (j : Int) < (L.length : Int) := by omega
        have j3 : (0 : Int) ≤ (x : Int) := by omega
        have j4 : (x : Int) < (N : Int) := by omega
        have j5 : (0 : Int) ≤ (y : Int) := by omega
        have j6 : (y : Int) < (N : Int) := by omega
        have j7 : (0 : Int) ≤ (j : Int) + 1 := by omega
        have j8 : (j : Int) + 1 < (L.length : Int) := by omega
        clear hx c2w g0w g1w g1k hp
        go_upto_region 4 with (fail)
        go_quiet (fail)
        all_goals
          go_wp2
          go_roundw
          case rel => exact ⟨j + 1 + 1, by omega, by go_num, below_drewN hB _⟩
          case measure => simp [numOf]; omega
    · have hke : L.length = k := by omega
      subst hke
      go_wp2
      go_ret
      exact ⟨rfl, hB⟩

theorem cntW_le : ∀ (l : List Nat) (a b : Nat), cntW l a b ≤ l.length
  | [], _, _ => by simp [cntW]
  | [_], _, _ => by simp [cntW]
  | x :: y :: l, a, b => by
    have := cntW_le (y :: l) a b
    unfold cntW
    simp only [List.length_cons] at this ⊢
    by_cases c : (x = a ∧ y = b) ∨ (x = b ∧ y = a)
    · rw [if_pos c]; omega
    · rw [if_neg c]; omega
theorem cntW_take {L : List Nat} {t a b : Nat} (ha : L[t]? = some a) (hb : L[t + 1]? = some b) (x y : Nat) : cntW (L.take (t + 2)) x y = cntW (L.take (t + 1)) x y + if (x = a ∧ y = b) ∨ (y = a ∧ x = b) then 1 else 0 := by
  rw [take_at hb, take_at ha, cntW_join]
  have e : cntW [b] x y = 0 := rfl
  rw [e]
  by_cases c : (x = a ∧ y = b) ∨ (y = a ∧ x = b)
  · rw [if_pos c, if_pos (by omega)]; omega
  · rw [if_neg c, if_neg (by omega)]; omega

set_option maxRecDepth 8000 in
set_option maxHeartbeats 8000000 in
theorem along_call (N : Nat) (ao : Option Addr) (cap : Nat) (p : Int → Int → Bool) (w : World) (hG : GridAt w (.slice ao N cap) N p) (hN : N ≤ 100) (hel : (allP N p).length ≤ 1000) {lo : Option Addr} {lc : Nat} {L : List Nat} (hL : NumsAt w lo L) (hl : L.length ≤ 100000) :
    Calls Try.prog 25 #[.slice ao N cap, .slice lo L.length lc] w fun r w' => ∃ (b : Nat) (f : Nat → Int), r = .returned (.slice (some ⟨b, 0, none⟩) (allP N p).length (allP N p).length) ∧ RowV w' b 3 (allP N p).length (fun i => .int .i64 (f i)) ∧ (∀ i x y : Nat, (allP N p)[i]? = some ((x : Int), (y : Int)) → f i = cntW L x y) ∧ Below w.heap.size w w' := by
  obtain ⟨i3, hi3, hy0, hy1, hy2⟩ := info_parts Try.info3
  have hof := ofGrid_any N ao cap p w hG hN
  have hmem : ∀ (k : Nat) (e : Pair), (allP N p)[k]? = some e → ∃ x y : Nat, e = ((x : Int), (y : Int)) ∧ x < y ∧ y < N := fun k e h => by
    obtain ⟨u, v, h1, h2, _, h3⟩ := allP_mem.1 (List.mem_of_getElem? h)
    exact ⟨u, v, h3, h1, h2⟩
  obtain ⟨E, hE⟩ : ∃ E, E = allP N p := ⟨_, rfl⟩
  rw [← hE] at hof hmem hel ⊢
  have HO : Hid _ := hof
  have HM : Hid _ := hmem
  have HL : Hid _ := hL
  have hF24 := field24
  clear hof hmem hL hG hE
  go_enter Try.func25, Try.ntmps25
  go_upto_region 4 with (first
    | (go_at_call 35; refine Calls.mono HO.out ?_; rintro r wa ⟨hbA, eo, ec, rfl, hEA⟩)
    | (at_make; refine wpList_make_full _ rfl _ _ 29 rfl wa.heap.size 3 i3 (.int .i64 0) 1 Try.underlying29 hi3 hy0 hy1 .i64 .i64 _ _ E.length rfl rfl rfl rfl ?_ ?_ ?_ ?_; (rw [hy2]; omega); (unfold maxLen; omega); (omega); intro W1 hmade hg1)
    | go_in)
  have hrow0 := rowV_made rfl hmade
  have hbG := below_grown hg1
  have HEA : Hid _ := hEA
  clear hmade hg1 hEA
  go_loopw [7] (fun i wr => ∃ (t : Nat) (f : Nat → Int), (t = 0 ∨ t + 1 ≤ L.length) ∧ i = .int .i64 ((t : Int) + 1) ∧ RowV wr wa.heap.size 3 E.length (fun i => .int .i64 (f i)) ∧ (∀ i x y : Nat, E[i]? = some ((x : Int), (y : Int)) → f i = cntW (L.take (t + 1)) x y) ∧ Below wa.heap.size wa wr) (fun i _ => L.length - (numOf i).toNat)
  case atStart => exact ⟨0, fun _ => 0, Or.inl rfl, rfl, hrow0, fun i x y _ => by cases L with | nil => rfl | cons a l => rfl, hbG⟩
  case round =>
    obtain ⟨t, f, ht, rfl, hrow, hf, hB⟩ := hrel
    clear hrow0 hbG
    have HF : Hid _ := hf
    clear hf
    by_cases htl : t + 1 < L.length
    · obtain ⟨a, ha⟩ : ∃ a, L[t]? = some a := ⟨L[t]'(by omega), List.getElem?_eq_getElem (by omega)⟩
      obtain ⟨b, hb⟩ : ∃ b, L[t + 1]? = some b := ⟨L[t + 1], List.getElem?_eq_getElem htl⟩
      obtain ⟨bl, rfl, ca⟩ := HL.out t a ha
      obtain ⟨bl', e1, cb⟩ := HL.out (t + 1) b hb
      cases e1
      have hct := fun (x y : Nat) => cntW_take ha hb x y
      have HCT : Hid _ := hct
      have m1 : (t : Int) + 1 < (L.length : Int) := by omega
      clear ha hb hct
      go_upto_region 7 with (fail)
      go_loopw [8] (fun i wq => ∃ (j : Nat) (g : Nat → Int), j ≤ E.length ∧ i = .int .i64 (j : Int) ∧ RowV wq wa.heap.size 3 E.length (fun i => .int .i64 (g i)) ∧ (∀ i x y : Nat, E[i]? = some ((x : Int), (y : Int)) → g i = if i < j then cntW (L.take (t + 2)) x y else cntW (L.take (t + 1)) x y) ∧ Below wa.heap.size wa wq) (fun i _ => E.length - (numOf i).toNat)
      case atStart => exact ⟨0, f, Nat.zero_le _, rfl, hrow, fun i x y h => by rw [if_neg (by omega)]; exact HF.out i x y h, hB⟩
      case round =>
        obtain ⟨j, g, hj, rfl, hrq, hg, hBq⟩ := hrel
        clear hrow hB
        have HGG : Hid _ := hg
        clear hg
        by_cases hjE : j < E.length
        · obtain ⟨x, y, hxy, hlt, hyN⟩ := HM.out j _ (List.getElem?_eq_getElem hjE)
          have hget : E[j]? = some ((x : Int), (y : Int)) := by rw [List.getElem?_eq_getElem hjE, hxy]
          obtain ⟨_, _, ee, _, _, hcells⟩ := EdgesAt.below HEA.out hBq
          cases ee
          obtain ⟨be, off, rfl, c0, c1⟩ := hcells j hjE
          rw [hxy] at c0 c1
          have hBw := below_next hbA hBq
          have da := (hBw.cell (by exact World.block_lt_of_cell? w _ ca)).trans ca
          have db := (hBw.cell (by exact World.block_lt_of_cell? w _ cb)).trans cb
          have cj := hrq.cell hjE
          have fj := hrq.free j
          have hgj := HGG.out j x y hget
          rw [if_neg (by omega)] at hgj
          have hbd := cntW_le (L.take (t + 1)) x y
          have hbd0 := cntW_nonneg (L.take (t + 1)) x y
          have hbl : (L.take (t + 1)).length ≤ 100000 := by simp; omega
          have g1 : -1 ≤ g j := by omega
          have g2 : g j ≤ 100000 := by omega
          have hstep := HCT.out x y
          have hnext : ∀ (q : Int), (q = if (x = a ∧ y = b) ∨ (y = a ∧ x = b) then 1 else 0) → ∀ i x' y' : Nat, E[i]? = some ((x' : Int), (y' : Int)) → (if i = j then g j + q else g i) = if i < j + 1 then cntW (L.take (t + 2)) x' y' else cntW (L.take (t + 1)) x' y' := fun q hq i x' y' hi => by
            by_cases c : i = j
            · subst c
              rw [hget] at hi
              have e1 := Option.some.inj hi
              have ex : x = x' := by have := congrArg Prod.fst e1; simp at this; omega
              have ey : y = y' := by have := congrArg Prod.snd e1; simp at this; omega
              subst ex ey
              rw [if_pos rfl, if_pos (by omega), hstep, hgj, hq]
            · rw [if_neg c, HGG.out i x' y' hi]
              by_cases c2 : i < j
              · rw [if_pos c2, if_pos (by omega)]
              · rw [if_neg c2, if_neg (by omega)]
          have HNX : Hid _ := hnext
          have j1 : (0 : Int) ≤ (j : Int) := by omega
          have j2 : (j : Int) < (E.length : Int) := by omega
          have j3 : (0 : Int) ≤ (t : Int) := by omega
          have j4 : (t : Int) < (L.length : Int) := by omega
          have j5 : (0 : Int) ≤ (t : Int) + 1 := by omega
          clear hcells hxy hget hgj hbd hbd0 hbl hstep hnext
          have B := fun (u v : Nat) => show ((u : Int) == (v : Int)) = (u == v) from by rw [Bool.eq_iff_iff]; simp; omega
          by_cases hA : x = a
          · by_cases hBB : y = b
            · have u := ()
              have HQ : Hid ((1 : Int) = if (x = a ∧ y = b) ∨ (y = a ∧ x = b) then 1 else 0) := show (1 : Int) = if (x = a ∧ y = b) ∨ (y = a ∧ x = b) then 1 else 0 from (if_pos (by omega)).symm
              have hA1 : ((x : Int) == (a : Int)) = true := by simp [hA]
              have hA2 : (x == a) = true := by simp [hA]
              have hBB1 : ((y : Int) == (b : Int)) = true := by simp [hBB]
              have hBB2 : (y == b) = true := by simp [hBB]
              clear hA hBB B
              go_upto_region 9 with (fail)
              go_quiet (fail)
              all_goals
                rename Nat => nd
                have hrd := hrq.below (below_drewN (Below.refl _ _) nd)
                have hBd := below_drewN hBq nd
                have cj' := hrd.cell hjE
                have fj' := hrd.free j
                generalize wr.drewN nd = W9 at hrd hBd cj' fj' ⊢
                go_wp2
                go_roundw
                case rel =>
                  refine ⟨j + 1, fun i => if i = j then g j + 1 else g i, by omega, by go_num, (hrd.set j (.int .i64 (g j + 1))).congr (fun i _ => ?_), HNX.out 1 HQ.out, hBd.setCell (Nat.le_refl _) _⟩
                  by_cases c : i = j <;> simp [c]
                case measure => simp [numOf]; omega
            · have u := ()
              by_cases hC : y = a
              · by_cases hD : x = b
                · have u := ()
                  have HQ : Hid ((1 : Int) = if (x = a ∧ y = b) ∨ (y = a ∧ x = b) then 1 else 0) := show (1 : Int) = if (x = a ∧ y = b) ∨ (y = a ∧ x = b) then 1 else 0 from (if_pos (by omega)).symm
                  have hA1 : ((x : Int) == (a : Int)) = true := by simp [hA]
                  have hA2 : (x == a) = true := by simp [hA]
                  have hBB1 : ((y : Int) == (b : Int)) = false := by rw [beq_eq_false_iff_ne]; omega
                  have hBB2 : (y == b) = false := by rw [beq_eq_false_iff_ne]; omega
                  have hC1 : ((y : Int) == (a : Int)) = true := by simp [hC]
                  have hC2 : (y == a) = true := by simp [hC]
                  have hD1 : ((x : Int) == (b : Int)) = true := by simp [hD]
                  have hD2 : (x == b) = true := by simp [hD]
                  clear hA hBB hC hD B
                  go_upto_region 9 with (fail)
                  go_quiet (fail)
                  all_goals
                    rename Nat => nd
                    have hrd := hrq.below (below_drewN (Below.refl _ _) nd)
                    have hBd := below_drewN hBq nd
                    have cj' := hrd.cell hjE
                    have fj' := hrd.free j
                    generalize wr.drewN nd = W9 at hrd hBd cj' fj' ⊢
                    go_wp2
                    go_roundw
                    case rel =>
                      refine ⟨j + 1, fun i => if i = j then g j + 1 else g i, by omega, by go_num, (hrd.set j (.int .i64 (g j + 1))).congr (fun i _ => ?_), HNX.out 1 HQ.out, hBd.setCell (Nat.le_refl _) _⟩
                      by_cases c : i = j <;> simp [c]
                    case measure => simp [numOf]; omega
                · have u := ()
                  have HQ : Hid ((0 : Int) = if (x = a ∧ y = b) ∨ (y = a ∧ x = b) then 1 else 0) := show (0 : Int) = if (x = a ∧ y = b) ∨ (y = a ∧ x = b) then 1 else 0 from (if_neg (by omega)).symm
                  have hA1 : ((x : Int) == (a : Int)) = true := by simp [hA]
                  have hA2 : (x == a) = true := by simp [hA]
                  have hBB1 : ((y : Int) == (b : Int)) = false := by rw [beq_eq_false_iff_ne]; omega
                  have hBB2 : (y == b) = false := by rw [beq_eq_false_iff_ne]; omega
                  have hC1 : ((y : Int) == (a : Int)) = true := by simp [hC]
                  have hC2 : (y == a) = true := by simp [hC]
                  have hD1 : ((x : Int) == (b : Int)) = false := by rw [beq_eq_false_iff_ne]; omega
                  have hD2 : (x == b) = false := by rw [beq_eq_false_iff_ne]; omega
                  clear hA hBB hC hD B
                  go_upto_region 9 with (fail)
                  go_quiet (fail)
                  all_goals
                    go_wp2
                    go_roundw
                    case rel =>
                      refine ⟨j + 1, fun i => if i = j then g j + 0 else g i, by omega, by go_num, RowV.congr (RowV.below hrq (below_drewN (Below.refl _ _) _)) (fun i _ => ?_), HNX.out 0 HQ.out, below_drewN hBq _⟩
                      by_cases c : i = j <;> simp [c]
                    case measure => simp [numOf]; omega
              · have u := ()
                have HQ : Hid ((0 : Int) = if (x = a ∧ y = b) ∨ (y = a ∧ x = b) then 1 else 0) := show (0 : Int) = if (x = a ∧ y = b) ∨ (y = a ∧ x = b) then 1 else 0 from (if_neg (by omega)).symm
                have hA1 : ((x : Int) == (a : Int)) = true := by simp [hA]
                have hA2 : (x == a) = true := by simp [hA]
                have hBB1 : ((y : Int) == (b : Int)) = false := by rw [beq_eq_false_iff_ne]; omega
                have hBB2 : (y == b) = false := by rw [beq_eq_false_iff_ne]; omega
                have hC1 : ((y : Int) == (a : Int)) = false := by rw [beq_eq_false_iff_ne]; omega
                have hC2 : (y == a) = false := by rw [beq_eq_false_iff_ne]; omega
                clear hA hBB hC B
                go_upto_region 9 with (fail)
                go_quiet (fail)
                all_goals
                  go_wp2
                  go_roundw
                  case rel =>
                    refine ⟨j + 1, fun i => if i = j then g j + 0 else g i, by omega, by go_num, RowV.congr (RowV.below hrq (below_drewN (Below.refl _ _) _)) (fun i _ => ?_), HNX.out 0 HQ.out, below_drewN hBq _⟩
                    by_cases c : i = j <;> simp [c]
                  case measure => simp [numOf]; omega
          · have u := ()
            by_cases hC : y = a
            · by_cases hD : x = b
              · have u := ()
                have HQ : Hid ((1 : Int) = if (x = a ∧ y = b) ∨ (y = a ∧ x = b) then 1 else 0) := show (1 : Int) = if (x = a ∧ y = b) ∨ (y = a ∧ x = b) then 1 else 0 from (if_pos (by omega)).symm
                have hA1 : ((x : Int) == (a : Int)) = false := by rw [beq_eq_false_iff_ne]; omega
                have hA2 : (x == a) = false := by rw [beq_eq_false_iff_ne]; omega
                have hC1 : ((y : Int) == (a : Int)) = true := by simp [hC]
                have hC2 : (y == a) = true := by simp [hC]
                have hD1 : ((x : Int) == (b : Int)) = true := by simp [hD]
                have hD2 : (x == b) = true := by simp [hD]
                clear hA hC hD B
                go_upto_region 9 with (fail)
                go_quiet (fail)
                all_goals
                  rename Nat => nd
                  have hrd := hrq.below (below_drewN (Below.refl _ _) nd)
                  have hBd := below_drewN hBq nd
                  have cj' := hrd.cell hjE
                  have fj' := hrd.free j
                  generalize wr.drewN nd = W9 at hrd hBd cj' fj' ⊢
                  go_wp2
                  go_roundw
                  case rel =>
                    refine ⟨j + 1, fun i => if i = j then g j + 1 else g i, by omega, by go_num, (hrd.set j (.int .i64 (g j + 1))).congr (fun i _ => ?_), HNX.out 1 HQ.out, hBd.setCell (Nat.le_refl _) _⟩
                    by_cases c : i = j <;> simp [c]
                  case measure => simp [numOf]; omega
              · have u := ()
                have HQ : Hid ((0 : Int) = if (x = a ∧ y = b) ∨ (y = a ∧ x = b) then 1 else 0) := show (0 : Int) = if (x = a ∧ y = b) ∨ (y = a ∧ x = b) then 1 else 0 from (if_neg (by omega)).symm
                have hA1 : ((x : Int) == (a : Int)) = false := by rw [beq_eq_false_iff_ne]; omega
                have hA2 : (x == a) = false := by rw [beq_eq_false_iff_ne]; omega
                have hC1 : ((y : Int) == (a : Int)) = true := by simp [hC]
                have hC2 : (y == a) = true := by simp [hC]
                have hD1 : ((x : Int) == (b : Int)) = false := by rw [beq_eq_false_iff_ne]; omega
                have hD2 : (x == b) = false := by rw [beq_eq_false_iff_ne]; omega
                clear hA hC hD B
                go_upto_region 9 with (fail)
                go_quiet (fail)
                all_goals
                  go_wp2
                  go_roundw
                  case rel =>
                    refine ⟨j + 1, fun i => if i = j then g j + 0 else g i, by omega, by go_num, RowV.congr (RowV.below hrq (below_drewN (Below.refl _ _) _)) (fun i _ => ?_), HNX.out 0 HQ.out, below_drewN hBq _⟩
                    by_cases c : i = j <;> simp [c]
                  case measure => simp [numOf]; omega
            · have u := ()
              have HQ : Hid ((0 : Int) = if (x = a ∧ y = b) ∨ (y = a ∧ x = b) then 1 else 0) := show (0 : Int) = if (x = a ∧ y = b) ∨ (y = a ∧ x = b) then 1 else 0 from (if_neg (by omega)).symm
              have hA1 : ((x : Int) == (a : Int)) = false := by rw [beq_eq_false_iff_ne]; omega
              have hA2 : (x == a) = false := by rw [beq_eq_false_iff_ne]; omega
              have hC1 : ((y : Int) == (a : Int)) = false := by rw [beq_eq_false_iff_ne]; omega
              have hC2 : (y == a) = false := by rw [beq_eq_false_iff_ne]; omega
              clear hA hC B
              go_upto_region 9 with (fail)
              go_quiet (fail)
              all_goals
                go_wp2
                go_roundw
                case rel =>
                  refine ⟨j + 1, fun i => if i = j then g j + 0 else g i, by omega, by go_num, RowV.congr (RowV.below hrq (below_drewN (Below.refl _ _) _)) (fun i _ => ?_), HNX.out 0 HQ.out, below_drewN hBq _⟩
                  by_cases c : i = j <;> simp [c]
                case measure => simp [numOf]; omega
        · have hje : E.length = j := by omega
          subst hje
          go_wp2
          go_roundw
          case rel => exact ⟨t + 1, g, Or.inr (by omega), by go_num, hrq, fun i x y hi => by rw [HGG.out i x y hi, if_pos (List.getElem?_eq_some_iff.1 hi).1], hBq⟩
          case measure => simp [numOf]; omega
    · have m1 : ¬ (t : Int) + 1 < (L.length : Int) := by omega
      have htk : L.take (t + 1) = L := List.take_of_length_le (by omega)
      rw [htk] at HF
      clear htk
      go_wp2
      go_ret
      exact ⟨wa.heap.size, rfl, f, hrow, HF.out, below_next hbA hB⟩
end Go.Proofs.Ytkbgcbbloogdjac
