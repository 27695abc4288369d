/- OddParts: how many odd parts are left. -/
import Derived.Test.YtenjkhgpfmfgmaaDoorRefMatch
import Derived.Test.YtenjkhgpfmfgmaaDoorRefP
import Derived.Test.YtenjkhgpfmfgmaaDoorGallai
namespace Go.Proofs.YtenjkhgpfmfgmaaDoor
open Go.RowKit Go.Maps
attribute [local go_sem ↓] Go.wp_at_zero Go.wp_at_succ

/-- A row of bools, maybe with room behind. -/
def RowC (w : World) (b n : Nat) (q : Nat → Bool) : Prop := ∃ cur, w.heap[b]? = some (.cells cur 4 (0, 0)) ∧ n ≤ cur.size ∧ ∀ j, j < n → cur[j]? = some (.bool (q j))
theorem RowC.block {w w' : World} {b n : Nat} {q : Nat → Bool} (h : RowC w b n q) (hb : w'.heap[b]? = w.heap[b]?) : RowC w' b n q := by
  obtain ⟨cur, h1, h2⟩ := h
  exact ⟨cur, hb.trans h1, h2⟩
theorem RowC.lt {w : World} {b n : Nat} {q : Nat → Bool} (h : RowC w b n q) : b < w.heap.size := by
  obtain ⟨cur, h1, h2⟩ := h
  exact lt_of_block h1
theorem RowC.cell {w : World} {b n : Nat} {q : Nat → Bool} (h : RowC w b n q) {j : Nat} (hj : j < n) : w.cell? ⟨b, j, none⟩ = some (.bool (q j)) := by
  obtain ⟨cur, h1, _, h3⟩ := h
  rw [cell_of_row w b j cur 4 (0, 0) h1]
  exact h3 j hj
theorem RowC.free {w : World} {b n : Nat} {q : Nat → Bool} (h : RowC w b n q) (j : Nat) : w.frozen? ⟨b, j, none⟩ = false := by
  obtain ⟨cur, h1, _, h3⟩ := h
  simp [World.frozen?, h1]
theorem RowC.set {w : World} {b n : Nat} {q : Nat → Bool} (h : RowC w b n q) (y : Nat) : RowC (w.setCell ⟨b, y, none⟩ (.bool true)) b n (fun j => q j || j == y) := by
  obtain ⟨cur, h1, h2, h3⟩ := h
  refine ⟨cur.setIfInBounds y (.bool true), ?_, by simp [h2], fun j hj => ?_⟩
  · have hl := lt_of_block h1
    simp [World.setCell, Array.getElem?_modify, h1]
  · by_cases e : j = y
    · subst e
      rw [Array.getElem?_setIfInBounds_self_of_lt (by omega)]
      simp
    · rw [Array.getElem?_setIfInBounds_ne (by omega), h3 j hj]
      simp [e]
theorem RowC.congr {w : World} {b n : Nat} {q q' : Nat → Bool} (h : RowC w b n q) (e : ∀ j, j < n → q j = q' j) : RowC w b n q' := by
  obtain ⟨cur, h1, h2, h3⟩ := h
  exact ⟨cur, h1, h2, fun j hj => by rw [h3 j hj, e j hj]⟩
theorem RowC.turns {M : Nat → Prop} {w w' : World} {b n : Nat} {q : Nat → Bool} (h : RowC w b n q) (ht : Turns M w w') (hm : ¬ M b) : RowC w' b n q := h.block (ht.block b h.lt hm)
def boolsL (N : Nat) (q : Nat → Bool) : List Value := (List.range N).map fun j => Value.bool (q j)
theorem rowC_own {w : World} {base N g c : Nat} {q : Nat → Bool} (h : w.ownsRow base 4 1 (.slice (some ⟨g, 0, none⟩) N c) N (boolsL N q)) : RowC w g N q := by
  rcases h.2 with ⟨h1, _⟩ | ⟨g', cap, cur, h1, _, h2, h3, _, h4, h5⟩
  · cases h1
  · cases h1
    refine ⟨cur, h2, by omega, fun j hj => ?_⟩
    have : (cur.toList.take (N * 1))[j]? = some (.bool (q j)) := by
      rw [h5]
      simp [boolsL, hj]
    rw [List.getElem?_take_of_lt (by omega)] at this
    simpa using this

set_option maxRecDepth 8000 in
set_option maxHeartbeats 8000000 in
theorem oddParts_call {w : World} {ao : Option Addr} {cap N : Nat} {p : Int → Int → Bool} {lo : Option Addr} {lc : Nat} {L : List Nat} {aB bB : Nat → Bool} (hG : GridAt w (.slice ao N cap) N p) (hN : N ≤ 100) (hpos : 0 < N) (hL : NumsAt w lo L) (hll : L.length ≤ 1000) (hmem : ∀ x, x ∈ L ↔ x < N ∧ aB x = true)
    (hab : ∀ z, z < N → bB z = true → aB z = false) (R : Nat → Nat → Bool) (hR : ∀ v x, R v x = true ↔ Star (St N (pn p) (openB aB)) v x) (hsy : ∀ v x, R v x = true → v < N → aB v = false → R x v = true)
    (hpart : ∀ v, v < N → aB v = false → cnt N (R v) % 2 = cnt N (fun z => R v z && bB z)) :
    Calls Tryd.prog 15 #[.slice ao N cap, .slice lo L.length lc] w fun r w' => r = .returned (.int .i64 (cnt N bB : Int)) ∧ Below w.heap.size w w' := by
  obtain ⟨i4, hi4, hz0, hz1, hz2⟩ := info_parts Tryd.info4
  have hmk := make44 N (by omega)
  have HG : Hid _ := hG
  have HL : Hid _ := hL
  have HMEM : Hid _ := hmem
  have HAB : Hid _ := hab
  have HR : Hid _ := hR
  have HSY : Hid _ := hsy
  have HP : Hid _ := hpart
  have hr0 : RowB (w.alloc (.cells (rep N (.bool false)) 4)) w.heap.size N (fun _ => false) := rowB_rep (heap_alloc_new _ _)
  have hB0 : Below w.heap.size w (w.alloc (.cells (rep N (.bool false)) 4)) := below_alloc (Below.refl _ _) _
  obtain ⟨ao', cap', e0, hgrid⟩ := hG
  cases e0
  clear hL hmem hab hR hsy hpart hgrid
  go_enter Tryd.func15, Tryd.ntmps15
  go_wp2
  have HR0 : Hid _ := hr0
  clear hr0 hmk
  generalize w.alloc (.cells (rep N (.bool false)) 4) = W0 at HR0 hB0 ⊢
  go_loopw [6] (fun i wr => ∃ k : Nat, k ≤ L.length ∧ i = .int .i64 (k : Int) ∧ RowB wr w.heap.size N (fun x => decide (x ∈ L.take k)) ∧ Below w.heap.size w wr) (fun i _ => L.length - (numOf i).toNat)
  case atStart => exact ⟨0, Nat.zero_le _, rfl, RowB.congr HR0.out (fun j _ => by simp), hB0⟩
  case round =>
    obtain ⟨k, hk, rfl, hrow, hB⟩ := hrel
    clear HR0 hB0
    by_cases hkl : k < L.length
    · obtain ⟨u, hu?⟩ : ∃ u, L[k]? = some u := ⟨L[k], List.getElem?_eq_getElem hkl⟩
      have huN := ((HMEM.out u).1 (List.mem_of_getElem? hu?)).1
      obtain ⟨b, rfl, cu0⟩ := HL.out k u hu?
      have cu := (hB.cell (by exact World.block_lt_of_cell? w _ cu0)).trans cu0
      have ck := hrow.cell huN
      have fk := hrow.free u
      have i1 : (0 : Int) ≤ (k : Int) := by omega
      have i2 : (k : Int) < (L.length : Int) := by omega
      have i3 : (0 : Int) ≤ (u : Int) := by omega
      have i4' : (u : Int) < (N : Int) := by omega
      have hrow2 := (hrow.set u).congr (r := fun x => decide (x ∈ L.take (k + 1))) (fun j _ => by
        obtain ⟨h1, h2⟩ := List.getElem?_eq_some_iff.1 hu?
        rw [List.take_succ_eq_append_getElem h1, h2, Bool.eq_iff_iff]
        simp
        exact or_comm)
      have hB2 := hB.setCell (p := ⟨w.heap.size, u, none⟩) (Nat.le_refl _) (.bool true)
      have HR2 : Hid _ := hrow2
      clear hrow hrow2 hu? cu0
      go_wp2
      go_roundw
      case rel => exact ⟨k + 1, by omega, by go_num, HR2.out, hB2⟩
      case measure => simp [numOf]; omega
    · have hke : L.length = k := by omega
      subst hke
      have hrowA := hrow.congr (r := aB) (fun j hj => by
        rw [List.take_length, Bool.eq_iff_iff]
        simp [HMEM.out j, hj])
      have hsz := hrowA.lt
      have hnews : ∀ j u, (boolsL N aB)[j]? = some u → wr.cell? ((⟨w.heap.size, 0, none⟩ : Addr).add j) = some u := fun j u hu => by
        have hj : j < N := by
          have := (List.getElem?_eq_some_iff.1 hu).1
          simpa [boolsL] using this
        simp [boolsL, hj] at hu
        subst hu
        have e : (⟨w.heap.size, 0, none⟩ : Addr).add j = ⟨w.heap.size, j, none⟩ := by by_cases h : j = 0 <;> simp [Addr.add, h]
        rw [e]
        exact hrowA.cell hj
      have HRA : Hid _ := hrowA
      clear hrow hrowA
      have hbz : w.heap.size ≤ wr.heap.size := hB.size
      go_wp2_with (first
        | (at_builtin; refine wpList_append_own _ rfl _ _ 44 rfl (w.heap.size + 1) 4 i4 (.bool false) 1 1 Tryd.underlying44 hi4 hz0 hz1 hz2 rfl (by decide) _ _ _ rfl (World.ownsRow_nil _ _ _ _) ⟨w.heap.size, 0, none⟩ N N (boolsL N aB) rfl (by simp [boolsL]) hnews ?c2 ?c3 ?c4 ?c5 ?_)
        | go_in)
      case c2 => intro x hx; simp [boolsL] at hx; obtain ⟨j, _, rfl⟩ := hx; rfl
      case c3 => unfold maxLen; omega
      case c4 => omega
      case c5 => omega
      intro v' w3 hown' hgrow hnil
      obtain ⟨gd, gc, rfl⟩ : ∃ gd gc, v' = .slice (some ⟨gd, 0, none⟩) N gc := by
        rcases hown'.2 with ⟨_, e⟩ | ⟨g', cap', cur, e, _⟩
        · omega
        · exact ⟨g', cap', e⟩
      have hgd := (hown'.lt gd rfl).1
      have hrC := rowC_own hown'
      have T3 := Turns.of_grown hgrow
      have hrA3 := RowB.turns HRA.out T3 (fun hh => by simp [Value.ownBlock] at hh)
      have hB3 : Below w.heap.size w w3 := T3.below hB hbz (fun j hj => by simp [Value.ownBlock] at hj)
      have HRC : Hid _ := hrC
      have HRA3 : Hid _ := hrA3
      clear hown' hgrow hnil hrC hrA3 T3 HRA hnews hB hbz hsz
      go_wp2
      go_loopw [8, 9] (fun c i wr => ∃ k : Nat, k ≤ N ∧ c = .int .i64 (cnt N (fun z => doneL (openB aB) R k z && bB z) : Int) ∧ i = .int .i64 (k : Int) ∧ RowC wr gd N (fun z => aB z || doneL (openB aB) R k z) ∧ RowB wr w.heap.size N aB ∧ Below w.heap.size w wr) (fun _ i _ => N - (numOf i).toNat)
      case atStart => exact ⟨0, Nat.zero_le _, by rw [cnt_zero (fun z _ => by simp [doneL])]; rfl, rfl, RowC.congr HRC.out (fun j _ => by simp [doneL]), HRA3.out, hB3⟩
      case round =>
        obtain ⟨k, hk, rfl, rfl, hrow, hrA, hB⟩ := hrel
        clear HRC HRA3 hB3
        have hcl : cnt N (fun z => doneL (openB aB) R k z && bB z) ≤ N := Nat.le_trans (List.length_filter_le _ _) (by simp)
        by_cases hkN : k < N
        · have ck := hrow.cell hkN
          have i1 : (0 : Int) ≤ (k : Int) := by omega
          have i2 : (k : Int) < (N : Int) := by omega
          cases hdk : (aB k || doneL (openB aB) R k k)
          · rw [hdk] at ck
            have ha : aB k = false := by simp only [Bool.or_eq_false_iff] at hdk; exact hdk.1
            have hd : doneL (openB aB) R k k = false := by simp only [Bool.or_eq_false_iff] at hdk; exact hdk.2
            have hdisj : ∀ z, z < N → (doneL (openB aB) R k z && bB z) = true → (R k z && bB z) = false := fun z hz hp => by
              cases hRz : R k z
              · rfl
              · exfalso
                simp only [Bool.and_eq_true] at hp
                obtain ⟨u, hu, h1, h2⟩ := doneL_iff.1 hp.1
                have h3 := HSY.out k z hRz hkN ha
                have : doneL (openB aB) R k k = true := doneL_iff.2 ⟨u, hu, h1, (HR.out u k).2 (((HR.out u z).1 h2).trans ((HR.out z k).1 h3))⟩
                rw [hd] at this; cases this
            have hnext : cnt N (fun z => doneL (openB aB) R (k + 1) z && bB z) = cnt N (fun z => doneL (openB aB) R k z && bB z) + cnt N (R k) % 2 := by
              rw [HP.out k hkN ha, ← cnt_or hdisj]
              refine cnt_congr fun z _ => ?_
              rw [doneL_succ]
              have hL : openB aB k = true := by simp [openB, ha]
              rw [hL]
              cases doneL (openB aB) R k z <;> cases R k z <;> cases bB z <;> rfl
            have HNX : Hid _ := hnext
            have HA : Hid _ := ha
            have hsh := shutAt_row hrA (by omega)
            have hrc := reach_call N _ cap p _ (GridAt.below HG.out hB) hN hkN hsh
            have HRC : Hid _ := hrc
            have hrl := hrow.lt
            have hal := hrA.lt
            clear hdk hd hdisj hnext ha hsh hrc
            go_wp2_with (first | (go_at_call 31; refine Calls.mono HRC.out ?_; rintro r wa ⟨bI, rfl, hbI, I, hrI, hI, hbA⟩) | go_in)
            have hrow1 := hrow.block (hbA.block _ hrow.lt)
            have hrA1 := hrA.block (hbA.block _ hrA.lt)
            have hB1 := below_next hB hbA
            have hIR : ∀ x, x < N → I x = R k x := fun x hx => by rw [Bool.eq_iff_iff, hI x hx, HR.out]
            have HIR : Hid _ := hIR
            have HRI : Hid _ := hrI
            have HR1 : Hid _ := hrow1
            have HA1 : Hid _ := hrA1
            clear hI hIR hrI hrow1 hrA1 hrow hrA hB hbA HRC ck
            go_loopw [11, 12] (fun s i wr => ∃ t : Nat, t ≤ N ∧ s = .int .i64 (cnt t (R k) : Int) ∧ i = .int .i64 (t : Int) ∧ RowC wr gd N (fun x => (aB x || doneL (openB aB) R k x) || (decide (x < t) && R k x)) ∧ RowB wr bI N I ∧ RowB wr w.heap.size N aB ∧ Below w.heap.size w wr) (fun _ i _ => N - (numOf i).toNat)
            case atStart => exact ⟨0, Nat.zero_le _, rfl, rfl, RowC.congr HR1.out (fun x _ => by simp), HRI.out, HA1.out, hB1⟩
            case round =>
              obtain ⟨t, ht, rfl, rfl, hrt, hrIt, hrAt, hBt⟩ := hrel
              clear HR1 HRI HA1 hB1
              have hct : cnt t (R k) ≤ t := Nat.le_trans (List.length_filter_le _ _) (by simp)
              by_cases htN : t < N
              · have cI := hrIt.cell htN
                rw [HIR.out t htN] at cI
                have ct := hrt.cell htN
                have ft := hrt.free t
                have j1 : (0 : Int) ≤ (t : Int) := by omega
                have j2 : (t : Int) < (N : Int) := by omega
                cases hRt : R k t
                · rw [hRt] at cI
                  have hrt2 := hrt.congr (q' := fun x => (aB x || doneL (openB aB) R k x) || (decide (x < t + 1) && R k x)) (fun x _ => by
                    by_cases e : x = t
                    · subst e; simp [hRt]
                    · have : (x < t + 1) ↔ x < t := by omega
                      simp [this])
                  have hc2 : cnt (t + 1) (R k) = cnt t (R k) := by rw [cnt_succ, hRt]; simp
                  have HRT : Hid _ := hrt2
                  have HC2 : Hid _ := hc2
                  have HI2 : Hid _ := hrIt
                  have HA2 : Hid _ := hrAt
                  clear hrt hrt2 hc2 hrIt hrAt hRt ct ft
                  go_wp2
                  go_roundw
                  case rel => exact ⟨t + 1, by omega, by rw [HC2.out], by go_num, HRT.out, HI2.out, HA2.out, hBt⟩
                  case measure => simp [numOf]; omega
                · rw [hRt] at cI
                  have hrt2 := (hrt.set t).congr (q' := fun x => (aB x || doneL (openB aB) R k x) || (decide (x < t + 1) && R k x)) (fun x _ => by
                    by_cases e : x = t
                    · subst e; simp [hRt]
                    · have : (x < t + 1) ↔ x < t := by omega
                      simp [this, e])
                  have hc2 : cnt (t + 1) (R k) = cnt t (R k) + 1 := by rw [cnt_succ, hRt]; simp
                  have Ts := setCell_turns wr gd t (.bool true)
                  have hI2 := hrIt.turns Ts (fun (e : bI = gd) => by omega)
                  have hA2 := hrAt.turns Ts (fun (e : w.heap.size = gd) => by omega)
                  have hB2 := hBt.setCell (p := ⟨gd, t, none⟩) (by show w.heap.size ≤ gd; omega) (.bool true)
                  have HRT : Hid _ := hrt2
                  have HC2 : Hid _ := hc2
                  have HI2 : Hid _ := hI2
                  have HA2 : Hid _ := hA2
                  clear hrt hrt2 hc2 hrIt hrAt hRt hI2 hA2 Ts
                  go_wp2
                  go_roundw
                  case rel => exact ⟨t + 1, by omega, by rw [HC2.out]; go_num, by go_num, HRT.out, HI2.out, HA2.out, hB2⟩
                  case measure => simp [numOf]; omega
              · have hte : N = t := by omega
                subst hte
                obtain ⟨cc, hcc⟩ : ∃ cc, cc = cnt N (R k) := ⟨_, rfl⟩
                rw [← hcc] at hct ⊢
                have hr5 := hrt.congr (q' := fun z => aB z || doneL (openB aB) R (k + 1) z) (fun x hx => by
                  rw [doneL_succ]
                  have hL : openB aB k = true := by simp [openB, HA.out]
                  rw [hL]
                  simp [hx, Bool.or_assoc])
                have HR5 : Hid _ := hr5
                have HA5 : Hid _ := hrAt
                have HCC : Hid _ := hcc
                clear hrt hr5 hrIt hrAt hcc
                go_wp2
                go_roundw
                case rel =>
                  refine ⟨k + 1, by omega, ?_, by go_num, HR5.out, HA5.out, hBt⟩
                  rw [HNX.out, ← HCC.out]
                  simp
                case measure => simp [numOf]; omega
          · rw [hdk] at ck
            have hf : firstB (openB aB) R k = false := by
              rw [first_done]
              simp only [Bool.or_eq_true] at hdk
              rcases hdk with h | h
              · simp [openB, h]
              · simp [h]
            have hsk : ∀ x, doneL (openB aB) R (k + 1) x = doneL (openB aB) R k x := fun x => doneL_skip HR.out hf x
            have HSKP : Hid _ := hsk
            have HR5 : Hid _ := hrow
            have HA5 : Hid _ := hrA
            clear hdk hf hsk hrow hrA
            go_wp2
            go_roundw
            case rel => exact ⟨k + 1, by omega, by rw [cnt_congr (p := fun z => doneL (openB aB) R (k + 1) z && bB z) (q := fun z => doneL (openB aB) R k z && bB z) (fun z _ => by rw [HSKP.out z])], by go_num, RowC.congr HR5.out (fun z _ => by rw [HSKP.out z]), HA5.out, hB⟩
            case measure => simp [numOf]; omega
        · have hke : N = k := by omega
          subst hke
          have hfin : cnt N (fun z => doneL (openB aB) R N z && bB z) = cnt N bB := cnt_congr fun z hz => by
            cases hb : bB z
            · simp
            · have := HAB.out z hz hb
              have hd : doneL (openB aB) R N z = true := doneL_iff.2 ⟨z, hz, by simp [openB, this], (HR.out z z).2 (.refl _)⟩
              simp [hd]
          rw [hfin]
          clear hfin hcl
          go_wp2
          go_ret
          exact ⟨rfl, hB⟩

set_option maxRecDepth 8000 in
set_option maxHeartbeats 4000000 in
theorem oddParts_zero {w : World} {ao lo : Option Addr} {cap lc : Nat} :
    Calls Tryd.prog 15 #[.slice ao 0 cap, .slice lo 0 lc] w fun r w' => r = .returned (.int .i64 0) ∧ Below w.heap.size w w' := by
  obtain ⟨i4, hi4, hz0, hz1, hz2⟩ := info_parts Tryd.info4
  have hmk : (Instr.makeSlice 44 (.int .i64 0) (.int .i64 0)).run Tryd.prog w = .ok (.slice (some ⟨w.heap.size, 0, none⟩) 0 0) (w.alloc (.cells (rep 0 (.bool false)) 4)) := make44 0 (by omega) w
  have hB0 : Below w.heap.size w (w.alloc (.cells (rep 0 (.bool false)) 4)) := below_alloc (Below.refl _ _) _
  go_enter Tryd.func15, Tryd.ntmps15
  go_wp2
  generalize w.alloc (.cells (rep 0 (.bool false)) 4) = W0 at hB0 ⊢
  go_loopw [6] (fun i wr => i = .int .i64 0 ∧ wr = W0) (fun _ _ => 0)
  case atStart => exact ⟨rfl, rfl⟩
  case round =>
    obtain ⟨rfl, rfl⟩ := hrel
    have hbz : w.heap.size ≤ wr.heap.size := hB0.size
    go_wp2_with (first
      | (at_builtin; refine wpList_append_own _ rfl _ _ 44 rfl w.heap.size 4 i4 (.bool false) 1 1 Tryd.underlying44 hi4 hz0 hz1 hz2 rfl (by decide) _ _ _ rfl (World.ownsRow_nil _ _ _ _) ⟨w.heap.size, 0, none⟩ 0 0 [] rfl rfl ?c1 ?c2 ?c3 ?c4 ?c5 ?_)
      | go_in)
    case c1 => intro j u hu; simp at hu
    case c2 => intro x hx; simp at hx
    case c3 => unfold maxLen; omega
    case c4 => omega
    case c5 => omega
    intro v' w3 hown' hgrow hnil
    have T3 := Turns.of_grown hgrow
    have hB3 : Below w.heap.size w w3 := T3.below hB0 hbz (fun j hj => by simp [Value.ownBlock] at hj)
    clear hown' hgrow hnil T3
    go_wp2
    go_loopw [8, 9] (fun c i wr => c = .int .i64 0 ∧ i = .int .i64 0 ∧ wr = w3) (fun _ _ _ => 0)
    case atStart => exact ⟨rfl, rfl, rfl⟩
    case round =>
      obtain ⟨rfl, rfl, rfl⟩ := hrel
      go_wp2
      go_ret
      exact ⟨rfl, hB3⟩
end Go.Proofs.YtenjkhgpfmfgmaaDoor
