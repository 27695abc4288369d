/- R.Over tells what width.lies tells. -/
import Derived.Test.YtdalconphfgepaaDoorOverM
import Derived.Deep.Cut
import Derived.Deep.CutRange
namespace Go.Proofs.YtdalconphfgepaaDoor
set_option maxRecDepth 8000
open Go.RowKit Go.Maps
attribute [local go_sem ↓] Go.wp_at_zero Go.wp_at_succ
theorem UpOk.i64 {m : Nat} {f : Nat → Int} {k : Nat} (h : ∀ j, j < k → f j = -1 ∨ ((0 ≤ f j ∧ f j < m) ∧ f j ≠ j)) (hk : k ≤ 100) (hm : m ≤ 100) : ∀ e ∈ linksL f k, (I64 e.1 ∧ I64 e.2) ∧ (0 ≤ e.1 ∧ e.1 < (k : Int)) ∧ (0 ≤ e.2 ∧ e.2 < m) ∧ e.1 ≠ e.2 := fun e he => by
  obtain ⟨i, hi, h1, rfl⟩ := linksL_mem.1 he
  have h2 := (h i hi).resolve_left h1
  exact ⟨⟨⟨by simp only; omega, by simp only; omega⟩, ⟨by simp only; omega, by simp only; omega⟩⟩, ⟨by simp only; omega, by simp only; omega⟩, ⟨by simp only; omega, by simp only; omega⟩, by simp only; omega⟩
theorem bag_len {N : Nat} {l : List Int} (h : (bagS N l 0).2 = 0) : l.length ≤ N := by
  have key : ∀ k, k ≤ l.length → bagS N l 0 = bagS N (l.drop k) (setTo N l k) ∧ (∀ i, i < k → 0 ≤ l.getD i 0 ∧ l.getD i 0 < N) ∧ ∀ a b, a < b → b < k → l.getD a 0 ≠ l.getD b 0 := fun k => by
    induction k with
    | zero => exact fun _ => ⟨rfl, fun i hi => by omega, fun a b _ hb => by omega⟩
    | succ k ih =>
      intro hk
      have hkl : k < l.length := by omega
      obtain ⟨h1, h2, h3⟩ := ih (by omega)
      have e1 : l.getD k 0 = l[k] := by simp [List.getD_eq_getElem?_getD, List.getElem?_eq_getElem hkl]
      rw [bag_step hkl] at h1
      by_cases c1 : l[k] < 0 ∨ (N : Int) ≤ l[k]
      · rw [if_pos c1] at h1; rw [h1] at h; simp at h
      · rw [if_neg c1] at h1
        by_cases c2 : (setTo N l k).testBit l[k].toNat = true
        · rw [if_pos c2] at h1; rw [h1] at h; simp at h
        · rw [if_neg c2] at h1
          rw [setTo_bit _ k (by omega) (fun j hj => (h2 j hj).1)] at c2
          refine ⟨h1, fun i hi => ?_, fun a b hab hb => ?_⟩
          · by_cases e : i = k
            · subst e; rw [e1]; omega
            · exact h2 i (by omega)
          · by_cases e : b = k
            · subst e
              rw [e1]
              exact fun e2 => c2 ⟨a, hab, by rw [e2]; omega⟩
            · exact h3 a b hab (by omega)
  obtain ⟨_, h2, h3⟩ := key l.length (Nat.le_refl _)
  exact inj_len (g := fun i => (l.getD i 0).toNat) (fun i hi => by have := h2 i hi; omega) fun a b hab hb e => h3 a b hab hb (by have := h2 a (by omega); have := h2 b hb; omega)
def cntV (bags : List Nat) (v i : Nat) : Nat := ((List.range i).filter fun j => (at' bags j).testBit v).length
theorem cntV_succ (bags : List Nat) (v i : Nat) : cntV bags v (i + 1) = cntV bags v i + if (at' bags i).testBit v = true then 1 else 0 := by
  unfold cntV
  rw [List.range_succ, List.filter_append, List.length_append]
  by_cases h : (at' bags i).testBit v = true <;> simp [h]
theorem cntV_le (bags : List Nat) (v : Nat) : ∀ i, cntV bags v i ≤ i
  | 0 => by simp [cntV]
  | i + 1 => by have := cntV_le bags v i; rw [cntV_succ]; split <;> omega
theorem cntV_zero {bags : List Nat} {v i : Nat} : cntV bags v i = 0 ↔ ∀ j, j < i → (at' bags j).testBit v = false := by
  unfold cntV
  rw [List.length_eq_zero_iff, List.filter_eq_nil_iff]
  constructor
  · exact fun h j hj => by simpa using h j (List.mem_range.2 hj)
  · exact fun h j hj => by simpa using h j (List.mem_range.1 hj)
set_option maxHeartbeats 8000000 in
theorem over_call {w : World} {N m : Nat} {es : List Pair} {ls : List (List Int)} {xo uo ao0 : Option Addr} {xc uc cap0 : Nat} {f : Nat → Int} (hE : EdgesAt w (.slice ao0 es.length cap0) es) (hx : RowsC w (.slice xo m xc) ls) (hck : chk N es = (0, 0)) (hN : N ≤ 100) (hl : ls.length = m) (hm : m ≤ 100) (hop : (openR N ls 0).1 = 0) (hF : NumF w uo m f) :
    Calls Tryd.prog 12 #[.agg #[.int .i64 (N : Int), .slice ao0 es.length cap0], .slice xo m xc, .slice uo m uc] w fun e w' => e = .returned (.bool (liesB N es (setsL N ls) f)) ∧ Below w.heap.size w w' := by
  obtain ⟨_, _, _, hel, hgood⟩ := chk_good (n := (N : Int)) (es := es) (by rw [hck])
  have HLI : Hid (liesB N es (setsL N ls) f = true ↔ UpOk m f ∧ (0 < m → roots f m = 1 ∧ ConP f m) ∧ holdB es (setsL N ls) = true ∧ ∀ v, v < N → HangP f m (setsL N ls) v) := by
    have := lies_iff (N := N) (es := es) (bags := setsL N ls) (f := f) (fun e he => (hgood e he).1)
    rw [show (setsL N ls).length = m by simp [setsL, hl]] at this
    exact this
  have HH : Hid (EdgesAt w (.slice ao0 es.length cap0) es ∧ RowsC w (.slice xo m xc) ls ∧ ls.length = m ∧ (openR N ls 0).1 = 0 ∧ NumF w uo m f ∧ (∀ e ∈ es, (0 ≤ e.1 ∧ e.1 < N ∧ 0 ≤ e.2 ∧ e.2 < N) ∧ e.1 ≠ e.2)) := ⟨hE, hx, hl, hop, hF, hgood⟩
  obtain ⟨el, hell⟩ : ∃ el, el = es.length := ⟨_, rfl⟩
  have HEL : Hid (el = es.length) := hell
  rw [← hell] at hel ⊢
  obtain ⟨R, hR⟩ : ∃ R, R = liesB N es (setsL N ls) f := ⟨_, rfl⟩
  rw [← hR] at HLI ⊢
  clear hE hx hl hop hF hgood hck hR hell
  obtain ⟨i0, hi, hz0, hz1, hz2⟩ := info_parts Tryd.info64
  go_enter Tryd.func12, Tryd.ntmps12
  go_upto_region 4 with (fail)
  have t3 := two_new w (.int .i64 (N : Int)) (.slice ao0 el cap0) 24
  have hB0 := below_alloc (Below.refl _ w) (Obj.cells #[.int .i64 (N : Int), .slice ao0 el cap0] 24)
  obtain ⟨q, hq⟩ : ∃ b, b = w.heap.size := ⟨_, rfl⟩
  have hqW : (w.alloc (Obj.cells #[.int .i64 (N : Int), .slice ao0 el cap0] 24)).heap.size = q + 1 := by rw [hq]; simp
  rw [← hq] at t3 ⊢
  generalize w.alloc (Obj.cells #[.int .i64 (N : Int), .slice ao0 el cap0] 24) = W at *
  have HW : Hid (Two W q (.int .i64 (N : Int)) (.slice ao0 el cap0) 24 ∧ Below w.heap.size w W ∧ W.heap.size = q + 1) := ⟨t3, hB0, hqW⟩
  clear t3 hB0 hq hqW
  go_loopw [7, 8, 9] (fun s7 s8 s9 wz => ∃ k : Nat, k ≤ m ∧ s9 = .int .i64 (k : Int) ∧ s8 = .int .i64 (roots f k : Int) ∧ (∃ lo lc, s7 = .slice lo (linksL f k).length lc) ∧ Hid (wz.ownsRow (q + 1) 64 2 s7 (linksL f k).length (flat (linksL f k)) ∧ Below W.heap.size W wz ∧ ∀ j, j < k → f j = -1 ∨ ((0 ≤ f j ∧ f j < m) ∧ f j ≠ j))) (fun _ _ s9 _ => m - (numOf s9).toNat)
  case atStart => exact ⟨0, Nat.zero_le _, rfl, rfl, ⟨none, 0, rfl⟩, ⟨World.ownsRow_nil _ _ _ _, Below.refl _ _, fun j hj => by omega⟩⟩
  case round =>
    obtain ⟨k, hk, rfl, rfl, ⟨lo, lc, rfl⟩, hJ⟩ := hrel
    have hrk := roots_le f k
    have hlk := linksL_len f k
    by_cases hlt : k < m
    · obtain ⟨b, off, he, ck⟩ := HH.out.2.2.2.2.1 k hlt
      have ck' : wr.cell? ⟨b, off + k, none⟩ = some (.int .i64 (f k)) := by rw [(below_next HW.out.2.1 hJ.out.2.1).cell (World.block_lt_of_cell? w _ ck)]; exact ck
      have HRS : Hid (roots f (k + 1) = roots f k + if f k = -1 then 1 else 0) := roots_succ f k
      have HLS : Hid (linksL f (k + 1) = linksL f k ++ if f k = -1 then [] else [((k : Int), f k)]) := linksL_succ f k
      have HUP : Hid (∀ (P : Prop), (UpOk m f → (f k = -1 ∨ ((0 ≤ f k ∧ f k < m) ∧ f k ≠ k)))) := fun _ h => h k hlt
      clear ck
      subst he
      have i1 : (0 : Int) ≤ (k : Int) := by omega
      have i2 : (k : Int) < (m : Int) := by omega
      generalize hfk : f k = y at *
      have HFK : Hid (f k = y) := hfk
      clear hfk
      obtain ⟨ll, hll⟩ : ∃ ll, ll = (linksL f k).length := ⟨_, rfl⟩
      have HLL : Hid (ll = (linksL f k).length) := hll
      rw [← hll] at hJ hlk ⊢
      by_cases h1 : y = -1
      · have k1 : (y == -1) = true := by simpa using h1
        have HN : Hid ((linksL f (k + 1)).length = ll ∧ roots f (k + 1) = roots f k + 1 ∧ wr.ownsRow (q + 1) 64 2 (.slice lo ll lc) (linksL f (k + 1)).length (flat (linksL f (k + 1))) ∧ Below W.heap.size W wr ∧ ∀ j, j < k + 1 → f j = -1 ∨ ((0 ≤ f j ∧ f j < m) ∧ f j ≠ j)) := by
          have h2 := HLS.out
          have h3 := HRS.out
          rw [if_pos h1] at h3
          rw [if_pos h1, List.append_nil] at h2
          refine ⟨by rw [h2, hll], h3, by rw [h2, ← hll]; exact hJ.out.1, hJ.out.2.1, fun j hj => ?_⟩
          by_cases e : j = k
          · subst e; rw [HFK.out]; exact Or.inl h1
          · exact hJ.out.2.2 j (by omega)
        clear HLS HRS h1 hJ hll
        generalize roots f k = rk at *
        go_wp2
        go_roundw
        case rel => exact ⟨k + 1, by omega, by go_num, by rw [HN.out.2.1]; go_num, ⟨lo, lc, by rw [HN.out.1]⟩, HN.out.2.2⟩
        case measure => simp [numOf]; omega
      · have k1 : (y == -1) = false := by simpa using h1
        have HRF : Hid (¬ ((0 ≤ y ∧ y < m) ∧ y ≠ k) → R = false) := fun hn => by
          cases hR : R with
          | false => rfl
          | true =>
            rcases (HLI.out.1 hR).1 k hlt with h | h
            · exact absurd (HFK.out.symm.trans h) h1
            · rw [HFK.out] at h; exact absurd h hn
        by_cases h2 : y < 0
        · have k2 : decide (y < 0) = true := by simpa using h2
          have HR0 : Hid (R = false) := HRF.out (by omega)
          clear HLS HRS hll HRF
          go_wp2
          go_ret
          exact ⟨by rw [HR0.out]; rfl, below_next HW.out.2.1 hJ.out.2.1⟩
        · have k2 : decide (y < 0) = false := by simpa using h2
          by_cases h3 : (m : Int) ≤ y
          · have k3 : decide ((m : Int) ≤ y) = true := by simpa using h3
            have HR0 : Hid (R = false) := HRF.out (by omega)
            clear HLS HRS hll HRF
            go_wp2
            go_ret
            exact ⟨by rw [HR0.out]; rfl, below_next HW.out.2.1 hJ.out.2.1⟩
          · have k3 : decide ((m : Int) ≤ y) = false := by simpa using h3
            by_cases h4 : y = k
            · have k4 : (y == (k : Int)) = true := by simpa using h4
              have HR0 : Hid (R = false) := HRF.out (by omega)
              clear HLS HRS hll HRF
              go_wp2
              go_ret
              exact ⟨by rw [HR0.out]; rfl, below_next HW.out.2.1 hJ.out.2.1⟩
            · have k4 : (y == (k : Int)) = false := by simpa using h4
              have h5 := HLS.out
              have h6 := HRS.out
              rw [if_neg h1] at h5
              rw [if_neg h1] at h6
              have HN : Hid ((linksL f (k + 1)).length = ll + 1 ∧ flat (linksL f (k + 1)) = flat (linksL f k) ++ [.int .i64 (k : Int), .int .i64 y] ∧ roots f (k + 1) = roots f k ∧ ∀ j, j < k + 1 → f j = -1 ∨ ((0 ≤ f j ∧ f j < m) ∧ f j ≠ j)) := by
                refine ⟨by rw [h5, hll]; simp, by rw [h5]; simp [flat], h6, fun j hj => ?_⟩
                by_cases e : j = k
                · subst e; rw [HFK.out]; exact Or.inr ⟨by omega, h4⟩
                · exact hJ.out.2.2 j (by omega)
              clear HLS HRS hll HRF h5 h6
              generalize roots f k = rk at *
              go_wp2_with (first | (at_builtin; refine wpList_append_own _ rfl _ _ 22 rfl (q + 1) 64 i0 (.agg #[.int .i64 0, .int .i64 0]) 2 16 Tryd.underlying22 hi hz0 hz1 hz2 rfl (by decide) _ _ _ rfl (hJ.out.1.alloc _) ⟨wr.heap.size, 0, none⟩ 1 1 [.int .i64 (k : Int), .int .i64 y] rfl rfl ?n1 ?n2 ?n3 ?n4 ?n5 ?_) | go_in)
              case n2 => exact ⟨rfl, rfl⟩
              case n3 => unfold maxLen; omega
              case n4 => omega
              case n5 => have := HW.out.2.2; have := hJ.out.2.1.size; simp; omega
              intro v' w3 hown' hgrow _
              obtain ⟨vo', vc', rfl⟩ := form_row hown'
              have HO : Hid (w3.ownsRow (q + 1) 64 2 (.slice vo' (ll + 1) vc') (ll + 1) (flat (linksL f k) ++ [.int .i64 (k : Int), .int .i64 y]) ∧ Below W.heap.size W w3) := ⟨hown', by
                have hBa := below_alloc hJ.out.2.1 (Obj.cells #[.int .i64 (k : Int), .int .i64 y] 64)
                refine hBa.grown hgrow hBa.size (fun j hj => ?_)
                have h1 := (hJ.out.1.lt j hj).1
                have h2 := HW.out.2.2
                omega⟩
              clear hown' hgrow hJ
              go_wp2
              go_roundw
              case rel => exact ⟨k + 1, by omega, by go_num, by rw [HN.out.2.2.1], ⟨vo', vc', by rw [HN.out.1]⟩, ⟨by rw [HN.out.1, HN.out.2.1]; exact HO.out.1, HO.out.2, HN.out.2.2.2⟩⟩
              case measure => simp [numOf]; omega
    · obtain rfl : k = m := by omega
      have HUO : Hid (UpOk k f) := hJ.out.2.2
      have HLK : Hid ((∀ e ∈ linksL f k, (I64 e.1 ∧ I64 e.2) ∧ (0 ≤ e.1 ∧ e.1 < (k : Int)) ∧ (0 ≤ e.2 ∧ e.2 < k) ∧ e.1 ≠ e.2)) := UpOk.i64 hJ.out.2.2 hm hm
      have C15 : Hid (∀ A, Below wr.heap.size wr A → Calls Tryd.prog 15 #[.agg #[.int .i64 (k : Int), .slice lo (linksL f k).length lc]] A fun e w' => Below A.heap.size A w' ∧ ∃ ao cap, e = .returned (.slice ao k cap) ∧ GridAt w' (.slice ao k cap) k (hasB (linksL f k))) := fun A hA => gridOf_any k _ (linksL f k) A ((edgesAt_row hJ.out.1 (fun e he => (HLK.out e he).1) (by omega)).below hA) hm (by omega) (fun e he => ⟨⟨(HLK.out e he).2.1.1, (HLK.out e he).2.1.2, (HLK.out e he).2.2.1.1, (HLK.out e he).2.2.1.2⟩, (HLK.out e he).2.2.2⟩)
      have HB1 : Hid (Below W.heap.size W wr) := hJ.out.2.1
      have HRT : Hid (∀ L, ∃ T : Nat → Nat → Bool, ∀ v x, T v x = true ↔ Star (St k (pn (hasB (linksL f k))) L) v x) := fun L => by
        classical
        exact ⟨fun v x => decide (Star (St k (pn (hasB (linksL f k))) L) v x), fun v x => by simp⟩
      clear hJ HLK
      obtain ⟨ll, hll⟩ : ∃ ll, ll = (linksL f k).length := ⟨_, rfl⟩
      rw [← hll] at C15 hlk ⊢
      clear hll
      by_cases hbad : 0 < k ∧ roots f k ≠ 1
      · have k1 : decide ((0 : Int) < (k : Int)) = true := by simp; omega
        have k1' : (0 : Int) < (k : Int) := by omega
        have k2 : ((roots f k : Int) != 1) = true := by simp; omega
        have HR0 : Hid (R = false) := by
          cases hR : R with
          | false => exact rfl
          | true => exact absurd ((HLI.out.1 hR).2.1 hbad.1).1 hbad.2
        generalize roots f k = rk at *
        go_wp2
        go_ret
        exact ⟨by rw [HR0.out]; rfl, below_next HW.out.2.1 HB1.out⟩
      · have HNB : Hid (0 < k → roots f k = 1) := fun h => by
          apply Classical.byContradiction
          intro hn
          exact hbad ⟨h, hn⟩
        clear hbad
        go_upto_region 11 with (fail)
        go_cut [68] from 62 to 68 (fun s68 wd => s68 = .bool false ∧ wd = wr)
        case first =>
          by_cases h0 : 0 < k
          · have k1 : decide ((0 : Int) < (k : Int)) = true := by simp; omega
            have k1' : (0 : Int) < (k : Int) := by omega
            have hr := HNB.out h0
            have k2 : ((roots f k : Int) != 1) = false := by simp; omega
            go_wp2
            go_meet
            case rel => exact ⟨rfl, rfl⟩
          · have k1 : decide ((0 : Int) < (k : Int)) = false := by simp; omega
            have k1' : ¬ (0 : Int) < (k : Int) := by omega
            go_wp2
            go_meet
            case rel => exact ⟨rfl, rfl⟩
        case rest =>
          obtain ⟨rfl, hwc⟩ := hcut
          subst hwc
          go_upto_region 14 with (first | (go_at_call 15; refine Calls.mono (C15.out _ (Below.refl _ _)) ?_; rintro e w5 ⟨h5, go, gc, rfl, hG⟩) | fail)
          have HG : Hid (GridAt w5 (.slice go k gc) k (hasB (linksL f k)) ∧ Below W.heap.size W w5) := ⟨hG, below_next HB1.out h5⟩
          clear C15 hG h5 HB1
          obtain ⟨T0, hT0⟩ := HRT.out (openB fun _ => false)
          have C32 : Hid (∀ A, Below w5.heap.size w5 A → Calls Tryd.prog 32 #[.slice go k gc, .slice none 0 0] A fun r w' => r = .returned (.int .i64 (partsN k (openB fun _ => false) T0 : Int)) ∧ Below A.heap.size A w') := fun A hA => parts_call k go gc _ A (HG.out.1.below hA) hm (shutAt_nil A k) T0 hT0
          have HP0 : Hid (partsN k (openB fun _ => false) T0 = 1 ↔ 0 < k ∧ ConP f k) := by
            rw [Hid, links_parts hT0]
            unfold ConP openB
            simp only [Bool.not_false, and_true]
            constructor
            · rintro ⟨⟨x, hx⟩, h⟩
              exact ⟨by omega, h⟩
            · rintro ⟨h1, h⟩
              exact ⟨⟨0, h1⟩, h⟩
          by_cases hbad : 0 < k ∧ partsN k (openB fun _ => false) T0 ≠ 1
          · have k1 : decide ((0 : Int) < (k : Int)) = true := by simp; omega
            have k1' : (0 : Int) < (k : Int) := by omega
            have k2 : ((partsN k (openB fun _ => false) T0 : Int) != 1) = true := by simp; omega
            have HR0 : Hid (R = false) := by
              cases hR : R with
              | false => exact rfl
              | true => exact absurd (HP0.out.2 ⟨hbad.1, ((HLI.out.1 hR).2.1 hbad.1).2⟩) hbad.2
            generalize partsN k (openB fun _ => false) T0 = pk at *
            go_wp2_with (first | (go_at_call 32; refine Calls.mono (C32.out _ (Below.refl _ _)) ?_; rintro e w6 ⟨rfl, h6⟩) | go_in)
            go_ret
            exact ⟨by rw [HR0.out]; rfl, below_next HW.out.2.1 (below_next HG.out.2 h6)⟩
          · have HNC : Hid (0 < k → ConP f k) := fun h => by
              apply Classical.byContradiction
              intro hn
              exact hbad ⟨h, fun e => hn (HP0.out.1 e).2⟩
            have HPk : Hid (0 < k → partsN k (openB fun _ => false) T0 = 1) := fun h => HP0.out.2 ⟨h, HNC.out h⟩
            clear hbad HP0
            go_cut [81] from 74 to 81 (fun s81 wd => s81 = .bool false ∧ Hid (Below w5.heap.size w5 wd))
            case first =>
              by_cases h0 : 0 < k
              · have k1 : decide ((0 : Int) < (k : Int)) = true := by simp; omega
                have k1' : (0 : Int) < (k : Int) := by omega
                have hr := HPk.out h0
                rw [hr] at C32
                go_wp2_with (first | (go_at_call 32; refine Calls.mono (C32.out _ (Below.refl _ _)) ?_; rintro e w6 ⟨rfl, h6⟩) | go_in)
                go_meet
                case rel => exact ⟨rfl, h6⟩
              · have k1 : decide ((0 : Int) < (k : Int)) = false := by simp; omega
                have k1' : ¬ (0 : Int) < (k : Int) := by omega
                go_wp2
                go_meet
                case rel => exact ⟨rfl, Below.refl _ _⟩
            case rest =>
              obtain ⟨rfl, h6⟩ := hcut
              have HB6 : Hid (GridAt wc (.slice go k gc) k (hasB (linksL f k)) ∧ Below W.heap.size W wc) := ⟨HG.out.1.below h6.out, below_next HG.out.2 h6.out⟩
              clear C32 HG h6 HPk hT0
              go_upto_region 17 with (fail)
              have HROW : Hid (∀ i, i < k → ∃ rb roff vo len vc, xo = some ⟨rb, roff, none⟩ ∧ (∀ A, Below wc.heap.size wc A → A.cell? ⟨rb, roff + i, none⟩ = some (.slice vo len vc)) ∧ ∀ (x : Nat) A, Below wc.heap.size wc A → Calls Tryd.prog 33 #[.slice vo len vc, .int .i64 (x : Int)] A fun e w' => e = .returned (.bool ((at' (setsL N ls) i).testBit x)) ∧ w' = A) := fun i hi => by
                have hil : i < ls.length := by rw [HH.out.2.2.1]; exact hi
                obtain ⟨ao9, cap9, e', _, hr⟩ := HH.out.2.1
                simp only [Value.slice.injEq] at e'
                obtain ⟨e1, _, _⟩ := e'
                subst e1
                obtain ⟨rb, roff, vo, vc, e2, rc0, _, _, hNF⟩ := hr i hil
                have hlen := bag_len (openR_all ls 0 HH.out.2.2.2.1 ls[i] (List.getElem_mem hil))
                refine ⟨rb, roff, vo, ls[i].length, vc, e2, fun A hA => ?_, fun x A hA => ?_⟩
                · rw [(below_next HW.out.2.1 (below_next HB6.out.2 hA)).cell (World.block_lt_of_cell? w _ rc0)]; exact rc0
                · rw [← bag_in HH.out.2.2.2.1 hil x]
                  exact has2_call (hNF.below (below_next HW.out.2.1 (below_next HB6.out.2 hA))) (by omega) x
              have HQ : Hid (∀ A, Below wc.heap.size wc A → A.cell? ⟨q, 0, none⟩ = some (.int .i64 (N : Int)) ∧ A.cell? ⟨q, 1, none⟩ = some (.slice ao0 el cap0)) := fun A hA => cell_two (two_next HW.out.1 (below_next HB6.out.2 hA))
              have HED : Hid (∀ a, a < el → ∃ eb eoff ex ey, ao0 = some ⟨eb, eoff, none⟩ ∧ es[a]? = some (((ex : Nat) : Int), ((ey : Nat) : Int)) ∧ ∀ A, Below wc.heap.size wc A → A.cell? ⟨eb, eoff + a * 2, none⟩ = some (.int .i64 (ex : Int)) ∧ A.cell? ⟨eb, eoff + a * 2 + 1, none⟩ = some (.int .i64 (ey : Int))) := fun a ha => by
                have hal : a < es.length := by rw [← HEL.out]; exact ha
                obtain ⟨ao9, cap9, e', _, _, hr⟩ := HH.out.1
                simp only [Value.slice.injEq] at e'
                obtain ⟨e1, _, _⟩ := e'
                subst e1
                obtain ⟨eb, eoff, e2, c0, c1⟩ := hr a hal
                have hg := HH.out.2.2.2.2.2 es[a] (List.getElem_mem hal)
                obtain ⟨ex, hex⟩ := Int.eq_ofNat_of_zero_le hg.1.1
                obtain ⟨ey, hey⟩ := Int.eq_ofNat_of_zero_le hg.1.2.2.1
                refine ⟨eb, eoff, ex, ey, e2, ?_, fun A hA => ?_⟩
                · rw [List.getElem?_eq_getElem hal]
                  congr 1
                  exact Prod.ext hex hey
                · have hBB := below_next HW.out.2.1 (below_next HB6.out.2 hA)
                  rw [hBB.cell (World.block_lt_of_cell? w _ c0), hBB.cell (World.block_lt_of_cell? w _ c1), c0, c1, hex, hey]
                  exact ⟨rfl, rfl⟩
              go_loopw [11, 12, 13] (fun s11 _ _ wz => ∃ a : Nat, a ≤ el ∧ s11 = .int .i64 (a : Int) ∧ Hid (Below wc.heap.size wc wz ∧ ∀ e ∈ es.take a, (setsL N ls).any (fun s => inBag s e) = true)) (fun s11 _ _ _ => el - (numOf s11).toNat)
              case atStart => exact ⟨0, Nat.zero_le _, rfl, ⟨Below.refl _ _, fun e he => by simp at he⟩⟩
              case round =>
                obtain ⟨a, ha, rfl, hA⟩ := hrel
                obtain ⟨q0, q1⟩ := HQ.out _ hA.out.1
                by_cases hlt2 : a < el
                · obtain ⟨eb, eoff, ex, ey, rfl, hea, hec⟩ := HED.out a hlt2
                  have i1 : (0 : Int) ≤ (a : Int) := by omega
                  have i2 : (a : Int) < (el : Int) := by omega
                  have HEC : Hid _ := hec
                  have HEA : Hid _ := hea
                  clear hec hea
                  go_upto_region 21 with (fail)
                  clear q0 q1
                  go_loopw [12, 13] (fun s12 s13 wz => ∃ i : Nat, i ≤ k ∧ s13 = .int .i64 (i : Int) ∧ s12 = .bool (((setsL N ls).take i).any fun s => inBag s ((ex : Int), (ey : Int))) ∧ Hid (Below wc.heap.size wc wz)) (fun _ s13 _ => k - (numOf s13).toNat)
                  case atStart => exact ⟨0, Nat.zero_le _, rfl, by simp, hA.out.1⟩
                  case round =>
                    obtain ⟨i, hi9, rfl, rfl, hI⟩ := hrel
                    by_cases hlt3 : i < k
                    · obtain ⟨rb, roff, vo, len, vc, rfl, hrc, C33⟩ := HROW.out i hlt3
                      obtain ⟨b1, hb1⟩ : ∃ b, b = (at' (setsL N ls) i).testBit ex := ⟨_, rfl⟩
                      obtain ⟨b2, hb2⟩ : ∃ b, b = (at' (setsL N ls) i).testBit ey := ⟨_, rfl⟩
                      have HAN : Hid ((((setsL N ls).take (i + 1)).any fun s => inBag s ((ex : Int), (ey : Int))) = ((((setsL N ls).take i).any fun s => inBag s ((ex : Int), (ey : Int))) || (b1 && b2))) := by
                        have hsl : i < (setsL N ls).length := by simp [setsL]; have := HH.out.2.2.1; omega
                        have e9 : (setsL N ls)[i] = at' (setsL N ls) i := by unfold at'; simp [List.getD_eq_getElem?_getD, List.getElem?_eq_getElem hsl]
                        show _ = _
                        rw [List.take_succ_eq_append_getElem hsl, List.any_append, hb1, hb2, e9]
                        simp [inBag]
                      have D1 : Hid (∀ A, Below wr.heap.size wr A → Calls Tryd.prog 33 #[.slice vo len vc, .int .i64 (ex : Int)] A fun e w' => e = .returned (.bool b1) ∧ Below A.heap.size A w') := fun A hA9 => (C33 ex A (below_next hI.out hA9)).mono fun e w' h => ⟨by rw [hb1]; exact h.1, by rw [h.2]; exact Below.refl _ _⟩
                      have D2 : Hid (∀ A, Below wr.heap.size wr A → Calls Tryd.prog 33 #[.slice vo len vc, .int .i64 (ey : Int)] A fun e w' => e = .returned (.bool b2) ∧ Below A.heap.size A w') := fun A hA9 => (C33 ey A (below_next hI.out hA9)).mono fun e w' h => ⟨by rw [hb2]; exact h.1, by rw [h.2]; exact Below.refl _ _⟩
                      have c0 := hrc _ hI.out
                      obtain ⟨_, q1⟩ := HQ.out _ hI.out
                      obtain ⟨e0, e1⟩ := HEC.out _ hI.out
                      have j1 : (0 : Int) ≤ (i : Int) := by omega
                      have j2 : (i : Int) < (k : Int) := by omega
                      clear C33 hrc hb1 hb2
                      generalize hob : (((setsL N ls).take i).any fun s => inBag s ((ex : Int), (ey : Int))) = ob at *
                      clear hob
                      cases ob with
                      | true =>
                        go_upto_region 23 with (fail)
                        have g0 := cell_growD c0
                        have g1 := cell_growD q1
                        have g2 := cell_growD e0
                        have g3 := cell_growD e1
                        refine wp_region_below (by kernel_rfl) (by kernel_rfl) ?_
                        repeat (go_big_quiet_step (fail))
                        refine wpQuiet_nil ?_
                        rintro _ ⟨gp, rfl⟩
                        have HB8 : Hid (Below wc.heap.size wc (growD wr gp)) := below_next hI.out (growD_below wr gp)
                        clear g0 g1 g2 g3 c0 q1 e0 e1 hI
                        generalize growD wr gp = w8 at *
                        go_wp2
                        go_roundw
                        case rel => exact ⟨i + 1, by omega, by go_num, by rw [HAN.out]; rfl, HB8⟩
                        case measure => simp [numOf]; omega
                      | false =>
                        cases b1 with
                        | false =>
                          go_upto_region 23 with (fail)
                          have g0 := cell_growD c0
                          have g1 := cell_growD q1
                          have g2 := cell_growD e0
                          have g3 := cell_growD e1
                          refine wp_region_below (by kernel_rfl) (by kernel_rfl) ?_
                          repeat (go_big_quiet_step (first | (go_at_call 33; exact Calls.belowQ (fun W hW => D1.out W hW))))
                          refine wpQuiet_nil ?_
                          rintro _ ⟨gp, rfl⟩
                          have HB8 : Hid (Below wc.heap.size wc (growD wr gp)) := below_next hI.out (growD_below wr gp)
                          clear g0 g1 g2 g3 c0 q1 e0 e1 hI
                          generalize growD wr gp = w8 at *
                          go_wp2
                          go_roundw
                          case rel => exact ⟨i + 1, by omega, by go_num, by rw [HAN.out]; rfl, HB8⟩
                          case measure => simp [numOf]; omega
                        | true =>
                          go_upto_region 23 with (fail)
                          have g0 := cell_growD c0
                          have g1 := cell_growD q1
                          have g2 := cell_growD e0
                          have g3 := cell_growD e1
                          refine wp_region_below (by kernel_rfl) (by kernel_rfl) ?_
                          repeat (go_big_quiet_step (first | (go_at_call 33; first | with_reducible exact Calls.belowQ (fun W hW => D1.out W hW) | with_reducible exact Calls.belowQ (fun W hW => D2.out W hW))))
                          refine wpQuiet_nil ?_
                          rintro _ ⟨gp, rfl⟩
                          have HB8 : Hid (Below wc.heap.size wc (growD wr gp)) := below_next hI.out (growD_below wr gp)
                          clear g0 g1 g2 g3 c0 q1 e0 e1 hI
                          generalize growD wr gp = w8 at *
                          go_wp2
                          go_roundw
                          case rel => exact ⟨i + 1, by omega, by go_num, by rw [HAN.out]; simp, HB8⟩
                          case measure => simp [numOf]; omega
                    · obtain rfl : i = k := by omega
                      have HTL : Hid ((setsL N ls).take i = setsL N ls) := by
                        show _ = _
                        exact List.take_of_length_le (by simp [setsL]; have := HH.out.2.2.1; omega)
                      rw [HTL.out]
                      have HAL : Hid (∀ e ∈ es.take a, (setsL N ls).any (fun s => inBag s e) = true) := hA.out.2
                      have HIH : Hid (((setsL N ls).any fun s => inBag s ((ex : Int), (ey : Int))) = false → R = false) := fun hf => by
                        cases hR : R with
                        | false => rfl
                        | true =>
                          have h1 := (HLI.out.1 hR).2.2.1
                          unfold holdB at h1
                          rw [List.all_eq_true] at h1
                          rw [h1 _ (List.mem_of_getElem? HEA.out)] at hf
                          cases hf
                      have HNX : Hid (((setsL N ls).any fun s => inBag s ((ex : Int), (ey : Int))) = true → ∀ e ∈ es.take (a + 1), (setsL N ls).any (fun s => inBag s e) = true) := fun ht e he => by
                        have hal := (List.getElem?_eq_some_iff.1 HEA.out).1
                        rw [List.take_succ_eq_append_getElem hal] at he
                        rcases List.mem_append.1 he with h1 | h1
                        · exact HAL.out e h1
                        · rw [List.mem_singleton] at h1
                          rw [h1, (List.getElem?_eq_some_iff.1 HEA.out).2]
                          exact ht
                      clear hA HTL
                      generalize ((setsL N ls).any fun s => inBag s ((ex : Int), (ey : Int))) = ob at *
                      cases ob with
                      | false =>
                        have HR0 : Hid (R = false) := HIH.out rfl
                        go_wp2
                        go_ret
                        exact ⟨by rw [HR0.out]; rfl, below_next HW.out.2.1 (below_next HB6.out.2 hI.out)⟩
                      | true =>
                        have HNX' : Hid _ := HNX.out rfl
                        go_wp2
                        go_roundw
                        case rel => exact ⟨a + 1, by omega, by go_num, ⟨hI.out, HNX'.out⟩⟩
                        case measure => simp [numOf]; omega
                · obtain rfl : a = el := by omega
                  have HHO : Hid (holdB es (setsL N ls) = true) := by
                    show _ = _
                    unfold holdB
                    rw [List.all_eq_true]
                    intro e he
                    exact hA.out.2 e (by rw [HEL.out, List.take_length]; exact he)
                  have HBA : Hid (Below wc.heap.size wc wr) := hA.out.1
                  clear hA
                  go_upto_region 27 with (fail)
                  clear q0 q1
                  go_loopw [14, 15, 16, 17] (fun s14 _ _ _ wz => ∃ v : Nat, v ≤ N ∧ s14 = .int .i64 (v : Int) ∧ Hid (Below wc.heap.size wc wz ∧ ∀ u, u < v → HangP f k (setsL N ls) u)) (fun s14 _ _ _ _ => N - (numOf s14).toNat)
                  case atStart => exact ⟨0, Nat.zero_le _, rfl, ⟨HBA.out, fun u hu => by omega⟩⟩
                  case round =>
                    obtain ⟨v, hv, rfl, hV⟩ := hrel
                    obtain ⟨q0, _⟩ := HQ.out _ hV.out.1
                    by_cases hlt2 : v < N
                    · have i1 : (v : Int) < (N : Int) := by omega
                      obtain ⟨i4, hi4, hy0, hy1, hy2⟩ := info_parts Tryd.info4
                      go_upto_region 32 with (first | (at_make; refine wpList_make_full _ rfl _ _ 52 rfl wr.heap.size 4 i4 (.bool false) 1 Tryd.underlying52 hi4 hy0 hy1 .i64 .i64 _ _ k rfl rfl rfl rfl ?_ ?_ ?_ ?_; (rw [hy2]; omega); (unfold maxLen; omega); (omega); intro W1 hmade hg1) | fail)
                      have hrow0 := rowB_made hmade
                      have hB7 : Below wr.heap.size wr W1 := (Below.refl _ _).grown hg1 (Nat.le_refl _) (fun k hk => by cases hk)
                      obtain ⟨bs, hbs⟩ : ∃ b, b = wr.heap.size := ⟨_, rfl⟩
                      have HBS : Hid (wc.heap.size ≤ bs) := by rw [hbs]; exact hV.out.1.size
                      rw [← hbs] at hrow0 ⊢
                      have HR7 : Hid (RowB W1 bs k (fun _ => false) ∧ Below wc.heap.size wc W1) := ⟨hrow0, below_next hV.out.1 hB7⟩
                      have HVV : Hid (∀ u, u < v → HangP f k (setsL N ls) u) := hV.out.2
                      clear hmade hg1 hrow0 hB7 hbs q0 hV
                      go_loopw [16, 17] (fun s16 s17 wz => ∃ i : Nat, i ≤ k ∧ s17 = .int .i64 (i : Int) ∧ s16 = .int .i64 (cntV (setsL N ls) v i : Int) ∧ Hid (RowB wz bs k (fun j => decide (j < i) && !(at' (setsL N ls) j).testBit v) ∧ Below wc.heap.size wc wz)) (fun _ s17 _ => k - (numOf s17).toNat)
                      case atStart => exact ⟨0, Nat.zero_le _, rfl, rfl, ⟨HR7.out.1.congr fun j _ => by simp, HR7.out.2⟩⟩
                      case round =>
                        clear HR7
                        obtain ⟨i, hi9, rfl, rfl, hI⟩ := hrel
                        have hcl := cntV_le (setsL N ls) v i
                        by_cases hlt3 : i < k
                        · obtain ⟨rb, roff, vo, len, vc, rfl, hrc, C33⟩ := HROW.out i hlt3
                          have HCS : Hid _ := cntV_succ (setsL N ls) v i
                          obtain ⟨b1, hb1⟩ : ∃ b, b = (at' (setsL N ls) i).testBit v := ⟨_, rfl⟩
                          have D1 : Hid (Calls Tryd.prog 33 #[.slice vo len vc, .int .i64 (v : Int)] wr fun e w' => e = .returned (.bool b1) ∧ w' = wr) := by rw [hb1]; exact C33 v wr hI.out.2
                          have c0 := hrc _ hI.out.2
                          have c1 := hI.out.1.cell hlt3
                          simp only [Nat.lt_irrefl, decide_false, Bool.false_and] at c1
                          have f1 := hI.out.1.free i
                          have hput := hI.out.1.put i (!b1)
                          have c2 := hput.cell hlt3
                          simp only [if_true] at c2
                          have HPUT : Hid (RowB (wr.setCell ⟨bs, i, none⟩ (.bool (!b1))) bs k (fun j => decide (j < i + 1) && !(at' (setsL N ls) j).testBit v) ∧ Below wc.heap.size wc (wr.setCell ⟨bs, i, none⟩ (.bool (!b1)))) := ⟨hput.congr fun j hj => by
                            by_cases e : j = i
                            · subst e
                              rw [if_pos rfl, hb1]
                              simp
                            · rw [if_neg e]
                              congr 1
                              rw [decide_eq_decide]; omega, hI.out.2.setCell HBS.out _⟩
                          rw [← hb1] at HCS
                          have j1 : (0 : Int) ≤ (i : Int) := by omega
                          have j2 : (i : Int) < (k : Int) := by omega
                          clear C33 hrc hb1 hput hI
                          generalize cntV (setsL N ls) v i = cn at *
                          cases b1 with
                          | true =>
                            go_wp2_with (first | (go_at_call 33; refine Calls.mono D1.out ?_; rintro e w9 ⟨rfl, hw9⟩; have hw9' := hw9.symm; clear hw9; subst hw9') | go_in)
                            go_roundw
                            case rel => exact ⟨i + 1, by omega, by go_num, by rw [HCS.out]; go_num, HPUT⟩
                            case measure => simp [numOf]; omega
                          | false =>
                            go_wp2_with (first | (go_at_call 33; refine Calls.mono D1.out ?_; rintro e w9 ⟨rfl, hw9⟩; have hw9' := hw9.symm; clear hw9; subst hw9') | go_in)
                            go_roundw
                            case rel => exact ⟨i + 1, by omega, by go_num, by rw [HCS.out]; rfl, HPUT⟩
                            case measure => simp [numOf]; omega
                        · obtain rfl : i = k := by omega
                          obtain ⟨sh, hsh⟩ : ∃ sh : Nat → Bool, sh = fun j => decide (j < i) && !(at' (setsL N ls) j).testBit v := ⟨_, rfl⟩
                          obtain ⟨T1, hT1⟩ := HRT.out (openB sh)
                          have C32 : Hid (Calls Tryd.prog 32 #[.slice go i gc, .slice (some ⟨bs, 0, none⟩) i i] wr fun r w' => r = .returned (.int .i64 (partsN i (openB sh) T1 : Int)) ∧ Below wr.heap.size wr w') := parts_call i go gc _ wr (HB6.out.1.below hI.out.2) hm (shutAt_row (by rw [hsh]; exact hI.out.1) (by omega)) T1 hT1
                          have hop : ∀ x, (x < i ∧ openB sh x = true) ↔ (x < i ∧ (at' (setsL N ls) x).testBit v = true) := fun x => by
                            refine and_congr_right fun hx => ?_
                            rw [hsh]
                            simp [openB, hx]
                          have HP : Hid (partsN i (openB sh) T1 = 1 ↔ HangP f i (setsL N ls) v) := by
                            have e9 : (fun j => j < i ∧ openB sh j = true) = fun j => j < i ∧ (at' (setsL N ls) j).testBit v = true := funext fun x => propext (hop x)
                            show _ ↔ _
                            rw [links_parts hT1, e9]
                            unfold HangP
                            refine and_congr Iff.rfl (forall_congr' fun a => forall_congr' fun b => ?_)
                            rw [hop a, hop b]
                          have HZ : Hid (cntV (setsL N ls) v i = 0 → ¬ HangP f i (setsL N ls) v) := fun hz hp => by
                            obtain ⟨⟨j, hj, h2⟩, _⟩ := hp
                            rw [cntV_zero.1 hz j hj] at h2
                            cases h2
                          have HRN : Hid (¬ HangP f i (setsL N ls) v → R = false) := fun hn => by
                            cases hR : R with
                            | false => rfl
                            | true => exact absurd ((HLI.out.1 hR).2.2.2 v hlt2) hn
                          have HBI : Hid (Below wc.heap.size wc wr) := hI.out.2
                          clear hsh hop hT1 hI
                          generalize partsN i (openB sh) T1 = pk at *
                          generalize cntV (setsL N ls) v i = cn at *
                          by_cases hz : cn = 0
                          · have k1 : ((cn : Int) == 0) = true := by simp; omega
                            have HR0 : Hid (R = false) := HRN.out (HZ.out hz)
                            clear hz HZ
                            go_wp2
                            go_ret
                            exact ⟨by rw [HR0.out]; rfl, below_next HW.out.2.1 (below_next HB6.out.2 HBI.out)⟩
                          · have k1 : ((cn : Int) == 0) = false := by simp; omega
                            by_cases hp : pk = 1
                            · have k2 : ((pk : Int) != 1) = false := by simp; omega
                              have HN : Hid (∀ u, u < v + 1 → HangP f i (setsL N ls) u) := fun u hu => by
                                by_cases e : u = v
                                · subst e; exact HP.out.1 hp
                                · exact HVV.out u (by omega)
                              clear hz HZ hp
                              go_wp2_with (first | (go_at_call 32; refine Calls.mono C32.out ?_; rintro e w9 ⟨rfl, h9⟩) | go_in)
                              go_roundw
                              case rel => exact ⟨v + 1, by omega, by go_num, ⟨below_next HBI.out h9, HN.out⟩⟩
                              case measure => simp [numOf]; omega
                            · have k2 : ((pk : Int) != 1) = true := by simp; omega
                              have HR0 : Hid (R = false) := HRN.out fun h => hp (HP.out.2 h)
                              clear hz HZ hp
                              go_wp2_with (first | (go_at_call 32; refine Calls.mono C32.out ?_; rintro e w9 ⟨rfl, h9⟩) | go_in)
                              go_ret
                              exact ⟨by rw [HR0.out]; rfl, below_next HW.out.2.1 (below_next HB6.out.2 (below_next HBI.out h9))⟩
                    · obtain rfl : v = N := by omega
                      have HRT : Hid (R = true) := HLI.out.2 ⟨HUO.out, fun h => ⟨HNB.out h, HNC.out h⟩, HHO.out, hV.out.2⟩
                      go_wp2
                      go_ret
                      exact ⟨by rw [HRT.out]; rfl, below_next HW.out.2.1 (below_next HB6.out.2 hV.out.1)⟩
end Go.Proofs.YtdalconphfgepaaDoor
