/- width.Heaviest, where the graph and the bags have no fault. -/
import Derived.Test.YtdalconphfgepaaDoorHeavSW
namespace Go.Proofs.YtdalconphfgepaaDoor
set_option maxRecDepth 8000
open Go.RowKit Go.Maps
attribute [local go_sem ↓] Go.wp_at_zero Go.wp_at_succ
def VR (b14 : Nat) (W : World) (p1 : Int) (p2 : Nat) (E : List Nat) : Nat → Value → World → Prop
  | 0, x, _ => x = .pointer (some ⟨b14, 0, none⟩)
  | 1, x, _ => x = .int .i64 p1
  | 2, x, _ => x = .pointer (some ⟨b14, 1, none⟩)
  | 3, x, _ => x = sv p2
  | 4, x, w => ∃ lo lc, x = .slice lo E.length lc ∧ w.ownsRow W.heap.size 3 1 x E.length (qv E)
  | 5, x, _ => x = .agg #[.int .i64 0, .int .i64 0]
  | 6, x, _ => x = .int .i64 p1
  | 7, x, w => ∃ lo lc, x = .slice lo E.length lc ∧ w.ownsRow W.heap.size 3 1 x E.length (qv E)
  | _, _, _ => False
theorem VR_mono {b14 : Nat} {W : World} {p1 : Int} {p2 : Nat} {E : List Nat} : ∀ i x w w', VR b14 W p1 p2 E i x w → Below w.heap.size w w' → VR b14 W p1 p2 E i x w' := fun i x w w' h hb => by
  match i with
  | 0 => exact h
  | 1 => exact h
  | 2 => exact h
  | 3 => exact h
  | 4 => obtain ⟨lo, lc, h1, h2⟩ := h; exact ⟨lo, lc, h1, own_turns h2 (row := none) ⟨hb.os, hb.tape, hb.output, hb.size, fun j hj _ => hb.block j hj⟩ (fun j hj e => by cases e)⟩
  | 5 => exact h
  | 6 => exact h
  | 7 => obtain ⟨lo, lc, h1, h2⟩ := h; exact ⟨lo, lc, h1, own_turns h2 (row := none) ⟨hb.os, hb.tape, hb.output, hb.size, fun j hj _ => hb.block j hj⟩ (fun j hj e => by cases e)⟩
  | n + 8 => exact h
theorem kids_sc {w : World} {bk m base : Nat} {kl : Nat → List Nat} {vals : Nat → Value} (h : KT w bk m base kl vals) : ∀ i, i < m → ∃ b off xo xc, some (⟨bk, 0, none⟩ : Addr) = some ⟨b, off, none⟩ ∧ w.cell? ⟨b, off + i, none⟩ = some (.slice xo (kl i).length xc) ∧ NumF w xo (kl i).length (fun j => (((kl i).getD j 0 : Nat) : Int)) := fun i hi => by
  obtain ⟨xo, xc, e⟩ := h.form hi
  refine ⟨bk, 0, xo, xc, rfl, by rw [Nat.zero_add, ← e]; exact h.row.cell hi, fun j hj => ?_⟩
  have ho := h.own i hi
  rw [e] at ho
  obtain ⟨g, e1, c⟩ := qcell ho (k := j) (u := (kl i)[j]) (List.getElem?_eq_getElem hj)
  refine ⟨g, 0, e1, ?_⟩
  rw [Nat.zero_add, c]
  simp [hj]
theorem wt_all {wt : Nat → Int} {N wl : Nat} (h : (wtR N wt wl).1 = 0) (h0 : ∀ i, wl ≤ i → wt i = 0) : wl = N ∧ wtR N wt wl = (0, 0) ∧ ∀ i, -1000000 ≤ wt i ∧ wt i ≤ 1000000 := by
  unfold wtR at h ⊢
  split at h
  · exact absurd h (by decide)
  · next hn =>
    rw [if_neg hn]
    obtain ⟨h1, h2⟩ := wtF_ok h
    refine ⟨by omega, h1, fun i => ?_⟩
    by_cases hi : i < wl
    · exact h2 i (Nat.zero_le _) (by omega)
    · rw [h0 i (by omega)]; omega
theorem scale_best {w : World} {ao wo uo : Option Addr} {cap wc uc N m bb : Nat} {es : List E2} {f wt : Nat → Int} {bags : List Nat} (hE : EdgesAt w (.slice ao es.length cap) (pz es)) (hck : chk N (pz es) = (0, 0)) (hN : N ≤ 100) (hm : m ≤ 100) (hF : NumF w uo m f) (hW : NumF w wo N wt) (hwb : ∀ i, -1000000 ≤ wt i ∧ wt i ≤ 1000000) (hS : SetsAt w bb bags) (hlb : bags.length = m) (hbit : ∀ j v, (at' bags j).testBit v = true → v < N) (hl : liesB N (pz es) bags f = true) (hcnt : ∀ i, countS (at' bags i) ≤ 12) (ht : T64 w) :
    Calls Tryd.prog 41 #[.agg #[.int .i64 (N : Int), .slice ao es.length cap], .slice wo N wc, sl bb m, .slice uo m uc] w fun e w' => (∃ sc, e = .returned sc ∧ ∀ A, Below w'.heap.size w' A → Calls Tryd.prog 42 #[sc] A fun e w2 => (∃ p, e = .returned (lv p) ∧ HvA (nearBy N es) wt N p) ∧ Below A.heap.size A w2) ∧ Below w.heap.size w w' := by
  obtain ⟨_, _, _, hel, hgood⟩ := chk_good (n := (N : Int)) (es := pz es) (by rw [hck])
  have hes : ∀ e ∈ es, e.1 < N ∧ e.2 < N := fun e he => by
    have := hgood ((e.1 : Int), (e.2 : Int)) (List.mem_map.2 ⟨e, he, rfl⟩)
    simp only at this
    omega
  rw [pz_len] at hel
  have hup : ∀ j, j < m → f j = -1 ∨ ∃ u : Nat, f j = u ∧ u < m := fun j hj => by
    have h1 := ((lies_iff (fun e he => (hgood e he).1)).1 hl).1 j (by omega)
    rw [hlb] at h1
    rcases h1 with h1 | h1
    · exact Or.inl h1
    · obtain ⟨u, e⟩ := Int.eq_ofNat_of_zero_le h1.1.1
      exact Or.inr ⟨u, e, by omega⟩
  refine (newScale_call hE hN hes (by omega) hm hF hup).mono ?_
  rintro e w' ⟨⟨bn, bk, vals, rfl, hsn, hkt⟩, hB⟩
  refine ⟨⟨_, rfl, fun A hA => ?_⟩, hB⟩
  by_cases h0 : m = 0
  · subst h0
    have hN0 : N = 0 := by
      unfold liesB at hl
      rw [if_pos hlb] at hl
      simpa using hl
    subst hN0
    refine (best_none).mono ?_
    rintro e w2 ⟨rfl, hB2⟩
    refine ⟨⟨(0, 0), rfl, by decide, (wsum_zero wt).symm, fun a b ha => ?_, fun x hx => ?_, fun I hI _ hb => ?_⟩, hB2⟩
    · rw [Nat.zero_testBit] at ha; cases ha
    · rw [Nat.zero_testBit] at hx; cases hx
    · have : I = 0 := by
        refine Nat.eq_of_testBit_eq fun x => ?_
        rw [Nat.zero_testBit]
        cases e : I.testBit x with
        | false => rfl
        | true => have := hb x e; omega
      rw [this, wsum_zero]
      exact Int.le_refl _
  · obtain ⟨d, D, T, hD, r, hr, hu, hs⟩ := td_of hes hgood hl hlb hbit (by omega)
    rw [root_is hr.1 hr.2 hu]
    have hirr : ∀ a, (at' (nearBy N es) a).testBit a = false := fun a => by
      cases e : (at' (nearBy N es) a).testBit a with
      | false => rfl
      | true =>
        obtain ⟨e', he', hc⟩ := (nearBy_iff hes a a).1 e
        have := (hgood ((e'.1 : Int), (e'.2 : Int)) (List.mem_map.2 ⟨e', he', rfl⟩)).2
        simp only [ne_eq] at this
        omega
    have S : Sd N m (nearBy N es) bags f wt (kidsTo f m) d D := ⟨T, nearBy_len N es, hlb, hN, hm, hirr, hwb, hcnt, fun i k _ => kidsTo_mem, kidsTo_nodup f m, fun i => Nat.le_trans (kidsTo_len f m i) hm, hD⟩
    have hBA := below_next hB hA
    exact best_call (wc := wc) (kc := m) S ⟨hsn.under hA, hS.under hBA, hW.below hBA, kids_sc (hkt.under hA), ht.under hBA⟩ hr.1 hr.2 hs
set_option maxHeartbeats 16000000 in
theorem heavy_good {w : World} {x : Value} {ao wo uo : Option Addr} {cap wl wc uc N m : Nat} {es : List E2} {ls : List (List Int)} {f wt : Nat → Int} (hE : EdgesAt w (.slice ao es.length cap) (pz es)) (hx : RowsAt w x ls) (hF : NumF w uo m f) (hW : NumF w wo wl wt) (hwl : wl ≤ 4611686018427387904) (hwt0 : ∀ i, wl ≤ i → wt i = 0) (ht : T64 w) (hck : chk N (pz es) = (0, 0)) (hN : N ≤ 100) (hlm : ls.length = m) (hm : m ≤ 100) (hop : (openR N ls 0).1 = 0) :
    Calls Tryd.prog 21 #[.agg #[.int .i64 (N : Int), .slice ao es.length cap], .slice wo wl wc, x, .slice uo m uc] w fun e w' => HyA w' w.heap.size N (pz es) wt (hvF N (pz es) ls f m wt wl) e ∧ Below w.heap.size w w' := by
  obtain ⟨xo, xc, hxe, hx9⟩ := id hx
  clear hx9
  obtain ⟨_, _, _, _, hgood⟩ := chk_good (n := (N : Int)) (es := pz es) (by rw [hck])
  have hes : ∀ e ∈ es, e.1 < N ∧ e.2 < N := fun e he => by
    have := hgood ((e.1 : Int), (e.2 : Int)) (List.mem_map.2 ⟨e, he, rfl⟩)
    simp only at this
    omega
  have C37 : Hid (∀ A, Below w.heap.size w A → Calls Tryd.prog 37 #[.agg #[.int .i64 (N : Int), .slice ao es.length cap], x, .slice uo m uc] A fun e w' => (∃ b, e = .returned (.tuple #[sl b m, .agg #[.int .i64 0, .int .i64 0]]) ∧ SetsAt w' b (setsL N ls)) ∧ Below A.heap.size A w') := fun A hA => by
    refine (open_ok (hE.below hA) (hx.below hA) hck hN).mono ?_
    rintro e w' ⟨hB, h⟩
    rw [if_neg (by omega), if_neg (by omega), if_pos hop, hlm] at h
    obtain ⟨b, h1, _, h2⟩ := h
    exact ⟨⟨b, h1, h2⟩, hB⟩
  have hlb : (setsL N ls).length = m := by simp [setsL, hlm]
  have hbit : ∀ j v, (at' (setsL N ls) j).testBit v = true → v < N := setsL_bits
  have C39 : Hid (∀ A, Below w.heap.size w A → Calls Tryd.prog 39 #[.int .i64 (N : Int), .slice wo wl wc] A fun e w' => e = .returned (.agg #[.int .i64 (wtR N wt wl).1, .int .i64 (wtR N wt wl).2]) ∧ Below A.heap.size A w') := fun A hA => checkW_call (hW.below hA) hwl
  have C38 : Hid (∀ A b, Below w.heap.size w A → SetsAt A b (setsL N ls) → Calls Tryd.prog 38 #[.agg #[.int .i64 (N : Int), .slice ao es.length cap], sl b m, .slice uo m uc] A fun e w' => e = .returned (.bool (liesB N (pz es) (setsL N ls) f)) ∧ Below A.heap.size A w') := fun A b hA hb => lies_call (hE.below hA) hck hN hb hlb hm (hF.below hA) hbit (ht.under hA)
  have C40 : Hid (∀ A b, SetsAt A b (setsL N ls) → Calls Tryd.prog 40 #[sl b m] A fun e w' => e = .returned (.agg #[.int .i64 (smF (fun i => countS (at' (setsL N ls) i)) m 0).1, .int .i64 (smF (fun i => countS (at' (setsL N ls) i)) m 0).2]) ∧ Below A.heap.size A w') := fun A b hb => checkS_call hb hlb (by omega)
  have C41 : Hid ((wtR N wt wl).1 = 0 → liesB N (pz es) (setsL N ls) f = true → (smF (fun i => countS (at' (setsL N ls) i)) m 0).1 = 0 → ∀ A b, Below w.heap.size w A → SetsAt A b (setsL N ls) → Calls Tryd.prog 41 #[.agg #[.int .i64 (N : Int), .slice ao es.length cap], .slice wo wl wc, sl b m, .slice uo m uc] A fun e w' => (∃ sc, e = .returned sc ∧ ∀ A', Below w'.heap.size w' A' → Calls Tryd.prog 42 #[sc] A' fun e w2 => (∃ p, e = .returned (lv p) ∧ HvA (nearBy N es) wt N p) ∧ Below A'.heap.size A' w2) ∧ Below A.heap.size A w') := fun h1 h2 h3 A b hA hb => by
    obtain ⟨rfl, _, hwb⟩ := wt_all h1 hwt0
    refine scale_best (hE.below hA) hck hN hm (hF.below hA) (hW.below hA) hwb hb hlb hbit h2 (fun i => ?_) (ht.under hA)
    by_cases hi : i < m
    · exact (smF_ok h3).2 i (Nat.zero_le _) (by omega)
    · have : at' (setsL wl ls) i = 0 := by simp [at', List.getElem?_eq_none (show (setsL wl ls).length ≤ i by omega)]
      rw [this]; decide
  have HHV : Hid (hvF N (pz es) ls f m wt wl = if (wtR N wt wl).1 ≠ 0 then wtR N wt wl else if liesB N (pz es) (setsL N ls) f = false then (7, 0) else smF (fun i => countS (at' (setsL N ls) i)) m 0) := by
    show _ = _
    have hf : fitsR (N : Int) (pz es) ls f m = (liesB N (pz es) (setsL N ls) f, 0, 0) := by
      unfold fitsR
      rw [if_neg (by rw [hck]; simp), if_neg (by omega), if_neg (by omega), Int.toNat_natCast, if_pos hop]
    unfold hvF
    rw [hf, Int.toNat_natCast, hlm]
    simp only [ne_eq, not_true, if_false]
  have HW2 : Hid ((wtR N wt wl).1 = 0 → wtR N wt wl = (0, 0)) := fun h => (wt_all h hwt0).2.1
  have HSM : Hid ((smF (fun i => countS (at' (setsL N ls) i)) m 0).1 = 0 → smF (fun i => countS (at' (setsL N ls) i)) m 0 = (0, 0)) := fun h => (smF_ok h).1
  have HT : Hid (T64 w) := ht
  have HES : Hid (∀ e ∈ es, e.1 < N ∧ e.2 < N) := hes
  generalize wtR N wt wl = WR at *
  generalize smF (fun i => countS (at' (setsL N ls) i)) m 0 = SM at *
  generalize liesB N (pz es) (setsL N ls) f = LB at *
  generalize hvF N (pz es) ls f m wt wl = HV at *
  obtain ⟨wc0, wd0⟩ := WR
  obtain ⟨sc0, sd0⟩ := SM
  simp only at C39 C40 C41 HHV HW2 HSM
  clear hE hx hF hW hwt0 ht hck hop hgood hes hlm hxe hlb hbit
  go_enter Tryd.func21, Tryd.ntmps21
  go_upto_region 1 with (fail)
  have y4 : Two ((w.alloc (Obj.cells #[.int .i64 (N : Int), .slice ao es.length cap] 24)).alloc (Obj.cells #[.int .i64 0, .int .i64 0] 27)) w.heap.size (.int .i64 (N : Int)) (.slice ao es.length cap) 24 := two_alloc (two_new _ _ _ _) _
  have y10 : Two ((w.alloc (Obj.cells #[.int .i64 (N : Int), .slice ao es.length cap] 24)).alloc (Obj.cells #[.int .i64 0, .int .i64 0] 27)) (w.heap.size + 1) (.int .i64 0) (.int .i64 0) 27 := two_nxt _ _ _ _ _
  have hB2 : Below w.heap.size w ((w.alloc (Obj.cells #[.int .i64 (N : Int), .slice ao es.length cap] 24)).alloc (Obj.cells #[.int .i64 0, .int .i64 0] 27)) := below_alloc (below_alloc (Below.refl _ w) _) _
  obtain ⟨b4, hb4⟩ : ∃ q, q = w.heap.size := ⟨_, rfl⟩
  obtain ⟨b10, hb10⟩ : ∃ b, b = w.heap.size + 1 := ⟨_, rfl⟩
  rw [← hb10] at y10 ⊢
  rw [← hb4] at y4 ⊢
  generalize (w.alloc (Obj.cells #[.int .i64 (N : Int), .slice ao es.length cap] 24)).alloc (Obj.cells #[.int .i64 0, .int .i64 0] 27) = W2 at *
  have HB2 : Hid (Below w.heap.size w W2 ∧ Two W2 b10 (.int .i64 0) (.int .i64 0) 27 ∧ Two W2 b4 (.int .i64 (N : Int)) (.slice ao es.length cap) 24 ∧ w.heap.size ≤ b10 ∧ b4 ≠ b10) := ⟨hB2, y10, y4, by omega, by omega⟩
  obtain ⟨c0, c1⟩ := cell_two y4
  have C37' : Hid _ := C37.out W2 hB2
  clear hb4 hb10 y4 y10 hB2 C37
  go_upto_region 2 with (first | (go_at_call 37; refine Calls.mono C37'.out ?_; rintro e w3 ⟨⟨bb, rfl, hSb⟩, h3⟩; obtain ⟨q1, q2, q3, q4, q5, q6⟩ := store_two' (two_next HB2.out.2.1 h3) (.int .i64 0) (.int .i64 0)) | fail)
  have HW4 : Hid (∀ A, Below ((w3.setCell ⟨b10, 0, none⟩ (.int .i64 0)).setCell ⟨b10, 1, none⟩ (.int .i64 0)).heap.size ((w3.setCell ⟨b10, 0, none⟩ (.int .i64 0)).setCell ⟨b10, 1, none⟩ (.int .i64 0)) A → Two A b10 (.int .i64 0) (.int .i64 0) 27 ∧ Two A b4 (.int .i64 (N : Int)) (.slice ao es.length cap) 24 ∧ SetsAt A bb (setsL N ls) ∧ Below w.heap.size w A) := fun A hA => by
    have t10 := two_next HB2.out.2.1 h3
    have htu := (setCell_turns w3 b10 0 (.int .i64 0)).trans (setCell_turns (w3.setCell ⟨b10, 0, none⟩ (.int .i64 0)) b10 1 (.int .i64 0))
    have nb : bb ≠ b10 := fun e => by
      obtain ⟨⟨cur, h1, _⟩, _⟩ := hSb
      have h2 : w3.heap[b10]? = some (.cells _ 27 (0, 0)) := t10
      rw [e, h2] at h1
      cases h1
    refine ⟨two_next (two_setN t10) hA, two_next (two_turns (two_next HB2.out.2.2.1 h3) htu HB2.out.2.2.2.2) hA, (hSb.block (htu.block bb hSb.ltS nb)).under hA, ?_⟩
    exact below_next (((below_next HB2.out.1 h3).setCell (p := ⟨b10, 0, none⟩) HB2.out.2.2.2.1 (.int .i64 0)).setCell (p := ⟨b10, 1, none⟩) HB2.out.2.2.2.1 (.int .i64 0)) hA
  clear h3 q1 q2 q3 q4 q5 q6 c0 c1 C37' hSb
  generalize (w3.setCell ⟨b10, 0, none⟩ (.int .i64 0)).setCell ⟨b10, 1, none⟩ (.int .i64 0) = W4 at *
  obtain ⟨k10, k4, _, kB⟩ := HW4.out _ (Below.refl _ _)
  obtain ⟨a0, a1⟩ := cell_two k10
  obtain ⟨a2, a3⟩ := cell_two k4
  have HKB : Hid _ := kB
  clear k10 k4 kB
  go_upto_region 5 with (first | (go_at_call 39; refine Calls.mono (C39.out _ HKB.out) ?_; rintro e w5 ⟨rfl, h5⟩) | fail)
  have x12 := two_new w5 (.int .i64 wc0) (.int .i64 wd0) 27
  have hB6 := below_alloc h5 (Obj.cells #[.int .i64 wc0, .int .i64 wd0] 27)
  generalize w5.alloc (Obj.cells #[.int .i64 wc0, .int .i64 wd0] 27) = W6 at *
  generalize w5.heap.size = b12 at *
  have HW6 : Hid (∀ A, Below W6.heap.size W6 A → Two A b10 (.int .i64 0) (.int .i64 0) 27 ∧ Two A b4 (.int .i64 (N : Int)) (.slice ao es.length cap) 24 ∧ SetsAt A bb (setsL N ls) ∧ Below w.heap.size w A) := fun A hA => HW4.out A (below_next hB6 hA)
  obtain ⟨d0, d1⟩ := cell_two x12
  clear hB6 h5 x12 a0 a1 a2 a3 C39 HW4 HKB
  by_cases hw0 : wc0 = 0
  · have kw : (wc0 != 0) = false := by simpa using hw0
    have HE1 : Hid (HV = if LB = false then (7, 0) else (sc0, sd0)) := HHV.out.trans (if_neg (by simpa using hw0))
    have C41' : Hid _ := C41.out hw0
    clear HHV C41 hw0 HW2
    obtain ⟨k10, k4, kS, kB⟩ := HW6.out _ (Below.refl _ _)
    obtain ⟨a0, a1⟩ := cell_two k10
    obtain ⟨a2, a3⟩ := cell_two k4
    have C38' : Hid _ := C38.out W6 bb kB kS
    clear k10 k4 kS kB C38
    cases LB with
    | false =>
      have HE2 : Hid (HV = (7, 0)) := HE1.out.trans (if_pos rfl)
      clear HE1 C41'
      go_upto_region 8 with (first | (go_at_call 38; refine Calls.mono C38'.out ?_; rintro e w7 ⟨rfl, h7⟩; obtain ⟨q1, q2, q3, q4, q5, q6⟩ := store_two' (HW6.out _ h7).1 (.int .i64 7) (.int .i64 0); have HB7 : Hid _ := (HW6.out _ h7).2.2.2) | fail)
      go_wp2
      refine bodyPost_ret (v := .tuple #[.int .i64 0, .slice none 0 0, .agg #[.int .i64 7, .int .i64 0]]) ?_ rfl ⟨?_, (HB7.out.setCell HB2.out.2.2.2.1 _).setCell HB2.out.2.2.2.1 _⟩
      · simp [results, Tryd.results21, go_sem, q5, q6]
      · rw [HE2.out]
        unfold HyA
        exact Or.inl ⟨by decide, rfl⟩
    | true =>
      have HE2 : Hid (HV = (sc0, sd0)) := HE1.out.trans (if_neg (by simp))
      clear HE1
      go_upto_region 9 with (first | (go_at_call 38; refine Calls.mono C38'.out ?_; rintro e w7 ⟨rfl, h7⟩) | fail)
      have HW7 : Hid (∀ A, Below w7.heap.size w7 A → Two A b10 (.int .i64 0) (.int .i64 0) 27 ∧ Two A b4 (.int .i64 (N : Int)) (.slice ao es.length cap) 24 ∧ SetsAt A bb (setsL N ls) ∧ Below w.heap.size w A) := fun A hA => HW6.out A (below_next h7 hA)
      have C40' : Hid _ := C40.out w7 bb (HW7.out _ (Below.refl _ _)).2.2.1
      clear C40 h7 a0 a1 a2 a3 d0 d1 HW6
      go_upto_region 10 with (first | (go_at_call 40; refine Calls.mono C40'.out ?_; rintro e w9 ⟨rfl, h9⟩) | fail)
      have x13 := two_new w9 (.int .i64 sc0) (.int .i64 sd0) 27
      have hB10 := below_alloc h9 (Obj.cells #[.int .i64 sc0, .int .i64 sd0] 27)
      generalize w9.alloc (Obj.cells #[.int .i64 sc0, .int .i64 sd0] 27) = W10 at *
      generalize w9.heap.size = b13 at *
      have HW10 : Hid (∀ A, Below W10.heap.size W10 A → Two A b10 (.int .i64 0) (.int .i64 0) 27 ∧ Two A b4 (.int .i64 (N : Int)) (.slice ao es.length cap) 24 ∧ SetsAt A bb (setsL N ls) ∧ Below w.heap.size w A) := fun A hA => HW7.out A (below_next hB10 hA)
      obtain ⟨d0, d1⟩ := cell_two x13
      clear x13 hB10 h9 HW7 C40'
      by_cases hs0 : sc0 = 0
      · have ks : (sc0 != 0) = false := by simpa using hs0
        have HE3 : Hid (HV = (0, 0)) := HE2.out.trans (HSM.out hs0)
        have C41b : Hid _ := C41'.out trivial hs0
        obtain ⟨_, k4, kS, kB⟩ := HW10.out _ (Below.refl _ _)
        obtain ⟨a2, a3⟩ := cell_two k4
        have C41c : Hid _ := C41b.out W10 bb kB kS
        clear hs0 HE2 HSM C41' C41b k4 kS kB
        go_upto_region 13 with (first | (go_at_call 41; refine Calls.mono C41c.out ?_; rintro e w11 ⟨⟨scv, rfl, hC42⟩, h11⟩; have C42 : Hid _ := hC42 w11 (Below.refl _ _); clear hC42) | (go_at_call 42; refine Calls.mono C42.out ?_; rintro e w12 ⟨⟨⟨p1, p2⟩, rfl, hHV⟩, h12⟩) | fail)
        have x14 : LBox (w12.alloc (Obj.cells #[.int .i64 p1, .int .u64 (lo64 p2 : Int), .int .u64 (hi64 p2 : Int)] 78)) w12.heap.size (p1, p2) := box_new _ _ _
        have hB13 := below_alloc (below_next h11 h12) (Obj.cells #[.int .i64 p1, .int .u64 (lo64 p2 : Int), .int .u64 (hi64 p2 : Int)] 78)
        generalize w12.alloc (Obj.cells #[.int .i64 p1, .int .u64 (lo64 p2 : Int), .int .u64 (hi64 p2 : Int)] 78) = W13 at *
        generalize w12.heap.size = b14 at *
        have HW13 : Hid (∀ A, Below W13.heap.size W13 A → Two A b10 (.int .i64 0) (.int .i64 0) 27 ∧ LBox A b14 (p1, p2) ∧ Below w.heap.size w A) := fun A hA => by
          obtain ⟨k1, _, _, k2⟩ := HW10.out A (below_next hB13 hA)
          exact ⟨k1, box_next x14 hA, k2⟩
        have HHA : Hid (HvA (nearBy N es) wt N (p1, p2)) := hHV
        have C43 : Hid (∀ A, T64 A → Calls Tryd.prog 43 #[sv p2] A fun e w' => RisA A w' e (elems p2)) := fun A hA => rising_call HHA.out.1 hA
        clear x14 hB13 h11 h12 hHV d0 d1 a2 a3 HW10 C41c C42
        obtain ⟨E, hEE⟩ : ∃ E, E = elems p2 := ⟨_, rfl⟩
        have HEE : Hid (E = elems p2) := hEE
        rw [← hEE] at C43
        clear hEE
        refine region_ext (J := SQ W13 8 (VR b14 W13 p1 p2 E) (fun g A => ∃ lo lc, g 7 = .slice lo E.length lc ∧ A.ownsRow W13.heap.size 3 1 (.slice lo E.length lc) E.length (qv E) ∧ g 6 = .int .i64 p1 ∧ Two A b10 (.int .i64 0) (.int .i64 0) 27 ∧ Below w.heap.size w A)) (by kernel_rfl) (by kernel_rfl) (by kernel_rfl) SQ.start ?_ ?_
        · intro i0 o hi L0 xv a w1 hS hL hd hc hX
          match i0, hi with
          | 0, hi =>
            cases hi
            have s14 := hX.out (s := 14) rfl
            refine wpOp_value rfl rfl (v := .pointer (some ⟨b14, 0, none⟩)) (w' := w1) ?_ ⟨_, rfl, hS.put VR_mono hL (by omega) (Below.refl _ _) rfl⟩
            simp [go_sem, Act.eval, s14]
          | 1, hi =>
            cases hi
            have l0 := hd ⟨0, .data⟩ (by simp) rfl
            have v0 := hS.tl (j := 0) hL (by omega) (by omega) l0
            have r0 := hX.rd 0 _ 52 rfl rfl l0
            simp only [VR] at v0
            rw [v0] at r0
            obtain ⟨c0, c1, c2⟩ := cell_three (HW13.out _ (hS.early hL (by omega))).2.1
            refine wpOp_value rfl rfl (v := .int .i64 p1) (w' := w1) ?_ ⟨_, rfl, hS.put VR_mono hL (by omega) (Below.refl _ _) rfl⟩
            simp [go_sem, Act.eval, r0, c0]
          | 2, hi =>
            cases hi
            have s14 := hX.out (s := 14) rfl
            refine wpOp_value rfl rfl (v := .pointer (some ⟨b14, 1, none⟩)) (w' := w1) ?_ ⟨_, rfl, hS.put VR_mono hL (by omega) (Below.refl _ _) rfl⟩
            simp [go_sem, Act.eval, s14]
          | 3, hi =>
            cases hi
            have l2 := hd ⟨2, .data⟩ (by simp) rfl
            have v2 := hS.tl (j := 2) hL (by omega) (by omega) l2
            have r2 := hX.rd 2 _ 54 rfl rfl l2
            simp only [VR] at v2
            rw [v2] at r2
            obtain ⟨c0, c1, c2⟩ := cell_three (HW13.out _ (hS.early hL (by omega))).2.1
            refine wpOp_value rfl rfl (v := sv p2) (w' := w1) ?_ ⟨_, rfl, hS.put VR_mono hL (by omega) (Below.refl _ _) rfl⟩
            simp [go_sem, Act.eval, r2, c1, c2]
          | 4, hi =>
            cases hi
            have l3 := hd ⟨3, .data⟩ (by simp) rfl
            have v3 := hS.tl (j := 3) hL (by omega) (by omega) l3
            have r3 := hX.rd 3 _ 55 rfl rfl l3
            simp only [VR] at v3
            rw [v3] at r3
            refine wpOp_call (f := 43) (args := #[sv p2]) rfl rfl (w' := w1) ?_ ?_
            · simp [go_sem, Act.eval, r3]
            · have hBe := hS.early hL (by omega)
              refine (C43.out w1 (HT.out.under (HW13.out _ hBe).2.2)).mono ?_
              rintro e w2 ⟨lo, lc, rfl, ho, hB3⟩
              exact ⟨_, rfl, _, rfl, hS.put VR_mono hL (by omega) hB3 ⟨lo, lc, rfl, ownsRow_base ho hBe.size⟩⟩
          | 5, hi =>
            cases hi
            refine wpOp_value rfl rfl (v := .agg #[.int .i64 0, .int .i64 0]) (w' := w1) ?_ ⟨_, rfl, hS.put VR_mono hL (by omega) (Below.refl _ _) rfl⟩
            simp [go_sem, Act.eval]
          | 6, hi =>
            cases hi
            have l1 := hd ⟨1, .data⟩ (by simp) rfl
            have v1 := hS.tl (j := 1) hL (by omega) (by omega) l1
            have r1 := hX.rd 1 _ 53 rfl rfl l1
            simp only [VR] at v1
            rw [v1] at r1
            refine wpOp_value rfl rfl (v := .int .i64 p1) (w' := w1) ?_ ⟨_, rfl, hS.put VR_mono hL (by omega) (Below.refl _ _) rfl⟩
            simp [go_sem, Act.eval, r1]
          | 7, hi =>
            cases hi
            have l4 := hd ⟨4, .data⟩ (by simp) rfl
            have v4 := hS.tl (j := 4) hL (by omega) (by omega) l4
            have r4 := hX.rd 4 _ 56 rfl rfl l4
            refine wpOp_value rfl rfl (v := xv 4) (w' := w1) ?_ ⟨_, rfl, hS.put VR_mono hL (by omega) (Below.refl _ _) v4⟩
            simp [go_sem, Act.eval, r4]
          | 8, hi =>
            cases hi
            have hall : ∀ j, j < 8 → L0 j = true := fun j hj => by
              have : j = 0 ∨ j = 1 ∨ j = 2 ∨ j = 3 ∨ j = 4 ∨ j = 5 ∨ j = 6 ∨ j = 7 := by omega
              rcases this with rfl | rfl | rfl | rfl | rfl | rfl | rfl | rfl
              · exact hd ⟨0, .phase⟩ (by simp) rfl
              · exact hd ⟨1, .phase⟩ (by simp) rfl
              · exact hd ⟨2, .phase⟩ (by simp) rfl
              · exact hd ⟨3, .phase⟩ (by simp) rfl
              · exact hd ⟨4, .phase⟩ (by simp) rfl
              · exact hd ⟨5, .phase⟩ (by simp) rfl
              · exact hd ⟨6, .phase⟩ (by simp) rfl
              · exact hd ⟨7, .phase⟩ (by simp) rfl
            have v5 := hS.told hL 5 (by omega) (hall 5 (by omega))
            have r5 := (hX.rd 5 _ 57 rfl rfl (hall 5 (by omega))).trans v5
            have s10 := hX.out (s := 10) rfl
            have v6 := hS.told hL 6 (by omega) (hall 6 (by omega))
            obtain ⟨lo, lc, e7, ho⟩ := hS.told hL 7 (by omega) (hall 7 (by omega))
            obtain ⟨t10, _, hBw⟩ := HW13.out _ (hS.w0 hL)
            obtain ⟨q1, q2, q3, q4, _, _⟩ := store_two' t10 (.int .i64 0) (.int .i64 0)
            have htu := (setCell_turns w1 b10 0 (.int .i64 0)).trans (setCell_turns (w1.setCell ⟨b10, 0, none⟩ (.int .i64 0)) b10 1 (.int .i64 0))
            refine wpOp_skip rfl rfl (w' := (w1.setCell ⟨b10, 0, none⟩ (.int .i64 0)).setCell ⟨b10, 1, none⟩ (.int .i64 0)) ?_ ⟨undef, rfl, hS.last hall ⟨lo, lc, by rw [updV_ne _ _ (by omega)]; exact e7, ?_, by rw [updV_ne _ _ (by omega)]; exact v6, two_setN t10, (hBw.setCell HB2.out.2.2.2.1 _).setCell HB2.out.2.2.2.1 _⟩⟩
            · simp [go_sem, Act.eval, r5, s10, q1, q2, q3, q4]
            · rw [e7] at ho
              refine own_turns ho htu.grown (fun g hg e => ?_)
              cases e
              obtain ⟨cs, z, hc⟩ := own_cells3 ho hg
              have h2 : w1.heap[b10]? = some (.cells _ 27 (0, 0)) := t10
              rw [hc] at h2
              cases h2
          | n + 9, hi => cases hi
        · intro L0 xv w1 hS hall
          obtain ⟨lo, lc, e7, ho, e6, t10, hBF⟩ := hS.fin (hall 8 (by simp))
          simp only [puts, Act.put, e6, e7, List.setIfInBounds_toArray, List.set_cons_succ, List.set_cons_zero]
          obtain ⟨r0, r1⟩ := cell_two t10
          have HF : Hid _ := And.intro ho hBF
          clear hS hall ho hBF t10 e6 e7
          generalize xv 0 = z0
          generalize xv 1 = z1
          generalize xv 2 = z2
          generalize xv 3 = z3
          generalize xv 4 = z4
          generalize xv 5 = z5
          generalize xv 8 = z8
          go_wp2
          refine bodyPost_ret (v := .tuple #[.int .i64 p1, .slice lo E.length lc, .agg #[.int .i64 0, .int .i64 0]]) ?_ rfl ⟨?_, HF.out.2⟩
          · simp [results, Tryd.results21, go_sem, r0, r1]
          · rw [HE3.out]
            unfold HyA
            refine Or.inr ⟨rfl, N, es, (p1, p2), lo, lc, rfl, rfl, HES.out, HHA.out, ?_, ?_⟩
            · rw [HEE.out]
            · have := HF.out.1
              rw [HEE.out] at this
              exact ownsRow_base this (HW13.out _ (Below.refl _ _)).2.2.size
      · have ks : (sc0 != 0) = true := by simpa using hs0
        have HSN : Hid (sc0 ≠ 0) := hs0
        obtain ⟨k10, _, _, kB⟩ := HW10.out _ (Below.refl _ _)
        have HB10 : Hid _ := And.intro k10 kB
        clear hs0 k10 kB C41'
        go_upto_region 11 with (fail)
        have g0 := cell_growD d0
        have g1 := cell_growD d1
        clear d0 d1
        refine wp_region_tailT 3 (by kernel_rfl) (by kernel_rfl) (by kernel_rfl) (by decide) ?_
        simp only [List.take_succ_cons, List.take_zero, List.drop_succ_cons, List.drop_zero]
        repeat (go_big_quiet_step (fail))
        refine wpQuiet_nil ?_
        rintro _ ⟨gp, rfl⟩
        have hB8 := growD_below W10 gp
        clear g0 g1
        generalize growD W10 gp = w8 at *
        obtain ⟨q1, q2, q3, q4, q5, q6⟩ := store_two' (two_next HB10.out.1 hB8) (.int .i64 sc0) (.int .i64 sd0)
        have HB8 : Hid (Below w.heap.size w w8) := below_next HB10.out.2 hB8
        clear hB8
        go_wp2
        refine bodyPost_ret (v := .tuple #[.int .i64 0, .slice none 0 0, .agg #[.int .i64 sc0, .int .i64 sd0]]) ?_ rfl ⟨?_, (HB8.out.setCell HB2.out.2.2.2.1 _).setCell HB2.out.2.2.2.1 _⟩
        · simp [results, Tryd.results21, go_sem, q5, q6]
        · rw [HE2.out]
          unfold HyA
          exact Or.inl ⟨HSN.out, rfl⟩
  · have kw : (wc0 != 0) = true := by simpa using hw0
    have HE1 : Hid (HV = (wc0, wd0)) := HHV.out.trans (if_pos hw0)
    have HWN : Hid (wc0 ≠ 0) := hw0
    obtain ⟨k10, _, _, kB⟩ := HW6.out _ (Below.refl _ _)
    have HB6 : Hid _ := And.intro k10 kB
    clear HHV hw0 k10 kB
    go_upto_region 6 with (fail)
    have g0 := cell_growD d0
    have g1 := cell_growD d1
    clear d0 d1
    refine wp_region_tailT 3 (by kernel_rfl) (by kernel_rfl) (by kernel_rfl) (by decide) ?_
    simp only [List.take_succ_cons, List.take_zero, List.drop_succ_cons, List.drop_zero]
    repeat (go_big_quiet_step (fail))
    refine wpQuiet_nil ?_
    rintro _ ⟨gp, rfl⟩
    have hB8 := growD_below W6 gp
    clear g0 g1
    generalize growD W6 gp = w8 at *
    obtain ⟨q1, q2, q3, q4, q5, q6⟩ := store_two' (two_next HB6.out.1 hB8) (.int .i64 wc0) (.int .i64 wd0)
    have HB8 : Hid (Below w.heap.size w w8) := below_next HB6.out.2 hB8
    clear hB8
    go_wp2
    refine bodyPost_ret (v := .tuple #[.int .i64 0, .slice none 0 0, .agg #[.int .i64 wc0, .int .i64 wd0]]) ?_ rfl ⟨?_, (HB8.out.setCell HB2.out.2.2.2.1 _).setCell HB2.out.2.2.2.1 _⟩
    · simp [results, Tryd.results21, go_sem, q5, q6]
    · rw [HE1.out]
      unfold HyA
      exact Or.inl ⟨HWN.out, rfl⟩
end Go.Proofs.YtdalconphfgepaaDoor
