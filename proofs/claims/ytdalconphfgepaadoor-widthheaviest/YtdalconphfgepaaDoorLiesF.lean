/- A graph over bags: width.lies, width.Fits. R.FitsFault tells what Fits tells. -/
import Derived.Test.YtdalconphfgepaaDoorHoldMC
namespace Go.Proofs.YtdalconphfgepaaDoor
set_option maxRecDepth 8000
open Go.RowKit Go.Maps
attribute [local go_sem ↓] Go.wp_at_zero Go.wp_at_succ
def liesB (n : Nat) (es : List Pair) (bags : List Nat) (f : Nat → Int) : Bool := if bags.length = 0 then n == 0 else treeB bags.length f && holdB es bags && hangB n bags f bags.length
theorem NumF.below {w w' : World} {vo : Option Addr} {n : Nat} {f : Nat → Int} (h : NumF w vo n f) (hb : Below w.heap.size w w') : NumF w' vo n f := fun j hj => by
  obtain ⟨b', off, e, hc⟩ := h j hj
  exact ⟨b', off, e, by rw [hb.cell (World.block_lt_of_cell? w _ hc)]; exact hc⟩
set_option maxHeartbeats 2000000 in
theorem lies_call {w : World} {n b m uc : Nat} {v : Value} {es : List Pair} {bags : List Nat} {uo : Option Addr} {f : Nat → Int} (hE : EdgesAt w v es) (hck : chk n es = (0, 0)) (hn : n ≤ 100) (hS : SetsAt w b bags) (hl : bags.length = m) (hm : m ≤ 100) (hF : NumF w uo m f) (hbit : ∀ j v, (at' bags j).testBit v = true → v < n) (ht : T64 w) :
    Calls Tryd.prog 38 #[.agg #[.int .i64 (n : Int), v], sl b m, .slice uo m uc] w fun e w' => e = .returned (.bool (liesB n es bags f)) ∧ Below w.heap.size w w' := by
  obtain ⟨_, _, _, hel, hgood⟩ := chk_good (n := (n : Int)) (es := es) (by rw [hck])
  have C58 : Hid (∀ A, Below w.heap.size w A → Calls Tryd.prog 58 #[.slice uo m uc] A fun e w' => e = .returned (.bool (treeB m f)) ∧ w' = A) := fun A hA => isTree_call (hF.below hA) (by omega)
  have C59 : Hid (∀ A, Below w.heap.size w A → Calls Tryd.prog 59 #[v, sl b m] A fun e w' => e = .returned (.bool (holdB es bags)) ∧ Below A.heap.size A w') := fun A hA => hold_call (hE.below hA) (fun e he => (hgood e he).1) hel hn (hS.under hA) hl hm
  have C60 : Hid (treeB m f = true → ∀ A, Below w.heap.size w A → Calls Tryd.prog 60 #[.int .i64 (n : Int), sl b m, .slice uo m uc] A fun e w' => e = .returned (.bool (hangB n bags f m)) ∧ Below A.heap.size A w') := fun htr A hA => hang_call (hS.under hA) hl hm (hF.below hA) (fun k hk => (tree_up (treeB_all htr).1 hk).imp id (fun h => h.1)) hn hbit (ht.under hA)
  have HL : Hid (liesB n es bags f = if m = 0 then n == 0 else treeB m f && holdB es bags && hangB n bags f m) := by
    show _ = _
    unfold liesB
    rw [hl]
  clear hE hck hS hl hF hbit ht hgood hel
  obtain ⟨tB, htB⟩ : ∃ t, t = treeB m f := ⟨_, rfl⟩
  obtain ⟨hB, hhB⟩ : ∃ t, t = holdB es bags := ⟨_, rfl⟩
  obtain ⟨gB, hgB⟩ : ∃ t, t = hangB n bags f m := ⟨_, rfl⟩
  rw [← htB] at C58 C60 HL
  rw [← hhB] at C59 HL
  rw [← hgB] at C60 HL
  generalize liesB n es bags f = R at *
  clear htB hhB hgB
  go_enter Tryd.func38, Tryd.ntmps38
  go_upto_region 1 with (fail)
  have t3 := two_new w (.int .i64 (n : Int)) v 24
  have hB0 := below_alloc (Below.refl _ w) (Obj.cells #[.int .i64 (n : Int), v] 24)
  generalize w.heap.size = b3 at t3 ⊢
  generalize w.alloc (Obj.cells #[.int .i64 (n : Int), v] 24) = W at *
  obtain ⟨c0, c1⟩ := cell_two t3
  have HW : Hid (Two W b3 (.int .i64 (n : Int)) v 24 ∧ Below w.heap.size w W) := ⟨t3, hB0⟩
  clear t3 hB0
  by_cases h0 : m = 0
  · have k1 : ((m : Int) == 0) = true := by simp; omega
    have HR : Hid (R = (n == 0)) := by
      show _ = _
      rw [HL.out, if_pos h0]
    clear h0 HL
    go_wp2
    go_ret
    refine ⟨?_, HW.out.2⟩
    rw [HR.out]
    congr 2
    by_cases h : n = 0
    · subst h; rfl
    · have h2 : (n == 0) = false := by simpa using h
      rw [h2]
      simp; omega
  · have k1 : ((m : Int) == 0) = false := by simp; omega
    have HR : Hid (R = (tB && hB && gB)) := by
      show _ = _
      rw [HL.out, if_neg h0]
    clear h0 HL
    cases tB with
    | false =>
      go_wp2_with (first | (go_at_call 58; refine Calls.mono (C58.out _ HW.out.2) ?_; rintro e w1 ⟨rfl, rfl⟩) | go_in)
      go_ret
      exact ⟨by rw [HR.out]; rfl, HW.out.2⟩
    | true =>
      cases hB with
      | false =>
        go_wp2_with (first | (go_at_call 58; refine Calls.mono (C58.out _ HW.out.2) ?_; rintro e w1 ⟨rfl, rfl⟩) | (go_at_call 59; refine Calls.mono (C59.out _ HW.out.2) ?_; rintro e w2 ⟨rfl, h2⟩) | go_in)
        go_ret
        exact ⟨by rw [HR.out]; rfl, below_next HW.out.2 h2⟩
      | true =>
        have C60' : Hid _ := C60.out rfl
        go_wp2_with (first | (go_at_call 58; refine Calls.mono (C58.out _ HW.out.2) ?_; rintro e w1 ⟨rfl, rfl⟩) | (go_at_call 59; refine Calls.mono (C59.out _ HW.out.2) ?_; rintro e w2 ⟨rfl, h2⟩; obtain ⟨d0, d1⟩ := cell_two (two_next HW.out.1 h2)) | (go_at_call 60; refine Calls.mono (C60'.out _ (below_next HW.out.2 h2)) ?_; rintro e w3 ⟨rfl, h3⟩) | go_in)
        go_ret
        exact ⟨by rw [HR.out]; rfl, below_next (below_next HW.out.2 h2) h3⟩
/-- What Fits answers. -/
def fitsR (n : Int) (es : List Pair) (ls : List (List Int)) (f : Nat → Int) (ul : Nat) : Bool × Int × Int :=
  if (chk n es).1 ≠ 0 then (false, (chk n es).1, (chk n es).2)
  else if 100 < ls.length then (false, 2, 0)
  else if ul ≠ ls.length then (false, 6, 0)
  else if (openR n.toNat ls 0).1 = 0 then (liesB n.toNat es (setsL n.toNat ls) f, 0, 0)
  else (false, (openR n.toNat ls 0).1, (openR n.toNat ls 0).2)
theorem bagS_bits {N : Nat} : ∀ (l : List Int) (s : Nat), (∀ v, s.testBit v = true → v < N) → ∀ v, (bagS N l s).1.testBit v = true → v < N
  | [], s, h, v, hv => h v hv
  | x :: l, s, h, v, hv => by
    unfold bagS at hv
    split at hv
    · simp at hv
    · split at hv
      · simp at hv
      · refine bagS_bits l _ (fun u hu => ?_) v hv
        rw [bit_add] at hu
        rcases Bool.or_eq_true_iff.1 hu with h1 | h1
        · exact h u h1
        · have := of_decide_eq_true h1
          omega
theorem setsL_bits {N : Nat} {ls : List (List Int)} (j v : Nat) (h : (at' (setsL N ls) j).testBit v = true) : v < N := by
  unfold at' setsL at h
  rw [List.getD_eq_getElem?_getD, List.getElem?_map] at h
  cases e : ls[j]? with
  | none => rw [e] at h; simp at h
  | some l => rw [e] at h; exact bagS_bits l 0 (fun u hu => by simp at hu) v h
set_option maxHeartbeats 3000000 in
theorem fits_call {w : World} {n : Int} {v x : Value} {es : List Pair} {ls : List (List Int)} {uo : Option Addr} {ul uc : Nat} {f : Nat → Int} (hE : EdgesAt w v es) (hx : RowsAt w x ls) (hF : NumF w uo ul f) (ht : T64 w) :
    Calls Tryd.prog 17 #[.agg #[.int .i64 n, v], x, .slice uo ul uc] w fun e w' => e = .returned (.tuple #[.bool (fitsR n es ls f ul).1, .agg #[.int .i64 (fitsR n es ls f ul).2.1, .int .i64 (fitsR n es ls f ul).2.2]]) ∧ Below w.heap.size w w' := by
  obtain ⟨xo, xc, hxe, hx9⟩ := id hx
  clear hx9
  have C37 : Hid (∀ A, Below w.heap.size w A → Calls Tryd.prog 37 #[.agg #[.int .i64 n, v], x, .slice uo ul uc] A fun e w' => Below A.heap.size A w' ∧ ((∃ bv c d, e = .returned (.tuple #[bv, .agg #[.int .i64 c, .int .i64 d]]) ∧ c ≠ 0 ∧ fitsR n es ls f ul = (false, c, d)) ∨ (∃ b, e = .returned (.tuple #[sl b ls.length, .agg #[.int .i64 0, .int .i64 0]]) ∧ (fitsR n es ls f ul).2 = (0, 0) ∧ ∀ A', Below w'.heap.size w' A' → Calls Tryd.prog 38 #[.agg #[.int .i64 n, v], sl b ls.length, .slice uo ul uc] A' fun e w'' => e = .returned (.bool (fitsR n es ls f ul).1) ∧ Below A'.heap.size A' w''))) := fun A hA => by
    by_cases hc : (chk n es).1 = 0
    · obtain ⟨hck, hn0, hn1, _⟩ := chk_good hc
      obtain ⟨N, rfl⟩ := Int.eq_ofNat_of_zero_le hn0
      refine (open_ok (hE.below hA) (hx.below hA) hck (by omega)).mono ?_
      rintro e w' ⟨hB, h⟩
      refine ⟨hB, ?_⟩
      have hf : fitsR (N : Int) es ls f ul = if 100 < ls.length then (false, 2, 0) else if ul ≠ ls.length then (false, 6, 0) else if (openR N ls 0).1 = 0 then (liesB N es (setsL N ls) f, 0, 0) else (false, (openR N ls 0).1, (openR N ls 0).2) := by
        unfold fitsR
        rw [if_neg (by simpa using hc)]
        rfl
      by_cases h1 : 100 < ls.length
      · rw [if_pos h1] at h hf
        exact Or.inl ⟨_, 2, 0, h, by decide, hf⟩
      · rw [if_neg h1] at h hf
        by_cases h2 : ul ≠ ls.length
        · rw [if_pos h2] at h hf
          exact Or.inl ⟨_, 6, 0, h, by decide, hf⟩
        · rw [if_neg h2] at h hf
          by_cases h3 : (openR N ls 0).1 = 0
          · rw [if_pos h3] at h hf
            obtain ⟨b, he, hb, hS⟩ := h
            refine Or.inr ⟨b, he, by rw [hf], fun A' hA' => ?_⟩
            have hul : ul = ls.length := by simpa using h2
            subst hul
            rw [hf]
            have hBB := below_next (below_next hA hB) hA'
            exact lies_call (hE.below hBB) hck (by omega) (hS.under hA') (by simp [setsL]) (by omega) (hF.below hBB) setsL_bits (ht.under hBB)
          · rw [if_neg h3] at h hf
            exact Or.inl ⟨_, _, _, h, h3, hf⟩
    · obtain ⟨ao, cap, rfl⟩ := hE.form'
      subst hxe
      refine (open_bad (hE.below hA) hc).mono ?_
      rintro e w' ⟨he, hB⟩
      exact ⟨hB, Or.inl ⟨_, _, _, he, hc, by unfold fitsR; rw [if_pos (by simpa using hc)]⟩⟩
  clear hE hF ht
  generalize fitsR n es ls f ul = FR at *
  obtain ⟨rb, rc, rd⟩ := FR
  generalize ls.length = ll at *
  simp only at C37 ⊢
  clear hxe hx
  go_enter Tryd.func17, Tryd.ntmps17
  go_upto_region 1 with (fail)
  have x3 := two_new w (.int .i64 n) v 24
  have hB2 : Below w.heap.size w ((w.alloc (Obj.cells #[.int .i64 n, v] 24)).alloc (Obj.cells #[.int .i64 0, .int .i64 0] 27)) := below_alloc (below_alloc (Below.refl _ w) _) _
  have y3 : Two ((w.alloc (Obj.cells #[.int .i64 n, v] 24)).alloc (Obj.cells #[.int .i64 0, .int .i64 0] 27)) w.heap.size (.int .i64 n) v 24 := two_alloc x3 _
  have y7 : Two ((w.alloc (Obj.cells #[.int .i64 n, v] 24)).alloc (Obj.cells #[.int .i64 0, .int .i64 0] 27)) (w.heap.size + 1) (.int .i64 0) (.int .i64 0) 27 := two_nxt _ _ _ _ _
  obtain ⟨q, hq⟩ : ∃ q, q = w.heap.size := ⟨_, rfl⟩
  obtain ⟨b7, hb7⟩ : ∃ b7, b7 = w.heap.size + 1 := ⟨_, rfl⟩
  rw [← hb7] at y7 ⊢
  rw [← hq] at y3 ⊢
  generalize (w.alloc (Obj.cells #[.int .i64 n, v] 24)).alloc (Obj.cells #[.int .i64 0, .int .i64 0] 27) = W2 at *
  have HB2 : Hid (Below w.heap.size w W2 ∧ Two W2 b7 (.int .i64 0) (.int .i64 0) 27 ∧ w.heap.size ≤ b7 ∧ Two W2 q (.int .i64 n) v 24 ∧ q ≠ b7) := ⟨hB2, y7, by omega, y3, by omega⟩
  obtain ⟨c0, c1⟩ := cell_two y3
  have C37' : Hid _ := C37.out W2 hB2
  clear hq hb7 x3 hB2 y3 y7 C37
  go_upto_region 2 with (first | (go_at_call 37; refine Calls.mono C37'.out ?_; rintro e w3 ⟨h3, hcase⟩; rcases hcase with ⟨bv, c, d, rfl, hc, hfr⟩ | ⟨bb, rfl, hfr, C38⟩) | fail)
  · have hB4 : Below W2.heap.size W2 (w3.alloc (Obj.cells #[.int .i64 c, .int .i64 d] 27)) := below_alloc h3 _
    have x9 := two_new w3 (.int .i64 c) (.int .i64 d) 27
    have x7 : Two (w3.alloc (Obj.cells #[.int .i64 c, .int .i64 d] 27)) b7 (.int .i64 0) (.int .i64 0) 27 := two_next HB2.out.2.1 hB4
    generalize w3.alloc (Obj.cells #[.int .i64 c, .int .i64 d] 27) = w4 at *
    generalize w3.heap.size = b9 at *
    have HW4 : Hid (Below w.heap.size w w4 ∧ Two w4 b7 (.int .i64 0) (.int .i64 0) 27) := ⟨below_next HB2.out.1 hB4, x7⟩
    obtain ⟨a0, a1⟩ := cell_two x9
    have hc1 : (c != 0) = true := by simpa using hc
    have HFR : Hid _ := hfr
    clear h3 hB4 C37' c0 c1 x9 x7 hfr hc
    go_upto_region 3 with (fail)
    have g0 := cell_growD a0
    have g1 := cell_growD a1
    clear a0 a1
    refine wp_region_tailT 2 (by kernel_rfl) (by kernel_rfl) (by kernel_rfl) (by decide) ?_
    simp only [List.take_succ_cons, List.take_zero, List.drop_succ_cons, List.drop_zero]
    repeat (quiet_step (fail))
    refine wpQuiet_nil ?_
    rintro _ ⟨gp, rfl⟩
    have hB8 := growD_below w4 gp
    clear g0 g1
    generalize growD w4 gp = w8 at *
    have y5 := two_next HW4.out.2 hB8
    obtain ⟨k0, k1⟩ := cell_two y5
    have f0 := box_free y5 0
    have z6 := box_set y5 0 (.int .i64 c)
    have k2 := box_cell z6 (i := 1) rfl
    have f2 := box_free z6 1
    have y7 := two_setN (x' := .int .i64 c) (y' := .int .i64 d) y5
    obtain ⟨l0, l1⟩ := cell_two y7
    have HB8 : Hid (Below w.heap.size w w8) := below_next HW4.out.1 hB8
    clear hB8 y5 z6 y7
    go_wp2
    have hfr := HFR.out
    simp only [Prod.mk.injEq] at hfr
    obtain ⟨rfl, rfl, rfl⟩ := hfr
    refine bodyPost_ret (v := .tuple #[.bool false, .agg #[.int .i64 rc, .int .i64 rd]]) ?_ rfl ⟨rfl, (HB8.out.setCell HB2.out.2.2.1 _).setCell HB2.out.2.2.1 _⟩
    simp [results, Tryd.results17, go_sem, l0, l1]
  · have hB4 : Below w3.heap.size w3 (w3.alloc (Obj.cells #[.int .i64 0, .int .i64 0] 27)) := below_alloc (Below.refl _ w3) _
    have x9 := two_new w3 (.int .i64 0) (.int .i64 0) 27
    have hB5 := below_next h3 hB4
    generalize w3.alloc (Obj.cells #[.int .i64 0, .int .i64 0] 27) = w4 at *
    have C38' : Hid _ := C38 w4 hB4
    generalize w3.heap.size = b9 at *
    have HW4 : Hid (Below w.heap.size w w4 ∧ Two w4 b7 (.int .i64 0) (.int .i64 0) 27 ∧ Two w4 q (.int .i64 n) v 24) := ⟨below_next HB2.out.1 hB5, two_next HB2.out.2.1 hB5, two_next HB2.out.2.2.2.1 hB5⟩
    obtain ⟨a0, a1⟩ := cell_two x9
    obtain ⟨c0', c1'⟩ := cell_two HW4.out.2.2
    have HFR : Hid _ := hfr
    clear h3 hB4 hB5 C37' c0 c1 x9 hfr C38
    go_upto_region 4 with (fail)
    go_wp2_with (first | (go_at_call 38; refine Calls.mono C38'.out ?_; rintro e w6 ⟨rfl, h6⟩; have y5 := two_next HW4.out.2.1 h6; obtain ⟨k0, k1⟩ := cell_two y5; have f0 := box_free y5 0; have z6 := box_set y5 0 (.int .i64 0); have k2 := box_cell z6 (i := 1) rfl; have f2 := box_free z6 1; obtain ⟨l0, l1⟩ := cell_two (two_setN (x' := .int .i64 0) (y' := .int .i64 0) y5)) | go_in)
    have hfr := HFR.out
    simp only [Prod.mk.injEq] at hfr
    obtain ⟨rfl, rfl⟩ := hfr
    refine bodyPost_ret (v := .tuple #[.bool rb, .agg #[.int .i64 0, .int .i64 0]]) ?_ rfl ⟨rfl, ((below_next HW4.out.1 h6).setCell HB2.out.2.2.1 _).setCell HB2.out.2.2.1 _⟩
    simp [results, Tryd.results17, go_sem, l0, l1]
end Go.Proofs.YtdalconphfgepaaDoor

namespace Go.Proofs.YtdalconphfgepaaDoor
set_option maxRecDepth 8000
open Go.RowKit Go.Maps
attribute [local go_sem ↓] Go.wp_at_zero Go.wp_at_succ
/-- Rows whose capacities are told, too. -/
def RowsC (w : World) (v : Value) (ls : List (List Int)) : Prop :=
  ∃ ao cap, v = .slice ao ls.length cap ∧ ls.length ≤ 5864062014805 ∧ ∀ i (h : i < ls.length), ∃ b off xo xc, ao = some ⟨b, off, none⟩ ∧ w.cell? ⟨b, off + i, none⟩ = some (.slice xo ls[i].length xc) ∧ ls[i].length ≤ xc ∧ ls[i].length ≤ 17592186044416 ∧ NumF w xo ls[i].length (fun j => ls[i].getD j 0)
theorem RowsC.below {w w' : World} {v : Value} {ls : List (List Int)} (h : RowsC w v ls) (hb : Below w.heap.size w w') : RowsC w' v ls := by
  obtain ⟨ao, cap, h1, h3, h4⟩ := h
  refine ⟨ao, cap, h1, h3, fun i hi => ?_⟩
  obtain ⟨b, off, xo, xc, e, hc, hx, hl, hn⟩ := h4 i hi
  exact ⟨b, off, xo, xc, e, (hb.cell (World.block_lt_of_cell? w _ hc)).trans hc, hx, hl, hn.below hb⟩
def setTo (_N : Nat) (l : List Int) (k : Nat) : Nat := (l.take k).foldl (fun s v => sAdd s v.toNat) 0
theorem setTo_succ {N : Nat} {l : List Int} {k : Nat} (hk : k < l.length) : setTo N l (k + 1) = sAdd (setTo N l k) l[k].toNat := by
  unfold setTo
  rw [List.take_succ_eq_append_getElem hk, List.foldl_append]
  rfl
theorem setTo_bit {N : Nat} {l : List Int} (x : Nat) : ∀ k, k ≤ l.length → (∀ j, j < k → 0 ≤ l.getD j 0) → ((setTo N l k).testBit x = true ↔ ∃ j, j < k ∧ l.getD j 0 = x)
  | 0, _, _ => by simp [setTo]
  | k + 1, hk, h0 => by
    rw [setTo_succ (by omega), bit_add, Bool.or_eq_true, setTo_bit x k (by omega) (fun j hj => h0 j (by omega)), decide_eq_true_eq]
    have e0 := h0 k (by omega)
    have e1 : l.getD k 0 = l[k] := by simp [List.getD_eq_getElem?_getD, List.getElem?_eq_getElem (show k < l.length by omega)]
    constructor
    · rintro (⟨j, hj, e⟩ | e)
      · exact ⟨j, by omega, e⟩
      · exact ⟨k, by omega, by rw [e1] at e0 ⊢; omega⟩
    · rintro ⟨j, hj, e⟩
      by_cases e2 : j = k
      · subst e2
        refine Or.inr ?_
        rw [e1] at e; omega
      · exact Or.inl ⟨j, by omega, e⟩
theorem bag_step {N k : Nat} {l : List Int} (hk : k < l.length) : bagS N (l.drop k) (setTo N l k) = if l[k] < 0 ∨ (N : Int) ≤ l[k] then (0, 3) else if (setTo N l k).testBit l[k].toNat = true then (0, 5) else bagS N (l.drop (k + 1)) (setTo N l (k + 1)) := by
  rw [List.drop_eq_getElem_cons hk, setTo_succ hk]
  rfl
/-- What FitsFault answers, where the graph has no fault. -/
def fitR (N : Nat) (ls : List (List Int)) (ul : Nat) : Int × Int := if 100 < ls.length then (2, 0) else if ul ≠ ls.length then (6, 0) else if (openR N ls 0).1 = 0 then (0, 0) else openR N ls 0
set_option maxHeartbeats 4000000 in
theorem fault_ok {w : World} {N : Nat} {x : Value} {es : List Pair} {ls : List (List Int)} {uo ao0 : Option Addr} {ul uc cap0 : Nat} (hE : EdgesAt w (.slice ao0 es.length cap0) es) (hcap : es.length ≤ cap0) (hx : RowsC w x ls) (hck : chk N es = (0, 0)) (hn : N ≤ 100) :
    Calls Tryd.prog 11 #[.agg #[.int .i64 (N : Int), .slice ao0 es.length cap0], x, .slice uo ul uc] w fun e w' => e = .returned (.agg #[.int .i64 (fitR N ls ul).1, .int .i64 (fitR N ls ul).2]) ∧ Below w.heap.size w w' := by
  have HX : Hid (RowsC w x ls) := hx
  obtain ⟨xo, xc, hxe, hx8, hx9⟩ := hx
  clear hx9
  obtain ⟨xl, hxl⟩ : ∃ xl, xl = ls.length := ⟨_, rfl⟩
  have HXL : Hid (xl = ls.length) := hxl
  rw [← hxl] at hxe hx8
  subst hxe
  have C24 : Hid (∀ A, Below w.heap.size w A → Calls Tryd.prog 24 #[.agg #[.int .i64 (N : Int), .slice ao0 es.length cap0]] A fun e w' => e = .returned (.agg #[.int .i64 0, .int .i64 0]) ∧ Below A.heap.size A w') := fun A hA => by
    have := refCheck_any (N : Int) ao0 cap0 es A (hE.below hA) hcap
    rw [hck] at this
    exact this
  have CF : Hid (∀ (a b : Int) A, Calls Tryd.prog 20 #[.int .i64 a, .int .i64 b] A fun e w' => e = .returned (.agg #[.int .i64 a, .int .i64 b]) ∧ Below A.heap.size A w') := fun a b A => refF_any a b A
  have HFR : Hid (fitR N ls ul = if 100 < xl then (2, 0) else if ul ≠ xl then (6, 0) else if (openR N ls 0).1 = 0 then (0, 0) else openR N ls 0) := by
    show _ = _
    unfold fitR
    rw [hxl]
  generalize fitR N ls ul = FR at *
  obtain ⟨rc, rd⟩ := FR
  generalize es.length = el at *
  clear hE hck hxl hcap
  go_enter Tryd.func11, Tryd.ntmps11
  go_upto_region 1 with (fail)
  have x3 := two_new w (.int .i64 (N : Int)) (.slice ao0 el cap0) 24
  have hB2 : Below w.heap.size w ((w.alloc (Obj.cells #[.int .i64 (N : Int), .slice ao0 el cap0] 24)).alloc (Obj.cells #[.int .i64 0, .int .i64 0] 27)) := below_alloc (below_alloc (Below.refl _ w) _) _
  have y3 : Two ((w.alloc (Obj.cells #[.int .i64 (N : Int), .slice ao0 el cap0] 24)).alloc (Obj.cells #[.int .i64 0, .int .i64 0] 27)) w.heap.size (.int .i64 (N : Int)) (.slice ao0 el cap0) 24 := two_alloc x3 _
  have y6 : Two ((w.alloc (Obj.cells #[.int .i64 (N : Int), .slice ao0 el cap0] 24)).alloc (Obj.cells #[.int .i64 0, .int .i64 0] 27)) (w.heap.size + 1) (.int .i64 0) (.int .i64 0) 27 := two_nxt _ _ _ _ _
  obtain ⟨q, hq⟩ : ∃ q, q = w.heap.size := ⟨_, rfl⟩
  obtain ⟨b6, hb6⟩ : ∃ b6, b6 = w.heap.size + 1 := ⟨_, rfl⟩
  rw [← hb6] at y6 ⊢
  rw [← hq] at y3 ⊢
  generalize (w.alloc (Obj.cells #[.int .i64 (N : Int), .slice ao0 el cap0] 24)).alloc (Obj.cells #[.int .i64 0, .int .i64 0] 27) = W2 at *
  have HB2 : Hid (Below w.heap.size w W2 ∧ Two W2 b6 (.int .i64 0) (.int .i64 0) 27 ∧ w.heap.size ≤ b6 ∧ Two W2 q (.int .i64 (N : Int)) (.slice ao0 el cap0) 24 ∧ q ≠ b6) := ⟨hB2, y6, by omega, y3, by omega⟩
  obtain ⟨c0, c1⟩ := cell_two y3
  have C24' : Hid _ := C24.out W2 hB2
  clear hq hb6 x3 hB2 y3 y6 C24
  go_upto_region 2 with (first | (go_at_call 24; refine Calls.mono C24'.out ?_; rintro e w3 ⟨rfl, h3⟩) | fail)
  have hB4 : Below W2.heap.size W2 (w3.alloc (Obj.cells #[.int .i64 0, .int .i64 0] 27)) := below_alloc h3 _
  have x7 := two_new w3 (.int .i64 0) (.int .i64 0) 27
  generalize w3.alloc (Obj.cells #[.int .i64 0, .int .i64 0] 27) = w4 at *
  generalize w3.heap.size = b7 at *
  obtain ⟨a0, a1⟩ := cell_two x7
  have HW4 : Hid (∀ A, Below w4.heap.size w4 A → Below w.heap.size w A ∧ Two A b6 (.int .i64 0) (.int .i64 0) 27 ∧ Two A q (.int .i64 (N : Int)) (.slice ao0 el cap0) 24) := fun A hA => ⟨below_next (below_next HB2.out.1 hB4) hA, two_next (two_next HB2.out.2.1 hB4) hA, two_next (two_next HB2.out.2.2.2.1 hB4) hA⟩
  -- how the function ends with a fault
  have HEND : Hid (∀ A c d, Below w4.heap.size w4 A → A.cell? ⟨b6, 0, none⟩ = some (.int .i64 0) ∧ A.cell? ⟨b6, 1, none⟩ = some (.int .i64 0) ∧ A.frozen? ⟨b6, 0, none⟩ = false ∧ (A.setCell ⟨b6, 0, none⟩ (.int .i64 c)).cell? ⟨b6, 1, none⟩ = some (.int .i64 0) ∧ (A.setCell ⟨b6, 0, none⟩ (.int .i64 c)).frozen? ⟨b6, 1, none⟩ = false ∧ ((A.setCell ⟨b6, 0, none⟩ (.int .i64 c)).setCell ⟨b6, 1, none⟩ (.int .i64 d)).cell? ⟨b6, 0, none⟩ = some (.int .i64 c) ∧ ((A.setCell ⟨b6, 0, none⟩ (.int .i64 c)).setCell ⟨b6, 1, none⟩ (.int .i64 d)).cell? ⟨b6, 1, none⟩ = some (.int .i64 d) ∧ Below w.heap.size w ((A.setCell ⟨b6, 0, none⟩ (.int .i64 c)).setCell ⟨b6, 1, none⟩ (.int .i64 d))) := fun A c d hA => by
    obtain ⟨hb, h6, _⟩ := HW4.out A hA
    obtain ⟨k0, k1⟩ := cell_two h6
    obtain ⟨l0, l1⟩ := cell_two (two_setN (x' := .int .i64 c) (y' := .int .i64 d) h6)
    exact ⟨k0, k1, box_free h6 0, box_cell (box_set h6 0 (.int .i64 c)) (i := 1) rfl, box_free (box_set h6 0 (.int .i64 c)) 1, l0, l1, (hb.setCell HB2.out.2.2.1 _).setCell HB2.out.2.2.1 _⟩
  clear h3 hB4 C24' c0 c1 x7
  go_upto_region 4 with (fail)
  clear a0 a1
  by_cases hmany : 100 < xl
  · have k1 : decide ((100 : Int) < (xl : Int)) = true := by simp; omega
    have k2 : (100 : Int) < (xl : Int) := by omega
    have HR : Hid ((rc, rd) = ((2 : Int), (0 : Int))) := by
      have := HFR.out
      rwa [if_pos hmany] at this
    go_wp2_with (first | (go_at_call 20; refine Calls.mono (CF.out _ _ _) ?_; rintro e w5 ⟨rfl, h5⟩; obtain ⟨z0, z1, f0, z2, f1, l0, l1, hbb⟩ := HEND.out w5 2 0 h5) | go_in)
    have e := HR.out
    simp only [Prod.mk.injEq] at e
    obtain ⟨rfl, rfl⟩ := e
    refine bodyPost_ret (v := .agg #[.int .i64 2, .int .i64 0]) ?_ rfl ⟨rfl, hbb⟩
    simp [results, Tryd.results11, go_sem, l0, l1]
  · have k1 : decide ((100 : Int) < (xl : Int)) = false := by simp; omega
    have k2 : ¬ (100 : Int) < (xl : Int) := by omega
    by_cases hul : ul = xl
    · have k3 : ((ul : Int) != (xl : Int)) = false := by simp; omega
      have HR : Hid ((rc, rd) = if (openR N ls 0).1 = 0 then (0, 0) else openR N ls 0) := by
        have := HFR.out
        rwa [if_neg hmany, if_neg (by simpa using hul)] at this
      clear hul HFR
      go_upto_region 9 with (fail)
      clear k1 k2 k3
      go_loopw [8, 9] (fun s8 _ wz => ∃ k : Nat, k ≤ xl ∧ s8 = .int .i64 (k : Int) ∧ Hid (Below w4.heap.size w4 wz ∧ openR N ls 0 = openR N (ls.drop k) k)) (fun s8 _ _ => xl - (numOf s8).toNat)
      case atStart => exact ⟨0, Nat.zero_le _, rfl, ⟨Below.refl _ _, rfl⟩⟩
      case round =>
        obtain ⟨k, hk, rfl, hJ⟩ := hrel
        by_cases hlt : k < xl
        · have hkl : k < ls.length := by rw [← HXL.out]; exact hlt
          obtain ⟨ao9, cap9, e', _, hr⟩ := HX.out
          simp only [Value.slice.injEq] at e'
          obtain ⟨e1, e2, e3⟩ := e'
          clear e2 e3
          subst e1
          obtain ⟨rb, roff, vo, vc, rfl, rc0, hvc, hll, hNF⟩ := hr k hkl
          clear hr
          have hop : openR N (ls.drop k) k = if (bagS N ls[k] 0).2 = 0 then openR N (ls.drop (k + 1)) (k + 1) else ((bagS N ls[k] 0).2, (k : Int)) := by
            rw [List.drop_eq_getElem_cons hkl]
            rfl
          have HOP : Hid (openR N ls 0 = if (bagS N ls[k] 0).2 = 0 then openR N (ls.drop (k + 1)) (k + 1) else ((bagS N ls[k] 0).2, (k : Int))) := hJ.out.2.trans hop
          have HJ : Hid (Below w4.heap.size w4 wr) := hJ.out.1
          have HNF : Hid (NumF w vo ls[k].length (fun j => ls[k].getD j 0) ∧ ls[k].length ≤ vc) := ⟨hNF, hvc⟩
          clear hop hJ hNF
          generalize ls[k] = l at *
          obtain ⟨len, hlen⟩ : ∃ n, n = l.length := ⟨_, rfl⟩
          have HLN : Hid (len = l.length) := hlen
          rw [← hlen] at rc0 hvc hll HNF
          have HRC : Hid (∀ A, Below w4.heap.size w4 A → A.cell? ⟨rb, roff + k, none⟩ = some (.slice vo len vc) ∧ A.cell? ⟨q, 0, none⟩ = some (.int .i64 (N : Int))) := fun A hA => ⟨by rw [(HW4.out A hA).1.cell (World.block_lt_of_cell? w _ rc0)]; exact rc0, (cell_two (HW4.out A hA).2.2).1⟩
          have i1 : (0 : Int) ≤ (k : Int) := by omega
          have i2 : (k : Int) < (xl : Int) := by omega
          clear rc0 hlen
          go_upto_region 12 with (fail)
          go_loopw [9] (fun s9 wz => ∃ j : Nat, j ≤ len ∧ s9 = .int .i64 (j : Int) ∧ Hid (Below w4.heap.size w4 wz ∧ (∀ i, i < j → 0 ≤ l.getD i 0) ∧ bagS N l 0 = bagS N (l.drop j) (setTo N l j) ∧ (∀ i, i < j → l.getD i 0 < N) ∧ ∀ a b, a < b → b < j → l.getD a 0 ≠ l.getD b 0)) (fun s9 _ => len - (numOf s9).toNat)
          case atStart => exact ⟨0, Nat.zero_le _, rfl, ⟨HJ.out, fun i hi => by omega, rfl, fun i hi => by omega, fun a b _ hb => by omega⟩⟩
          case round =>
            obtain ⟨j, hj, rfl, hI⟩ := hrel
            obtain ⟨rc0, q0⟩ := HRC.out _ hI.out.1
            by_cases hlt2 : j < len
            · have hjl : j < l.length := by rw [← HLN.out]; exact hlt2
              obtain ⟨vb, voff, rfl, ck⟩ := HNF.out.1 j hlt2
              have hgd : l.getD j 0 = l[j] := by simp [List.getD_eq_getElem?_getD, List.getElem?_eq_getElem hjl]
              have rc1 : wr.cell? ⟨vb, voff + j, none⟩ = some (.int .i64 l[j]) := by
                rw [(HW4.out _ hI.out.1).1.cell (World.block_lt_of_cell? w _ ck), ck]
                show some (Value.int .i64 (l.getD j 0)) = _
                rw [hgd]
              have HST : Hid (bagS N l 0 = if l[j] < 0 ∨ (N : Int) ≤ l[j] then (0, 3) else if (setTo N l j).testBit l[j].toNat = true then (0, 5) else bagS N (l.drop (j + 1)) (setTo N l (j + 1))) := hI.out.2.2.1.trans (bag_step hjl)
              have HP : Hid (∀ i, i < j → 0 ≤ l.getD i 0) := hI.out.2.1
              have HPN : Hid ((∀ i, i < j → l.getD i 0 < N) ∧ ∀ a b, a < b → b < j → l.getD a 0 ≠ l.getD b 0) := hI.out.2.2.2
              have HBW : Hid (Below w4.heap.size w4 wr) := hI.out.1
              have HGD : Hid (l.getD j 0 = l[j]) := hgd
              clear hI ck hgd
              generalize l[j] = y at *
              have i3 : (0 : Int) ≤ (j : Int) := by omega
              have i4 : (j : Int) < (len : Int) := by omega
              by_cases hy0 : y < 0
              · have k1 : decide (y < 0) = true := by simpa using hy0
                have HRR : Hid ((rc, rd) = ((3 : Int), (k : Int))) := by
                  have h1 : bagS N l 0 = (0, 3) := by
                    rw [HST.out]
                    rw [if_pos (Or.inl hy0)]
                  have h2 := HOP.out
                  rw [h1, if_neg (by decide)] at h2
                  have h3 := HR.out
                  rw [h2] at h3
                  exact h3
                go_upto_region 14 with (fail)
                have g0 := cell_growD rc0
                have g1 := cell_growD rc1
                have g2 := cell_growD q0
                refine wp_region_below (by kernel_rfl) (by kernel_rfl) ?_
                repeat (go_big_quiet_step (fail))
                refine wpQuiet_nil ?_
                rintro _ ⟨gp, rfl⟩
                have hB8 := growD_below wr gp
                have HB8 : Hid (Below w4.heap.size w4 (growD wr gp)) := below_next HBW.out hB8
                clear g0 g1 g2 hB8 rc0 rc1 q0
                generalize growD wr gp = w8 at *
                go_wp2_with (first | (go_at_call 20; refine Calls.mono (CF.out _ _ _) ?_; rintro e w5 ⟨rfl, h5⟩; obtain ⟨z0, z1, f0, z2, f1, l0, l1, hbb⟩ := HEND.out w5 3 (k : Int) (below_next HB8.out h5)) | go_in)
                have e := HRR.out
                simp only [Prod.mk.injEq] at e
                obtain ⟨rfl, rfl⟩ := e
                refine bodyPost_ret (v := .agg #[.int .i64 3, .int .i64 (k : Int)]) ?_ rfl ⟨rfl, hbb⟩
                simp [results, Tryd.results11, go_sem, l0, l1]
              · have k1 : decide (y < 0) = false := by simpa using hy0
                by_cases hyN : (N : Int) ≤ y
                · have k2 : decide ((N : Int) ≤ y) = true := by simpa using hyN
                  have HRR : Hid ((rc, rd) = ((3 : Int), (k : Int))) := by
                    have h1 : bagS N l 0 = (0, 3) := by
                      rw [HST.out]
                      rw [if_pos (Or.inr hyN)]
                    have h2 := HOP.out
                    rw [h1, if_neg (by decide)] at h2
                    have h3 := HR.out
                    rw [h2] at h3
                    exact h3
                  go_upto_region 14 with (fail)
                  have g0 := cell_growD rc0
                  have g1 := cell_growD rc1
                  have g2 := cell_growD q0
                  refine wp_region_below (by kernel_rfl) (by kernel_rfl) ?_
                  repeat (go_big_quiet_step (fail))
                  refine wpQuiet_nil ?_
                  rintro _ ⟨gp, rfl⟩
                  have hB8 := growD_below wr gp
                  have HB8 : Hid (Below w4.heap.size w4 (growD wr gp)) := below_next HBW.out hB8
                  clear g0 g1 g2 hB8 rc0 rc1 q0
                  generalize growD wr gp = w8 at *
                  go_wp2_with (first | (go_at_call 20; refine Calls.mono (CF.out _ _ _) ?_; rintro e w5 ⟨rfl, h5⟩; obtain ⟨z0, z1, f0, z2, f1, l0, l1, hbb⟩ := HEND.out w5 3 (k : Int) (below_next HB8.out h5)) | go_in)
                  have e := HRR.out
                  simp only [Prod.mk.injEq] at e
                  obtain ⟨rfl, rfl⟩ := e
                  refine bodyPost_ret (v := .agg #[.int .i64 3, .int .i64 (k : Int)]) ?_ rfl ⟨rfl, hbb⟩
                  simp [results, Tryd.results11, go_sem, l0, l1]
                · have k2 : decide ((N : Int) ≤ y) = false := by simpa using hyN
                  have hST := HST.out
                  rw [if_neg (by omega)] at hST
                  obtain ⟨m, hm1, hm2, hm3⟩ : ∃ m, m ≤ j ∧ (∀ i, i < m → l.getD i 0 ≠ y) ∧ (m < j → l.getD m 0 = y) := by
                    by_cases hex : ∃ i, i < j ∧ l.getD i 0 = y
                    · obtain ⟨i, hi, e⟩ := hex
                      have : ∀ i, i < j → l.getD i 0 = y → ∃ m, m ≤ j ∧ (∀ i, i < m → l.getD i 0 ≠ y) ∧ (m < j → l.getD m 0 = y) := fun i => by
                        induction i using Nat.strongRecOn with
                        | _ i ih =>
                          intro hi e
                          by_cases hb : ∃ i', i' < i ∧ l.getD i' 0 = y
                          · obtain ⟨i', h1, h2⟩ := hb
                            exact ih i' h1 (by omega) h2
                          · exact ⟨i, by omega, fun i' h1 h2 => hb ⟨i', h1, h2⟩, fun _ => e⟩
                      exact this i hi e
                    · exact ⟨j, Nat.le_refl _, fun i hi e => hex ⟨i, hi, e⟩, fun h => absurd h (Nat.lt_irrefl _)⟩
                  have hjN : j ≤ N := inj_len (g := fun i => (l.getD i 0).toNat) (fun i hi => by have := HP.out i hi; have := HPN.out.1 i hi; omega) fun a b hab hb e => HPN.out.2 a b hab hb (by have := HP.out a (by omega); have := HP.out b hb; omega)
                  have C31 : Hid (∀ A, Below wr.heap.size wr A → Calls Tryd.prog 31 #[.slice (some ⟨vb, voff, none⟩) j vc, .int .i64 y] A fun e w' => e = .returned (.int .i64 (m : Int)) ∧ Below A.heap.size A w') := fun A hA => by
                    have hN2 : NumF A (some ⟨vb, voff, none⟩) j (fun i => l.getD i 0) := fun i hi => (HNF.out.1.below (HW4.out _ (below_next HBW.out hA)).1) i (by omega)
                    refine (rank_call (vc := vc) hN2 (by omega) y).mono ?_
                    rintro e w' ⟨⟨m', rfl, h1, h2, h3⟩, rfl⟩
                    refine ⟨?_, Below.refl _ _⟩
                    have : m' = m := by
                      rcases Nat.lt_trichotomy m' m with h | h | h
                      · exact absurd (h3 (by omega)) (hm2 m' h)
                      · exact h
                      · exact absurd (hm3 (by omega)) (h2 m h)
                    rw [this]
                  have HM : Hid ((setTo N l j).testBit y.toNat = decide (m < j)) := by
                    show _ = _
                    rw [Bool.eq_iff_iff, setTo_bit y.toNat j (by omega) HP.out, decide_eq_true_eq]
                    constructor
                    · rintro ⟨i, hi, e⟩
                      apply Classical.byContradiction
                      intro hn
                      exact hm2 i (by omega) (by rw [e]; omega)
                    · intro h
                      exact ⟨m, h, by rw [hm3 h]; omega⟩
                  rw [HM.out] at hST
                  have HSTT : Hid _ := hST
                  have HNEW : Hid (m = j → (∀ i, i < j + 1 → 0 ≤ l.getD i 0) ∧ (∀ i, i < j + 1 → l.getD i 0 < N) ∧ ∀ a b, a < b → b < j + 1 → l.getD a 0 ≠ l.getD b 0) := fun e => by
                    subst e
                    refine ⟨fun i hi => ?_, fun i hi => ?_, fun a b hab hb => ?_⟩
                    · by_cases h : i = m
                      · subst h; rw [HGD.out]; omega
                      · exact HP.out i (by omega)
                    · by_cases h : i = m
                      · subst h; rw [HGD.out]; omega
                      · exact HPN.out.1 i (by omega)
                    · by_cases h : b = m
                      · subst h; rw [HGD.out]; exact hm2 a hab
                      · exact HPN.out.2 a b hab (by omega)
                  clear hST hm2 hm3 HM HP HPN HGD hjN
                  have v1 : (j : Int) ≤ (vc : Int) := by have := HNF.out.2; omega
                  go_upto_region 14 with (fail)
                  have g0 := cell_growD rc0
                  have g1 := cell_growD rc1
                  have g2 := cell_growD q0
                  refine wp_region_below (by kernel_rfl) (by kernel_rfl) ?_
                  repeat (go_big_quiet_step (fail))
                  refine wpQuiet_nil ?_
                  rintro _ ⟨gp, rfl⟩
                  have hB8 := growD_below wr gp
                  have HB8 : Hid (Below w4.heap.size w4 (growD wr gp)) := below_next HBW.out hB8
                  have h0 := cell_growD rc0 gp
                  have h1 := cell_growD rc1 gp
                  have C31' : Hid (∀ A, Below (growD wr gp).heap.size (growD wr gp) A → Calls Tryd.prog 31 #[.slice (some ⟨vb, voff, none⟩) j vc, .int .i64 y] A fun e w' => e = .returned (.int .i64 (m : Int)) ∧ Below A.heap.size A w') := fun A hA => C31.out A (below_next hB8 hA)
                  clear g0 g1 g2 hB8 rc0 rc1 q0 C31
                  generalize growD wr gp = w8 at *
                  go_upto_region 16 with (fail)
                  have g0 := cell_growD h0
                  have g1 := cell_growD h1
                  clear h0 h1
                  refine wp_region_below (by kernel_rfl) (by kernel_rfl) ?_
                  repeat (go_big_quiet_step (first | (go_at_call 31; exact Calls.belowQ (fun W hW => C31'.out W hW))))
                  refine wpQuiet_nil ?_
                  rintro _ ⟨gp2, rfl⟩
                  have hB9 := growD_below w8 gp2
                  have HB9 : Hid (Below w4.heap.size w4 (growD w8 gp2)) := below_next HB8.out hB9
                  clear g0 g1 hB9 C31'
                  generalize growD w8 gp2 = w9 at *
                  by_cases hmj : m < j
                  · have k3 : decide ((m : Int) < (j : Int)) = true := by simp; omega
                    have k4 : (m : Int) < (j : Int) := by omega
                    have HRR : Hid ((rc, rd) = ((5 : Int), (k : Int))) := by
                      have h1 : bagS N l 0 = (0, 5) := by
                        rw [HSTT.out, if_pos (by simpa using hmj)]
                      have h2 := HOP.out
                      rw [h1, if_neg (by decide)] at h2
                      have h3 := HR.out
                      rw [h2] at h3
                      exact h3
                    go_wp2_with (first | (go_at_call 20; refine Calls.mono (CF.out _ _ _) ?_; rintro e w5 ⟨rfl, h5⟩; obtain ⟨z0, z1, f0, z2, f1, l0, l1, hbb⟩ := HEND.out w5 5 (k : Int) (below_next HB9.out h5)) | go_in)
                    have e := HRR.out
                    simp only [Prod.mk.injEq] at e
                    obtain ⟨rfl, rfl⟩ := e
                    refine bodyPost_ret (v := .agg #[.int .i64 5, .int .i64 (k : Int)]) ?_ rfl ⟨rfl, hbb⟩
                    simp [results, Tryd.results11, go_sem, l0, l1]
                  · have k3 : decide ((m : Int) < (j : Int)) = false := by simp; omega
                    have k4 : ¬ (m : Int) < (j : Int) := by omega
                    have hS2 := HSTT.out
                    rw [if_neg (by simpa using hmj)] at hS2
                    have HS2 : Hid _ := hS2
                    have hN := HNEW.out (by omega)
                    have HN : Hid _ := hN
                    clear hS2 hN
                    go_wp2
                    go_roundw
                    case rel => exact ⟨j + 1, by omega, by go_num, ⟨HB9.out, HN.out.1, HS2.out, HN.out.2⟩⟩
                    case measure => simp [numOf]; omega
            · obtain rfl : j = len := by omega
              have HE0 : Hid (openR N ls 0 = openR N (ls.drop (k + 1)) (k + 1)) := by
                have h1 : bagS N l 0 = (setTo N l j, 0) := by
                  rw [hI.out.2.2.1, List.drop_of_length_le (by rw [HLN.out]; exact Nat.le_refl _)]
                  rfl
                have h2 := HOP.out
                rw [h1, if_pos rfl] at h2
                exact h2
              have HB : Hid (Below w4.heap.size w4 wr) := hI.out.1
              clear hI
              go_wp2
              go_roundw
              case rel => exact ⟨k + 1, by omega, by go_num, ⟨HB.out, HE0.out⟩⟩
              case measure => simp [numOf]; omega
        · obtain rfl : k = xl := by omega
          have HRR : Hid ((rc, rd) = ((0 : Int), (0 : Int))) := by
            show _ = _
            rw [HR.out, hJ.out.2, List.drop_of_length_le (by rw [HXL.out]; exact Nat.le_refl _)]
            rfl
          obtain ⟨z0, z1, f0, z2, f1, l0, l1, hbb⟩ := HEND.out wr 0 0 hJ.out.1
          clear hJ
          go_wp2
          have e := HRR.out
          simp only [Prod.mk.injEq] at e
          obtain ⟨rfl, rfl⟩ := e
          refine bodyPost_ret (v := .agg #[.int .i64 0, .int .i64 0]) ?_ rfl ⟨rfl, hbb⟩
          simp [results, Tryd.results11, go_sem, l0, l1]
    · have k3 : ((ul : Int) != (xl : Int)) = true := by simp; omega
      have HR : Hid ((rc, rd) = ((6 : Int), (0 : Int))) := by
        have := HFR.out
        rwa [if_neg hmany, if_pos (by simpa using hul)] at this
      go_wp2_with (first | (go_at_call 20; refine Calls.mono (CF.out _ _ _) ?_; rintro e w5 ⟨rfl, h5⟩; obtain ⟨z0, z1, f0, z2, f1, l0, l1, hbb⟩ := HEND.out w5 6 0 h5) | go_in)
      have e := HR.out
      simp only [Prod.mk.injEq] at e
      obtain ⟨rfl, rfl⟩ := e
      refine bodyPost_ret (v := .agg #[.int .i64 6, .int .i64 0]) ?_ rfl ⟨rfl, hbb⟩
      simp [results, Tryd.results11, go_sem, l0, l1]
set_option maxHeartbeats 2000000 in
theorem fault_bad {w : World} {n : Int} {es : List Pair} {xo uo ao0 : Option Addr} {xl xc ul uc cap0 : Nat} (hE : EdgesAt w (.slice ao0 es.length cap0) es) (hcap : es.length ≤ cap0) (hck : (chk n es).1 ≠ 0) :
    Calls Tryd.prog 11 #[.agg #[.int .i64 n, .slice ao0 es.length cap0], .slice xo xl xc, .slice uo ul uc] w fun e w' => e = .returned (.agg #[.int .i64 (chk n es).1, .int .i64 (chk n es).2]) ∧ Below w.heap.size w w' := by
  have C24 : Hid (∀ A, Below w.heap.size w A → Calls Tryd.prog 24 #[.agg #[.int .i64 n, .slice ao0 es.length cap0]] A fun e w' => e = .returned (.agg #[.int .i64 (chk n es).1, .int .i64 (chk n es).2]) ∧ Below A.heap.size A w') := fun A hA => refCheck_any n ao0 cap0 es A (hE.below hA) hcap
  generalize chk n es = CK at *
  obtain ⟨rc, rd⟩ := CK
  generalize es.length = el at *
  simp only at hck C24 ⊢
  clear hE hcap
  go_enter Tryd.func11, Tryd.ntmps11
  go_upto_region 1 with (fail)
  have x3 := two_new w (.int .i64 n) (.slice ao0 el cap0) 24
  have hB2 : Below w.heap.size w ((w.alloc (Obj.cells #[.int .i64 n, .slice ao0 el cap0] 24)).alloc (Obj.cells #[.int .i64 0, .int .i64 0] 27)) := below_alloc (below_alloc (Below.refl _ w) _) _
  have y3 : Two ((w.alloc (Obj.cells #[.int .i64 n, .slice ao0 el cap0] 24)).alloc (Obj.cells #[.int .i64 0, .int .i64 0] 27)) w.heap.size (.int .i64 n) (.slice ao0 el cap0) 24 := two_alloc x3 _
  have y6 : Two ((w.alloc (Obj.cells #[.int .i64 n, .slice ao0 el cap0] 24)).alloc (Obj.cells #[.int .i64 0, .int .i64 0] 27)) (w.heap.size + 1) (.int .i64 0) (.int .i64 0) 27 := two_nxt _ _ _ _ _
  obtain ⟨q, hq⟩ : ∃ q, q = w.heap.size := ⟨_, rfl⟩
  obtain ⟨b6, hb6⟩ : ∃ b6, b6 = w.heap.size + 1 := ⟨_, rfl⟩
  rw [← hb6] at y6 ⊢
  rw [← hq] at y3 ⊢
  generalize (w.alloc (Obj.cells #[.int .i64 n, .slice ao0 el cap0] 24)).alloc (Obj.cells #[.int .i64 0, .int .i64 0] 27) = W2 at *
  have HB2 : Hid (Below w.heap.size w W2 ∧ Two W2 b6 (.int .i64 0) (.int .i64 0) 27 ∧ w.heap.size ≤ b6) := ⟨hB2, y6, by omega⟩
  obtain ⟨c0, c1⟩ := cell_two y3
  have C24' : Hid _ := C24.out W2 hB2
  have hc1 : (rc != 0) = true := by simpa using hck
  clear hq hb6 x3 hB2 y3 y6 C24 hck
  go_upto_region 2 with (first | (go_at_call 24; refine Calls.mono C24'.out ?_; rintro e w3 ⟨rfl, h3⟩) | fail)
  have hB4 : Below W2.heap.size W2 (w3.alloc (Obj.cells #[.int .i64 rc, .int .i64 rd] 27)) := below_alloc h3 _
  have x7 := two_new w3 (.int .i64 rc) (.int .i64 rd) 27
  generalize w3.alloc (Obj.cells #[.int .i64 rc, .int .i64 rd] 27) = w4 at *
  generalize w3.heap.size = b7 at *
  obtain ⟨a0, a1⟩ := cell_two x7
  have h6 := two_next HB2.out.2.1 hB4
  obtain ⟨k0, k1⟩ := cell_two h6
  have f0 := box_free h6 0
  have k2 := box_cell (box_set h6 0 (.int .i64 rc)) (i := 1) rfl
  have f2 := box_free (box_set h6 0 (.int .i64 rc)) 1
  obtain ⟨l0, l1⟩ := cell_two (two_setN (x' := .int .i64 rc) (y' := .int .i64 rd) h6)
  have HW4 : Hid (Below w.heap.size w w4) := below_next HB2.out.1 hB4
  clear h3 hB4 C24' c0 c1 x7 h6
  go_wp2
  refine bodyPost_ret (v := .agg #[.int .i64 rc, .int .i64 rd]) ?_ rfl ⟨rfl, (HW4.out.setCell HB2.out.2.2 _).setCell HB2.out.2.2 _⟩
  simp [results, Tryd.results11, go_sem, l0, l1]
theorem fault_call {w : World} {n : Int} {x : Value} {es : List Pair} {ls : List (List Int)} {uo ao0 : Option Addr} {ul uc cap0 : Nat} (f : Nat → Int) (hE : EdgesAt w (.slice ao0 es.length cap0) es) (hcap : es.length ≤ cap0) (hx : RowsC w x ls) :
    Calls Tryd.prog 11 #[.agg #[.int .i64 n, .slice ao0 es.length cap0], x, .slice uo ul uc] w fun e w' => e = .returned (.agg #[.int .i64 (fitsR n es ls f ul).2.1, .int .i64 (fitsR n es ls f ul).2.2]) ∧ Below w.heap.size w w' := by
  by_cases hc : (chk n es).1 = 0
  · obtain ⟨hck, hn0, hn1, _⟩ := chk_good hc
    obtain ⟨N, rfl⟩ := Int.eq_ofNat_of_zero_le hn0
    have e : (fitsR (N : Int) es ls f ul).2 = fitR N ls ul := by
      unfold fitsR fitR
      rw [if_neg (by simpa using hc)]
      split
      · rfl
      · split
        · rfl
        · show (if (openR N ls 0).1 = 0 then _ else _ : Bool × Int × Int).2 = _
          split
          · rfl
          · rfl
    rw [e]
    exact fault_ok hE hcap hx hck (by omega)
  · obtain ⟨xo, xc, rfl, _⟩ := hx
    have e : (fitsR n es ls f ul).2 = chk n es := by
      unfold fitsR
      rw [if_pos (by simpa using hc)]
    rw [e]
    exact fault_bad hE hcap hc
end Go.Proofs.YtdalconphfgepaaDoor
