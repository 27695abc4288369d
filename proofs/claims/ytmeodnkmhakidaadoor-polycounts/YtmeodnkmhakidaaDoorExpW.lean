/- The coefficients: expand. -/
import Derived.Test.YtmeodnkmhakidaaDoorExpM
import Derived.Test.YtmeodnkmhakidaaDoorCntMR
namespace Go.Proofs.YtmeodnkmhakidaaDoor
set_option maxRecDepth 8000
open Go.RowKit Go.Maps
attribute [local go_sem ↓] Go.wp_at_zero Go.wp_at_succ
theorem make52 (N : Nat) (hN : N ≤ 1000) (w : World) : (Instr.makeSlice 52 (.int .i64 (N : Int)) (.int .i64 (N : Int))).run Tryd.prog w = .ok (.slice (some ⟨w.heap.size, 0, none⟩) N N) (w.alloc (.cells (rep N (.slice none 0 0)) 29)) := by
  obtain ⟨i45, hi45, hy0, hy1, hy2⟩ := info_parts Tryd.info29
  have hr := run_make (P := Tryd.prog) w 52 29 i45 (.slice none 0 0) Tryd.underlying52 hi45 hy0 .i64 .i64 N N (by omega) (Int.le_refl _) (by rw [hy2]; omega) (by omega)
  simpa [hy1, Value.cells] using hr
/-- A table of one's own: its rows lie behind it, one after another. -/
structure Tb (w : World) (bt R C : Nat) (T : Nat → Nat → Int) : Prop where
  tab : RowV w bt 29 R (fun i => sl (bt + 1 + i) C)
  row : ∀ i, i < R → RowV w (bt + 1 + i) 3 C (fun j => .int .i64 (T i j))
section
variable {w w' : World} {bt R C : Nat} {T : Nat → Nat → Int}
theorem Tb.keep (h : Tb w bt R C T) (hb : ∀ b, bt ≤ b → b ≤ bt + R → b < w.heap.size → w'.heap[b]? = w.heap[b]?) : Tb w' bt R C T :=
  ⟨h.tab.block (hb bt (Nat.le_refl _) (by omega) h.tab.lt), fun i hi => (h.row i hi).block (hb _ (by omega) (by omega) (h.row i hi).lt)⟩
theorem Tb.under (h : Tb w bt R C T) (hb : Below w.heap.size w w') : Tb w' bt R C T := h.keep fun b _ _ hl => hb.block b hl
theorem Tb.turns {M : Nat → Prop} (h : Tb w bt R C T) (ht : Turns M w w') (hm : ∀ b, bt ≤ b → b ≤ bt + R → ¬ M b) : Tb w' bt R C T := h.keep fun b h1 h2 hl => ht.block b hl (hm b h1 h2)
theorem Tb.set (h : Tb w bt R C T) {i j : Nat} (x : Int) : Tb (w.setCell ⟨bt + 1 + i, j, none⟩ (.int .i64 x)) bt R C (fun a b => if a = i ∧ b = j then x else T a b) := by
  refine ⟨h.tab.turns (setCell_turns _ _ _ _) (by omega), fun a ha => ?_⟩
  by_cases e : a = i
  · subst e
    refine ((h.row a ha).set j _).congr fun b hb => ?_
    by_cases e2 : b = j
    · rw [if_pos e2, if_pos ⟨rfl, e2⟩]
    · rw [if_neg e2, if_neg (fun h => e2 h.2)]
  · refine ((h.row a ha).turns (setCell_turns _ _ _ _) (by omega)).congr fun b hb => ?_
    rw [if_neg (fun h => e h.1)]
theorem Tb.congr {T' : Nat → Nat → Int} (h : Tb w bt R C T) (e : ∀ i j, i < R → j < C → T i j = T' i j) : Tb w bt R C T' := ⟨h.tab, fun i hi => (h.row i hi).congr fun j hj => by rw [e i j hi hj]⟩
end
/-- What the range over the map has. -/
structure EI (w wz : World) (mb rr n : Nat) (F : Cts) (bt r c : Nat) (V : List K2) (cnt : Nat) : Prop where
  ran : RanC wz mb rr n F (fun k => k ∈ V) cnt
  tb : Tb wz bt (r + 1) (c + 1) (tsum F V)
  nd : V.Nodup
  inn : ∀ k ∈ V, F k ≠ none
  bel : Below w.heap.size w wz
theorem OwF.base {w : World} {base base' g cap n : Nat} {t : TypeId} {f : Nat → Value} (h : OwF w base g t cap n f) (hb : base' ≤ base) : OwF w base' g t cap n f := ⟨Nat.le_trans hb h.1, h.2⟩
def VX (b7 B k1 k2 : Nat) : Nat → Value → World → Prop
  | 0, x, _ => x = .pointer (some ⟨b7, 0, none⟩)
  | 1, x, _ => x = .int .i64 (k1 : Int)
  | 2, x, w => ∃ g cap, x = .slice (some ⟨g, 0, none⟩) (k1 + 1) cap ∧ OwF w B g 3 cap (k1 + 1) (coV k1)
  | 3, x, _ => x = .pointer (some ⟨b7, 1, none⟩)
  | 4, x, _ => x = .int .i64 (k2 : Int)
  | 5, x, w => ∃ g cap, x = .slice (some ⟨g, 0, none⟩) (k2 + 1) cap ∧ OwF w B g 3 cap (k2 + 1) (coV k2)
  | 6, x, w => ∃ g cap, x = .slice (some ⟨g, 0, none⟩) (k1 + 1) cap ∧ OwF w B g 3 cap (k1 + 1) (coV k1)
  | 7, x, w => ∃ g cap, x = .slice (some ⟨g, 0, none⟩) (k2 + 1) cap ∧ OwF w B g 3 cap (k2 + 1) (coV k2)
  | _, _, _ => True
theorem VX_mono {b7 B k1 k2 : Nat} : ∀ i x w w', VX b7 B k1 k2 i x w → Below w.heap.size w w' → VX b7 B k1 k2 i x w' := fun i x w w' h hb => by
  match i with
  | 0 => exact h
  | 1 => exact h
  | 2 => obtain ⟨g, cap, h1, h2⟩ := h; exact ⟨g, cap, h1, h2.below hb⟩
  | 3 => exact h
  | 4 => exact h
  | 5 => obtain ⟨g, cap, h1, h2⟩ := h; exact ⟨g, cap, h1, h2.below hb⟩
  | 6 => obtain ⟨g, cap, h1, h2⟩ := h; exact ⟨g, cap, h1, h2.below hb⟩
  | 7 => obtain ⟨g, cap, h1, h2⟩ := h; exact ⟨g, cap, h1, h2.below hb⟩
  | n + 8 => exact h
theorem grown_of_below {w w' : World} (hb : Below w.heap.size w w') : w.grownBy w' none := ⟨hb.os, hb.tape, hb.output, hb.size, fun j hj _ => hb.block j hj⟩
set_option maxHeartbeats 16000000 in
theorem expand_call {w : World} {mb n r c : Nat} {F : Cts} (hM : CntM w mb n F) (hk : ∀ k, F k ≠ none → k.1 ≤ r ∧ k.2 ≤ c) (hr : r ≤ 100) (hc : c ≤ 12) (hk1 : ∀ k, F k ≠ none → k.1 ≤ 12) (hsum : ∀ V : List K2, V.Nodup → (∀ k ∈ V, F k ≠ none) → (V.map fun k => (cn F k : Int)).sum ≤ 4096) :
    Calls Tryd.prog 40 #[.map (some mb), .agg #[.int .i64 (r : Int), .int .i64 (c : Int)]] w fun e w' => (∃ bt V, e = .returned (sl bt (r + 1)) ∧ V.Nodup ∧ (∀ k, F k ≠ none → k ∈ V) ∧ Tb w' bt (r + 1) (c + 1) (tsum F V)) ∧ Below w.heap.size w w' := by
  have HH : Hid (CntM w mb n F ∧ (∀ k, F k ≠ none → k.1 ≤ r ∧ k.2 ≤ c) ∧ (∀ k, F k ≠ none → k.1 ≤ 12) ∧ (∀ V : List K2, V.Nodup → (∀ k ∈ V, F k ≠ none) → (V.map fun k => (cn F k : Int)).sum ≤ 4096)) := ⟨hM, hk, hk1, hsum⟩
  clear hM hk hk1 hsum
  have hmk : ∀ W : World, (Instr.makeSlice 52 (.int .i64 ((r : Int) + 1)) (.int .i64 ((r : Int) + 1))).run Tryd.prog W = .ok (.slice (some ⟨W.heap.size, 0, none⟩) (r + 1) (r + 1)) (W.alloc (.cells (rep (r + 1) (.slice none 0 0)) 29)) := fun W => by
    have h := make52 (r + 1) (by omega) W
    rw [show ((r + 1 : Nat) : Int) = (r : Int) + 1 by omega] at h
    exact h
  have hmk2 : ∀ W : World, (Instr.makeSlice 29 (.int .i64 ((c : Int) + 1)) (.int .i64 ((c : Int) + 1))).run Tryd.prog W = .ok (.slice (some ⟨W.heap.size, 0, none⟩) (c + 1) (c + 1)) (W.alloc (.cells (rep (c + 1) (.int .i64 0)) 3)) := fun W => by
    have h := make29 (c + 1) (by omega) W
    rw [show ((c + 1 : Nat) : Int) = (c : Int) + 1 by omega] at h
    exact h
  go_enter Tryd.func40, Tryd.ntmps40
  go_upto_region 3 with (fail)
  have t3 : Two ((w.alloc (Obj.cells #[.int .i64 (r : Int), .int .i64 (c : Int)] 58)).alloc (.cells (rep (r + 1) (.slice none 0 0)) 29)) w.heap.size (.int .i64 (r : Int)) (.int .i64 (c : Int)) 58 := two_alloc (two_new _ _ _ _) _
  have hbt : RowV ((w.alloc (Obj.cells #[.int .i64 (r : Int), .int .i64 (c : Int)] 58)).alloc (.cells (rep (r + 1) (.slice none 0 0)) 29)) (w.heap.size + 1) 29 (r + 1) (fun _ => .slice none 0 0) := by
    refine rowV_rep ?_
    have := heap_alloc_new (w.alloc (Obj.cells #[.int .i64 (r : Int), .int .i64 (c : Int)] 58)) (Obj.cells (rep (r + 1) (.slice none 0 0)) 29)
    simpa using this
  have hB0 : Below w.heap.size w ((w.alloc (Obj.cells #[.int .i64 (r : Int), .int .i64 (c : Int)] 58)).alloc (.cells (rep (r + 1) (.slice none 0 0)) 29)) := below_alloc (below_alloc (Below.refl _ w) _) _
  have hsz : ((w.alloc (Obj.cells #[.int .i64 (r : Int), .int .i64 (c : Int)] 58)).alloc (.cells (rep (r + 1) (.slice none 0 0)) 29)).heap.size = w.heap.size + 2 := by simp
  generalize ((w.alloc (Obj.cells #[.int .i64 (r : Int), .int .i64 (c : Int)] 58)).alloc (.cells (rep (r + 1) (.slice none 0 0)) 29)) = W1 at *
  obtain ⟨bt, hbtS⟩ : ∃ bt, bt = w.heap.size + 1 := ⟨_, rfl⟩
  obtain ⟨b3, hb3⟩ : ∃ b3, b3 = w.heap.size := ⟨_, rfl⟩
  rw [← hbtS] at hbt ⊢
  rw [← hb3] at t3 ⊢
  have HW1 : Hid (Two W1 b3 (.int .i64 (r : Int)) (.int .i64 (c : Int)) 58 ∧ RowV W1 bt 29 (r + 1) (fun _ => .slice none 0 0) ∧ Below w.heap.size w W1 ∧ W1.heap.size = bt + 1 ∧ b3 < bt ∧ w.heap.size ≤ b3 ∧ mb < b3) := ⟨t3, hbt, hB0, by omega, by omega, by omega, by have := HH.out.1.lt; omega⟩
  clear t3 hbt hB0 hsz hmk hbtS hb3
  go_loopw [6, 21] (fun _ s21 wz => ∃ i : Nat, i ≤ r + 1 ∧ s21 = .int .i64 (i : Int) ∧ Hid (Turns (fun x => x = bt) W1 wz ∧ wz.heap.size = bt + 1 + i ∧ RowV wz bt 29 (r + 1) (fun x => if x < i then sl (bt + 1 + x) (c + 1) else .slice none 0 0) ∧ ∀ x, x < i → RowV wz (bt + 1 + x) 3 (c + 1) (fun _ => .int .i64 0))) (fun _ s21 _ => r + 1 - (numOf s21).toNat)
  case atStart => exact ⟨0, Nat.zero_le _, rfl, Turns.refl _ _, HW1.out.2.2.2.1, HW1.out.2.1.congr (fun j _ => by simp), fun x hx => by omega⟩
  case round =>
    obtain ⟨i, hi, rfl, hJ⟩ := hrel
    by_cases hlt : i < r + 1
    · have k1 : decide ((i : Int) < ((r + 1 : Nat) : Int)) = true := by simp; omega
      obtain ⟨d0, d1⟩ := cell_two (two_turns HW1.out.1 hJ.out.1 (by have := HW1.out.2.2.2.2.1; omega))
      have hB := below_alloc (Below.refl _ wr) (Obj.cells (rep (c + 1) (.int .i64 0)) 3)
      have hR2 := hJ.out.2.2.1.block (hB.block _ hJ.out.2.2.1.lt)
      have cr := hR2.cell (j := i) hlt
      have fr0 := hR2.free i
      have i0 : (0 : Int) ≤ (i : Int) := by omega
      have i1 : (i : Int) < ((r + 1 : Nat) : Int) := by omega
      have i2 : (i : Int) < (r : Int) + 1 := by omega
      have HB : Hid _ := And.intro hB hR2
      have hnew := heap_alloc_new wr (Obj.cells (rep (c + 1) (.int .i64 0)) 3)
      have HN : Hid _ := hnew
      clear hB hR2 hnew
      go_wp2
      go_roundw
      case rel =>
        have hsz := hJ.out.2.1
        rw [hsz]
        refine ⟨i + 1, by omega, by go_num, ?_, ?_, ?_, fun x hx => ?_⟩
        · exact (hJ.out.1.trans (Turns.of_below HB.out.1 _)).trans (setCell_turns _ _ _ _)
        · simp [World.setCell]; omega
        · refine (HB.out.2.set i _).congr fun j hj => ?_
          by_cases e : j = i
          · subst e; rw [if_pos rfl, if_pos (by omega)]
          · rw [if_neg e]
            by_cases e2 : j < i
            · rw [if_pos e2, if_pos (by omega)]
            · rw [if_neg e2, if_neg (by omega)]
        · by_cases e : x = i
          · subst e
            have := HN.out
            rw [hsz] at this
            exact (rowV_rep this).turns (setCell_turns _ _ _ _) (by omega)
          · have h1 := hJ.out.2.2.2 x (by omega)
            exact (h1.block (HB.out.1.block _ h1.lt)).turns (setCell_turns _ _ _ _) (by omega)
      case measure => simp [numOf]; omega
    · obtain rfl : i = r + 1 := by omega
      have k1 : decide (((r + 1 : Nat) : Int) < ((r + 1 : Nat) : Int)) = false := by simp
      have HT : Hid (Tb wr bt (r + 1) (c + 1) (tsum F []) ∧ Below w.heap.size w wr ∧ CntM wr mb n F ∧ wr.heap.size = bt + r + 2) := by
        refine ⟨⟨hJ.out.2.2.1.congr fun j hj => by rw [if_pos hj], fun i hi => (hJ.out.2.2.2 i hi).congr fun j hj => rfl⟩, hJ.out.1.below HW1.out.2.2.1 HW1.out.2.2.1.size (fun k e => by have := HW1.out; omega), HH.out.1.turns ((Turns.of_below HW1.out.2.2.1 _).trans hJ.out.1) (by have := HW1.out; omega), by have := hJ.out.2.1; omega⟩
      clear hJ hmk2
      have HM1 : Hid (CntM wr mb n F) := HT.out.2.2.1
      go_wp2_with (first | (at_range; refine wpList_range_C rfl _ rfl rfl HM1.out ?_; intro w2 cnt0 hc0 hR0 hg0 hs0) | go_in)
      go_frame
      have hB2 : Below wr.heap.size wr w2 := (Turns.of_grown hg0).below (Below.refl _ _) (Nat.le_refl _) (fun z hz => by cases hz)
      have HI0 : Hid (EI w w2 mb wr.heap.size n F bt r c [] cnt0) := ⟨hR0.congr (fun k => by simp), HT.out.1.under hB2, List.nodup_nil, fun k hk => (by cases hk), below_next HT.out.2.1 hB2⟩
      have HAP : Hid (wr.heap.size = bt + r + 2 ∧ b3 < bt ∧ w.heap.size ≤ b3 ∧ mb < b3) := ⟨HT.out.2.2.2, HW1.out.2.2.2.2.1, HW1.out.2.2.2.2.2.1, HW1.out.2.2.2.2.2.2⟩
      clear hR0 hg0 hs0 hc0 hB2 HM1 HT HW1
      generalize wr.heap.size = rr at *
      go_loopw [8] (fun _ wz => ∃ V cnt, Hid (EI w wz mb rr n F bt r c V cnt)) (fun _ wz => wz.rangeLeft mb rr)
      case atStart => exact ⟨_, _, HI0⟩
      case round =>
        clear HI0
        obtain ⟨V, cnt, hI⟩ := hrel
        go_wp2_with (first | (at_next; refine wpList_next_C rfl _ rfl rfl hI.out.ran ?_ ?_) | go_in)
        · intro hall
          have HD : Hid (V.Nodup ∧ (∀ k, F k ≠ none → k ∈ V) ∧ Tb wr bt (r + 1) (c + 1) (tsum F V) ∧ Below w.heap.size w wr) := ⟨hI.out.nd, fun k hk => hall k.1 k.2 hk, hI.out.tb, hI.out.bel⟩
          clear hI hall
          go_wp2
          go_ret
          exact ⟨⟨bt, V, rfl, HD.out.1, HD.out.2.1, HD.out.2.2.1⟩, HD.out.2.2.2⟩
        · intro k1 k2 cN w3 cnt3 hko hkc hnV hR3 hlt3 hg3 hs3 hen
          have HQ : Hid (cnt3 < cnt ∧ wr.rangeLeft mb rr = cnt) := ⟨hlt3, hI.out.ran.left_eq⟩
          have ht3 := Turns.of_grown hg3
          have HI3 : Hid (RanC w3 mb rr n F (fun t => t ∈ (k1, k2) :: V) cnt3 ∧ Tb w3 bt (r + 1) (c + 1) (tsum F V) ∧ Below w.heap.size w w3 ∧ V.Nodup ∧ (∀ k ∈ V, F k ≠ none) ∧ ¬ (k1, k2) ∈ V ∧ F (k1, k2) = some cN) := ⟨hR3.congr (fun t => by simp [or_comm]), hI.out.tb.turns ht3 (fun b h1 h2 e => by cases e; have := HAP.out; omega), ht3.below hI.out.bel hI.out.bel.size (fun z hz => by cases hz; have := HAP.out; omega), hI.out.nd, hI.out.inn, hnV, hkc⟩
          clear hI hR3 hg3 hs3 hlt3 hnV hkc ht3
          go_upto_region 10 with (fail)
          have x7 := two_new w3 (.int .i64 (k1 : Int)) (.int .i64 (k2 : Int)) 58
          have hB4 := below_alloc (Below.refl _ w3) (Obj.cells #[.int .i64 (k1 : Int), .int .i64 (k2 : Int)] 58)
          obtain ⟨b7, hb7⟩ : ∃ b, b = w3.heap.size := ⟨_, rfl⟩
          rw [← hb7] at x7 ⊢
          generalize w3.alloc (Obj.cells #[.int .i64 (k1 : Int), .int .i64 (k2 : Int)] 58) = W4 at *
          have hF0 : F (k1, k2) ≠ none := by rw [HI3.out.2.2.2.2.2.2]; simp
          have hkr := HH.out.2.1 _ hF0
          have hk12 := HH.out.2.2.1 _ hF0
          simp only at hkr hk12
          have hcn : cn F (k1, k2) = cN := by unfold cn; rw [HI3.out.2.2.2.2.2.2]; rfl
          have hcN : cN ≤ 4096 := by
            have := HH.out.2.2.2 [(k1, k2)] (by simp) (fun k hk => by simp at hk; subst hk; exact hF0)
            simp [hcn] at this
            omega
          have HI4 : Hid (∀ A, Below W4.heap.size W4 A → RanC A mb rr n F (fun t => t ∈ (k1, k2) :: V) cnt3 ∧ Tb A bt (r + 1) (c + 1) (tsum F V) ∧ Below w.heap.size w A ∧ Two A b7 (.int .i64 (k1 : Int)) (.int .i64 (k2 : Int)) 58) := fun A hA => by
            have hb := below_next hB4 hA
            exact ⟨HI3.out.1.kept (grown_of_below hb) (fun e => by cases e) (fun e => by cases e), HI3.out.2.1.under hb, below_next HI3.out.2.2.1 hb, two_next x7 hA⟩
          have HV4 : Hid (V.Nodup ∧ (∀ k ∈ V, F k ≠ none) ∧ ¬ (k1, k2) ∈ V ∧ F (k1, k2) ≠ none ∧ cn F (k1, k2) = cN ∧ bt + r + 2 ≤ W4.heap.size) := ⟨HI3.out.2.2.2.1, HI3.out.2.2.2.2.1, HI3.out.2.2.2.2.2.1, hF0, hcn, by
            have h1 := HI3.out.2.1
            have h2 := (h1.row r (by omega)).lt
            have := hB4.size
            omega⟩
          clear HI3 hB4 hb7 hF0 hcn x7
          refine region_ext (J := ST W4 (VX b7 W4.heap.size k1 k2)) (by kernel_rfl) (by kernel_rfl) (by kernel_rfl) ST.start ?_ ?_
          · intro i o hi L xs a w1 hJ hL hd hcl hX
            match i, hi with
            | 0, hi =>
              cases hi
              have s7 := hX.out (s := 7) rfl
              refine wpOp_value rfl rfl (v := .pointer (some ⟨b7, 0, none⟩)) (w' := w1) ?_ ⟨_, rfl, hJ.put VX_mono (Below.refl _ _) rfl⟩
              simp [go_sem, Act.eval, s7]
            | 1, hi =>
              cases hi
              have l0 := hd ⟨0, .data⟩ (by simp) rfl
              have r0 := (hX.rd 0 _ 39 rfl rfl l0).trans (hJ.told 0 l0)
              obtain ⟨q0, q1⟩ := cell_two (HI4.out _ hJ.bel).2.2.2
              refine wpOp_value rfl rfl (v := .int .i64 (k1 : Int)) (w' := w1) ?_ ⟨_, rfl, hJ.put VX_mono (Below.refl _ _) rfl⟩
              simp [go_sem, Act.eval, r0, q0]
            | 2, hi =>
              cases hi
              have l1 := hd ⟨1, .data⟩ (by simp) rfl
              have r1 := (hX.rd 1 _ 40 rfl rfl l1).trans (hJ.told 1 l1)
              refine wpOp_call rfl rfl (f := 50) (args := #[.int .i64 (k1 : Int)]) (w' := w1) ?_ ?_
              · simp [go_sem, Act.eval, r1]
              · refine (lessOne_call (w := w1) (p := k1) hk12).mono ?_
                rintro e w2 ⟨g, cap, rfl, hO, hB⟩
                exact ⟨_, rfl, _, rfl, hJ.put VX_mono hB ⟨g, cap, rfl, hO.base hJ.bel.size⟩⟩
            | 3, hi =>
              cases hi
              have s7 := hX.out (s := 7) rfl
              refine wpOp_value rfl rfl (v := .pointer (some ⟨b7, 1, none⟩)) (w' := w1) ?_ ⟨_, rfl, hJ.put VX_mono (Below.refl _ _) rfl⟩
              simp [go_sem, Act.eval, s7]
            | 4, hi =>
              cases hi
              have l3 := hd ⟨3, .data⟩ (by simp) rfl
              have r3 := (hX.rd 3 _ 42 rfl rfl l3).trans (hJ.told 3 l3)
              obtain ⟨q0, q1⟩ := cell_two (HI4.out _ hJ.bel).2.2.2
              refine wpOp_value rfl rfl (v := .int .i64 (k2 : Int)) (w' := w1) ?_ ⟨_, rfl, hJ.put VX_mono (Below.refl _ _) rfl⟩
              simp [go_sem, Act.eval, r3, q1]
            | 5, hi =>
              cases hi
              have l4 := hd ⟨4, .data⟩ (by simp) rfl
              have r4 := (hX.rd 4 _ 43 rfl rfl l4).trans (hJ.told 4 l4)
              refine wpOp_call rfl rfl (f := 50) (args := #[.int .i64 (k2 : Int)]) (w' := w1) ?_ ?_
              · simp [go_sem, Act.eval, r4]
              · refine (lessOne_call (w := w1) (p := k2) (by omega)).mono ?_
                rintro e w2 ⟨g, cap, rfl, hO, hB⟩
                exact ⟨_, rfl, _, rfl, hJ.put VX_mono hB ⟨g, cap, rfl, hO.base hJ.bel.size⟩⟩
            | 6, hi =>
              cases hi
              have l2 := hd ⟨2, .data⟩ (by simp) rfl
              have v2 := hJ.told 2 l2
              have r2 := hX.rd 2 _ 41 rfl rfl l2
              refine wpOp_value rfl rfl (v := xs 2) (w' := w1) ?_ ⟨_, rfl, hJ.put VX_mono (Below.refl _ _) v2⟩
              simp [go_sem, Act.eval, r2]
            | 7, hi =>
              cases hi
              have l5 := hd ⟨5, .data⟩ (by simp) rfl
              have v5 := hJ.told 5 l5
              have r5 := hX.rd 5 _ 44 rfl rfl l5
              refine wpOp_value rfl rfl (v := xs 5) (w' := w1) ?_ ⟨_, rfl, hJ.put VX_mono (Below.refl _ _) v5⟩
              simp [go_sem, Act.eval, r5]
            | m + 8, hi => cases hi
          · intro L0 xv W5 hJ hall
            obtain ⟨g1, cap1, e6, hO1⟩ := hJ.told 6 (hall 6 (by simp))
            obtain ⟨g2, cap2, e7, hO2⟩ := hJ.told 7 (hall 7 (by simp))
            have hB5 := hJ.bel
            simp only [puts, Act.put, e6, e7, List.setIfInBounds_toArray, List.set_cons_succ, List.set_cons_zero]
            have HW5 : Hid (OwF W5 W4.heap.size g1 3 cap1 (k1 + 1) (coV k1) ∧ OwF W5 W4.heap.size g2 3 cap2 (k2 + 1) (coV k2) ∧ RanC W5 mb rr n F (fun t => t ∈ (k1, k2) :: V) cnt3 ∧ Tb W5 bt (r + 1) (c + 1) (tsum F V) ∧ Below w.heap.size w W5) := ⟨hO1, hO2, (HI4.out _ hB5).1, (HI4.out _ hB5).2.1, (HI4.out _ hB5).2.2.1⟩
            clear hJ hall e6 e7 hO1 hO2 hB5 HI4
            generalize xv 0 = z0
            generalize xv 1 = z1
            generalize xv 2 = z2
            generalize xv 3 = z3
            generalize xv 4 = z4
            generalize xv 5 = z5
            go_upto_region 12 with (fail)
            have HSM : Hid (∀ x y, -274877906944 ≤ tsum F V x y ∧ tsum F V x y ≤ 274877906944) := fun x y => by
              have h1 := tsum_small (F := F) (V := V) (fun k hk => by have h1 := HH.out.2.2.1 k (HV4.out.2.1 k hk); have h2 := HH.out.2.1 k (HV4.out.2.1 k hk); omega) x y
              have h2 := HH.out.2.2.2 V HV4.out.1 HV4.out.2.1
              omega
            have HTM : Hid (∀ x y, -274877906944 ≤ (cN : Int) * (co k1 x * co k2 y) ∧ (cN : Int) * (co k1 x * co k2 y) ≤ 274877906944) := fun x y => by
              have := term_small (c := cN) (co_small (k := k1) (by omega) x) (co_small (k := k2) (by omega) y)
              omega
            go_loopw [47] (fun s47 wz => ∃ i : Nat, i ≤ k1 + 1 ∧ s47 = .int .i64 (i : Int) ∧ Hid (Tb wz bt (r + 1) (c + 1) (fun x y => tsum F V x y + if x < i then (cN : Int) * (co k1 x * co k2 y) else 0) ∧ Turns (fun b => bt < b ∧ b < bt + r + 2) W5 wz)) (fun s47 _ => k1 + 1 - (numOf s47).toNat)
            case atStart => exact ⟨0, Nat.zero_le _, rfl, HW5.out.2.2.2.1.congr (fun i j _ _ => by simp), Turns.refl _ _⟩
            case round =>
              obtain ⟨i, hi, rfl, hJ⟩ := hrel
              by_cases hlt : i < k1 + 1
              · have kk1 : decide ((i : Int) < ((k1 + 1 : Nat) : Int)) = true := by simp; omega
                have hO1 := HW5.out.1.turns hJ.out.2 (fun e => by have := HW5.out.1.1; have := HV4.out.2.2.2.2.2; omega)
                have cx : wr.cell? ⟨g1, i, none⟩ = some (.int .i64 (co k1 i)) := hO1.cell hlt
                have i0 : (0 : Int) ≤ (i : Int) := by omega
                have i1 : (i : Int) < ((k1 + 1 : Nat) : Int) := by omega
                have i2 : (i : Int) < ((r + 1 : Nat) : Int) := by omega
                clear hO1
                go_upto_region 15 with (fail)
                clear cx
                go_loopw [54] (fun s54 wz => ∃ j : Nat, j ≤ k2 + 1 ∧ s54 = .int .i64 (j : Int) ∧ Hid (Tb wz bt (r + 1) (c + 1) (fun x y => tsum F V x y + if x < i ∨ (x = i ∧ y < j) then (cN : Int) * (co k1 x * co k2 y) else 0) ∧ Turns (fun b => bt < b ∧ b < bt + r + 2) W5 wz)) (fun s54 _ => k2 + 1 - (numOf s54).toNat)
                case atStart => exact ⟨0, Nat.zero_le _, rfl, hJ.out.1.congr (fun x y _ _ => by simp), hJ.out.2⟩
                case round =>
                  obtain ⟨j, hj, rfl, hJ2⟩ := hrel
                  clear hJ
                  by_cases hlt2 : j < k2 + 1
                  · have kk2 : decide ((j : Int) < ((k2 + 1 : Nat) : Int)) = true := by simp; omega
                    have hO2 := HW5.out.2.1.turns hJ2.out.2 (fun e => by have := HW5.out.2.1.1; have := HV4.out.2.2.2.2.2; omega)
                    have cy : wr.cell? ⟨g2, j, none⟩ = some (.int .i64 (co k2 j)) := hO2.cell hlt2
                    have j0 : (0 : Int) ≤ (j : Int) := by omega
                    have j1 : (j : Int) < ((k2 + 1 : Nat) : Int) := by omega
                    have j2 : (j : Int) < ((c + 1 : Nat) : Int) := by omega
                    have ct : wr.cell? ⟨bt, i, none⟩ = some (sl (bt + 1 + i) (c + 1)) := hJ2.out.1.tab.cell (j := i) (by omega)
                    have hrow := hJ2.out.1.row i (by omega)
                    have cr : wr.cell? ⟨bt + 1 + i, j, none⟩ = some (.int .i64 (tsum F V i j)) := by
                      have := hrow.cell (j := j) (by omega)
                      rw [if_neg (by omega), Int.add_zero] at this
                      exact this
                    have fr0 := hrow.free j
                    have b0 := HSM.out i j
                    have b1 := HTM.out i j
                    have b2 := co_small (k := k1) (by omega) i
                    obtain ⟨tm, htm⟩ : ∃ tm, tm = (cN : Int) * (co k1 i * co k2 j) := ⟨_, rfl⟩
                    have em : (cN : Int) * co k1 i * co k2 j = tm := by rw [htm, Int.mul_assoc]
                    rw [← htm] at b1
                    have b3' : -9223372036854775808 ≤ (cN : Int) * co k1 i := by
                      have h1 : ((cN : Int) * co k1 i).natAbs ≤ 4096 * 8192 := by
                        rw [Int.natAbs_mul]
                        exact Nat.mul_le_mul (by omega) (by omega)
                      omega
                    have b4' : (cN : Int) * co k1 i < 9223372036854775808 := by
                      have h1 : ((cN : Int) * co k1 i).natAbs ≤ 4096 * 8192 := by
                        rw [Int.natAbs_mul]
                        exact Nat.mul_le_mul (by omega) (by omega)
                      omega
                    have b5' : -9223372036854775808 ≤ tm := by omega
                    have b6' : tm < 9223372036854775808 := by omega
                    have b7' : -9223372036854775808 ≤ tsum F V i j + tm := by omega
                    have b8' : tsum F V i j + tm < 9223372036854775808 := by omega
                    have HTm : Hid (tm = (cN : Int) * (co k1 i * co k2 j)) := htm
                    clear b0 b1 b2 hO2 hrow htm
                    go_wp2
                    go_roundw
                    case rel =>
                      refine ⟨j + 1, by omega, by go_num, (hJ2.out.1.set (i := i) (j := j) (tsum F V i j + tm)).congr (fun x y _ _ => ?_), hJ2.out.2.trans ((setCell_turns _ _ _ _).mono fun b _ e => by omega)⟩
                      by_cases e : x = i ∧ y = j
                      · rw [if_pos e, if_pos (by omega), e.1, e.2, HTm.out]
                      · rw [if_neg e]
                        by_cases e2 : x < i ∨ (x = i ∧ y < j)
                        · rw [if_pos e2, if_pos (by omega)]
                        · rw [if_neg e2, if_neg (by omega)]
                    case measure => simp [numOf]; omega
                  · obtain rfl : j = k2 + 1 := by omega
                    have kk2 : decide (((k2 + 1 : Nat) : Int) < ((k2 + 1 : Nat) : Int)) = false := by simp
                    go_wp2
                    go_roundw
                    case rel =>
                      refine ⟨i + 1, by omega, by go_num, hJ2.out.1.congr (fun x y _ _ => ?_), hJ2.out.2⟩
                      by_cases e : x = i
                      · subst e
                        by_cases e2 : y < k2 + 1
                        · rw [if_pos (by omega), if_pos (by omega)]
                        · rw [if_neg (by omega), if_pos (by omega), co_out (show k2 < y by omega)]
                          simp
                      · by_cases e2 : x < i
                        · rw [if_pos (by omega), if_pos (by omega)]
                        · rw [if_neg (by omega), if_neg (by omega)]
                    case measure => simp [numOf]; omega
              · obtain rfl : i = k1 + 1 := by omega
                have kk1 : decide (((k1 + 1 : Nat) : Int) < ((k1 + 1 : Nat) : Int)) = false := by simp
                have HE : Hid (EI w wr mb rr n F bt r c ((k1, k2) :: V) cnt3) := by
                  have hap := HAP.out
                  refine ⟨?_, hJ.out.1.congr (fun x y _ _ => ?_), List.nodup_cons.2 ⟨HV4.out.2.2.1, HV4.out.1⟩, fun k hk => ?_, hJ.out.2.below HW5.out.2.2.2.2 HW5.out.2.2.2.2.size (fun b e => by omega)⟩
                  · have hm := HW5.out.2.2.1.map.lt
                    obtain ⟨D, left, h3, h4⟩ := HW5.out.2.2.1
                    obtain ⟨es, clock, since, seen, c0, q1, q2, q3, q4, q5, q6⟩ := h3
                    have hrl : rr < W5.heap.size := (Array.getElem?_eq_some_iff.1 q5).1
                    exact ⟨D, left, ⟨es, clock, since, seen, c0, (hJ.out.2.block mb hm (by omega)).trans q1, q2, q3, q4, (hJ.out.2.block rr hrl (by omega)).trans q5, q6⟩, h4⟩
                  · rw [tsum_cons, HV4.out.2.2.2.2.1]
                    by_cases e : x < k1 + 1
                    · rw [if_pos e]
                    · rw [if_neg e, co_out (show k1 < x by omega)]
                      simp
                  · rcases List.mem_cons.1 hk with rfl | hk
                    · exact HV4.out.2.2.2.1
                    · exact HV4.out.2.1 k hk
                clear hJ HW5
                go_wp2
                go_roundw
                case rel =>
                  (repeat apply Exists.intro)
                  exact ⟨⟨(k1, k2) :: V, cnt3, HE⟩, rfl⟩
                case measure => rw [HE.out.ran.left_eq, HQ.out.2]; exact HQ.out.1
end Go.Proofs.YtmeodnkmhakidaaDoor
