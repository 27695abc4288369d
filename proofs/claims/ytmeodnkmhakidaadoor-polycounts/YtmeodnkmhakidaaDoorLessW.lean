/- The coefficients of (x - 1)^p: lessOne; the document's own: Power. -/
import Derived.Test.YtmeodnkmhakidaaDoorRegM
import Derived.Test.YtmeodnkmhakidaaDoorTutMN
import Derived.Test.YtmeodnkmhakidaaDoorRowsP
namespace Go.Proofs.YtmeodnkmhakidaaDoor
set_option maxRecDepth 8000
open Go.RowKit Go.Maps
attribute [local go_sem ↓] Go.wp_at_zero Go.wp_at_succ
/-- A row of one's own, by what stands in it. -/
def OwF (w : World) (base g : Nat) (t : TypeId) (cap n : Nat) (f : Nat → Value) : Prop :=
  base ≤ g ∧ n ≤ cap ∧ cap ≤ maxLen ∧ ∃ cur, w.heap[g]? = some (.cells cur t (0, 0)) ∧ cur.size = cap ∧ ∀ j, j < n → cur[j]? = some (f j)
section
variable {w w' : World} {base g cap n : Nat} {t : TypeId} {f : Nat → Value}
theorem OwF.row (h : OwF w base g t cap n f) : RowC w g t n f := by
  obtain ⟨_, h2, _, cur, h4, h5, h6⟩ := h
  exact ⟨cur, h4, by omega, h6⟩
theorem OwF.cell (h : OwF w base g t cap n f) {j : Nat} (hj : j < n) : w.cell? ⟨g, j, none⟩ = some (f j) := h.row.cell hj
theorem OwF.free (h : OwF w base g t cap n f) (j : Nat) : w.frozen? ⟨g, j, none⟩ = false := h.row.free j
theorem OwF.set (h : OwF w base g t cap n f) (y : Nat) (x : Value) : OwF (w.setCell ⟨g, y, none⟩ x) base g t cap n (fun j => if j = y then x else f j) := by
  obtain ⟨h1, h2, h3, cur, h4, h5, h6⟩ := h
  refine ⟨h1, h2, h3, cur.setIfInBounds y x, ?_, by simpa using h5, fun j hj => ?_⟩
  · exact box_set (cs := cur) h4 y x
  · show _ = some (if j = y then x else f j)
    by_cases e : j = y
    · subst e; rw [if_pos rfl]; rw [Array.getElem?_setIfInBounds_self_of_lt (by omega)]
    · rw [if_neg e, Array.getElem?_setIfInBounds_ne (fun h => e h.symm)]; exact h6 j hj
theorem OwF.block (h : OwF w base g t cap n f) (hb : w'.heap[g]? = w.heap[g]?) : OwF w' base g t cap n f := by
  obtain ⟨h1, h2, h3, cur, h4, h5⟩ := h
  exact ⟨h1, h2, h3, cur, hb.trans h4, h5⟩
theorem OwF.lt (h : OwF w base g t cap n f) : g < w.heap.size := h.row.lt
theorem OwF.below (h : OwF w base g t cap n f) (hb : Below w.heap.size w w') : OwF w' base g t cap n f := h.block (hb.block _ h.lt)
theorem OwF.turns {M : Nat → Prop} (h : OwF w base g t cap n f) (ht : Turns M w w') (hm : ¬ M g) : OwF w' base g t cap n f := h.block (ht.block g h.lt hm)
theorem OwF.congr {f' : Nat → Value} (h : OwF w base g t cap n f) (e : ∀ j, j < n → f j = f' j) : OwF w base g t cap n f' := by
  obtain ⟨h1, h2, h3, cur, h4, h5, h6⟩ := h
  exact ⟨h1, h2, h3, cur, h4, h5, fun j hj => by rw [← e j hj]; exact h6 j hj⟩
theorem OwF.own (h : OwF w base g t cap n f) : w.ownsRow base t 1 (.slice (some ⟨g, 0, none⟩) n cap) n ((List.range n).map f) := by
  obtain ⟨h1, h2, h3, cur, h4, h5, h6⟩ := h
  refine ⟨by simp, Or.inr ⟨g, cap, cur, rfl, h1, h4, h2, h3, by omega, ?_⟩⟩
  refine List.ext_getElem? fun j => ?_
  rw [Nat.mul_one]
  by_cases hj : j < n
  · rw [List.getElem?_take_of_lt hj]
    have := h6 j hj
    simp only [List.getElem?_map, List.getElem?_range hj, Option.map_some]
    simpa using this
  · rw [List.getElem?_take_eq_none (by omega), List.getElem?_eq_none (by simp; omega)]
theorem owF_of {v : Value} {xs : List Value} (h : w.ownsRow base t 1 v n xs) (hn : n ≠ 0) (hx : ∀ j, j < n → xs[j]? = some (f j)) : ∃ g cap, v = .slice (some ⟨g, 0, none⟩) n cap ∧ OwF w base g t cap n f := by
  obtain ⟨_, h2 | ⟨g, cap, cur, rfl, h3, h4, h5, h6, h7, h8⟩⟩ := h
  · exact absurd h2.2 hn
  · refine ⟨g, cap, rfl, h3, h5, h6, cur, h4, by omega, fun j hj => ?_⟩
    have := hx j hj
    rw [← h8, Nat.mul_one, List.getElem?_take_of_lt hj] at this
    simpa using this
end
def coV (p : Nat) : Nat → Value := fun i => .int .i64 (co p i)
theorem owF_one (w : World) (base : Nat) (x : Value) (t : TypeId) (hb : base ≤ w.heap.size) : OwF (w.alloc (Obj.cells #[x] t)) base w.heap.size t 1 1 (fun _ => x) :=
  ⟨hb, Nat.le_refl _, by decide, #[x], heap_alloc_new _ _, rfl, fun j hj => by
    have e : j = 0 := by omega
    subst e
    rfl⟩
/-- Rows of numbers: append of one number. -/
theorem wpList_pushN {W : World} {ops : Array Oper} {rest : List Oper} {o : Oper} {a : Act} {Q : Exit → Act → World → Prop} {base g cap n : Nat} {f : Nat → Value} (x : Int) (hgd : o.guard = none) (s y : Operand)
    (ho : o.op = .call { callee := .builtin .append, args := #[s, y], argTypes := #[29, 29] }) (hs : a.eval s = .slice (some ⟨g, 0, none⟩) n cap) (hown : OwF W base g 3 cap n f) (hy : a.eval y = .slice (some ⟨W.heap.size, 0, none⟩) 1 1) (hn : n ≤ 1000) (hb : base ≤ W.heap.size)
    (h : ∀ g' cap' w', OwF w' base g' 3 cap' (n + 1) (fun j => if j = n then .int .i64 x else f j) → Below base W w' → Turns (fun k => k = g) W w' → wpList Tryd.prog ops Q rest (a.put o.dst (.slice (some ⟨g', 0, none⟩) (n + 1) cap')) w') :
    wpList Tryd.prog ops Q (o :: rest) a (W.alloc (Obj.cells #[.int .i64 x] 3)) := by
  obtain ⟨i3, hi3, hy0, hy1, hy2⟩ := info_parts Tryd.info3
  have hW : OwF (W.alloc (Obj.cells #[.int .i64 x] 3)) base g 3 cap n f := hown.below (below_alloc (Below.refl _ _) _)
  refine wpList_append_own _ hgd s y 29 ho base 3 i3 (.int .i64 0) 1 8 Tryd.underlying29 hi3 hy0 hy1 hy2 rfl (by decide) (.slice (some ⟨g, 0, none⟩) n cap) n _ hs hW.own ⟨W.heap.size, 0, none⟩ 1 1 [.int .i64 x] hy rfl ?n1 ?n2 ?n3 ?n4 (by simp; omega) ?_
  case n1 =>
    intro j u hj
    match j, hj with
    | 0, hj => simp at hj; subst hj; simp [Addr.add]
  case n2 => intro u hu; simp at hu; subst hu; rfl
  case n3 => unfold maxLen; omega
  case n4 => omega
  intro v' w' h1 h2 _
  obtain ⟨g', cap', rfl, hf⟩ := owF_of (f := fun j => if j = n then .int .i64 x else f j) h1 (by omega) (fun j hj => by
    by_cases e : j = n
    · subst e
      rw [List.getElem?_append_right (by simp)]
      simp
    · rw [List.getElem?_append_left (by simp; omega), if_neg e, List.getElem?_map, List.getElem?_range (by omega)]
      rfl)
  refine h g' cap' w' hf ?_ ?_
  · have hB : Below base W (W.alloc (Obj.cells #[.int .i64 x] 3)) := ((Below.refl _ W).alloc (Nat.le_refl _) _).mono hb
    exact hB.grown h2 (by simp; omega) (fun k hk => by
      simp only [Value.ownBlock, Option.some.injEq] at hk
      subst hk
      exact hown.1)
  · refine ⟨h2.os, h2.tape, h2.output, by have := h2.size; simp at this; omega, fun k hk hne => ?_⟩
    rw [h2.block k (by simp; omega) (fun e => hne (by simpa [Value.ownBlock] using e))]
    exact Below.heap_alloc _ _ _ hk
theorem co_small {k : Nat} (hk : k ≤ 13) (i : Nat) : -8192 ≤ co k i ∧ co k i ≤ 8192 := by
  have h := co_bd k i
  have h2 : (2 : Int) ^ k ≤ 2 ^ 13 := by
    have : (2 : Nat) ^ k ≤ 2 ^ 13 := Nat.pow_le_pow_right (by decide) hk
    exact_mod_cast this
  have e : (2 : Int) ^ 13 = 8192 := by decide
  rw [e] at h2
  omega
set_option maxHeartbeats 4000000 in
theorem lessOne_call {w : World} {p : Nat} (hp : p ≤ 12) :
    Calls Tryd.prog 50 #[.int .i64 (p : Int)] w fun e w' => ∃ g cap, e = .returned (.slice (some ⟨g, 0, none⟩) (p + 1) cap) ∧ OwF w' w.heap.size g 3 cap (p + 1) (coV p) ∧ Below w.heap.size w w' := by
  go_enter Tryd.func50, Tryd.ntmps50
  go_upto_region 3 with (fail)
  have o0 := owF_one w w.heap.size (.int .i64 1) 3 (Nat.le_refl _)
  have hB0 := below_alloc (Below.refl _ w) (Obj.cells #[.int .i64 1] 3)
  obtain ⟨g0, hg0⟩ : ∃ g, g = w.heap.size := ⟨_, rfl⟩
  rw [← hg0] at o0 ⊢
  generalize w.alloc (Obj.cells #[.int .i64 1] 3) = W0 at *
  have HO : Hid (OwF W0 w.heap.size g0 3 1 1 (fun _ => .int .i64 1) ∧ Below w.heap.size w W0) := ⟨hg0 ▸ o0, hB0⟩
  clear o0 hB0 hg0
  go_loopw [3, 4, 7] (fun s3 _ s7 wz => ∃ (k g cap : Nat), k ≤ p ∧ s7 = .int .i64 (k : Int) ∧ s3 = .slice (some ⟨g, 0, none⟩) (k + 1) cap ∧ Hid (OwF wz w.heap.size g 3 cap (k + 1) (coV k) ∧ Below w.heap.size w wz)) (fun _ _ s7 _ => p - (numOf s7).toNat)
  case atStart => exact ⟨0, g0, 1, Nat.zero_le _, rfl, rfl, HO.out.1.congr (fun j hj => by
    have e : j = 0 := by omega
    subst e
    rfl), HO.out.2⟩
  case round =>
    obtain ⟨k, g, cap, hk, rfl, rfl, hJ⟩ := hrel
    clear HO
    by_cases hlt : k < p
    · have k1 : decide ((k : Int) < (p : Int)) = true := by simp; omega
      go_upto_region 5 with (first | (at_builtin; refine wpList_pushN 0 rfl _ _ rfl rfl hJ.out.1 rfl (by omega) hJ.out.2.size ?_; intro g1 cap1 W1 hO1 hB1 hT1) | fail)
      have HO : Hid (OwF W1 w.heap.size g1 3 cap1 (k + 2) (fun j => .int .i64 (if k + 1 < j then co (k + 1) j else co k j)) ∧ Below w.heap.size w W1) := by
        refine ⟨hO1.congr fun j hj => ?_, hJ.out.2.trans hB1⟩
        rw [if_neg (show ¬ k + 1 < j by omega)]
        by_cases e : j = k + 1
        · subst e; rw [if_pos rfl, co_out (Nat.lt_succ_self k)]
        · rw [if_neg e]; rfl
      clear hO1 hB1 hT1 hJ
      go_wp2_with (fail)
      go_loopw [4] (fun s4 wz => ∃ i : Nat, i ≤ k + 1 ∧ s4 = .int .i64 (i : Int) ∧ Hid (OwF wz w.heap.size g1 3 cap1 (k + 2) (fun j => .int .i64 (if i < j then co (k + 1) j else co k j)) ∧ Below w.heap.size w wz)) (fun s4 _ => (numOf s4).toNat)
      case atStart => exact ⟨k + 1, Nat.le_refl _, by go_num, HO⟩
      case round =>
        obtain ⟨i, hi, rfl, hJ⟩ := hrel
        clear HO
        by_cases hi0 : 0 < i
        · obtain ⟨i, rfl⟩ : ∃ j, i = j + 1 := ⟨i - 1, by omega⟩
          have k2 : decide ((0 : Int) < ((i + 1 : Nat) : Int)) = true := by simp
          have c0 : wr.cell? ⟨g1, i, none⟩ = some (.int .i64 (co k i)) := by
            have := hJ.out.1.cell (j := i) (by omega)
            rw [if_neg (by omega)] at this
            exact this
          have c1 : wr.cell? ⟨g1, i + 1, none⟩ = some (.int .i64 (co k (i + 1))) := by
            have := hJ.out.1.cell (j := i + 1) (by omega)
            rw [if_neg (by omega)] at this
            exact this
          have b0 := co_small (k := k) (by omega) i
          have b1 := co_small (k := k) (by omega) (i + 1)
          have b2 : -9223372036854775808 ≤ co k i - co k (i + 1) := by omega
          have b3 : co k i - co k (i + 1) < 9223372036854775808 := by omega
          have es : ((i + 1 : Nat) : Int) - 1 = (i : Int) := by omega
          have i0 : (0 : Int) ≤ (i : Int) := by omega
          have i1 : (i : Int) < ((k + 2 : Nat) : Int) := by omega
          have i2 : (0 : Int) ≤ ((i + 1 : Nat) : Int) := by omega
          have i3 : ((i + 1 : Nat) : Int) < ((k + 2 : Nat) : Int) := by omega
          have n3 : (0 : Int) < ((i + 1 : Nat) : Int) := by omega
          clear b0 b1
          go_upto_region 8 with (fail)
          have d0 := cell_growD c0
          have d1 := cell_growD c1
          clear c0 c1
          refine wp_region_tailT 13 (by kernel_rfl) (by kernel_rfl) (by kernel_rfl) (by decide) ?_
          simp only [List.take_succ_cons, List.take_zero, List.drop_succ_cons, List.drop_zero]
          repeat (go_big_quiet_step (fail))
          refine wpQuiet_nil ?_
          rintro _ ⟨gp, rfl⟩
          have hB8 := growD_below wr gp
          clear d0 d1
          generalize growD wr gp = w8 at *
          have hO8 := hJ.out.1.below hB8
          have c8 := hO8.cell (j := i + 1) (by omega)
          have f8 := hO8.free (i + 1)
          have HO8 : Hid _ := And.intro hO8 (below_next hJ.out.2 hB8)
          clear hO8 hB8
          go_wp2
          go_roundw
          case rel =>
            refine ⟨i, by omega, by go_num, (HO8.out.1.set (i + 1) (.int .i64 (co k i - co k (i + 1)))).congr (fun j hj => ?_), HO8.out.2.setCell HO8.out.1.1 _⟩
            by_cases e : j = i + 1
            · subst e
              rw [if_pos rfl, if_pos (by omega)]
              rfl
            · rw [if_neg e]
              by_cases e2 : i + 1 < j
              · rw [if_pos e2, if_pos (by omega)]
              · rw [if_neg e2, if_neg (by omega)]
          case measure => simp [numOf]
        · obtain rfl : i = 0 := by omega
          have c0 : wr.cell? ⟨g1, 0, none⟩ = some (.int .i64 (co k 0)) := by
            have := hJ.out.1.cell (j := 0) (by omega)
            rw [if_neg (by omega)] at this
            exact this
          have f0 := hJ.out.1.free 0
          have b0 := co_small (k := k) (by omega) 0
          have b2 : -9223372036854775808 ≤ - co k 0 := by omega
          have b3 : - co k 0 < 9223372036854775808 := by omega
          have i1 : (0 : Int) < ((k + 2 : Nat) : Int) := by omega
          clear b0
          go_wp2
          go_roundw
          case rel =>
            refine ⟨k + 1, g1, cap1, by omega, by go_num, rfl, (hJ.out.1.set 0 (.int .i64 (- co k 0))).congr (fun j hj => ?_), hJ.out.2.setCell hJ.out.1.1 _⟩
            by_cases e : j = 0
            · subst e
              rw [if_pos rfl]
              rfl
            · rw [if_neg e, if_pos (by omega)]
              rfl
          case measure => simp [numOf]; omega
    · obtain rfl : k = p := by omega
      go_wp2
      go_ret
      exact ⟨g, cap, rfl, hJ.out⟩
end Go.Proofs.YtmeodnkmhakidaaDoor
