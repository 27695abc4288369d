/- The document's Lists, Pairs, Without and Bridges. -/
import Derived.Test.YtgepibidhebbiabRefCuts
import Derived.Test.YtgepibidhebbiabBow
namespace Go.Proofs.Ytgepibidhebbiab
open Go.RowKit Go.Maps
attribute [local go_sem ↓] Go.wp_at_zero Go.wp_at_succ

theorem neq63d {x y x' y' : Int} (hx : I64 x) (hy : I64 y) (hx' : I64 x') (hy' : I64 y') (w : World) : (binOp .neq 63 (.agg #[.int .i64 x, .int .i64 y]) (.agg #[.int .i64 x', .int .i64 y'])).run Try.prog w = .ok (.bool (decide (¬ (x, y) = (x', y')))) w := by
  obtain ⟨r, h1, h2⟩ := run_equal_deep (P := Try.prog) w (m := Try.prog.types.size + 1) (of_decide_eq_true (by kernel_rfl)) (k := 63) (by kernel_rfl) (by kernel_rfl) (key_mk hx hy) (key_mk hx' hy')
  have h3 : r = decide ((x, y) = (x', y')) := by
    rw [Bool.eq_iff_iff, h2, decide_eq_true_iff]
    constructor
    · intro h; have := key_inj hx hy hx' hy' h; simp [this]
    · intro h; simp at h; rw [h.1, h.2]
  rw [h3] at h1
  simp only [binOp]
  simp only [Sem.run_bind, h1]
  by_cases h : (x, y) = (x', y') <;> simp [h, Result.andThen]

/-- The pairs but for one. -/
def lessL (es : List Pair) (e : Pair) : List Pair := es.filter fun d => decide (¬ d = e)
theorem lessL_take {es : List Pair} {k : Nat} {d : Pair} (h : es[k]? = some d) (e : Pair) : lessL (es.take (k + 1)) e = lessL (es.take k) e ++ (if d = e then [] else [d]) := by
  obtain ⟨h1, h2⟩ := List.getElem?_eq_some_iff.1 h
  rw [List.take_succ_eq_append_getElem h1, h2]
  unfold lessL
  rw [List.filter_append]
  congr 1
  by_cases hd : d = e <;> simp [hd]
theorem lessL_len (es : List Pair) (k : Nat) (e : Pair) : (lessL (es.take k) e).length ≤ k := Nat.le_trans (List.length_filter_le _ _) (by rw [List.length_take]; omega)

set_option maxHeartbeats 400000 in
theorem pairs_true (va vb : Value) (es : List Pair) (w : World) (hA : EdgesAt w va es) (hB : EdgesAt w vb es) :
    Calls Try.prog 18 #[va, vb] w fun e w' => e = .returned (.bool true) ∧ Below w.heap.size w w' := by
  obtain ⟨ao, cap, rfl⟩ := hA.form
  obtain ⟨bo, bcap, rfl⟩ := hB.form
  have HA : Hid _ := hA
  have HB : Hid _ := hB
  clear hA hB
  go_enter Try.func18, Try.ntmps18
  go_wp2_with (go_at_call 30; refine (same_true 0 _ _ es _ HA.out HB.out).mono ?_; rintro e w1 ⟨rfl, hb⟩)
  go_ret
  exact ⟨rfl, hb⟩

/-- A slice of slices of numbers that is only read. -/
def ListsIn (w : World) (v : Value) (ls : List (List Nat)) : Prop :=
  ∃ ao cap, v = .slice ao ls.length cap ∧ ls.length ≤ 1000 ∧ ∀ (q : Nat) (l : List Nat), ls[q]? = some l → ∃ g xo xc, ao = some ⟨g, 0, none⟩ ∧ w.cell? ⟨g, q, none⟩ = some (.slice xo l.length xc) ∧ IntsAt w (.slice xo l.length xc) (l.map fun (x : Nat) => (x : Int))
theorem ListsAt.in {w : World} {base : Nat} {v : Value} {ls : List (List Nat)} (h : ListsAt w base v ls) (hl : ls.length ≤ 1000) (hx : ∀ l ∈ ls, l.length ≤ 1000 ∧ ∀ x ∈ l, x ≤ 1000) : ListsIn w v ls := by
  obtain ⟨ao, cap, rfl⟩ := h.form
  refine ⟨ao, cap, rfl, hl, fun q l hq => ?_⟩
  obtain ⟨g, xo, xc, h1, h2, h3⟩ := h.at hq
  have := hx l (List.mem_of_getElem? hq)
  exact ⟨g, xo, xc, h1, h2, intsAt_q h3 (fun x hx' => by have := this.2 x hx'; omega) (by omega)⟩
theorem ListsIn.below {w w' : World} {v : Value} {ls : List (List Nat)} (h : ListsIn w v ls) (hb : Below w.heap.size w w') : ListsIn w' v ls := by
  obtain ⟨ao, cap, h1, hl, h2⟩ := h
  refine ⟨ao, cap, h1, hl, fun q l hq => ?_⟩
  obtain ⟨g, xo, xc, h3, h4, h5⟩ := h2 q l hq
  exact ⟨g, xo, xc, h3, by rw [hb.cell (by exact World.block_lt_of_cell? w _ h4)]; exact h4, h5.below hb⟩

theorem keepL {W : World} {g q g' : Nat} {x y : Value} (c0 : W.cell? ⟨g, q, none⟩ = some x) (c1 : W.cell? ⟨g', q, none⟩ = some y) {w' : World} (hb : Below W.heap.size W w') : Below W.heap.size W w' ∧ w'.cell? ⟨g, q, none⟩ = some x ∧ w'.cell? ⟨g', q, none⟩ = some y :=
  ⟨hb, by rw [hb.cell (by exact World.block_lt_of_cell? W _ c0)]; exact c0, by rw [hb.cell (by exact World.block_lt_of_cell? W _ c1)]; exact c1⟩

set_option maxHeartbeats 1000000 in
theorem lists_true (va vb : Value) (ls : List (List Nat)) (w : World) (hA : ListsIn w va ls) (hB : ListsIn w vb ls) :
    Calls Try.prog 16 #[va, vb] w fun e w' => e = .returned (.bool true) ∧ Below w.heap.size w w' := by
  have HA : Hid _ := hA
  have HB : Hid _ := hB
  obtain ⟨ao, cap, rfl, hl, _⟩ := hA
  obtain ⟨bo, bcap, rfl, _, _⟩ := hB
  have hll : ((ls.length : Int) != (ls.length : Int)) = false := by simp
  go_enter Try.func16, Try.ntmps16
  go_wp2
  go_loopw [5] (fun i wr => ∃ k : Nat, k ≤ ls.length ∧ i = .int .i64 (k : Int) ∧ Below w.heap.size w wr) (fun i _ => ls.length - (numOf i).toNat)
  case atStart => exact ⟨0, Nat.zero_le _, rfl, Below.refl _ _⟩
  case round =>
    obtain ⟨k, hk, rfl, hbr⟩ := hrel
    by_cases hlt : k < ls.length
    · obtain ⟨l, hq⟩ : ∃ l, ls[k]? = some l := ⟨ls[k], List.getElem?_eq_getElem hlt⟩
      obtain ⟨ao', cap', e1, _, h1⟩ := ListsIn.below HA.out hbr
      cases e1
      obtain ⟨bo', bcap', e2, _, h2⟩ := ListsIn.below HB.out hbr
      cases e2
      obtain ⟨g, xo, xc, rfl, c0, hI0⟩ := h1 k l hq
      obtain ⟨g', yo, yc, rfl, c1, hI1⟩ := h2 k l hq
      have H0 : Hid _ := hI0
      have H1 : Hid _ := hI1
      clear h1 h2 hq hI0 hI1
      have i1 : (0 : Int) ≤ (k : Int) := by omega
      have i2 : (k : Int) < (ls.length : Int) := by omega
      go_wp2
      go_region_held3 (fun wz => Below wr.heap.size wr wz ∧ wz.cell? ⟨g, k, none⟩ = some (.slice xo l.length xc) ∧ wz.cell? ⟨g', k, none⟩ = some (.slice yo l.length yc))
        (first | assumption | exact keepL c0 c1 (Below.refl _ _).drew | (go_split_ands; exact keepL c0 c1 (below_next (by assumption) hbk)))
        ((go_at_call 20; go_split_ands; refine (ints_true _ _ (l.map fun (x : Nat) => (x : Int)) _ ?_ ?_).mono ?_; exact IntsAt.below H0.out (by assumption); exact IntsAt.below H1.out (by assumption); rintro e w7 ⟨rfl, hbk⟩))
      all_goals
        go_split_ands
        have hb7 : Below wr.heap.size wr w7 := by assumption
        go_wp2
        go_roundw
        case rel => exact ⟨k + 1, by omega, by go_num, below_next hbr hb7⟩
        case measure => simp [numOf]; omega
    · go_wp2
      go_ret
      exact ⟨rfl, hbr⟩

theorem ownsRow_drewN {w : World} {base : Nat} {t : TypeId} {sz : Nat} {v : Value} {n : Nat} {xs : List Value} (h : w.ownsRow base t sz v n xs) (k : Nat) : (w.drewN k).ownsRow base t sz v n xs :=
  ownsRow_blocks h fun b hb => (below_drewN (Below.refl w.heap.size w) k).block b (h.lt b hb).2
theorem drewN_below (w : World) (k : Nat) : Below w.heap.size w (w.drewN k) := below_drewN (Below.refl _ _) k
theorem two_pair (w : World) (x y : Value) (t : TypeId) : Two (w.alloc (Obj.cells #[x, y] t)) w.heap.size x y t := two_new w x y t

set_option maxHeartbeats 2000000 in
theorem without_call (m : Nat) (ao : Option Addr) (cap : Nat) (p : Int → Int → Bool) (w : World) (hG : GridAt w (.slice ao m cap) m p) (hm : m ≤ 100) (hl : (allP m p).length ≤ 1000) {x y : Int} (hx : I64 x) (hy : I64 y) :
    Calls Try.prog 32 #[.slice ao m cap, .agg #[.int .i64 x, .int .i64 y]] w fun r w' => ∃ to tc, r = .returned (.slice to m tc) ∧ GridAt w' (.slice to m tc) m (hasB (lessL (allP m p) (x, y))) ∧ Below w.heap.size w w' := by
  obtain ⟨i0, hi, hz0, hz1, hz2⟩ := info_parts Try.info63
  have hgood : ∀ e ∈ allP m p, (0 ≤ e.1 ∧ e.1 < m ∧ 0 ≤ e.2 ∧ e.2 < m) ∧ e.1 ≠ e.2 := fun e he => by
    obtain ⟨u, v, h1, h2, _, rfl⟩ := allP_mem.1 he
    simp; omega
  have hcall := fun (w' : World) (hb : Below w.heap.size w w') => ofGrid_any m ao cap p w' (hG.below hb) hm
  obtain ⟨fes, hfes⟩ : ∃ fes, fes = allP m p := ⟨_, rfl⟩
  rw [← hfes] at hl hgood ⊢
  simp only [← hfes] at hcall
  have HCL : Hid _ := hcall
  have HGD : Hid _ := hgood
  clear hG hfes hcall hgood
  go_enter Try.func32, Try.ntmps32
  go_upto_region 2 with (go_at_call 31; refine (HCL.out _ (below_alloc (Below.refl _ _) _)).mono ?_; rintro e w1 ⟨hb, eo, ec, rfl, hE⟩; have hz := hb.size; simp at hz)
  have t1 : Two (w1.alloc (Obj.cells #[.int .i64 (m : Int), .slice eo fes.length ec] 24)) w.heap.size (.int .i64 x) (.int .i64 y) 63 := two_alloc (two_next (two_pair w _ _ _) hb) _
  have t2 : Two (w1.alloc (Obj.cells #[.int .i64 (m : Int), .slice eo fes.length ec] 24)) w1.heap.size (.int .i64 (m : Int)) (.slice eo fes.length ec) 24 := two_new _ _ _ _
  have hB := below_alloc (below_next (below_alloc (Below.refl _ w) (Obj.cells #[.int .i64 x, .int .i64 y] 63)) hb) (Obj.cells #[.int .i64 (m : Int), .slice eo fes.length ec] 24)
  have hEW := hE.below (below_alloc (Below.refl _ w1) (Obj.cells #[.int .i64 (m : Int), .slice eo fes.length ec] 24))
  generalize w1.alloc (Obj.cells #[.int .i64 (m : Int), .slice eo fes.length ec] 24) = W at t1 t2 hB hEW ⊢
  have HT1 : Hid _ := t1
  have HT2 : Hid _ := t2
  have HE : Hid _ := hEW
  have HB : Hid _ := hB
  clear hb hz hE t1 t2 hEW hB
  go_wp2
  go_loopw [6, 7] (fun v i wr => ∃ k : Nat, k ≤ fes.length ∧ i = .int .i64 (k : Int) ∧ wr.ownsRow W.heap.size 63 2 v (lessL (fes.take k) (x, y)).length (flat (lessL (fes.take k) (x, y))) ∧ Below W.heap.size W wr) (fun _ i _ => fes.length - (numOf i).toNat)
  case atStart => exact ⟨0, Nat.zero_le _, rfl, by simpa [lessL, flat] using World.ownsRow_nil _ _ _ _, Below.refl _ _⟩
  case round =>
    obtain ⟨k, hk, rfl, hown, hB2⟩ := hrel
    obtain ⟨vo, vc, rfl⟩ := form_row hown
    have hle := lessL_len fes k (x, y)
    obtain ⟨z1, z2⟩ := cell_two (two_next HT2.out hB2)
    obtain ⟨z3, z4⟩ := cell_two (two_next HT1.out hB2)
    by_cases hlt : k < fes.length
    · obtain ⟨eo', ec', ee, _, hEI, hcells⟩ := EdgesAt.below HE.out hB2
      cases ee
      obtain ⟨b, off, rfl, c0, c1⟩ := hcells k hlt
      obtain ⟨a, d, had⟩ : ∃ a d, fes[k] = (a, d) := ⟨fes[k].1, fes[k].2, rfl⟩
      have hI := hEI fes[k] (List.getElem_mem _)
      rw [had] at c0 c1 hI
      have hk? : fes[k]? = some (a, d) := by rw [List.getElem?_eq_getElem hlt, had]
      have HK : Hid _ := hk?
      have hne := neq63d hI.1 hI.2 hx hy
      clear hcells hEI had hk? hI
      have j1 : (0 : Int) ≤ (k : Int) := by omega
      have j2 : (k : Int) < (fes.length : Int) := by omega
      by_cases he : (a, d) = (x, y)
      · rw [decide_eq_false (by simp [he])] at hne
        have HH : Hid _ := he
        clear he
        go_wp2
        go_quiet (fail)
        go_wp2
        go_roundw
        case rel => exact ⟨k + 1, by omega, by go_num, by rw [lessL_take HK.out, if_pos HH.out, List.append_nil]; exact ownsRow_drewN hown _, below_next hB2 (drewN_below _ _)⟩
        case measure => simp [numOf]; omega
      · rw [decide_eq_true he] at hne
        have HH : Hid _ := he
        clear he
        go_wp2
        go_quiet (fail)
        rename Nat => nd
        have hown2 := ownsRow_drewN hown nd
        have hB3 := below_next hB2 (drewN_below _ nd)
        have hdn := drewN_below wr nd
        have d0 : (wr.drewN nd).cell? ⟨b, off + k * 2, none⟩ = some (.int .i64 a) := by rw [hdn.cell (by exact World.block_lt_of_cell? wr _ c0)]; exact c0
        have d1 : (wr.drewN nd).cell? ⟨b, off + k * 2 + 1, none⟩ = some (.int .i64 d) := by rw [hdn.cell (by exact World.block_lt_of_cell? wr _ c1)]; exact c1
        have hWs := hB2.size
        generalize wr.drewN nd = wd at hown2 hB3 d0 d1 ⊢
        clear c0 c1 z1 z2 z3 z4 hdn hne
        obtain ⟨y1, y2⟩ := cell_two (two_next HT2.out hB3)
        go_wp2_with (first | (at_builtin; refine wpList_append_own _ rfl _ _ 22 rfl W.heap.size 63 i0 (.agg #[.int .i64 0, .int .i64 0]) 2 16 Try.underlying22 hi hz0 hz1 hz2 rfl (by decide) _ _ _ rfl (hown2.alloc _) ⟨wd.heap.size, 0, none⟩ 1 1 [.int .i64 a, .int .i64 d] rfl rfl ?n1 ?n2 ?n3 ?n4 ?n5 ?_) | go_in)
        case n1 =>
          intro j z hj
          match j, hj with
          | 0, hj => simp at hj; subst hj; simp [Addr.add]
          | 1, hj => simp at hj; subst hj; simp [Addr.add]
        case n2 => first | exact ⟨rfl, rfl⟩ | (intro x hx; simp at hx; rcases hx with rfl | rfl <;> rfl)
        case n3 => unfold maxLen; omega
        case n4 => omega
        case n5 => have := hB3.size; simp; omega
        intro v' w3 hown' hgrow _
        have hB5 := (hB3.alloc hB3.size _).grown hgrow (by have := hB3.size; simp; omega) (fun k hk => (hown2.lt k hk).1)
        clear hgrow
        go_wp2
        go_roundw
        case rel => exact ⟨k + 1, by omega, by go_num, by rw [lessL_take HK.out, if_neg HH.out, flat_snoc]; simpa using hown', hB5⟩
        case measure => simp [numOf]; omega
    · have hke : k = fes.length := by omega
      subst hke
      rw [List.take_length] at hown hle
      have hgl : ∀ e ∈ lessL fes (x, y), (0 ≤ e.1 ∧ e.1 < m ∧ 0 ≤ e.2 ∧ e.2 < m) ∧ e.1 ≠ e.2 := fun e he => HGD.out e (List.mem_filter.1 he).1
      have hEl := edgesAt_row hown (fun e he => by have := (hgl e he).1; constructor <;> constructor <;> omega) (by omega)
      have HEL : Hid _ := hEl
      have HGL : Hid _ := hgl
      clear hEl hgl hown
      go_wp2_with (first | (go_at_call 15; refine (gridOf_any m _ (lessL fes (x, y)) _ HEL.out hm (by omega) HGL.out).mono ?_; rintro r w5 ⟨hb5, to, tc, rfl, hG5⟩) | go_in)
      go_ret
      exact ⟨to, tc, rfl, hG5, below_next (below_next HB.out hB2) hb5⟩

/-- The edges, of the first k, without which there are more components. -/
def refBridgesTo (N : Nat) (fes : List Pair) (R : Nat → Nat → Bool) (Re : Pair → Nat → Nat → Bool) (k : Nat) : List Pair := (fes.take k).filter fun e => decide (partsN N allB R < partsN N allB (Re e))
theorem refBridgesTo_succ {N : Nat} {fes : List Pair} {R : Nat → Nat → Bool} {Re : Pair → Nat → Nat → Bool} {k : Nat} {e : Pair} (h : fes[k]? = some e) : refBridgesTo N fes R Re (k + 1) = refBridgesTo N fes R Re k ++ (if partsN N allB R < partsN N allB (Re e) then [e] else []) := by
  obtain ⟨h1, h2⟩ := List.getElem?_eq_some_iff.1 h
  unfold refBridgesTo
  rw [List.take_succ_eq_append_getElem h1, h2, List.filter_append]
  congr 1
  by_cases hd : partsN N allB R < partsN N allB (Re e) <;> simp [hd]
theorem refBridgesTo_le (N : Nat) (fes : List Pair) (R : Nat → Nat → Bool) (Re : Pair → Nat → Nat → Bool) (k : Nat) : (refBridgesTo N fes R Re k).length ≤ k := Nat.le_trans (List.length_filter_le _ _) (by rw [List.length_take]; omega)

theorem field24 (n : Int) (ao : Option Addr) (l c : Nat) (w : World) : (Instr.field 24 (.agg #[.int .i64 n, .slice ao l c]) 1).run Try.prog w = .ok (.slice ao l c) w := by
  simp [Instr.field, go_sem, asAgg, Result.andThen]

set_option maxRecDepth 20000 in
set_option maxHeartbeats 2000000 in
theorem refBridges_call (N : Nat) (ao : Option Addr) (cap : Nat) (p : Int → Int → Bool) (w : World) (hG : GridAt w (.slice ao N cap) N p) (hN : N ≤ 100) (hl : (allP N p).length ≤ 1000) (R : Nat → Nat → Bool) (hR : ∀ v x, R v x = true ↔ Star (St N (pn p) allB) v x) (Re : Pair → Nat → Nat → Bool) (hRe : ∀ e v x, Re e v x = true ↔ Star (St N (pn (hasB (lessL (allP N p) e))) allB) v x) :
    Calls Try.prog 19 #[.slice ao N cap] w fun r w' => ∃ v, r = .returned v ∧ w'.ownsRow w.heap.size 63 2 v (refBridgesTo N (allP N p) R Re (allP N p).length).length (flat (refBridgesTo N (allP N p) R Re (allP N p).length)) ∧ Below w.heap.size w w' := by
  obtain ⟨i0, hi, hz0, hz1, hz2⟩ := info_parts Try.info63
  have hcall := fun (w' : World) (hb : Below w.heap.size w w') => ofGrid_any N ao cap p w' (hG.below hb) hN
  have hwith := fun (w' : World) (hb : Below w.heap.size w w') (x y : Int) (hx : I64 x) (hy : I64 y) => without_call N ao cap p w' (hG.below hb) hN hl hx hy
  have hpart := fun (w' : World) (hb : Below w.heap.size w w') => parts_call N ao cap p w' (hG.below hb) hN (shutAt_nil _ N) R (by rw [open_none]; exact hR)
  obtain ⟨fes, hfes⟩ : ∃ fes, fes = allP N p := ⟨_, rfl⟩
  rw [← hfes] at hl hRe ⊢
  simp only [← hfes] at hcall hwith
  have HCL : Hid _ := hcall
  have HWI : Hid _ := hwith
  have HPT : Hid _ := hpart
  have HRE : Hid _ := hRe
  clear hG hfes hcall hwith hpart hR hRe
  have hfld := field24
  go_enter Try.func19, Try.ntmps19
  go_upto_region 3 with (go_at_call 31; refine (HCL.out _ (Below.refl _ _)).mono ?_; rintro e w1 ⟨hb, eo, ec, rfl, hE⟩)
  have HE : Hid _ := hE
  clear hE
  go_wp2
  go_loopw [3, 5] (fun v i wr => ∃ k : Nat, k ≤ fes.length ∧ i = .int .i64 (k : Int) ∧ wr.ownsRow w1.heap.size 63 2 v (refBridgesTo N fes R Re k).length (flat (refBridgesTo N fes R Re k)) ∧ Below w1.heap.size w1 wr) (fun _ i _ => fes.length - (numOf i).toNat)
  case atStart => exact ⟨0, Nat.zero_le _, rfl, by simpa [refBridgesTo, flat] using World.ownsRow_nil _ _ _ _, Below.refl _ _⟩
  case round =>
    obtain ⟨k, hk, rfl, hown, hB2⟩ := hrel
    obtain ⟨vo, vc, rfl⟩ := form_row hown
    have hle := refBridgesTo_le N fes R Re k
    by_cases hlt : k < fes.length
    · obtain ⟨eo', ec', ee, _, hEI, hcells⟩ := EdgesAt.below HE.out hB2
      cases ee
      obtain ⟨b, off, rfl, c0, c1⟩ := hcells k hlt
      obtain ⟨a, d, had⟩ : ∃ a d, fes[k] = (a, d) := ⟨fes[k].1, fes[k].2, rfl⟩
      have hI := hEI fes[k] (List.getElem_mem _)
      rw [had] at c0 c1 hI
      have hk? : fes[k]? = some (a, d) := by rw [List.getElem?_eq_getElem hlt, had]
      have HK : Hid _ := hk?
      clear hcells hEI had hk?
      have j1 : (0 : Int) ≤ (k : Int) := by omega
      have j2 : (k : Int) < (fes.length : Int) := by omega
      have hBr := below_next hb hB2
      have e1 := partsN_le N allB R
      have e2 := partsN_le N allB (Re (a, d))
      obtain ⟨pa, hpa⟩ : ∃ pa, pa = partsN N allB R := ⟨_, rfl⟩
      obtain ⟨pb, hpb⟩ : ∃ pb, pb = partsN N allB (Re (a, d)) := ⟨_, rfl⟩
      rw [← hpa] at e1
      rw [← hpb] at e2
      have HPA : Hid _ := hpa
      have HPB : Hid _ := hpb
      clear hpa hpb
      by_cases hbr : pa < pb
      · have hc' : (pa : Int) < (pb : Int) := by omega
        go_wp2_with (first
          | (go_at_call 32; refine (HWI.out _ hBr a d hI.1 hI.2).mono ?_; rintro r wa ⟨to, tc, rfl, hGa, hbA⟩; have hBA := below_next hBr hbA)
          | (go_at_call 42; (fail_if_success (have hh := hbBB)); refine (parts_call N _ _ _ _ hGa hN (shutAt_nil _ N) (Re (a, d)) (by rw [open_none]; exact HRE.out (a, d))).mono ?_; rintro r wb ⟨rfl, hbBB⟩; rw [open_none, ← HPB.out]; have hBB := below_next hBA hbBB)
          | (go_at_call 42; refine (HPT.out _ hBB).mono ?_; rintro r wc ⟨rfl, hbC⟩; rw [open_none, ← HPA.out]; have hBl := below_next (below_next (below_next hB2 hbA) hbBB) hbC; have hbT := below_next (below_next hbA hbBB) hbC; have hownC := ownsRow_blocks hown (w' := wc) (fun b hb => hbT.block b (hown.lt b hb).2); have f0 : wc.cell? ⟨b, off + k * 2, none⟩ = some (.int .i64 a) := (hbT.cell (by exact World.block_lt_of_cell? wr _ c0)).trans c0; have f1 : wc.cell? ⟨b, off + k * 2 + 1, none⟩ = some (.int .i64 d) := (hbT.cell (by exact World.block_lt_of_cell? wr _ c1)).trans c1)
          | (at_builtin; refine wpList_append_own _ rfl _ _ 22 rfl w1.heap.size 63 i0 (.agg #[.int .i64 0, .int .i64 0]) 2 16 Try.underlying22 hi hz0 hz1 hz2 rfl (by decide) _ _ _ rfl (hownC.alloc _) ⟨wc.heap.size, 0, none⟩ 1 1 [.int .i64 a, .int .i64 d] rfl rfl ?n1 ?n2 ?n3 ?n4 ?n5 ?_)
          | go_in)
        case n1 =>
          intro j z hj
          match j, hj with
          | 0, hj => simp at hj; subst hj; simp [Addr.add]
          | 1, hj => simp at hj; subst hj; simp [Addr.add]
        case n2 => first | exact ⟨rfl, rfl⟩ | (intro x hx; simp at hx; rcases hx with rfl | rfl <;> rfl)
        case n3 => unfold maxLen; omega
        case n4 => omega
        case n5 => have := hBl.size; simp; omega
        intro v' w3 hown' hgrow _
        have hB5 := (hBl.alloc hBl.size _).grown hgrow (by have := hBl.size; simp; omega) (fun k hk => (hown.lt k hk).1)
        clear hgrow
        go_wp2
        go_roundw
        case rel => exact ⟨k + 1, by omega, by go_num, by rw [refBridgesTo_succ HK.out, ← HPA.out, ← HPB.out, if_pos hbr, flat_snoc]; simpa using hown', hB5⟩
        case measure => simp [numOf]; omega
      · have hc' : ¬ (pa : Int) < (pb : Int) := by omega
        go_wp2_with (first
          | (go_at_call 32; refine (HWI.out _ hBr a d hI.1 hI.2).mono ?_; rintro r wa ⟨to, tc, rfl, hGa, hbA⟩; have hBA := below_next hBr hbA)
          | (go_at_call 42; (fail_if_success (have hh := hbBB)); refine (parts_call N _ _ _ _ hGa hN (shutAt_nil _ N) (Re (a, d)) (by rw [open_none]; exact HRE.out (a, d))).mono ?_; rintro r wb ⟨rfl, hbBB⟩; rw [open_none, ← HPB.out]; have hBB := below_next hBA hbBB)
          | (go_at_call 42; refine (HPT.out _ hBB).mono ?_; rintro r wc ⟨rfl, hbC⟩; rw [open_none, ← HPA.out]; have hBl := below_next (below_next (below_next hB2 hbA) hbBB) hbC; have hbT := below_next (below_next hbA hbBB) hbC; have hownC := ownsRow_blocks hown (w' := wc) (fun b hb => hbT.block b (hown.lt b hb).2))
          | go_in)
        go_roundw
        case rel => exact ⟨k + 1, by omega, by go_num, by rw [refBridgesTo_succ HK.out, ← HPA.out, ← HPB.out, if_neg hbr, List.append_nil]; exact hownC, hBl⟩
        case measure => simp [numOf]; omega
    · have hke : k = fes.length := by omega
      subst hke
      go_wp2
      go_ret
      exact ⟨_, rfl, ownsRow_mono hown hb.size, below_next hb hB2⟩
end Go.Proofs.Ytgepibidhebbiab
