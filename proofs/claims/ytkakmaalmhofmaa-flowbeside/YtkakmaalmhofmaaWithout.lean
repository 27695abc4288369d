/- The document's Of, Without and Walk. -/
import Derived.Test.YtkakmaalmhofmaaMostB
import Derived.Test.YtkakmaalmhofmaaSame
import Derived.Deep.Cut
import Derived.Deep.CutRange
namespace Go.Proofs.Ytkakmaalmhofmaa
open Go.RowKit Go.Maps
attribute [local go_sem ↓] Go.wp_at_zero Go.wp_at_succ

set_option maxHeartbeats 2000000 in
theorem ofGrid_any (m : Nat) (ao : Option Addr) (cap : Nat) (p : Int → Int → Bool) (w : World) (hG : GridAt w (.slice ao m cap) m p) (hm : m ≤ 100) :
    Calls Try.prog 41 #[.slice ao m cap] w fun e w' => Below w.heap.size w w' ∧ ∃ ao' c, e = .returned (.agg #[.int .i64 m, .slice ao' (allP m p).length c]) ∧ EdgesAt w' (.slice ao' (allP m p).length c) (allP m p) := by
  obtain ⟨i0, hi, hz0, hz1, hz2⟩ := info_parts Try.info51
  obtain ⟨ao', cap', e, hgrid⟩ := hG
  cases e
  have HGR : Hid _ := hgrid
  clear hgrid
  go_enter Try.func41, Try.ntmps41
  go_wp2
  go_loopw [4] (fun i wr => ∃ u : Nat, u ≤ m ∧ i = .int .i64 u ∧ ∃ v, OI w wr m v (rowsTo m p u)) (fun i _ => m - (numOf i).toNat)
  case atStart =>
    refine ⟨0, Nat.zero_le _, rfl, .slice none 0 0, ?_, ?_, World.ownsRow_nil _ _ _ _, below2 _ _⟩
    · rw [Below.heap_alloc _ _ _ (by simp)]; exact heap_alloc_new _ _
    · simpa using heap_alloc_new (w.alloc (Obj.cells #[.int .i64 0, .slice none 0 0] 40)) (Obj.cells #[.int .i64 m, .slice none 0 0] 40)
  case round =>
    obtain ⟨u, hu, rfl, v, hoi⟩ := hrel
    by_cases hlt : u < m
    · go_wp2
      go_loopw [5] (fun i wr => ∃ t : Nat, u + 1 ≤ t ∧ t ≤ m ∧ i = .int .i64 t ∧ ∃ v, OI w wr m v (rowsTo m p u ++ rowTo p u t)) (fun i _ => m - (numOf i).toNat)
      case atStart => exact ⟨u + 1, Nat.le_refl _, by omega, by go_num, v, by rw [rowTo_low p u (u + 1) (Nat.le_refl _), List.append_nil]; exact hoi⟩
      case round =>
        obtain ⟨t, ht1, ht2, rfl, v2, hoi2⟩ := hrel
        clear hoi
        obtain ⟨L, hL⟩ : ∃ L, L = rowsTo m p u ++ rowTo p u t := ⟨_, rfl⟩
        rw [← hL] at hoi2
        obtain ⟨vo, vc, rfl⟩ := form_row hoi2.own
        have HL : Hid _ := hL
        clear hL
        by_cases hlt2 : t < m
        · obtain ⟨g, b, rfl, c0, c1⟩ := HGR.out u hlt
          have c2 := c1 t hlt2
          have hb0 := World.block_lt_of_cell? w _ c0
          have hb2 := World.block_lt_of_cell? w _ c2
          rw [← hoi2.below.cell (by exact hb0)] at c0
          rw [← hoi2.below.cell (by exact hb2)] at c2
          have d1 := (cell_two hoi2.b1).2
          clear c1
          have hll : L.length ≤ 10000 := by
            rw [HL.out]
            have h1 := rowsTo_le m p u
            have h2 := rowTo_le p u t
            have : u * m ≤ 100 * 100 := Nat.mul_le_mul (by omega) hm
            rw [List.length_append]
            have h3 : u * m + m ≤ 100 * 100 := by
              have : (u + 1) * m ≤ 100 * 100 := Nat.mul_le_mul (by omega) hm
              rw [Nat.succ_mul] at this
              exact this
            omega
          by_cases hp : p u t = true
          · rw [hp] at c2
            go_wp2_with (at_builtin; refine wpList_append_own _ rfl _ _ 38 rfl (w.heap.size + 2) 51 i0 (.agg #[.int .i64 0, .int .i64 0]) 2 16 Try.underlying38 hi hz0 hz1 hz2 rfl (by decide) _ _ _ rfl (hoi2.own.alloc _) ⟨wr.heap.size, 0, none⟩ 1 1 [.int .i64 u, .int .i64 t] rfl rfl ?n1 ?n2 ?n3 ?n4 ?n5 ?_)
            case n2 => exact ⟨rfl, rfl⟩
            case n3 => unfold maxLen; omega
            case n4 => omega
            case n5 => have := lt_of_block hoi2.b1; simp; omega
            intro v' w3 hown' hgrow _
            obtain ⟨vo', vc', rfl⟩ := form_row hown'
            obtain ⟨hb1, hoi3⟩ := hoi2.push hown' hgrow
            have f1 := (cell_two hb1).2
            have f2 := free_two hb1 1
            clear hown' hgrow
            go_wp2
            go_roundw
            case rel => exact ⟨t + 1, by omega, by omega, by go_num, _, by rw [rowTo_succ, if_pos ⟨by omega, hp⟩, ← List.append_assoc, ← HL.out]; exact hoi3⟩
            case measure => simp [numOf]; omega
          · have hp' : p u t = false := by simpa using hp
            rw [hp'] at c2
            go_wp2
            go_roundw
            case rel => exact ⟨t + 1, by omega, by omega, by go_num, _, by rw [rowTo_succ, if_neg (fun h => hp h.2), List.append_nil, ← HL.out]; exact hoi2⟩
            case measure => simp [numOf]; omega
        · have : t = m := by omega
          subst this
          go_wp2
          go_roundw
          case rel => exact ⟨u + 1, by omega, by go_num, _, by rw [rowsTo_succ, ← HL.out]; exact hoi2⟩
          case measure => simp [numOf]; omega
    · have : u = m := by omega
      subst this
      obtain ⟨vo, vc, rfl⟩ := form_row hoi.own
      have d0 := (cell_two hoi.b0).1
      have d1 := (cell_two hoi.b0).2
      have e0 := (cell_two hoi.b1).1
      have e1 := (cell_two hoi.b1).2
      have g0 := free_two hoi.b0
      go_wp2
      refine bodyPost_ret (v := .agg #[.int .i64 u, .slice vo (rowsTo u p u).length vc]) ?_ rfl ⟨?_, vo, vc, rfl, ?_⟩
      · simp [results, Try.results41, go_sem, d0, d1]
      · exact (hoi.below.setCell (by simp) _).setCell (by simp) _
      · have hE := edgesAt_row hoi.own ?_ ?_
        · have q : ∀ x, vo = some x → w.heap.size + 2 ≤ x.block := fun x hx => (hoi.own.lt _ (by rw [hx]; rfl)).1
          exact (hE.setCell (fun x hx => by have := q x hx; simp; omega) _).setCell (fun x hx => by have := q x hx; simp; omega) _
        · intro e he
          obtain ⟨a, b, h1, h2, _, rfl⟩ := allP_mem.1 he
          constructor <;> unfold I64 <;> simp <;> omega
        · have h1 := rowsTo_le u p u
          have : u * u ≤ 100 * 100 := Nat.mul_le_mul hm hm
          omega
theorem neq51d {x y x' y' : Int} (hx : I64 x) (hy : I64 y) (hx' : I64 x') (hy' : I64 y') (w : World) : (binOp .neq 51 (.agg #[.int .i64 x, .int .i64 y]) (.agg #[.int .i64 x', .int .i64 y'])).run Try.prog w = .ok (.bool (decide (¬ (x, y) = (x', y')))) w := by
  obtain ⟨r, h1, h2⟩ := run_equal_deep (P := Try.prog) w (m := Try.prog.types.size + 1) (of_decide_eq_true (by kernel_rfl)) (k := 51) (by kernel_rfl) (by kernel_rfl) (key_mk hx hy) (key_mk hx' hy')
  have h3 : r = decide ((x, y) = (x', y')) := by
    rw [Bool.eq_iff_iff, h2, decide_eq_true_iff]
    constructor
    · intro h; have := key_inj hx hy hx' hy' h; simp [this]
    · intro h; simp at h; rw [h.1, h.2]
  rw [h3] at h1
  simp only [binOp]
  simp only [Sem.run_bind, h1]
  by_cases h : (x, y) = (x', y') <;> simp [h, Result.andThen]

/-- The pairs but for one. -/
def lessL (es : List Pair) (e : Pair) : List Pair := es.filter fun d => decide (¬ d = e)
theorem lessL_take {es : List Pair} {k : Nat} {d : Pair} (h : es[k]? = some d) (e : Pair) : lessL (es.take (k + 1)) e = lessL (es.take k) e ++ (if d = e then [] else [d]) := by
  obtain ⟨h1, h2⟩ := List.getElem?_eq_some_iff.1 h
  rw [List.take_succ_eq_append_getElem h1, h2]
  unfold lessL
  rw [List.filter_append]
  congr 1
  by_cases hd : d = e <;> simp [hd]
theorem lessL_len (es : List Pair) (k : Nat) (e : Pair) : (lessL (es.take k) e).length ≤ k := Nat.le_trans (List.length_filter_le _ _) (by rw [List.length_take]; omega)
theorem ownsRow_drewN {w : World} {base : Nat} {t : TypeId} {sz : Nat} {v : Value} {n : Nat} {xs : List Value} (h : w.ownsRow base t sz v n xs) (k : Nat) : (w.drewN k).ownsRow base t sz v n xs :=
  ownsRow_blocks h fun b hb => (below_drewN (Below.refl w.heap.size w) k).block b (h.lt b hb).2
theorem drewN_below (w : World) (k : Nat) : Below w.heap.size w (w.drewN k) := below_drewN (Below.refl _ _) k
theorem two_pair (w : World) (x y : Value) (t : TypeId) : Two (w.alloc (Obj.cells #[x, y] t)) w.heap.size x y t := two_new w x y t

set_option maxHeartbeats 2000000 in
theorem without_call (m : Nat) (ao : Option Addr) (cap : Nat) (p : Int → Int → Bool) (w : World) (hG : GridAt w (.slice ao m cap) m p) (hm : m ≤ 100) (hl : (allP m p).length ≤ 1000) {x y : Int} (hx : I64 x) (hy : I64 y) :
    Calls Try.prog 19 #[.slice ao m cap, .agg #[.int .i64 x, .int .i64 y]] w fun r w' => ∃ to0 tc, r = .returned (.slice to0 m tc) ∧ GridAt w' (.slice to0 m tc) m (hasB (lessL (allP m p) (x, y))) ∧ Below w.heap.size w w' := by
  obtain ⟨i0, hi, hz0, hz1, hz2⟩ := info_parts Try.info51
  have hgood : ∀ e ∈ allP m p, (0 ≤ e.1 ∧ e.1 < m ∧ 0 ≤ e.2 ∧ e.2 < m) ∧ e.1 ≠ e.2 := fun e he => by
    obtain ⟨u, v, h1, h2, _, rfl⟩ := allP_mem.1 he
    simp; omega
  have hcall := fun (w' : World) (hb : Below w.heap.size w w') => ofGrid_any m ao cap p w' (hG.below hb) hm
  obtain ⟨fes, hfes⟩ : ∃ fes, fes = allP m p := ⟨_, rfl⟩
  rw [← hfes] at hl hgood ⊢
  simp only [← hfes] at hcall
  have HCL : Hid _ := hcall
  have HGD : Hid _ := hgood
  clear hG hfes hcall hgood
  go_enter Try.func19, Try.ntmps19
  go_upto_region 2 with (go_at_call 41; refine (HCL.out _ (below_alloc (Below.refl _ _) _)).mono ?_; rintro e w1 ⟨hb, eo, ec, rfl, hE⟩; have hz := hb.size; simp at hz)
  have t1 : Two (w1.alloc (Obj.cells #[.int .i64 (m : Int), .slice eo fes.length ec] 40)) w.heap.size (.int .i64 x) (.int .i64 y) 51 := two_alloc (two_next (two_pair w _ _ _) hb) _
  have t2 : Two (w1.alloc (Obj.cells #[.int .i64 (m : Int), .slice eo fes.length ec] 40)) w1.heap.size (.int .i64 (m : Int)) (.slice eo fes.length ec) 40 := two_new _ _ _ _
  have hB := below_alloc (below_next (below_alloc (Below.refl _ w) (Obj.cells #[.int .i64 x, .int .i64 y] 51)) hb) (Obj.cells #[.int .i64 (m : Int), .slice eo fes.length ec] 40)
  have hEW := hE.below (below_alloc (Below.refl _ w1) (Obj.cells #[.int .i64 (m : Int), .slice eo fes.length ec] 40))
  generalize w1.alloc (Obj.cells #[.int .i64 (m : Int), .slice eo fes.length ec] 40) = W at t1 t2 hB hEW ⊢
  have HT1 : Hid _ := t1
  have HT2 : Hid _ := t2
  have HE : Hid _ := hEW
  have HB : Hid _ := hB
  clear hb hz hE t1 t2 hEW hB
  go_wp2
  go_loopw [6, 7] (fun v i wr => ∃ k : Nat, k ≤ fes.length ∧ i = .int .i64 (k : Int) ∧ wr.ownsRow W.heap.size 51 2 v (lessL (fes.take k) (x, y)).length (flat (lessL (fes.take k) (x, y))) ∧ Below W.heap.size W wr) (fun _ i _ => fes.length - (numOf i).toNat)
  case atStart => exact ⟨0, Nat.zero_le _, rfl, by simpa [lessL, flat] using World.ownsRow_nil _ _ _ _, Below.refl _ _⟩
  case round =>
    obtain ⟨k, hk, rfl, hown, hB2⟩ := hrel
    obtain ⟨vo, vc, rfl⟩ := form_row hown
    have hle := lessL_len fes k (x, y)
    obtain ⟨z1, z2⟩ := cell_two (two_next HT2.out hB2)
    obtain ⟨z3, z4⟩ := cell_two (two_next HT1.out hB2)
    by_cases hlt : k < fes.length
    · obtain ⟨eo', ec', ee, _, hEI, hcells⟩ := EdgesAt.below HE.out hB2
      cases ee
      obtain ⟨b, off, rfl, c0, c1⟩ := hcells k hlt
      obtain ⟨a, d, had⟩ : ∃ a d, fes[k] = (a, d) := ⟨fes[k].1, fes[k].2, rfl⟩
      have hI := hEI fes[k] (List.getElem_mem _)
      rw [had] at c0 c1 hI
      have hk? : fes[k]? = some (a, d) := by rw [List.getElem?_eq_getElem hlt, had]
      have HK : Hid _ := hk?
      have hne := neq51d hI.1 hI.2 hx hy
      clear hcells hEI had hk? hI
      have j1 : (0 : Int) ≤ (k : Int) := by omega
      have j2 : (k : Int) < (fes.length : Int) := by omega
      by_cases he : (a, d) = (x, y)
      · rw [decide_eq_false (by simp [he])] at hne
        have HH : Hid _ := he
        clear he
        go_wp2
        go_quiet (fail)
        go_wp2
        go_roundw
        case rel => exact ⟨k + 1, by omega, by go_num, by rw [lessL_take HK.out, if_pos HH.out, List.append_nil]; exact ownsRow_drewN hown _, below_next hB2 (drewN_below _ _)⟩
        case measure => simp [numOf]; omega
      · rw [decide_eq_true he] at hne
        have HH : Hid _ := he
        clear he
        go_wp2
        go_quiet (fail)
        rename Nat => nd
        have hown2 := ownsRow_drewN hown nd
        have hB3 := below_next hB2 (drewN_below _ nd)
        have hdn := drewN_below wr nd
        have d0 : (wr.drewN nd).cell? ⟨b, off + k * 2, none⟩ = some (.int .i64 a) := by rw [hdn.cell (by exact World.block_lt_of_cell? wr _ c0)]; exact c0
        have d1 : (wr.drewN nd).cell? ⟨b, off + k * 2 + 1, none⟩ = some (.int .i64 d) := by rw [hdn.cell (by exact World.block_lt_of_cell? wr _ c1)]; exact c1
        have hWs := hB2.size
        generalize wr.drewN nd = wd at hown2 hB3 d0 d1 ⊢
        clear c0 c1 z1 z2 z3 z4 hdn hne
        obtain ⟨y1, y2⟩ := cell_two (two_next HT2.out hB3)
        go_wp2_with (first | (at_builtin; refine wpList_append_own _ rfl _ _ 38 rfl W.heap.size 51 i0 (.agg #[.int .i64 0, .int .i64 0]) 2 16 Try.underlying38 hi hz0 hz1 hz2 rfl (by decide) _ _ _ rfl (hown2.alloc _) ⟨wd.heap.size, 0, none⟩ 1 1 [.int .i64 a, .int .i64 d] rfl rfl ?n1 ?n2 ?n3 ?n4 ?n5 ?_) | go_in)
        case n1 =>
          intro j z hj
          match j, hj with
          | 0, hj => simp at hj; subst hj; simp [Addr.add]
          | 1, hj => simp at hj; subst hj; simp [Addr.add]
        case n2 => first | exact ⟨rfl, rfl⟩ | (intro x hx; simp at hx; rcases hx with rfl | rfl <;> rfl)
        case n3 => unfold maxLen; omega
        case n4 => omega
        case n5 => have := hB3.size; simp; omega
        intro v' w3 hown' hgrow _
        have hB5 := (hB3.alloc hB3.size _).grown hgrow (by have := hB3.size; simp; omega) (fun k hk => (hown2.lt k hk).1)
        clear hgrow
        go_wp2
        go_roundw
        case rel => exact ⟨k + 1, by omega, by go_num, by rw [lessL_take HK.out, if_neg HH.out, flat_snoc]; simpa using hown', hB5⟩
        case measure => simp [numOf]; omega
    · have hke : k = fes.length := by omega
      subst hke
      rw [List.take_length] at hown hle
      have hgl : ∀ e ∈ lessL fes (x, y), (0 ≤ e.1 ∧ e.1 < m ∧ 0 ≤ e.2 ∧ e.2 < m) ∧ e.1 ≠ e.2 := fun e he => HGD.out e (List.mem_filter.1 he).1
      have hEl := edgesAt_row hown (fun e he => by have := (hgl e he).1; constructor <;> constructor <;> omega) (by omega)
      have HEL : Hid _ := hEl
      have HGL : Hid _ := hgl
      clear hEl hgl hown
      go_wp2_with (first | (go_at_call 17; refine (gridOf_any m _ (lessL fes (x, y)) _ HEL.out hm (by omega) HGL.out).mono ?_; rintro r w5 ⟨hb5, to0, tc, rfl, hG5⟩) | go_in)
      go_ret
      exact ⟨to0, tc, rfl, hG5, below_next (below_next HB.out hB2) hb5⟩


set_option maxRecDepth 8000 in
set_option maxHeartbeats 2000000 in
theorem refWalk_call (N : Nat) (ao : Option Addr) (cap : Nat) (p : Int → Int → Bool) (w : World) (hG : GridAt w (.slice ao N cap) N p) {lo : Option Addr} {lc : Nat} {L : List Nat} (hL : NumsAt w lo L) (hlt : ∀ u, u ∈ L → u < N) (hst : ∀ i x y : Nat, L[i]? = some x → L[i + 1]? = some y → p x y = true) (hl : L.length ≤ 100000) :
    Calls Try.prog 40 #[.slice ao N cap, .slice lo L.length lc] w fun r w' => r = .returned (.bool true) ∧ Below w.heap.size w w' := by
  obtain ⟨ao', cap', e0, hgrid⟩ := hG
  cases e0
  have HG : Hid _ := hgrid
  have HL : Hid _ := hL
  have HLT : Hid _ := hlt
  have HST : Hid _ := hst
  clear hgrid hL hlt hst
  go_enter Try.func40, Try.ntmps40
  go_wp2
  go_loopw [5] (fun i wr => ∃ k : Nat, k ≤ L.length ∧ i = .int .i64 (k : Int) ∧ Below w.heap.size w wr) (fun i _ => L.length - (numOf i).toNat)
  case atStart => exact ⟨0, Nat.zero_le _, rfl, Below.refl _ _⟩
  case round =>
    obtain ⟨k, hk, rfl, hB⟩ := hrel
    by_cases hkl : k < L.length
    · obtain ⟨y, hy⟩ : ∃ y, L[k]? = some y := ⟨L[k], List.getElem?_eq_getElem hkl⟩
      have hyN := HLT.out y (List.mem_of_getElem? hy)
      obtain ⟨b, rfl, c1w⟩ := HL.out k y hy
      have c1 := (hB.cell (by exact World.block_lt_of_cell? w _ c1w)).trans c1w
      have i1 : (0 : Int) ≤ (k : Int) := by omega
      have i2 : (k : Int) < (L.length : Int) := by omega
      have z1 : ¬ (y : Int) < 0 := by omega
      have z2 : ¬ (N : Int) ≤ (y : Int) := by omega
      have HY : Hid _ := hy
      clear hy c1w
      cases k with
      | zero =>
        go_upto_region 4 with (fail)
        go_quiet (fail)
        all_goals
          go_wp2
          go_roundw
          case rel => exact ⟨1, by omega, by go_num, below_drewN hB _⟩
          case measure => simp [numOf]; omega
      | succ j =>
        obtain ⟨x, hx⟩ : ∃ x, L[j]? = some x := ⟨L[j]'(by omega), List.getElem?_eq_getElem (by omega)⟩
        have hxN := HLT.out x (List.mem_of_getElem? hx)
        obtain ⟨b', e1, c2w⟩ := HL.out j x hx
        cases e1
        have c2 := (hB.cell (by exact World.block_lt_of_cell? w _ c2w)).trans c2w
        have hp := HST.out j x y hx HY.out
        obtain ⟨g, gb, rfl, g0w, g1w⟩ := HG.out x hxN
        have g0 := (hB.cell (by exact World.block_lt_of_cell? w _ g0w)).trans g0w
        have g1k := g1w y hyN
        rw [hp] at g1k
        have g1 := (hB.cell (by exact World.block_lt_of_cell? w _ g1k)).trans g1k
        have j1 : (0 : Int) ≤ (j : Int) := by omega
        have j2 : (j : Int) < (L.length : Int) := by omega
        have j3 : (0 : Int) ≤ (x : Int) := by omega
        have j4 : (x : Int) < (N : Int) := by omega
        have j5 : (0 : Int) ≤ (y : Int) := by omega
        have j6 : (y : Int) < (N : Int) := by omega
        have j7 : (0 : Int) ≤ (j : Int) + 1 := by omega
        have j8 : (j : Int) + 1 < (L.length : Int) := by omega
        clear hx c2w g0w g1w g1k hp
        go_upto_region 4 with (fail)
        go_quiet (fail)
        all_goals
          go_wp2
          go_roundw
          case rel => exact ⟨j + 1 + 1, by omega, by go_num, below_drewN hB _⟩
          case measure => simp [numOf]; omega
    · have hke : L.length = k := by omega
      subst hke
      go_wp2
      go_ret
      exact ⟨rfl, hB⟩
end Go.Proofs.Ytkakmaalmhofmaa
