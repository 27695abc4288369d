/- The walk of PartsBlocks: it answers true, and what was there stays. -/
import Derived.Test.YtbaghbodjpehpabRefBlocks
namespace Go.Proofs.Ytbaghbodjpehpab
open Go.RowKit Go.Maps
attribute [local go_sem ↓] Go.wp_at_zero Go.wp_at_succ

/-- A slice of slices of edges that is only read. -/
def BlocksIn (w : World) (v : Value) (bs : List (List Pair)) : Prop :=
  ∃ ao cap, v = .slice ao bs.length cap ∧ bs.length ≤ 1000 ∧ ∀ (q : Nat) (l : List Pair), bs[q]? = some l → ∃ g xo xc, ao = some ⟨g, 0, none⟩ ∧ w.cell? ⟨g, q, none⟩ = some (.slice xo l.length xc) ∧ EdgesAt w (.slice xo l.length xc) l
theorem BlocksAt.in {w : World} {base : Nat} {v : Value} {bs : List (List Pair)} (h : BlocksAt w base v bs) (hl : bs.length ≤ 1000) (hx : ∀ l ∈ bs, l.length ≤ 1000 ∧ ∀ e ∈ l, I64 e.1 ∧ I64 e.2) : BlocksIn w v bs := by
  obtain ⟨ao, cap, rfl⟩ := h.form
  refine ⟨ao, cap, rfl, hl, fun q l hq => ?_⟩
  obtain ⟨g, xo, xc, h1, h2, h3⟩ := h.at hq
  have := hx l (List.mem_of_getElem? hq)
  exact ⟨g, xo, xc, h1, h2, edgesAt_row h3 this.2 (by omega)⟩
theorem BlocksIn.below {w w' : World} {v : Value} {bs : List (List Pair)} (h : BlocksIn w v bs) (hb : Below w.heap.size w w') : BlocksIn w' v bs := by
  obtain ⟨ao, cap, h1, hl, h2⟩ := h
  refine ⟨ao, cap, h1, hl, fun q l hq => ?_⟩
  obtain ⟨g, xo, xc, h3, h4, h5⟩ := h2 q l hq
  exact ⟨g, xo, xc, h3, by rw [hb.cell (by exact World.block_lt_of_cell? w _ h4)]; exact h4, h5.below hb⟩
theorem BlocksIn.form {w : World} {v : Value} {bs : List (List Pair)} (h : BlocksIn w v bs) : ∃ ao cap, v = .slice ao bs.length cap := by
  obtain ⟨ao, cap, h1, _⟩ := h; exact ⟨ao, cap, h1⟩
theorem blocks_al {W : World} {base : Nat} {v : Value} {bs : List (List Pair)} (h : BlocksAt W base v bs) (o : Obj) : BlocksAt (W.alloc o) base v bs := h.below (below_alloc (Below.refl _ _) o)

set_option maxRecDepth 20000 in
set_option maxHeartbeats 4000000 in
theorem blocksLaw_bad (n : Int) (ao : Option Addr) (cap : Nat) (es : List Pair) (w : World) (hE : EdgesAt w (.slice ao es.length cap) es) (hcap : es.length ≤ cap) {c d : Int} (hck : chk n es = (c, d)) (hc : c ≠ 0) :
    Calls Try.prog 4 #[.agg #[.int .i64 n, .slice ao es.length cap]] w fun e w' => e = .returned (.bool true) ∧ Below w.heap.size w w' := by
  have hc1 : (c != 0) = true := by simpa using hc
  have hcc : (chk n es).1 ≠ 0 := by rw [hck]; exact hc
  have HCK : Hid _ := hck
  have hbadB := fun (w' : World) (v : Value) (h : EdgesAt w' v es) => blocks_bad n v es w' h hcc
  simp only [hck] at hbadB
  have H2 : Hid _ := hbadB
  clear hck hcc hbadB hc
  have HE : Hid _ := hE
  clear hE
  go_enter Try.func4, Try.ntmps4
  go_upto_region 2 with (go_at_call 8; refine (own_any n ao cap es _ ?_).mono ?_; exact EdgesAt.below HE.out (below_alloc (Below.refl _ _) _); rintro e w1 ⟨hb, oo, oc, rfl, hEo, hocap⟩)
  have tg := two_on (two_new w (.int .i64 n) (.slice ao es.length cap) 24) hb (Obj.cells #[.int .i64 n, .slice oo es.length oc] 24)
  have to := two_new w1 (.int .i64 n) (.slice oo es.length oc) 24
  have hB := below_on (below_alloc (Below.refl _ w) (Obj.cells #[.int .i64 n, .slice ao es.length cap] 24)) hb (Obj.cells #[.int .i64 n, .slice oo es.length oc] 24)
  have hEg := EdgesAt.below HE.out hB
  replace hEo := hEo.below (below_alloc (Below.refl _ w1) (Obj.cells #[.int .i64 n, .slice oo es.length oc] 24))
  generalize w1.alloc (Obj.cells #[.int .i64 n, .slice oo es.length oc] 24) = W1 at tg to hB hEg hEo ⊢
  clear hb
  obtain ⟨y1, y2⟩ := cell_two tg
  go_upto_region 3 with (go_at_call 9; refine (refCheck_as hEg hcap HCK.out).mono ?_; rintro e w2 ⟨rfl, hb⟩)
  replace tg := two_on tg hb (Obj.cells #[.int .i64 c, .int .i64 d] 27)
  replace to := two_on to hb (Obj.cells #[.int .i64 c, .int .i64 d] 27)
  have tw := two_new w2 (.int .i64 c) (.int .i64 d) 27
  replace hB := below_on hB hb (Obj.cells #[.int .i64 c, .int .i64 d] 27)
  replace hEg := hEg.on hb (Obj.cells #[.int .i64 c, .int .i64 d] 27)
  replace hEo := hEo.on hb (Obj.cells #[.int .i64 c, .int .i64 d] 27)
  generalize w2.alloc (Obj.cells #[.int .i64 c, .int .i64 d] 27) = W2 at tg to tw hB hEg hEo ⊢
  clear hb y1 y2
  obtain ⟨y1, y2⟩ := cell_two to
  go_upto_region 4 with (go_at_call 22; refine (H2.out _ _ hEo).mono ?_; rintro e w3 ⟨rfl, hb⟩)
  replace tg := two_on tg hb (Obj.cells #[.int .i64 c, .int .i64 d] 27)
  replace to := two_on to hb (Obj.cells #[.int .i64 c, .int .i64 d] 27)
  replace tw := two_on tw hb (Obj.cells #[.int .i64 c, .int .i64 d] 27)
  have tf := two_new w3 (.int .i64 c) (.int .i64 d) 27
  replace hB := below_on hB hb (Obj.cells #[.int .i64 c, .int .i64 d] 27)
  replace hEg := hEg.on hb (Obj.cells #[.int .i64 c, .int .i64 d] 27)
  replace hEo := hEo.on hb (Obj.cells #[.int .i64 c, .int .i64 d] 27)
  generalize w3.alloc (Obj.cells #[.int .i64 c, .int .i64 d] 27) = W3 at tg to tw tf hB hEg hEo ⊢
  clear hb y1 y2
  obtain ⟨y1, y2⟩ := cell_two to
  clear y1 y2
  have hne := neq27 c d
  go_wp2_with (first
    | (go_at_call 13; refine (begun_true _).mono ?_; rintro e w6 ⟨rfl, hb6⟩; replace tg := two_next tg hb6; replace to := two_next to hb6; replace tw := two_next tw hb6; replace tf := two_next tf hb6; replace hB := below_next hB hb6; replace hEg := hEg.below hb6; replace hEo := hEo.below hb6; obtain ⟨a1, a2⟩ := cell_two tg; obtain ⟨a3, a4⟩ := cell_two to; obtain ⟨a5, a6⟩ := cell_two tw; obtain ⟨a7, a8⟩ := cell_two tf)
    | (go_at_call 14; refine (kept_true n _ _ es _ hEo hEg).mono ?_; rintro e w7 ⟨rfl, hb7⟩; obtain ⟨d5, d6⟩ := cell_two (two_next tw hb7)))
  go_ret
  exact ⟨rfl, below_next hB hb7⟩

set_option maxRecDepth 20000 in
set_option maxHeartbeats 4000000 in
theorem blocksLaw_ok (m : Nat) (ao : Option Addr) (cap : Nat) (es : List Pair) (w : World) (hE : EdgesAt w (.slice ao es.length cap) es) (hcap : es.length ≤ cap) (hck : chk m es = (0, 0)) :
    Calls Try.prog 4 #[.agg #[.int .i64 (m : Int), .slice ao es.length cap]] w fun e w' => e = .returned (.bool true) ∧ Below w.heap.size w w' := by
  have hc0 : (chk m es).1 = 0 := by rw [hck]
  obtain ⟨_, hn0, hn1, hl, hgood⟩ := chk_good hc0
  have hm : m ≤ 100 := by omega
  obtain ⟨RK, hRK⟩ := ex2 (fun i j => Star (LkF m (allP m (hasB es))) i j)
  have hfl : (allP m (hasB es)).length ≤ 1000 := Nat.le_trans (allP_has_le m es) hl
  have hBl := fun (w' : World) (o : Option Addr) (c : Nat) (h : EdgesAt w' (.slice o es.length c) es) => blocks_ok m o c es w' h hc0 RK hRK
  have rB := fun (w' : World) (o : Option Addr) (c : Nat) (h : GridAt w' (.slice o m c) m (hasB es)) => refBlocks_call m es hgood o c w' h hm hfl RK hRK
  have hbs1 : (blocksS (allP m (hasB es)) RK).length ≤ 1000 ∧ ∀ l ∈ blocksS (allP m (hasB es)) RK, l.length ≤ 1000 ∧ ∀ e ∈ l, I64 e.1 ∧ I64 e.2 := by
    refine ⟨Nat.le_trans (blocks_len _ _) hfl, fun l hl' => ?_⟩
    obtain ⟨q, hq⟩ := List.mem_iff_getElem?.1 hl'
    obtain ⟨h1, h2⟩ := block_len hq
    refine ⟨by omega, fun e he => ?_⟩
    obtain ⟨i, hi⟩ := h2 e he
    obtain ⟨x, y, rfl, h3, h4⟩ := (formed_all m (hasB es)).ok i e hi
    constructor <;> constructor <;> simp <;> omega
  obtain ⟨BS, hBS⟩ : ∃ BS, BS = blocksS (allP m (hasB es)) RK := ⟨_, rfl⟩
  rw [← hBS] at hBl rB hbs1
  have HBl : Hid _ := hBl
  have RB : Hid _ := rB
  have HBS : Hid _ := hbs1
  have HGD : Hid _ := hgood
  have HCK : Hid _ := hck
  have hbl := hbs1.1
  clear hBl rB hbs1 hBS hRK hfl hgood hck hc0 hn0 hn1
  have HE : Hid _ := hE
  clear hE
  go_enter Try.func4, Try.ntmps4
  go_upto_region 2 with (go_at_call 8; refine (own_any (m : Int) ao cap es _ ?_).mono ?_; exact EdgesAt.below HE.out (below_alloc (Below.refl _ _) _); rintro e w1 ⟨hb, oo, oc, rfl, hEo, hocap⟩)
  have tg := two_on (two_new w (.int .i64 (m : Int)) (.slice ao es.length cap) 24) hb (Obj.cells #[.int .i64 (m : Int), .slice oo es.length oc] 24)
  have to := two_new w1 (.int .i64 (m : Int)) (.slice oo es.length oc) 24
  have hB := below_on (below_alloc (Below.refl _ w) (Obj.cells #[.int .i64 (m : Int), .slice ao es.length cap] 24)) hb (Obj.cells #[.int .i64 (m : Int), .slice oo es.length oc] 24)
  have hEg := EdgesAt.below HE.out hB
  replace hEo := hEo.below (below_alloc (Below.refl _ w1) (Obj.cells #[.int .i64 (m : Int), .slice oo es.length oc] 24))
  generalize w1.alloc (Obj.cells #[.int .i64 (m : Int), .slice oo es.length oc] 24) = W1 at tg to hB hEg hEo ⊢
  clear hb
  obtain ⟨y1, y2⟩ := cell_two tg
  go_upto_region 3 with (go_at_call 9; refine (refCheck_as hEg hcap HCK.out).mono ?_; rintro e w2 ⟨rfl, hb⟩)
  replace tg := two_on tg hb (Obj.cells #[.int .i64 0, .int .i64 0] 27)
  replace to := two_on to hb (Obj.cells #[.int .i64 0, .int .i64 0] 27)
  have tw := two_new w2 (.int .i64 0) (.int .i64 0) 27
  replace hB := below_on hB hb (Obj.cells #[.int .i64 0, .int .i64 0] 27)
  replace hEg := hEg.on hb (Obj.cells #[.int .i64 0, .int .i64 0] 27)
  replace hEo := hEo.on hb (Obj.cells #[.int .i64 0, .int .i64 0] 27)
  generalize w2.alloc (Obj.cells #[.int .i64 0, .int .i64 0] 27) = W2 at tg to tw hB hEg hEo ⊢
  clear hb y1 y2
  obtain ⟨y1, y2⟩ := cell_two to
  go_upto_region 4 with (go_at_call 22; refine (HBl.out _ _ _ hEo).mono ?_; rintro e w3 ⟨bv, rfl, hbs, hb⟩; obtain ⟨bo, bc, rfl⟩ := hbs.form)
  replace tg := two_on tg hb (Obj.cells #[.int .i64 0, .int .i64 0] 27)
  replace to := two_on to hb (Obj.cells #[.int .i64 0, .int .i64 0] 27)
  replace tw := two_on tw hb (Obj.cells #[.int .i64 0, .int .i64 0] 27)
  have tf := two_new w3 (.int .i64 0) (.int .i64 0) 27
  replace hB := below_on hB hb (Obj.cells #[.int .i64 0, .int .i64 0] 27)
  replace hEg := hEg.on hb (Obj.cells #[.int .i64 0, .int .i64 0] 27)
  replace hEo := hEo.on hb (Obj.cells #[.int .i64 0, .int .i64 0] 27)
  replace hbs := blocks_al hbs (Obj.cells #[.int .i64 0, .int .i64 0] 27)
  generalize w3.alloc (Obj.cells #[.int .i64 0, .int .i64 0] 27) = W3 at tg to tw tf hB hEg hEo hbs ⊢
  clear hb y1 y2
  obtain ⟨y1, y2⟩ := cell_two to
  clear y1 y2
  have hne := neq27 0 0
  have hIn := BlocksAt.in hbs HBS.out.1 HBS.out.2
  clear hbs
  have hmm : (m : Int) ≤ 100 := by omega
  have hlen : ((BS.length : Int) != (BS.length : Int)) = false := by simp
  by_cases h14 : 14 < m ∨ 40 < es.length
  · go_upto_region 8 with (first
    | (go_at_call 13; refine (begun_true _).mono ?_; rintro e w6 ⟨rfl, hb6⟩; replace tg := two_next tg hb6; replace to := two_next to hb6; replace tw := two_next tw hb6; replace tf := two_next tf hb6; replace hB := below_next hB hb6; replace hEg := hEg.below hb6; replace hEo := hEo.below hb6; replace hIn := hIn.below hb6; obtain ⟨a1, a2⟩ := cell_two tg; obtain ⟨a3, a4⟩ := cell_two to; obtain ⟨a5, a6⟩ := cell_two tw; obtain ⟨a7, a8⟩ := cell_two tf)
    | (go_at_call 14; refine (kept_true (m : Int) _ _ es _ hEo hEg).mono ?_; rintro e w7 ⟨rfl, hb7⟩; replace tg := two_next tg hb7; replace tw := two_next tw hb7; replace hB := below_next hB hb7; replace hEg := hEg.below hb7; replace hIn := hIn.below hb7; obtain ⟨d1, d2⟩ := cell_two tg; obtain ⟨d5, d6⟩ := cell_two tw))
    rcases Nat.lt_or_ge 14 m with h1 | h1
    · have h2 : (14 : Int) < (m : Int) := by omega
      go_wp2
      go_ret
      exact ⟨rfl, hB⟩
    · have h2 : ¬ (14 : Int) < (m : Int) := by omega
      have h3 : (40 : Int) < (es.length : Int) := by omega
      go_wp2
      go_ret
      exact ⟨rfl, hB⟩
  · have h2 : ¬ (14 : Int) < (m : Int) := by omega
    have h3 : ¬ (40 : Int) < (es.length : Int) := by omega
    go_wp2_with (first
    | (go_at_call 13; refine (begun_true _).mono ?_; rintro e w6 ⟨rfl, hb6⟩; replace tg := two_next tg hb6; replace to := two_next to hb6; replace tw := two_next tw hb6; replace tf := two_next tf hb6; replace hB := below_next hB hb6; replace hEg := hEg.below hb6; replace hEo := hEo.below hb6; replace hIn := hIn.below hb6; obtain ⟨a1, a2⟩ := cell_two tg; obtain ⟨a3, a4⟩ := cell_two to; obtain ⟨a5, a6⟩ := cell_two tw; obtain ⟨a7, a8⟩ := cell_two tf)
    | (go_at_call 14; refine (kept_true (m : Int) _ _ es _ hEo hEg).mono ?_; rintro e w7 ⟨rfl, hb7⟩; replace tg := two_next tg hb7; replace tw := two_next tw hb7; replace hB := below_next hB hb7; replace hEg := hEg.below hb7; replace hIn := hIn.below hb7; obtain ⟨d1, d2⟩ := cell_two tg; obtain ⟨d5, d6⟩ := cell_two tw)
    | (go_at_call 15; refine (gridOf_any m _ es _ hEg hm hl HGD.out).mono ?_; rintro e w8 ⟨hb8, go', gc, rfl, hG⟩; replace hB := below_next hB hb8; replace hIn := hIn.below hb8)
    | (go_at_call 23; refine (RB.out _ _ _ hG).mono ?_; rintro e w9 ⟨v9, rfl, hbs9, hb9⟩; obtain ⟨c9, k9, rfl⟩ := hbs9.form; replace hB := below_next hB hb9; replace hIn := hIn.below hb9; have hIn2 := BlocksAt.in hbs9 HBS.out.1 HBS.out.2)
    | go_in)
    have HI1 : Hid _ := hIn
    have HI2 : Hid _ := hIn2
    have HB9 : Hid _ := hB
    clear hIn hIn2 hbs9 hb9 hb8 hB hG tg tw d1 d2 d5 d6 a1 a2 a3 a4 a5 a6 a7 a8 hEg hEo to tf
    go_loopw [8] (fun i wr => ∃ k : Nat, k ≤ BS.length ∧ i = .int .i64 (k : Int) ∧ Below w9.heap.size w9 wr) (fun i _ => BS.length - (numOf i).toNat)
    case atStart => exact ⟨0, Nat.zero_le _, rfl, Below.refl _ _⟩
    case round =>
      obtain ⟨k, hk, rfl, hbr⟩ := hrel
      by_cases hlt : k < BS.length
      · obtain ⟨l, hq⟩ : ∃ l, BS[k]? = some l := ⟨BS[k], List.getElem?_eq_getElem hlt⟩
        obtain ⟨ao', cap', e1, _, h1⟩ := BlocksIn.below HI1.out hbr
        cases e1
        obtain ⟨bo', bcap', e2, _, h5⟩ := BlocksIn.below HI2.out hbr
        cases e2
        obtain ⟨g, xo, xc, rfl, c0, hI0⟩ := h1 k l hq
        obtain ⟨g', yo, yc, rfl, c1, hI1⟩ := h5 k l hq
        have H0 : Hid _ := hI0
        have H1 : Hid _ := hI1
        clear h1 h5 hq hI0 hI1
        have i1 : (0 : Int) ≤ (k : Int) := by omega
        have i2 : (k : Int) < (BS.length : Int) := by omega
        go_wp2
        go_region_held3 (fun wz => Below wr.heap.size wr wz ∧ wz.cell? ⟨g, k, none⟩ = some (.slice xo l.length xc) ∧ wz.cell? ⟨g', k, none⟩ = some (.slice yo l.length yc))
          (first | assumption | exact keepL c0 c1 (Below.refl _ _).drew | (go_split_ands; exact keepL c0 c1 (below_next (by assumption) hbk)))
          ((go_at_call 18; go_split_ands; refine (pairs_true _ _ l _ ?_ ?_).mono ?_; exact EdgesAt.below H0.out (by assumption); exact EdgesAt.below H1.out (by assumption); rintro e wz1 ⟨rfl, hbk⟩))
        all_goals
          go_split_ands
          have hb7 : Below wr.heap.size wr wz1 := by assumption
          go_wp2
          go_roundw
          case rel => exact ⟨k + 1, by omega, by go_num, below_next hbr hb7⟩
          case measure => simp [numOf]; omega
      · go_wp2
        go_ret
        exact ⟨rfl, below_next HB9.out hbr⟩
end Go.Proofs.Ytbaghbodjpehpab
