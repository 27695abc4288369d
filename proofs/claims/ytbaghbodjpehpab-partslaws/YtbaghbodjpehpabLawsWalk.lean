/- The walk of PartsLaws: it answers true, and what was there stays. -/
import Derived.Test.YtbaghbodjpehpabLawsData
namespace Go.Proofs.Ytbaghbodjpehpab
open Go.RowKit Go.Maps
attribute [local go_sem ↓] Go.wp_at_zero Go.wp_at_succ

set_option maxRecDepth 20000 in
set_option maxHeartbeats 4000000 in
theorem laws_bad (n : Int) (ao : Option Addr) (cap : Nat) (es : List Pair) (w : World) (hE : EdgesAt w (.slice ao es.length cap) es) {c d : Int} (hck : chk n es = (c, d)) (hc : c ≠ 0) :
    Calls Try.prog 7 #[.agg #[.int .i64 n, .slice ao es.length cap]] w fun e w' => e = .returned (.bool true) ∧ Below w.heap.size w w' := by
  have hc1 : (c != 0) = true := by simpa using hc
  have hcc : (chk n es).1 ≠ 0 := by rw [hck]; exact hc
  have hbadB := fun (w' : World) (v : Value) (h : EdgesAt w' v es) => blocks_bad n v es w' h hcc
  simp only [hck] at hbadB
  have H2 : Hid _ := hbadB
  clear hck hcc hbadB hc
  have HE : Hid _ := hE
  clear hE
  go_enter Try.func7, Try.ntmps7
  go_upto_region 3 with (first | (go_at_call 13; refine (begun_true _).mono ?_; rintro e w1 ⟨rfl, hb⟩) | go_in)
  have tg := two_next (two_new w (.int .i64 n) (.slice ao es.length cap) 24) hb
  have hB := below_next (below_alloc (Below.refl _ w) (Obj.cells #[.int .i64 n, .slice ao es.length cap] 24)) hb
  have hEg := EdgesAt.below HE.out hB
  clear hb
  obtain ⟨y1, y2⟩ := cell_two tg
  go_wp2_with (first | (go_at_call 22; refine (H2.out _ _ hEg).mono ?_; rintro e w3 ⟨rfl, hb⟩; replace hB := below_next hB hb) | go_in)
  go_ret
  exact ⟨rfl, below_alloc hB _⟩

theorem Turns.past {M M2 : Nat → Prop} {w wr wr' : World} (h : Turns M w wr) (h2 : Turns M2 wr wr') (hm : ∀ k, M2 k → M k ∨ w.heap.size ≤ k) : Turns M w wr' :=
  ⟨h2.os.trans h.os, h2.tape.trans h.tape, h2.output.trans h.output, Nat.le_trans h.size h2.size, fun i hi hn => (h2.block i (Nat.lt_of_lt_of_le hi h.size) (fun hm' => by rcases hm i hm' with e | e; exact hn e; omega)).trans (h.block i hi hn)⟩
theorem two_cells (w : World) (x y : Value) : ∀ (j : Nat) (z : Value), [x, y][j]? = some z → (w.alloc (Obj.cells #[x, y] 63)).cell? ((⟨w.heap.size, 0, none⟩ : Addr).add j) = some z := by
  intro j z hj
  match j, hj with
  | 0, hj => simp at hj; subst hj; simp [Addr.add]
  | 1, hj => simp at hj; subst hj; simp [Addr.add]
theorem keepT {W : World} {b : Nat} {x y : Value} {ty : TypeId} (t : Two W b x y ty) {w' : World} (hb : Below W.heap.size W w') : Below W.heap.size W w' ∧ w'.cell? ⟨b, 0, none⟩ = some x ∧ w'.cell? ⟨b, 1, none⟩ = some y :=
  ⟨hb, (cell_two (two_next t hb)).1, (cell_two (two_next t hb)).2⟩
/-- The edges of the first q blocks, and t more of the next one. -/
def allTo (BS : List (List Pair)) (q : Nat) (l : List Pair) (t : Nat) : List Pair := (BS.take q).flatten ++ l.take t
theorem allTo_zero (BS : List (List Pair)) (q : Nat) (l : List Pair) : allTo BS q l 0 = allTo BS q [] 0 := by simp [allTo]
theorem allTo_next {BS : List (List Pair)} {q : Nat} {l : List Pair} (h : BS[q]? = some l) : allTo BS (q + 1) [] 0 = allTo BS q l l.length := by unfold allTo; rw [flatten_take_succ h]; simp
theorem allTo_succ {BS : List (List Pair)} {q t : Nat} {l : List Pair} {e : Pair} (h : l[t]? = some e) : allTo BS q l (t + 1) = allTo BS q l t ++ [e] := by
  obtain ⟨h1, h2⟩ := List.getElem?_eq_some_iff.1 h
  unfold allTo; rw [List.take_succ_eq_append_getElem h1, h2, List.append_assoc]
theorem allTo_end (BS : List (List Pair)) : allTo BS BS.length [] 0 = BS.flatten := by simp [allTo]
theorem allTo_le {BS : List (List Pair)} {q : Nat} {l : List Pair} (h : BS[q]? = some l) (t : Nat) : (allTo BS q l t).length ≤ BS.flatten.length := by
  have := flatten_take_le BS (q + 1)
  rw [flatten_take_succ h, List.length_append] at this
  unfold allTo
  rw [List.length_append, List.length_take]
  omega

set_option maxRecDepth 20000 in
set_option maxHeartbeats 4000000 in
theorem laws_ok (m : Nat) (ao : Option Addr) (cap : Nat) (es : List Pair) (w : World) (hE : EdgesAt w (.slice ao es.length cap) es) (hck : (chk m es).1 = 0) :
    Calls Try.prog 7 #[.agg #[.int .i64 (m : Int), .slice ao es.length cap]] w fun e w' => e = .returned (.bool true) ∧ Below w.heap.size w w' := by
  obtain ⟨i63, hi63, hx0, hx1, hx2⟩ := info_parts Try.info63
  obtain ⟨i3, hi3, hy0, hy1, hy2⟩ := info_parts Try.info3
  obtain ⟨i4, hi4, hz0, hz1, hz2⟩ := info_parts Try.info4
  obtain ⟨_, hn0, hn1, hl, hgood⟩ := chk_good hck
  have hm : m ≤ 100 := by omega
  obtain ⟨R, hR⟩ := ex2 (fun v x => Star (St m (pn (hasB es)) allB) v x)
  obtain ⟨RK, hRK⟩ := ex2 (fun i j => Star (LkF m (allP m (hasB es))) i j)
  have hfl : (allP m (hasB es)).length ≤ 1000 := Nat.le_trans (allP_has_le m es) hl
  have hD := laws_data hck hRK
  have hBl := fun (w' : World) (h : EdgesAt w' (.slice ao es.length cap) es) => blocks_ok m ao cap es w' h hck RK hRK
  have hC := fun (w' : World) (h : EdgesAt w' (.slice ao es.length cap) es) => components_ok m ao cap es w' h hck R hR
  have hBr := fun (w' : World) (h : EdgesAt w' (.slice ao es.length cap) es) => bridges_ok m ao cap es w' h hck RK hRK
  have hCu := fun (w' : World) (h : EdgesAt w' (.slice ao es.length cap) es) => cuts_ok m ao cap es w' h hck RK hRK
  have hle : ∀ (e : Pair), e ∈ singles (blocksS (allP m (hasB es)) RK) → ∀ (w' : World) (o : Option Addr) (c : Nat), EdgesAt w' (.slice o (allP m (hasB (lessL (allP m (hasB es)) e))).length c) (allP m (hasB (lessL (allP m (hasB es)) e))) →
      Calls Try.prog 10 #[.agg #[.int .i64 (m : Int), .slice o (allP m (hasB (lessL (allP m (hasB es)) e))).length c]] w' fun r w'' => ∃ xo xc, r = .returned (.tuple #[.slice xo ((piecesS m allB R).length + 1) xc, .agg #[.int .i64 0, .int .i64 0]]) ∧ Below w'.heap.size w' w'' := by
    intro e he w' o c h
    obtain ⟨R', hR'⟩ := ex2 (fun v x => Star (St m (bothB (allP m (hasB (lessL (allP m (hasB es)) e)))) allB) v x)
    have hl' : (allP m (hasB (lessL (allP m (hasB es)) e))).length ≤ 1000 := Nat.le_trans (allP_has_le _ _) (Nat.le_trans (List.length_filter_le _ _) hfl)
    refine (components_ok m o c _ w' h (by rw [chk_allP hm hl']) R' hR').mono ?_
    rintro r w'' ⟨v', rfl, hls, hb⟩
    obtain ⟨xo, xc, rfl⟩ := hls.form
    rw [less_parts hgood hRK hR he hR']
    exact ⟨xo, xc, rfl, hb⟩
  have hNC : (piecesS m allB R).length ≤ 100 := by have : (piecesS m allB R).length ≤ m := piecesTo_le m allB R m; omega
  have hsin : ∀ e ∈ singles (blocksS (allP m (hasB es)) RK), I64 e.1 ∧ I64 e.2 := fun e he => by
    obtain ⟨l, hl', hs⟩ := List.mem_filterMap.1 he
    obtain ⟨q, hq⟩ := List.mem_iff_getElem?.1 hl'
    have hm' : e ∈ l := by
      match l, hs with
      | [x], hs => cases hs; simp
    obtain ⟨t, ht⟩ := List.mem_iff_getElem?.1 hm'
    obtain ⟨x, y, rfl, h1, h2⟩ := (hD.ok q l hq).2 t e ht
    constructor <;> constructor <;> simp <;> omega
  obtain ⟨BS, hBS⟩ : ∃ BS, BS = blocksS (allP m (hasB es)) RK := ⟨_, rfl⟩
  rw [← hBS] at hD hBl hBr hCu hle hsin
  obtain ⟨NC, hNCe⟩ : ∃ NC, NC = (piecesS m allB R).length := ⟨_, rfl⟩
  rw [← hNCe] at hle hNC
  have hC' : ∀ (w' : World), EdgesAt w' (.slice ao es.length cap) es → Calls Try.prog 10 #[.agg #[.int .i64 (m : Int), .slice ao es.length cap]] w' fun r w'' => ∃ co cc, r = .returned (.tuple #[.slice co NC cc, .agg #[.int .i64 0, .int .i64 0]]) ∧ Below w'.heap.size w' w'' := by
    intro w' h
    refine (hC w' h).mono ?_
    rintro r w'' ⟨v', rfl, hls, hb⟩
    obtain ⟨xo, xc, rfl⟩ := hls.form
    rw [hNCe]
    exact ⟨xo, xc, rfl, hb⟩
  have HD : Hid _ := hD
  have HBl : Hid _ := hBl
  have HBr : Hid _ := hBr
  have HCu : Hid _ := hCu
  have HC : Hid _ := hC'
  have HLE : Hid _ := hle
  have HSI : Hid _ := hsin
  have HGD : Hid _ := hgood
  have hlB := hD.len
  have hlA : BS.flatten.length ≤ 1000 := by rw [hD.all]; exact hl
  have HE : Hid _ := hE
  clear hD hBl hBr hCu hC hC' hle hsin hgood hE hNCe hBS hR hRK hfl hn0 hn1 hck
  go_enter Try.func7, Try.ntmps7
  go_upto_region 3 with (first | (go_at_call 13; refine (begun_true _).mono ?_; rintro e w1 ⟨rfl, hb⟩) | go_in)
  have tg := two_next (two_new w (.int .i64 (m : Int)) (.slice ao es.length cap) 24) hb
  have hB := below_next (below_alloc (Below.refl _ w) (Obj.cells #[.int .i64 (m : Int), .slice ao es.length cap] 24)) hb
  have hEg := EdgesAt.below HE.out hB
  clear hb
  obtain ⟨y1, y2⟩ := cell_two tg
  go_upto_region 6 with (first | (go_at_call 22; refine (HBl.out _ hEg).mono ?_; rintro e w2 ⟨lv, rfl, hbs, hb⟩; obtain ⟨lo, lc, rfl⟩ := hbs.form) | go_in)
  have hlt1 := lt_of_block tg
  replace tg := two_on tg hb (Obj.cells #[.int .i64 0, .int .i64 0] 27)
  have t4 := two_new w2 (.int .i64 0) (.int .i64 0) 27
  replace hB := below_on hB hb (Obj.cells #[.int .i64 0, .int .i64 0] 27)
  have hl4 : w1.heap.size ≤ w2.heap.size := hb.size
  replace hEg := hEg.on hb (Obj.cells #[.int .i64 0, .int .i64 0] 27)
  replace hbs := blocks_al hbs (Obj.cells #[.int .i64 0, .int .i64 0] 27)
  generalize w2.heap.size = b4 at *
  generalize w2.alloc (Obj.cells #[.int .i64 0, .int .i64 0] 27) = W2 at *
  clear hb y1 y2
  obtain ⟨y1, y2⟩ := cell_two tg
  obtain ⟨y3, y4⟩ := cell_two t4
  go_upto_region 7 with (first | (go_at_call 11; refine (HBr.out _ hEg).mono ?_; rintro e w3 ⟨bv, rfl, hbr, hb⟩; obtain ⟨bo, bc, rfl⟩ := form_row hbr; have z1 := free_two (two_next t4 hb) 0; have z2 := free_two (two_next t4 hb) 1; obtain ⟨z3, z4⟩ := cell_two (two_next t4 hb)) | go_in)
  have hT4 : Turns (fun k => k = b4) w3 ((w3.setCell ⟨b4, 0, none⟩ (.int .i64 0)).setCell ⟨b4, 1, none⟩ (.int .i64 0)) := (setCell_turns _ _ _ _).trans (setCell_turns _ _ _ _)
  have hl2 := lt_of_block t4
  have hlg := lt_of_block tg
  have hsz3 := hb.size
  replace hbs := (hbs.below hb).turns hT4 (fun k hk => Or.inr (Or.inr ⟨#[.int .i64 0, .int .i64 0], 27, by decide, by decide, (congrArg (fun j => w3.heap[j]?) hk).trans (two_next t4 hb)⟩))
  replace tg := two_turns (two_next tg hb) hT4 (by omega)
  replace t4 := two_zero (two_next t4 hb)
  replace hB := hT4.below (below_next hB hb) (below_next hB hb).size (fun k hk => by have := hB.size; omega)
  replace hEg := EdgesAt.below HE.out hB
  replace hbr := ownsRow_blocks (w' := (w3.setCell ⟨b4, 0, none⟩ (.int .i64 0)).setCell ⟨b4, 1, none⟩ (.int .i64 0)) hbr (fun b h => hT4.block b (hbr.lt b h).2 (by have := (hbr.lt b h).1; omega))
  generalize (w3.setCell ⟨b4, 0, none⟩ (.int .i64 0)).setCell ⟨b4, 1, none⟩ (.int .i64 0) = W3 at tg t4 hB hEg hbr hbs ⊢
  clear hT4 z1 z2 z3 z4 y1 y2 y3 y4 hb hsz3 hl2 hlg
  obtain ⟨y1, y2⟩ := cell_two tg
  go_upto_region 8 with (first | (go_at_call 12; refine (HCu.out _ hEg).mono ?_; rintro e w4 ⟨vv, rfl, hcu, hb⟩; obtain ⟨vo, vc, rfl⟩ := form_row hcu) | go_in)
  replace tg := two_on tg hb (Obj.cells #[.int .i64 0, .int .i64 0] 27)
  replace t4 := two_on t4 hb (Obj.cells #[.int .i64 0, .int .i64 0] 27)
  have t7 := two_new w4 (.int .i64 0) (.int .i64 0) 27
  replace hB := below_on hB hb (Obj.cells #[.int .i64 0, .int .i64 0] 27)
  replace hEg := hEg.on hb (Obj.cells #[.int .i64 0, .int .i64 0] 27)
  replace hbs := blocks_al (hbs.below hb) (Obj.cells #[.int .i64 0, .int .i64 0] 27)
  replace hbr := row_al (row_on hbr hb) (Obj.cells #[.int .i64 0, .int .i64 0] 27)
  replace hcu := row_al hcu (Obj.cells #[.int .i64 0, .int .i64 0] 27)
  generalize w4.heap.size = b7 at t7 ⊢
  generalize w4.alloc (Obj.cells #[.int .i64 0, .int .i64 0] 27) = W4 at tg t4 t7 hB hEg hbs hbr hcu ⊢
  clear hb y1 y2
  obtain ⟨y1, y2⟩ := cell_two tg
  go_upto_region 9 with (first | (go_at_call 10; refine (HC.out _ hEg).mono ?_; rintro e w5 ⟨co, cc, rfl, hb⟩) | go_in)
  replace tg := two_on tg hb (Obj.cells #[.int .i64 0, .int .i64 0] 27)
  replace t4 := two_on t4 hb (Obj.cells #[.int .i64 0, .int .i64 0] 27)
  replace t7 := two_on t7 hb (Obj.cells #[.int .i64 0, .int .i64 0] 27)
  have t9 := two_new w5 (.int .i64 0) (.int .i64 0) 27
  replace hB := below_on hB hb (Obj.cells #[.int .i64 0, .int .i64 0] 27)
  replace hEg := hEg.on hb (Obj.cells #[.int .i64 0, .int .i64 0] 27)
  replace hbs := blocks_al (hbs.below hb) (Obj.cells #[.int .i64 0, .int .i64 0] 27)
  replace hbr := row_al (row_on hbr hb) (Obj.cells #[.int .i64 0, .int .i64 0] 27)
  replace hcu := row_al (row_on hcu hb) (Obj.cells #[.int .i64 0, .int .i64 0] 27)
  generalize w5.heap.size = b9 at t9 ⊢
  generalize w5.alloc (Obj.cells #[.int .i64 0, .int .i64 0] 27) = W at tg t4 t7 t9 hB hEg hbs hbr hcu ⊢
  clear hb y1 y2 hl4 hlt1
  obtain ⟨y1, y2⟩ := cell_two tg
  obtain ⟨y3, y4⟩ := cell_two t4
  obtain ⟨y5, y6⟩ := cell_two t7
  obtain ⟨y7, y8⟩ := cell_two t9
  have hIn := BlocksAt.in hbs HD.out.len (fun l hl => by
    obtain ⟨q, hq⟩ := List.mem_iff_getElem?.1 hl
    refine ⟨(HD.out.ok q l hq).1, fun e he => ?_⟩
    obtain ⟨t, ht⟩ := List.mem_iff_getElem?.1 he
    obtain ⟨x, y, rfl, h1, h2⟩ := (HD.out.ok q l hq).2 t e ht
    constructor <;> constructor <;> simp <;> omega)
  have hsl := singles_len BS BS.length
  rw [List.take_length] at hsl
  have hcl := cutsTo_le BS m
  have hEb := edgesAt_row hbr HSI.out (by omega)
  have hIc := intsAt_q hcu (fun x hx => by have := (List.mem_filter.1 hx).1; simp at this; omega) (by omega)
  go_upto_region 12 with (fail)
  have HIN : Hid _ := hIn
  have HEB : Hid _ := hEb
  have HIC : Hid _ := hIc
  have HEG : Hid _ := hEg
  have HB : Hid _ := hB
  have HTG : Hid _ := tg
  clear hIn hEb hIc hbs hbr hcu hEg t4 t7 t9 y3 y4 y5 y6 y7 y8 hB
  go_wp2_with (first | (at_make; refine wpList_make_full _ rfl _ _ 34 rfl W.heap.size 3 i3 (.int .i64 0) 1 Try.underlying34 hi3 hy0 hy1 .i64 .i64 _ _ m rfl rfl rfl rfl ?_ ?_ ?_ ?_; (rw [hy2]; omega); (unfold maxLen; omega); (omega); intro W1 hmade hg1) | go_in)
  have hrow0 := rowV_made rfl hmade
  have hB1 : Below W.heap.size W W1 := (Below.refl _ _).grown hg1 (Nat.le_refl _) (fun k hk => by cases hk)
  clear hmade hg1 y1 y2 tg
  go_loopw [10, 11, 13] (fun va vs i wr => ∃ q : Nat, q ≤ BS.length ∧ i = .int .i64 (q : Int) ∧ wr.ownsRow W.heap.size 63 2 va (allTo BS q [] 0).length (flat (allTo BS q [] 0)) ∧ wr.ownsRow W.heap.size 63 2 vs (singles (BS.take q)).length (flat (singles (BS.take q))) ∧ (∀ j, va.ownBlock = some j → vs.ownBlock = some j → False) ∧ RowV wr W.heap.size 3 m (fun j => .int .i64 (cntTo BS q j : Int)) ∧ Below W.heap.size W wr) (fun _ _ i _ => BS.length - (numOf i).toNat)
  case atStart => exact ⟨0, Nat.zero_le _, rfl, by simpa [flat, allTo] using World.ownsRow_nil _ _ _ _, by simpa [flat, singles] using World.ownsRow_nil _ _ _ _, (fun j h => by cases h), hrow0.congr (fun j _ => by simp [cntTo]), hB1⟩
  case round =>
    obtain ⟨q, hq, rfl, hva, hvs, hap, hrow, hB2⟩ := hrel
    clear hrow0 hB1
    have hrl := hrow.lt
    have tg := (hB2.block _ (lt_of_block HTG.out)).trans HTG.out
    obtain ⟨y1, y2⟩ := cell_two tg
    by_cases hqB : q < BS.length
    · obtain ⟨l, hql⟩ : ∃ l, BS[q]? = some l := ⟨BS[q], List.getElem?_eq_getElem hqB⟩
      have HQ : Hid _ := hql
      clear hql
      have hll := (HD.out.ok q l HQ.out).1
      have hfa : ∀ t, (allTo BS q l t).length ≤ 1000 := fun t => Nat.le_trans (allTo_le HQ.out t) hlA
      obtain ⟨vao, vac, rfl⟩ := form_row hva
      obtain ⟨vso, vsc, rfl⟩ := form_row hvs
      obtain ⟨ob, hob⟩ : ∃ ob, ob = (Value.slice vao (allTo BS q [] 0).length vac).ownBlock := ⟨_, rfl⟩
      rw [← hob] at hap
      have hobl : ∀ j, some j = ob → W.heap.size ≤ j ∧ j < wr.heap.size := fun j hj => hva.lt j (by rw [← hob, hj])
      have hobc : ¬ some W.heap.size = ob := fun h => by
        obtain ⟨c1, h1⟩ := own_cells hva (by rw [← hob, ← h])
        obtain ⟨c2, h2, _⟩ := hrow
        rw [h1] at h2; simp at h2
      have hvsc : ∀ j, (Value.slice vso (singles (BS.take q)).length vsc).ownBlock = some j → j ≠ W.heap.size := fun j hj e => by
        obtain ⟨c1, h1⟩ := own_cells hvs hj
        obtain ⟨c2, h2, _⟩ := hrow
        rw [e] at h1
        rw [h1] at h2; simp at h2
      have hvsl : ∀ j, (Value.slice vso (singles (BS.take q)).length vsc).ownBlock = some j → W.heap.size ≤ j ∧ j < wr.heap.size := fun j hj => hvs.lt j hj
      have HOB : Hid _ := hob
      clear hob
      go_wp2_with (first | (at_make; refine wpList_make_full _ rfl _ _ 61 rfl wr.heap.size 4 i4 (.bool false) 1 Try.underlying61 hi4 hz0 hz1 .i64 .i64 _ _ m rfl rfl rfl rfl ?_ ?_ ?_ ?_; (rw [hz2]; omega); (unfold maxLen; omega); (omega); intro wq hmade hg1) | go_in)
      have hin := rowB_made hmade
      have hbq : Below wr.heap.size wr wq := (Below.refl _ _).grown hg1 (Nat.le_refl _) (fun k hk => by cases hk)
      have hsq := hin.lt
      replace hva := row_on hva hbq
      replace hvs := row_on hvs hbq
      replace hrow := hrow.below hbq
      replace hB2 := below_self hB2 hbq hB2.size
      clear hmade hg1 hbq tg y1 y2
      obtain ⟨bi, hbi⟩ : ∃ bi, bi = wr.heap.size := ⟨_, rfl⟩
      rw [← hbi] at hin hobl hsq hrl hvsl ⊢
      clear hbi
      go_loopw [10, 15] (fun va' j wr => ∃ t : Nat, t ≤ l.length ∧ j = .int .i64 (t : Int) ∧ wr.ownsRow W.heap.size 63 2 va' (allTo BS q l t).length (flat (allTo BS q l t)) ∧ (va'.ownBlock = ob ∨ ∃ j, va'.ownBlock = some j ∧ wq.heap.size ≤ j) ∧ RowB wr bi m (nodeIn (l.take t)) ∧ Turns (fun k => k = bi ∨ some k = ob) wq wr) (fun _ j _ => l.length - (numOf j).toNat)
      case atStart => exact ⟨0, Nat.zero_le _, rfl, by rw [allTo_zero]; exact hva, Or.inl HOB.out.symm, hin.congr (fun j _ => by simp [nodeIn]), Turns.refl _ _⟩
      case round =>
        obtain ⟨t, ht, rfl, hva2, hvb2, hin2, hTt⟩ := hrel
        clear hva hin
        have hbw := hTt.below hB2 hB2.size (fun k hk => by rcases hk with e | e; omega; exact (hobl k e).1)
        have hwq := hTt.size
        have tg := (hbw.block _ (lt_of_block HTG.out)).trans HTG.out
        obtain ⟨y1, y2⟩ := cell_two tg
        obtain ⟨lo', lc', e1, _, h1⟩ := BlocksIn.below HIN.out (hbw.mono (Nat.le_refl _))
        cases e1
        obtain ⟨g, xo, xc, rfl, c0, hI0⟩ := h1 q l HQ.out
        have i1 : (0 : Int) ≤ (q : Int) := by omega
        have i2 : (q : Int) < (BS.length : Int) := by omega
        by_cases htl : t < l.length
        · obtain ⟨vao2, vac2, rfl⟩ := form_row hva2
          obtain ⟨yo, yc, ey, _, _, hcells⟩ := hI0
          cases ey
          obtain ⟨b, off, rfl, c1, c2⟩ := hcells t htl
          have hlt? : l[t]? = some l[t] := List.getElem?_eq_getElem htl
          obtain ⟨x, y, hxy, hxl, hym⟩ := (HD.out.ok q l HQ.out).2 t l[t] hlt?
          rw [hxy] at c1 c2 hlt?
          have HLT : Hid _ := hlt?
          clear hcells hxy hlt? h1
          have j1 : (0 : Int) ≤ (t : Int) := by omega
          have j2 : (t : Int) < (l.length : Int) := by omega
          have k1 : ¬ (x : Int) < 0 := by omega
          have k2 : ¬ (m : Int) ≤ (y : Int) := by omega
          have k3 : ¬ (y : Int) ≤ (x : Int) := by omega
          go_upto_region 21 with (fail)
          replace tg := two_alloc tg (Obj.cells #[.int .i64 (x : Int), .int .i64 (y : Int)] 63)
          have t16 := two_new wr (.int .i64 (x : Int)) (.int .i64 (y : Int)) 63
          have hvl : ∀ j, (Value.slice vao2 (allTo BS q l t).length vac2).ownBlock = some j → W.heap.size ≤ j ∧ j < wr.heap.size := fun j hj => hva2.lt j hj
          have hva3 := row_on hva2 (below_alloc (Below.refl _ wr) (Obj.cells #[.int .i64 (x : Int), .int .i64 (y : Int)] 63))
          have hin3 := hin2.turns (alloc_turns wr (Obj.cells #[.int .i64 (x : Int), .int .i64 (y : Int)] 63) (fun _ => False)) (fun h => h)
          have hTt3 := hTt.past (alloc_turns wr (Obj.cells #[.int .i64 (x : Int), .int .i64 (y : Int)] 63) (fun _ => False)) (fun _ h => h.elim)
          have hsx : wr.heap.size < (wr.alloc (Obj.cells #[.int .i64 (x : Int), .int .i64 (y : Int)] 63)).heap.size := lt_of_block t16
          have hin2l := hin2.lt
          obtain ⟨b16, hb16⟩ : ∃ b16, b16 = wr.heap.size := ⟨_, rfl⟩
          rw [← hb16] at t16 hvl hsx hwq hin2l ⊢
          generalize wr.alloc (Obj.cells #[.int .i64 (x : Int), .int .i64 (y : Int)] 63) = wx at t16 tg hva3 hin3 hTt3 hsx ⊢
          clear hva2 hin2 hTt hbw y1 y2 c0 c1 c2 hb16 i1 i2 j1 j2
          obtain ⟨y1, y2⟩ := cell_two t16
          obtain ⟨y3, y4⟩ := cell_two tg
          go_upto_region 23 with (fail)
          clear y3 y4 tg
          go_upto_region 24 with (first | (at_builtin; refine wpList_append_own_at _ rfl _ _ 22 rfl W.heap.size 63 i63 (.agg #[.int .i64 0, .int .i64 0]) 2 16 Try.underlying22 hi63 hx0 hx1 hx2 rfl (by decide) _ _ _ rfl (hva3.alloc _) ⟨wx.heap.size, 0, none⟩ 1 1 [.int .i64 (x : Int), .int .i64 (y : Int)] rfl rfl ?n1 ?n2 ?n3 ?n4 ?n5 ?_) | go_in)
          case n2 => first | exact ⟨rfl, rfl⟩ | (intro x hx; simp at hx; rcases hx with rfl | rfl <;> rfl)
          case n3 => have := hfa t; unfold maxLen; omega
          case n4 => have := hfa t; omega
          case n5 => first | omega | (simp; omega)
          intro v' w3 hown' hgrow _ hblk
          have T3 := (alloc_turns wx (Obj.cells #[.int .i64 (x : Int), .int .i64 (y : Int)] 63) _).trans (Turns.of_grown hgrow)
          have hnb : ¬ some bi = (Value.slice vao2 (allTo BS q l t).length vac2).ownBlock := fun h => by
            rcases hvb2 with e | ⟨j, e, hj⟩
            · rw [e] at h; have := hobl _ h; omega
            · rw [e] at h; cases h; omega
          have hin4 := hin3.turns T3 hnb
          have t16' := two_turns t16 T3 (fun h => by have := hvl _ h.symm; omega)
          have hTt4 := hTt3.past T3 (fun k hk => by
            rcases hvb2 with e | ⟨j, e, hj⟩
            · rw [e] at hk; exact Or.inl (Or.inr hk)
            · rw [e] at hk; cases hk; exact Or.inr hj)
          have hsz : (wx.alloc (Obj.cells #[.int .i64 (x : Int), .int .i64 (y : Int)] 63)).heap.size = wx.heap.size + 1 := by simp
          try rw [hsz] at hblk
          have hvb3 : v'.ownBlock = ob ∨ ∃ j, v'.ownBlock = some j ∧ wq.heap.size ≤ j := by
            rcases hblk with e | e
            · rw [e]; exact hvb2
            · exact Or.inr ⟨_, e, by omega⟩
          have HVB : Hid _ := hvb3
          have hnb3 : ∀ b, v'.ownBlock = some b → b ≠ bi := fun b hb e => by
            rcases hvb3 with h | ⟨j, h, hj⟩
            · rw [hb] at h; have := hobl _ h; omega
            · rw [hb] at h; cases h; omega
          have HNB : Hid _ := hnb3
          have HOW : Hid _ := hown'
          have HT4 : Hid _ := hTt4
          clear hvb2 hvb3 hnb3 hown' hTt4 hTt3 hgrow T3 hnb hblk hsz t16 y1 y2 hva3 hin3
          obtain ⟨y1, y2⟩ := cell_two t16'
          have hxm : x < m := by omega
          have d1 := hin4.cell hxm
          have d2 := hin4.cell hym
          have f1 := hin4.free x
          have f2 := hin4.free y
          have q1 : (0 : Int) ≤ (x : Int) := by omega
          have q2 : (x : Int) < (m : Int) := by omega
          have q3 : (0 : Int) ≤ (y : Int) := by omega
          have q4 : (y : Int) < (m : Int) := by omega
          go_wp2
          go_region
          have hT5 := ((setCell_turns w3 bi x (.bool true)).trans (setCell_turns _ bi y (.bool true))).trans (Turns.of_below (Below.refl _ _).drew _)
          go_wp2
          go_roundw
          case rel =>
            refine ⟨t + 1, by omega, by go_num, ?_, HVB.out, ?_, HT4.out.past hT5 (fun k hk => Or.inl (Or.inl hk))⟩
            · rw [allTo_succ HLT.out, flat_snoc, List.length_append]
              exact ownsRow_blocks HOW.out (fun b hb => hT5.block b (World.ownsRow.lt HOW.out b hb).2 (HNB.out b hb))
            · refine RowB.congr (RowB.block ((hin4.put x true).put y true) rfl) (fun j hj => ?_)
              rw [nodeIn_take HLT.out]
              by_cases e1 : j = y
              · simp [e1]
              · by_cases e2 : j = x
                · simp [e2]
                · have e1' : (j == y) = false := by simpa using e1
                  have e2' : (j == x) = false := by simpa using e2
                  rw [if_neg e1, if_neg e2, e1', e2']; rfl
          case measure => simp [numOf]; omega
        · have htE : t = l.length := by omega
          subst htE
          rw [List.take_length] at hin2
          obtain ⟨vao2, vac2, rfl⟩ := form_row hva2
          have hvs2 := ownsRow_blocks (w' := wr) hvs (fun b hb => hTt.block b (hvs.lt b hb).2 (fun h => by
            rcases h with e | e
            · have := hvsl b hb; omega
            · exact hap b e.symm hb))
          have hrow2 := hrow.turns hTt (fun h => by rcases h with e | e; omega; exact hobc e)
          have hac : ∀ j, (Value.slice vao2 (allTo BS q l l.length).length vac2).ownBlock = some j → j ≠ W.heap.size := fun j hj e => by
            obtain ⟨c1, h1⟩ := own_cells hva2 hj
            obtain ⟨c2, h2, _⟩ := hrow2
            rw [e] at h1
            rw [h1] at h2; simp at h2
          have hap2 : ∀ j, (Value.slice vao2 (allTo BS q l l.length).length vac2).ownBlock = some j → (Value.slice vso (singles (BS.take q)).length vsc).ownBlock = some j → False := fun j h1 h2 => by
            rcases hvb2 with e | ⟨i, e, hi⟩
            · exact hap j (by rw [← e]; exact h1) h2
            · rw [h1] at e; cases e; have := hvsl j h2; omega
          have hlva : ∀ j, (Value.slice vao2 (allTo BS q l l.length).length vac2).ownBlock = some j → j < wr.heap.size := fun j hj => (hva2.lt j hj).2
          have HAC : Hid _ := hac
          clear hvs hrow hap hobc hac hvb2
          by_cases hl1 : l.length = 1
          · obtain ⟨yo, yc, ey, _, _, hcells⟩ := hI0
            cases ey
            obtain ⟨b, off, rfl, c1, c2⟩ := hcells 0 (by omega)
            have hl0 : l[0]? = some l[0] := List.getElem?_eq_getElem (by omega)
            obtain ⟨x, y, hxy, hxl, hym⟩ := (HD.out.ok q l HQ.out).2 0 l[0] hl0
            rw [hxy] at c1 c2 hl0
            have hsg := single_one hl0 hl1
            have HSG : Hid _ := hsg
            have hlI : ((l.length : Int) == 1) = true := by rw [hl1]; rfl
            have hl2 : (0 : Int) < (l.length : Int) := by omega
            have hsl2 := singles_len BS q
            simp only [Nat.zero_mul, Nat.add_zero] at c1 c2
            clear hcells hxy hl0 h1 hsg hl1
            go_upto_region 27 with (first | (at_builtin; refine wpList_append_own_at _ rfl _ _ 22 rfl W.heap.size 63 i63 (.agg #[.int .i64 0, .int .i64 0]) 2 16 Try.underlying22 hi63 hx0 hx1 hx2 rfl (by decide) _ _ _ rfl (hvs2.alloc _) ⟨wr.heap.size, 0, none⟩ 1 1 [.int .i64 (x : Int), .int .i64 (y : Int)] rfl rfl ?p1 ?p2 ?p3 ?p4 ?p5 ?_) | go_in)
            case p1 => exact two_cells _ _ _
            case p2 => first | exact ⟨rfl, rfl⟩ | (intro x hx; simp at hx; rcases hx with rfl | rfl <;> rfl)
            case p3 => unfold maxLen; omega
            case p4 => omega
            case p5 => first | omega | (simp; omega)
            intro v' w3 hown' hgrow _ hblk
            have T3 := (alloc_turns wr (Obj.cells #[.int .i64 (x : Int), .int .i64 (y : Int)] 63) _).trans (Turns.of_grown hgrow)
            have hsz : (wr.alloc (Obj.cells #[.int .i64 (x : Int), .int .i64 (y : Int)] 63)).heap.size = wr.heap.size + 1 := by simp
            try rw [hsz] at hblk
            have hvaz := ownsRow_blocks (w' := w3) hva2 (fun b hb => T3.block b (hva2.lt b hb).2 (fun h => hap2 b hb h.symm))
            have hinz := hin2.turns T3 (fun h => by have := hvsl bi h.symm; omega)
            have hrowz := hrow2.turns T3 (fun h => hvsc _ h.symm rfl)
            have hbz := T3.below hbw hbw.size (fun k hk => (hvsl k hk.symm).1)
            have hapz : ∀ j, (Value.slice vao2 (allTo BS q l l.length).length vac2).ownBlock = some j → v'.ownBlock = some j → False := fun j h1 h2 => by
              rcases hblk with e | e
              · exact hap2 j h1 (by rw [← e]; exact h2)
              · rw [h2] at e; cases e; have := hlva _ h1; omega
            have hscz : ∀ j, v'.ownBlock = some j → j ≠ W.heap.size := fun j h2 => by
              rcases hblk with e | e
              · exact hvsc j (by rw [← e]; exact h2)
              · rw [h2] at e; cases e; omega
            have hvsz : w3.ownsRow W.heap.size 63 2 v' (singles (BS.take (q + 1))).length (flat (singles (BS.take (q + 1)))) := by
              rw [singles_take HQ.out, HSG.out]
              simp only [Option.toList]
              rw [flat_snoc, List.length_append]
              exact hown'
            have HVA : Hid _ := hvaz
            have HVS : Hid _ := hvsz
            have HAP : Hid _ := hapz
            have HSC : Hid _ := hscz
            obtain ⟨vso3, vsc3, rfl⟩ := form_row hvsz
            clear hvaz hvsz hapz hscz hown' hgrow T3 hblk hsz hvs2 hva2 hrow2 hin2 hbw hap2 hTt hlva hvsc hvsl tg y1 y2 c0 c1 c2
            go_wp2
            go_loopw [17] (fun i wr => ∃ k : Nat, k ≤ m ∧ i = .int .i64 (k : Int) ∧ RowV wr W.heap.size 3 m (fun j => .int .i64 ((cntTo BS q j + (if j < k ∧ nodeIn l j = true then 1 else 0) : Nat) : Int)) ∧ Turns (fun j => j = W.heap.size) w3 wr) (fun i _ => m - (numOf i).toNat)
            case atStart => exact ⟨0, Nat.zero_le _, rfl, hrowz.congr (fun j _ => by simp), Turns.refl _ _⟩
            case round =>
              obtain ⟨k, hk, rfl, hrk, hTk⟩ := hrel
              clear hrowz
              have hbk := hTk.below hbz hbz.size (fun j hj => by omega)
              have tg := (hbk.block _ (lt_of_block HTG.out)).trans HTG.out
              obtain ⟨y1, y2⟩ := cell_two tg
              by_cases hkm : k < m
              · have hik := hinz.turns hTk (by omega)
                have ck := hik.cell hkm
                have k1 : (0 : Int) ≤ (k : Int) := by omega
                have k2 : (k : Int) < (m : Int) := by omega
                by_cases hnk : nodeIn l k = true
                · rw [hnk] at ck
                  have dk := hrk.cell hkm
                  rw [if_neg (by omega), Nat.add_zero] at dk
                  have fk := hrk.free k
                  have hcb := cntTo_le BS q k
                  have HNK : Hid _ := hnk
                  clear hnk
                  go_wp2
                  go_roundw
                  case rel =>
                    refine ⟨k + 1, by omega, by go_num, (hrk.set k (.int .i64 ((cntTo BS q k : Int) + 1))).congr (fun j hj => ?_), hTk.trans (setCell_turns _ _ _ _)⟩
                    by_cases e : j = k
                    · subst e
                      rw [if_pos rfl, if_pos ⟨by omega, HNK.out⟩]
                      rfl
                    · rw [if_neg e]
                      have : (j < k + 1 ∧ nodeIn l j = true) ↔ (j < k ∧ nodeIn l j = true) := by constructor <;> (rintro ⟨h1, h2⟩; exact ⟨by omega, h2⟩)
                      simp only [this]
                  case measure => simp [numOf]; omega
                · have hnk' : nodeIn l k = false := by simpa using hnk
                  rw [hnk'] at ck
                  have HNK : Hid _ := hnk'
                  clear hnk hnk'
                  go_wp2
                  go_roundw
                  case rel =>
                    refine ⟨k + 1, by omega, by go_num, hrk.congr (fun j hj => ?_), hTk⟩
                    have : (j < k + 1 ∧ nodeIn l j = true) ↔ (j < k ∧ nodeIn l j = true) := by
                      constructor
                      · rintro ⟨h1, h2⟩
                        refine ⟨?_, h2⟩
                        by_cases e : j = k
                        · subst e; rw [HNK.out] at h2; cases h2
                        · omega
                      · rintro ⟨h1, h2⟩; exact ⟨by omega, h2⟩
                    simp only [this]
                  case measure => simp [numOf]; omega
              · have hkE : k = m := by omega
                subst hkE
                go_wp2
                go_roundw
                case rel =>
                  refine ⟨q + 1, by omega, by go_num, ?_, ?_, HAP.out, hrk.congr (fun j hj => ?_), hbk⟩
                  · rw [allTo_next HQ.out]
                    exact ownsRow_blocks HVA.out (fun b hb => hTk.block b (World.ownsRow.lt HVA.out b hb).2 (HAC.out b hb))
                  · exact ownsRow_blocks HVS.out (fun b hb => hTk.block b (World.ownsRow.lt HVS.out b hb).2 (HSC.out b hb))
                  · rw [cntTo_succ HQ.out]
                    simp only [hj, true_and]
                case measure => simp [numOf]; omega
          · have hlI : ((l.length : Int) == 1) = false := by simp; omega
            have hsg := single_none hl1
            have hvsz : wr.ownsRow W.heap.size 63 2 (.slice vso (singles (BS.take q)).length vsc) (singles (BS.take (q + 1))).length (flat (singles (BS.take (q + 1)))) := by
              rw [singles_take HQ.out, hsg]; simpa using hvs2
            have hrowz := hrow2
            have hinz := hin2
            have hbz := hbw
            have HVA : Hid _ := hva2
            have HVS : Hid _ := hvsz
            have HAP : Hid _ := hap2
            have HSC : Hid _ := hvsc
            rename World => wz
            clear hvs2 hva2 hvsz hrow2 hin2 hbw hap2 hTt hlva hvsc hvsl tg y1 y2 hl1
            go_wp2
            clear c0
            go_loopw [17] (fun i wr => ∃ k : Nat, k ≤ m ∧ i = .int .i64 (k : Int) ∧ RowV wr W.heap.size 3 m (fun j => .int .i64 ((cntTo BS q j + (if j < k ∧ nodeIn l j = true then 1 else 0) : Nat) : Int)) ∧ Turns (fun j => j = W.heap.size) wz wr) (fun i _ => m - (numOf i).toNat)
            case atStart => exact ⟨0, Nat.zero_le _, rfl, hrowz.congr (fun j _ => by simp), Turns.refl _ _⟩
            case round =>
              obtain ⟨k, hk, rfl, hrk, hTk⟩ := hrel
              clear hrowz
              have hbk := hTk.below hbz hbz.size (fun j hj => by omega)
              have tg := (hbk.block _ (lt_of_block HTG.out)).trans HTG.out
              obtain ⟨y1, y2⟩ := cell_two tg
              by_cases hkm : k < m
              · have hik := hinz.turns hTk (by omega)
                have ck := hik.cell hkm
                have k1 : (0 : Int) ≤ (k : Int) := by omega
                have k2 : (k : Int) < (m : Int) := by omega
                by_cases hnk : nodeIn l k = true
                · rw [hnk] at ck
                  have dk := hrk.cell hkm
                  rw [if_neg (by omega), Nat.add_zero] at dk
                  have fk := hrk.free k
                  have hcb := cntTo_le BS q k
                  have HNK : Hid _ := hnk
                  clear hnk
                  go_wp2
                  go_roundw
                  case rel =>
                    refine ⟨k + 1, by omega, by go_num, (hrk.set k (.int .i64 ((cntTo BS q k : Int) + 1))).congr (fun j hj => ?_), hTk.trans (setCell_turns _ _ _ _)⟩
                    by_cases e : j = k
                    · subst e
                      rw [if_pos rfl, if_pos ⟨by omega, HNK.out⟩]
                      rfl
                    · rw [if_neg e]
                      have : (j < k + 1 ∧ nodeIn l j = true) ↔ (j < k ∧ nodeIn l j = true) := by constructor <;> (rintro ⟨h1, h2⟩; exact ⟨by omega, h2⟩)
                      simp only [this]
                  case measure => simp [numOf]; omega
                · have hnk' : nodeIn l k = false := by simpa using hnk
                  rw [hnk'] at ck
                  have HNK : Hid _ := hnk'
                  clear hnk hnk'
                  go_wp2
                  go_roundw
                  case rel =>
                    refine ⟨k + 1, by omega, by go_num, hrk.congr (fun j hj => ?_), hTk⟩
                    have : (j < k + 1 ∧ nodeIn l j = true) ↔ (j < k ∧ nodeIn l j = true) := by
                      constructor
                      · rintro ⟨h1, h2⟩
                        refine ⟨?_, h2⟩
                        by_cases e : j = k
                        · subst e; rw [HNK.out] at h2; cases h2
                        · omega
                      · rintro ⟨h1, h2⟩; exact ⟨by omega, h2⟩
                    simp only [this]
                  case measure => simp [numOf]; omega
              · have hkE : k = m := by omega
                subst hkE
                go_wp2
                go_roundw
                case rel =>
                  refine ⟨q + 1, by omega, by go_num, ?_, ?_, HAP.out, hrk.congr (fun j hj => ?_), hbk⟩
                  · rw [allTo_next HQ.out]
                    exact ownsRow_blocks HVA.out (fun b hb => hTk.block b (World.ownsRow.lt HVA.out b hb).2 (HAC.out b hb))
                  · exact ownsRow_blocks HVS.out (fun b hb => hTk.block b (World.ownsRow.lt HVS.out b hb).2 (HSC.out b hb))
                  · rw [cntTo_succ HQ.out]
                    simp only [hj, true_and]
                case measure => simp [numOf]; omega
    · have hqE : q = BS.length := by omega
      subst hqE
      rw [List.take_length] at hvs
      obtain ⟨vao, vac, rfl⟩ := form_row hva
      obtain ⟨vso, vsc, rfl⟩ := form_row hvs
      obtain ⟨AL, hAL⟩ : ∃ AL, AL = allTo BS BS.length [] 0 := ⟨_, rfl⟩
      rw [← hAL] at hva ⊢
      rw [allTo_end] at hAL
      have hgA : Good m AL := by rw [hAL]; exact HD.out.good
      have hsA : allP m (hasB AL) = allP m (hasB es) := by rw [hAL]; exact HD.out.same
      have hlA2 : AL.length = es.length := by rw [hAL]; exact HD.out.all
      have hlA3 : AL.length ≤ 1000 := by omega
      have HLA : Hid _ := hlA2
      clear hAL hlA hap hlA2
      have hEA := edgesAt_row hva (fun e he => by have := hgA e he; constructor <;> constructor <;> omega) (by omega)
      have hES := edgesAt_row hvs HSI.out (by omega)
      have HEA : Hid _ := hEA
      have HES : Hid _ := hES
      have HGA : Hid _ := hgA
      have HSA : Hid _ := hsA
      clear hEA hES hgA hsA hva hvs
      rename World => W2
      go_wp2
      clear y1 y2 tg
      go_loopw [18, 19] (fun v i wr => ∃ k : Nat, k ≤ m ∧ i = .int .i64 (k : Int) ∧ wr.ownsRow W2.heap.size 3 1 v (cutsTo BS k).length (qv (cutsTo BS k)) ∧ Below W2.heap.size W2 wr) (fun _ i _ => m - (numOf i).toNat)
      case atStart => exact ⟨0, Nat.zero_le _, rfl, by simpa [cutsTo, qv] using World.ownsRow_nil _ _ _ _, Below.refl _ _⟩
      case round =>
        obtain ⟨k, hk, rfl, hown, hB3⟩ := hrel
        obtain ⟨vo3, vc3, rfl⟩ := form_row hown
        have hcl3 := cutsTo_le BS k
        have hBw := below_self hB2 hB3 hB2.size
        have tg := (hBw.block _ (lt_of_block HTG.out)).trans HTG.out
        obtain ⟨y1, y2⟩ := cell_two tg
        by_cases hkm : k < m
        · have ck := (hrow.below hB3).cell hkm
          have hcb := cntTo_le BS BS.length k
          have j1 : (0 : Int) ≤ (k : Int) := by omega
          have j2 : (k : Int) < (m : Int) := by omega
          by_cases h1 : 1 < cntTo BS BS.length k
          · have h1' : (1 : Int) < (cntTo BS BS.length k : Int) := by omega
            go_wp2_with (first | (at_builtin; refine wpList_append_own _ rfl _ _ 34 rfl W2.heap.size 3 i3 (.int .i64 0) 1 8 Try.underlying34 hi3 hy0 hy1 hy2 rfl (by decide) _ _ _ rfl (hown.alloc _) ⟨wr.heap.size, 0, none⟩ 1 1 [.int .i64 (k : Int)] rfl rfl ?r1 ?r2 ?r3 ?r4 ?r5 ?_) | go_in)
            case r1 => exact cell_one_new _ _ _
            case r2 => first | rfl | (intro y hy; simp at hy; subst hy; rfl)
            case r3 => unfold maxLen; omega
            case r4 => omega
            case r5 => have := hB3.size; simp; omega
            intro v' w3 hown' hgrow _
            have hB5 := (hB3.alloc hB3.size _).grown hgrow (by have := hB3.size; simp; omega) (fun k hk => (hown.lt k hk).1)
            clear hgrow
            go_wp2
            go_roundw
            case rel => exact ⟨k + 1, by omega, by go_num, by rw [cutsTo_succ, if_pos h1]; simpa [qv] using hown', hB5⟩
            case measure => simp [numOf]; omega
          · have h1' : ¬ (1 : Int) < (cntTo BS BS.length k : Int) := by omega
            go_wp2
            go_roundw
            case rel => exact ⟨k + 1, by omega, by go_num, by rw [cutsTo_succ, if_neg h1, List.append_nil]; exact hown, hB3⟩
            case measure => simp [numOf]; omega
        · have hkE : k = m := by omega
          subst hkE
          have hIc2 := intsAt_q hown (fun x hx => by have := (List.mem_filter.1 hx).1; simp at this; omega) (by omega)
          have hEA := EdgesAt.below HEA.out hB3
          clear hown hrow
          go_upto_region 39 with (first | (go_at_call 15; refine (gridOf_any k _ AL _ hEA hm (by omega) HGA.out).mono ?_; rintro e w8 ⟨hb8, go', gc, rfl, hG⟩) | go_in)
          have hB8 := below_next HB.out (below_self hBw hb8 hBw.size)
          have hW8 := below_self hBw hb8 hBw.size
          have hE8 := below_next hB3 hb8
          replace tg := two_next tg hb8
          have hof1 := fun (w' : World) (hb : Below w8.heap.size w8 w') => ofGrid_any k go' gc (hasB AL) w' (hG.below hb) hm
          have hwo := fun (w' : World) (hb : Below w8.heap.size w8 w') (x y : Int) (hx : I64 x) (hy : I64 y) => without_call k go' gc (hasB AL) w' (hG.below hb) hm (by rw [HSA.out]; exact Nat.le_trans (allP_has_le _ _) hl) hx hy
          simp only [HSA.out] at hof1 hwo
          have H1 : Hid _ := hof1
          have HWO : Hid _ := hwo
          have HEG8 : Hid _ := EdgesAt.below HEG.out hW8
          have HEB8 : Hid _ := EdgesAt.below HEB.out hW8
          have HIC8 : Hid _ := IntsAt.below HIC.out hW8
          have HES8 : Hid _ := EdgesAt.below HES.out hE8
          have HIC2 : Hid _ := hIc2.below hb8
          have HB8 : Hid _ := hB8
          have hlenI : ((AL.length : Int) != (es.length : Int)) = false := by rw [HLA.out]; simp
          clear hof1 hwo hG hB8 hW8 hE8 hIc2 hEA y1 y2 hb8 hB3 hBw
          obtain ⟨y1, y2⟩ := cell_two tg
          go_region_held3 (fun wz => Below w8.heap.size w8 wz ∧ wz.cell? ⟨w.heap.size, 0, none⟩ = some (.int .i64 (k : Int)) ∧ wz.cell? ⟨w.heap.size, 1, none⟩ = some (.slice ao es.length cap))
            (first | assumption | exact keepT tg (Below.refl _ _).drew | (go_split_ands; exact keepT tg (below_next (by assumption) hbk)))
            ((first
              | (go_at_call 31; (fail_if_success (have hh := hzA)); go_split_ands; refine (H1.out _ (by assumption)).mono ?_; rintro e wz1 ⟨hbk, o1, cq1, rfl, hE1⟩; have hzA := hbk)
              | (go_at_call 15; go_split_ands; refine (gridOf_any k _ es _ (EdgesAt.below HEG8.out (by assumption)) hm hl HGD.out).mono ?_; rintro e wz2 ⟨hbk, go2, gc2, rfl, hG2⟩; have hzB := hbk)
              | (go_at_call 31; refine (ofGrid_any k go2 gc2 (hasB es) _ hG2 hm).mono ?_; rintro e wz3 ⟨hbk, o3, cq3, rfl, hE3⟩; have hzC := hbk)
              | (go_at_call 30; refine (same_true (k : Int) _ _ (allP k (hasB es)) _ ((hE1.below hzB).below hzC) hE3).mono ?_; rintro e wz4 ⟨rfl, hbk⟩)
              | (go_at_call 18; go_split_ands; refine (pairs_true _ _ (singles BS) _ (EdgesAt.below HEB8.out (by assumption)) (EdgesAt.below HES8.out (by assumption))).mono ?_; rintro e wz5 ⟨rfl, hbk⟩)
              | (go_at_call 20; go_split_ands; refine (ints_true _ _ ((cutsTo BS k).map fun (x : Nat) => (x : Int)) _ (by simpa using IntsAt.below HIC8.out (by assumption)) (by simpa using IntsAt.below HIC2.out (by assumption))).mono ?_; rintro e wz6 ⟨rfl, hbk⟩)))
          go_split_ands
          have hb9 : Below w8.heap.size w8 wz6 := by assumption
          clear hzA hzB hzC hbk hE1 hE3 hG2 y1 y2
          have HB9 : Hid _ := below_next HB8.out hb9
          have hwo9 := fun (w' : World) (hb : Below wz6.heap.size wz6 w') => HWO.out w' (below_next hb9 hb)
          have HW9 : Hid _ := hwo9
          have HEB9 : Hid _ := EdgesAt.below HEB8.out hb9
          clear hwo9 hb9 tg
          go_wp2
          go_loopw [21] (fun i wr => ∃ j : Nat, j ≤ (singles BS).length ∧ i = .int .i64 (j : Int) ∧ Below wz6.heap.size wz6 wr) (fun i _ => (singles BS).length - (numOf i).toNat)
          case atStart => exact ⟨0, Nat.zero_le _, rfl, Below.refl _ _⟩
          case round =>
            obtain ⟨j, hj, rfl, hbr⟩ := hrel
            by_cases hjl : j < (singles BS).length
            · obtain ⟨yo, yc, ey, _, hI, hcells⟩ := EdgesAt.below HEB9.out hbr
              cases ey
              obtain ⟨b, off, rfl, c1, c2⟩ := hcells j hjl
              obtain ⟨x, y, hxy⟩ : ∃ x y, (singles BS)[j] = (x, y) := ⟨(singles BS)[j].1, (singles BS)[j].2, rfl⟩
              have hmem : (x, y) ∈ singles BS := by rw [← hxy]; exact List.getElem_mem _
              rw [hxy] at c1 c2
              have hle := HLE.out (x, y) hmem
              obtain ⟨ix, iy⟩ := HSI.out (x, y) hmem
              have hwx := fun (w' : World) (hb : Below wz6.heap.size wz6 w') => HW9.out w' hb x y ix iy
              have HWX : Hid _ := hwx
              have HLX : Hid _ := hle
              have j1 : (0 : Int) ≤ (j : Int) := by omega
              have j2 : (j : Int) < ((singles BS).length : Int) := by omega
              obtain ⟨LE, hLE⟩ : ∃ LE, LE = lessL (allP k (hasB es)) (x, y) := ⟨_, rfl⟩
              rw [← hLE] at HWX HLX
              clear hcells hI hxy hmem hle hwx ix iy hLE
              go_upto_region 45 with (first
                | (go_at_call 32; refine (HWX.out _ hbr).mono ?_; rintro e wa ⟨to, tc, rfl, hGa, hbA⟩)
                | (go_at_call 31; refine (ofGrid_any k to tc (hasB LE) _ hGa hm).mono ?_; rintro e wb ⟨hbB, o5, cq5, rfl, hE5⟩)
                | go_in)
              have t22 := two_new wb (.int .i64 (k : Int)) (.slice o5 (allP k (hasB LE)).length cq5) 24
              have hE6 := hE5.below (below_alloc (Below.refl _ wb) (Obj.cells #[.int .i64 (k : Int), .slice o5 (allP k (hasB LE)).length cq5] 24))
              have hB6 := below_alloc (below_next (below_next hbr hbA) hbB) (Obj.cells #[.int .i64 (k : Int), .slice o5 (allP k (hasB LE)).length cq5] 24)
              generalize wb.heap.size = b22 at t22 ⊢
              generalize wb.alloc (Obj.cells #[.int .i64 (k : Int), .slice o5 (allP k (hasB LE)).length cq5] 24) = wc at t22 hE6 hB6 ⊢
              obtain ⟨y1, y2⟩ := cell_two t22
              clear hbA hbB hGa hE5 c1 c2
              have hn1 : ((NC : Int) + 1 != (NC : Int) + 1) = false := by simp
              go_wp2_with (first
                | (go_at_call 10; refine (HLX.out _ _ _ hE6).mono ?_; rintro e wd ⟨xo, xc, rfl, hbD⟩)
                | go_in)
              go_roundw
              case rel => exact ⟨j + 1, by omega, by go_num, below_alloc (below_next hB6 hbD) _⟩
              case measure => simp [numOf]; omega
            · go_wp2
              go_ret
              exact ⟨rfl, below_next HB9.out hbr⟩
end Go.Proofs.Ytbaghbodjpehpab
