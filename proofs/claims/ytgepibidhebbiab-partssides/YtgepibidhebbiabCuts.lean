/- nodesOf and Cuts of package parts. -/
import Derived.Test.YtgepibidhebbiabBridges
namespace Go.Proofs.Ytgepibidhebbiab
open Go.RowKit Go.Maps
attribute [local go_sem ↓] Go.wp_at_zero Go.wp_at_succ

def nodeIn (l : List Pair) (x : Nat) : Bool := l.any fun e => e.1 == (x : Int) || e.2 == (x : Int)
theorem nodeIn_take {l : List Pair} {t i j : Nat} (h : l[t]? = some ((i : Int), (j : Int))) (x : Nat) : nodeIn (l.take (t + 1)) x = (x == j || (x == i || nodeIn (l.take t) x)) := by
  obtain ⟨h1, h2⟩ := List.getElem?_eq_some_iff.1 h
  rw [List.take_succ_eq_append_getElem h1, h2]
  unfold nodeIn
  rw [List.any_append]
  have q : ∀ p q : Nat, ((p : Int) == (q : Int)) = (q == p) := fun p q => by rw [Bool.eq_iff_iff]; simp; omega
  simp only [List.any_cons, List.any_nil, Bool.or_false, q]
  cases (List.take t l).any _ <;> cases (x == i) <;> cases (x == j) <;> rfl

set_option maxHeartbeats 1000000 in
theorem nodesOf_call (m : Nat) (v : Value) (l : List Pair) (w : World) (hE : EdgesAt w v l) (hm : m ≤ 1000) (hgood : ∀ e ∈ l, 0 ≤ e.1 ∧ e.1 < m ∧ 0 ≤ e.2 ∧ e.2 < m) :
    Calls Try.prog 39 #[v] w fun r w' => ∃ b, r = .returned (.map (some b)) ∧ w.heap.size ≤ b ∧ SetN w' b m (nodeIn l) ∧ Below w.heap.size w w' := by
  have hmm := @run_makeMap Try.prog
  obtain ⟨eo, cap, rfl, hl2, hI, hcells⟩ := hE
  clear hI
  have HG : Hid _ := hgood
  have HC : Hid _ := hcells
  clear hgood hcells
  go_enter Try.func39, Try.ntmps39
  go_wp2
  go_loopw [9] (fun i wr => ∃ k : Nat, k ≤ l.length ∧ i = .int .i64 (k : Int) ∧ SetN wr w.heap.size m (nodeIn (l.take k)) ∧ Below w.heap.size w wr) (fun i _ => l.length - (numOf i).toNat)
  case atStart => exact ⟨0, Nat.zero_le _, rfl, (setN_made w m).congr (fun k _ => by simp [nodeIn]), (Below.refl _ _).alloc (Nat.le_refl _) _⟩
  case round =>
    obtain ⟨k, hk, rfl, hS, hB⟩ := hrel
    by_cases hlt : k < l.length
    · obtain ⟨b, off, rfl, cx, cy⟩ := HC.out k hlt
      obtain ⟨x, y, hxy⟩ : ∃ x y, l[k] = (x, y) := ⟨l[k].1, l[k].2, rfl⟩
      have hgx := HG.out l[k] (List.getElem_mem _)
      rw [hxy] at cx cy hgx
      have hb := World.block_lt_of_cell? w _ cx
      rw [← hB.cell (by exact hb)] at cx cy
      obtain ⟨x0, x1, y0, y1⟩ := hgx
      obtain ⟨i, rfl⟩ : ∃ i : Nat, x = i := ⟨x.toNat, by omega⟩
      obtain ⟨j, rfl⟩ : ∃ j : Nat, y = j := ⟨y.toNat, by omega⟩
      have hk? : l[k]? = some ((i : Int), (j : Int)) := by rw [List.getElem?_eq_getElem hlt, hxy]
      have HK : Hid _ := hk?
      clear hxy hk?
      have hi : i < m := by omega
      have hj : j < m := by omega
      have hSa := hS.turns (alloc_turns wr (Obj.cells #[.int .i64 (i : Int), .int .i64 (j : Int)] 63) (fun _ => False)) (fun h => h)
      have hlS := hS.lt
      go_upto_region 6 with (first | (go_at_call 60; refine (add_call hSa (by omega) hi).mono ?_; rintro r w1 ⟨rfl, hS1, ht1⟩; have tb := two_turns (two_new wr (.int .i64 (i : Int)) (.int .i64 (j : Int)) 63) ht1 (by omega); obtain ⟨z1, z2⟩ := cell_two tb) | go_in)
      go_wp2_with (first | (go_at_call 60; refine (add_call hS1 (by omega) hj).mono ?_; rintro r w2 ⟨rfl, hS2, ht2⟩) | go_in)
      go_roundw
      case rel =>
        have T := ((alloc_turns wr (Obj.cells #[.int .i64 (i : Int), .int .i64 (j : Int)] 63) _).trans ht1).trans ht2
        exact ⟨k + 1, by omega, by go_num, hS2.congr (fun x _ => (nodeIn_take HK.out x).symm), T.below hB hB.size (fun k hk => by omega)⟩
      case measure => simp [numOf]; omega
    · have : k = l.length := by omega
      subst this
      rw [List.take_length] at hS
      go_wp2
      go_ret
      exact ⟨_, rfl, Nat.le_refl _, hS, hB⟩

def cntTo (bs : List (List Pair)) (q x : Nat) : Nat := ((bs.take q).filter fun l => nodeIn l x).length
theorem cntTo_succ {bs : List (List Pair)} {q : Nat} {l : List Pair} (h : bs[q]? = some l) (x : Nat) : cntTo bs (q + 1) x = cntTo bs q x + if nodeIn l x = true then 1 else 0 := by
  obtain ⟨h1, h2⟩ := List.getElem?_eq_some_iff.1 h
  unfold cntTo
  rw [List.take_succ_eq_append_getElem h1, h2, List.filter_append, List.length_append]
  congr 1
  by_cases hx : nodeIn l x = true <;> simp [hx]
theorem cntTo_le (bs : List (List Pair)) (q x : Nat) : cntTo bs q x ≤ q :=
  Nat.le_trans (List.length_filter_le _ _) (by rw [List.length_take]; omega)
/-- The nodes below k that are in more than one block. -/
def cutsTo (bs : List (List Pair)) (k : Nat) : List Nat := (List.range k).filter fun x => decide (1 < cntTo bs bs.length x)
theorem cutsTo_succ (bs : List (List Pair)) (k : Nat) : cutsTo bs (k + 1) = cutsTo bs k ++ (if 1 < cntTo bs bs.length k then [k] else []) := by
  unfold cutsTo
  rw [List.range_succ, List.filter_append]
  congr 1
  by_cases h : 1 < cntTo bs bs.length k <;> simp [h]
theorem cutsTo_le (bs : List (List Pair)) (k : Nat) : (cutsTo bs k).length ≤ k := Nat.le_trans (List.length_filter_le _ _) (by simp)

set_option maxHeartbeats 400000 in
theorem cuts_bad (n : Int) (v : Value) (es : List Pair) (w : World) (hE : EdgesAt w v es) (hc : (chk n es).1 ≠ 0) :
    Calls Try.prog 12 #[.agg #[.int .i64 n, v]] w fun r w' => r = .returned (.tuple #[.slice none 0 0, .agg #[.int .i64 (chk n es).1, .int .i64 (chk n es).2]]) ∧ Below w.heap.size w w' := by
  have hc1 : ((chk n es).1 != 0) = true := by simpa using hc
  go_enter Try.func12, Try.ntmps12
  go_wp2_with (go_at_call 22; refine (blocks_bad n v es _ ?_ hc).mono ?_; exact hE.below (below2 _ _); rintro e w1 ⟨rfl, hb⟩; obtain ⟨bc, bf, bc1, bf1, bc2, bf2⟩ := bcell hb; have hz := hb.size; simp at hz)
  go_region
  go_wp2
  refine bodyPost_ret (v := .tuple #[.slice none 0 0, .agg #[.int .i64 (chk n es).1, .int .i64 (chk n es).2]]) ?_ rfl ⟨rfl, ?_⟩
  · simp [results, Try.results12, go_sem, bc1]
  · exact (((below_alloc (below_next (below2 _ _) hb) _).setCell (by simp) _).setCell (by simp) _).drew

theorem same_self (y : Int) : (Lit.int .i64 y).sameKey (.int .i64 y) = true := by simp [Lit.sameKey]
theorem strike_self (lf : Lit → Bool) (y : Nat) : (lf (.int .i64 (y : Int)) && !(Lit.int .i64 (y : Int)).sameKey (.int .i64 (y : Int))) = false := by rw [same_self]; exact Bool.and_false _
theorem strike_ne (lf : Lit → Bool) {z y : Nat} (h : ¬ z = y) : (lf (.int .i64 (z : Int)) && !(Lit.int .i64 (z : Int)).sameKey (.int .i64 (y : Int))) = lf (.int .i64 (z : Int)) := by
  rw [sameKey_ne (show (Lit.int .i64 (z : Int)) ≠ .int .i64 (y : Int) from fun e => h (by injection e with _ e; omega))]
  exact Bool.and_true _
theorem RowV.below {w w' : World} {b n : Nat} {t : TypeId} {f : Nat → Value} (h : RowV w b t n f) (hb : Below w.heap.size w w') : RowV w' b t n f := h.block (hb.block b h.lt)
theorem below_self {B : Nat} {w wr wr' : World} (h : Below B w wr) (hb : Below wr.heap.size wr wr') (hB : B ≤ wr.heap.size) : Below B w wr' := h.trans (hb.mono hB)

set_option maxHeartbeats 2000000 in
theorem cuts_ok (m : Nat) (ao : Option Addr) (cap : Nat) (es : List Pair) (w : World) (hE : EdgesAt w (.slice ao es.length cap) es) (hc : (chk m es).1 = 0) (RK : Nat → Nat → Bool) (hRK : ∀ i j, RK i j = true ↔ Star (LkF m (allP m (hasB es))) i j) :
    Calls Try.prog 12 #[.agg #[.int .i64 (m : Int), .slice ao es.length cap]] w fun r w' => ∃ v', r = .returned (.tuple #[v', .agg #[.int .i64 0, .int .i64 0]]) ∧ w'.ownsRow w.heap.size 3 1 v' (cutsTo (blocksS (allP m (hasB es)) RK) m).length (qv (cutsTo (blocksS (allP m (hasB es)) RK) m)) ∧ Below w.heap.size w w' := by
  obtain ⟨hck, hn0, hn1, hl, _⟩ := chk_good hc
  obtain ⟨i0, hi, hz0, hz1, hz2⟩ := info_parts Try.info3
  have hm : m ≤ 100 := by omega
  have hfl : (allP m (hasB es)).length ≤ 1000 := Nat.le_trans (allP_has_le m es) hl
  have hbl := Nat.le_trans (blocks_len (allP m (hasB es)) RK) hfl
  have hblk : ∀ (q : Nat) (l : List Pair), (blocksS (allP m (hasB es)) RK)[q]? = some l → l.length ≤ 1000 ∧ ∀ e ∈ l, 0 ≤ e.1 ∧ e.1 < m ∧ 0 ≤ e.2 ∧ e.2 < m := fun q l h => ⟨Nat.le_trans (block_len h).1 hfl, fun e he => by
    obtain ⟨i, hi⟩ := (block_len h).2 e he
    obtain ⟨x, y, rfl, h1, h2⟩ := (formed_all m (hasB es)).ok i e hi
    simp; omega⟩
  have hcall := fun (w' : World) (hb : Below w.heap.size w w') => blocks_ok m ao cap es w' (hE.below hb) hc RK hRK
  obtain ⟨BS, hBS⟩ : ∃ BS, BS = blocksS (allP m (hasB es)) RK := ⟨_, rfl⟩
  rw [← hBS] at hbl hblk ⊢
  simp only [← hBS] at hcall
  have HCL : Hid _ := hcall
  have HBK : Hid _ := hblk
  clear hE hRK hBS hck hn0 hn1 hl hc hcall hfl hblk
  go_enter Try.func12, Try.ntmps12
  go_upto_region 4 with (go_at_call 22; refine (HCL.out _ (below2 _ _)).mono ?_; rintro e w1 ⟨bv, rfl, hbs, hb⟩; obtain ⟨bo, bcp, rfl⟩ := hbs.form; obtain ⟨bc, bf, bc1, bf1, bc2, bf2⟩ := bcell hb; have hz := hb.size; simp at hz)
  have t1 : Two (w1.alloc (Obj.cells #[.int .i64 0, .int .i64 0] 27)) w.heap.size (.int .i64 (m : Int)) (.slice ao es.length cap) 24 := two_alloc (two_next (two_alloc (two_new w _ _ _) _) hb) _
  have t3 : Two (w1.alloc (Obj.cells #[.int .i64 0, .int .i64 0] 27)) (w.heap.size + 1) (.int .i64 0) (.int .i64 0) 27 := two_alloc (two_next (two_new1 w _ _ _ _) hb) _
  have hB := below_alloc (below_next (below2 (Obj.cells #[.int .i64 (m : Int), .slice ao es.length cap] 24) (Obj.cells #[.int .i64 0, .int .i64 0] 27)) hb) (Obj.cells #[.int .i64 0, .int .i64 0] 27)
  have hbsW := hbs.below (below_alloc (Below.refl _ w1) (Obj.cells #[.int .i64 0, .int .i64 0] 27))
  generalize w1.alloc (Obj.cells #[.int .i64 0, .int .i64 0] 27) = W at t1 t3 hB hbsW ⊢
  have HT3 : Hid _ := t3
  have HBS : Hid _ := hbsW
  have HB : Hid _ := hB
  clear bc bf bc1 bf1 bc2 bf2 hz hb hbs t3 hbsW hB
  obtain ⟨y1, y2⟩ := cell_two t1
  go_wp2_with (first | (at_make; refine wpList_make_full _ rfl _ _ 34 rfl W.heap.size 3 i0 (.int .i64 0) 1 Try.underlying34 hi hz0 hz1 .i64 .i64 _ _ m rfl rfl rfl rfl ?_ ?_ ?_ ?_; (rw [hz2]; omega); (unfold maxLen; omega); (omega); intro W1 hmade hg1) | go_in)
  have hrow0 := rowV_made rfl hmade
  have hB1 : Below W.heap.size W W1 := (Below.refl _ _).grown hg1 (Nat.le_refl _) (fun k hk => by cases hk)
  clear hmade hg1 y1 y2 t1
  go_loopw [27] (fun i wr => ∃ q : Nat, q ≤ BS.length ∧ i = .int .i64 (q : Int) ∧ RowV wr W.heap.size 3 m (fun j => .int .i64 (cntTo BS q j : Int)) ∧ Below W.heap.size W wr) (fun i _ => BS.length - (numOf i).toNat)
  case atStart => exact ⟨0, Nat.zero_le _, rfl, hrow0.congr (fun j _ => by simp [cntTo]), hB1⟩
  case round =>
    obtain ⟨q, hq, rfl, hrow, hB2⟩ := hrel
    clear hrow0 hB1
    have hWr := hrow.lt
    by_cases hqlt : q < BS.length
    · obtain ⟨l, hq?⟩ : ∃ l, BS[q]? = some l := ⟨BS[q], List.getElem?_eq_getElem hqlt⟩
      have hbsr := BlocksAt.turns HBS.out (M := fun k => W.heap.size ≤ k) ⟨hB2.os, hB2.tape, hB2.output, hB2.size, fun k _ hk => hB2.block k (by omega)⟩ (fun k hk => Or.inr (Or.inl hk))
      obtain ⟨g, xo, xc, rfl, cg, hrl⟩ := hbsr.at hq?
      obtain ⟨hll, hlg⟩ := HBK.out q l hq?
      have hEl : EdgesAt wr (.slice xo l.length xc) l := edgesAt_row hrl (fun e he => by have := hlg e he; constructor <;> constructor <;> omega) (by omega)
      have HQ : Hid _ := hq?
      have HEL : Hid _ := hEl
      have HLG : Hid _ := hlg
      clear hq? hEl hlg hbsr hrl
      have i1 : (0 : Int) ≤ (q : Int) := by omega
      have i2 : (q : Int) < (BS.length : Int) := by omega
      have hm6 : m ≤ 1000000 := by omega
      go_wp2_with (first
        | (go_at_call 39; refine (nodesOf_call m _ l _ HEL.out (by omega) HLG.out).mono ?_; rintro r w2 ⟨b, rfl, hbge, hS2, hb2⟩; have hrow2 := hrow.below hb2; have hB3 := below_self hB2 hb2 hB2.size; obtain ⟨DN, hownN, hhasN⟩ := hS2)
        | (at_range; refine wpList_range_own _ rfl _ 72 rfl 3 108 Try.lawI Try.underlying72 _ b m DN rfl hownN ?_; intro w5 hrg0 hg0 hs0)
        | go_in)
      go_frame
      have hrow5 := hrow2.turns (Turns.of_grown hg0) (by simp)
      have hB5 := hB3.grown hg0 hB3.size (fun k hk => by cases hk)
      obtain ⟨r, hr⟩ : ∃ r, r = w2.heap.size := ⟨_, rfl⟩
      rw [← hr] at hrg0 ⊢
      have hrW : W.heap.size < r := by have := hrow2.lt; omega
      have hbW : W.heap.size < b := by have := hrow.lt; omega
      clear hg0 hs0 hr hownN hrow2 hB3 cg hb2
      go_loopw [9] (fun _ wz => ∃ (lf : Lit → Bool) (cnt : Nat), wz.ranges Try.prog 3 unitElem b r m DN lf cnt ∧ RowV wz W.heap.size 3 m (fun j => .int .i64 ((cntTo BS q j + (if nodeIn l j = true ∧ lf (.int .i64 (j : Int)) = false then 1 else 0) : Nat) : Int)) ∧ Below W.heap.size W wz) (fun _ wz => wz.rangeLeft b r)
      case atStart =>
        refine ⟨_, _, hrg0, hrow5.congr (fun j hj => ?_), hB5⟩
        rw [if_neg]
        · rfl
        · rintro ⟨h1, h2⟩
          rw [hhasN j (natI hm6 hj)] at h2
          simp [hj, h1] at h2
      case round =>
        obtain ⟨lf, cnt, hrgz, hrz, hBz⟩ := hrel
        clear hrg0 hrow5 hB5
        go_wp2_with (first | (at_next; refine wpList_next_ranges _ rfl _ rfl 3 Try.lawI unitElem encZ (fun _ : Unit => .agg #[]) (fun key kl hk => by obtain ⟨x, hx, _⟩ := Maps.keyOf_i64 Try.underlying3 hk; exact ⟨x, hx⟩) (fun v _ hv => ⟨(), (unitElem_inv hv).1⟩) b r m _ _ _ rfl hrgz ?_ ?_) | go_in)
        · intro hc0 hl0
          go_wp2
          go_roundw
          case rel =>
            refine ⟨q + 1, by omega, by go_num, hrz.congr (fun j _ => ?_), hBz⟩
            rw [cntTo_succ HQ.out]
            by_cases hj : nodeIn l j = true
            · rw [if_pos ⟨hj, hl0 _⟩, if_pos hj]
            · rw [if_neg (fun h => hj h.1), if_neg hj]
          case measure => simp [numOf]; omega
        · intro x kl yd yp w6 cnt6 hkey hlk hvv hat hrg6 hcl hg6 hs6 hen
          obtain ⟨x', ex, rfl, hwf⟩ := Maps.keyOf_i64 Try.underlying3 hkey
          obtain rfl : x = x' := encZ_inj ex
          have hhas := has_true_of_atKey hat
          have hxI : I64 x := ⟨(wf_bounds hwf).1, (wf_bounds hwf).2⟩
          rw [hhasN x hxI] at hhas
          simp only [Bool.and_eq_true, decide_eq_true_eq] at hhas
          obtain ⟨⟨hx0, hxN⟩, hex⟩ := hhas
          obtain ⟨y, rfl⟩ : ∃ y : Nat, x = y := ⟨x.toNat, by omega⟩
          have hym : y < m := by omega
          have hny : nodeIn l y = true := by simpa using hex
          have hrow6 := hrz.turns (Turns.of_grown hg6) (by simp; omega)
          have hB6 := hBz.grown hg6 hBz.size (fun k hk => by cases hk; omega)
          have cy := hrow6.cell hym
          rw [if_neg (by rw [hlk]; simp)] at cy
          have fy := hrow6.free y
          have hcb := cntTo_le BS q y
          have HN : Hid _ := hny
          have HLK : Hid _ := hlk
          have HCL2 : Hid _ := hcl
          clear hs6 hex hat hkey hvv hlk hcl hny
          have j1 : (0 : Int) ≤ (y : Int) := by omega
          have j2 : (y : Int) < (m : Int) := by omega
          go_wp2
          have hr7 := hrg6.kept (w' := w6.setCell ⟨W.heap.size, y, none⟩ (.int .i64 ((cntTo BS q y : Int) + 1))) (setCell_turns w6 W.heap.size y (.int .i64 ((cntTo BS q y : Int) + 1))).grown (by simp; omega) (by simp; omega)
          go_roundw
          case rel =>
            refine ⟨_, cnt6, hr7, (hrow6.set y (.int .i64 ((cntTo BS q y : Int) + 1))).congr (fun j hj => ?_), hB6.setCell (Nat.le_refl _) _⟩
            by_cases e : j = y
            · subst e
              rw [if_pos rfl, if_pos ⟨HN.out, strike_self lf j⟩]
              rfl
            · rw [if_neg e, strike_ne lf e]
          case measure => rw [hr7.left_eq, hrgz.left_eq]; exact HCL2.out
    · have : q = BS.length := by omega
      subst this
      rename World => W2
      go_wp2
      go_loopw [10, 47] (fun v i wr => ∃ k : Nat, k ≤ m ∧ i = .int .i64 (k : Int) ∧ wr.ownsRow W2.heap.size 3 1 v (cutsTo BS k).length (qv (cutsTo BS k)) ∧ Below W2.heap.size W2 wr) (fun _ i _ => m - (numOf i).toNat)
      case atStart => exact ⟨0, Nat.zero_le _, rfl, by simpa [cutsTo, qv] using World.ownsRow_nil _ _ _ _, Below.refl _ _⟩
      case round =>
        obtain ⟨k, hk, rfl, hown, hB3⟩ := hrel
        obtain ⟨vo, vc, rfl⟩ := form_row hown
        have hcl := cutsTo_le BS k
        by_cases hkm : k < m
        · have ck := (hrow.below hB3).cell hkm
          have hcb := cntTo_le BS BS.length k
          have j1 : (0 : Int) ≤ (k : Int) := by omega
          have j2 : (k : Int) < (m : Int) := by omega
          by_cases h1 : 1 < cntTo BS BS.length k
          · have h1' : (1 : Int) < (cntTo BS BS.length k : Int) := by omega
            go_wp2_with (first | (at_builtin; refine wpList_append_own _ rfl _ _ 34 rfl W2.heap.size 3 i0 (.int .i64 0) 1 8 Try.underlying34 hi hz0 hz1 hz2 rfl (by decide) _ _ _ rfl (hown.alloc _) ⟨wr.heap.size, 0, none⟩ 1 1 [.int .i64 (k : Int)] rfl rfl ?n1 ?n2 ?n3 ?n4 ?n5 ?_) | go_in)
            case n1 => exact cell_one_new _ _ _
            case n2 => first | rfl | (intro y hy; simp at hy; subst hy; rfl)
            case n3 => unfold maxLen; omega
            case n4 => omega
            case n5 => have := hB3.size; simp; omega
            intro v' w3 hown' hgrow _
            have hB5 := (hB3.alloc hB3.size _).grown hgrow (by have := hB3.size; simp; omega) (fun k hk => (hown.lt k hk).1)
            clear hgrow
            go_wp2
            go_roundw
            case rel => exact ⟨k + 1, by omega, by go_num, by rw [cutsTo_succ, if_pos h1]; simpa [qv] using hown', hB5⟩
            case measure => simp [numOf]; omega
          · have h1' : ¬ (1 : Int) < (cntTo BS BS.length k : Int) := by omega
            go_wp2
            go_roundw
            case rel => exact ⟨k + 1, by omega, by go_num, by rw [cutsTo_succ, if_neg h1, List.append_nil]; exact hown, hB3⟩
            case measure => simp [numOf]; omega
        · have : k = m := by omega
          subst this
          have hB4 := below_self hB2 hB3 hB2.size
          have t3' : Two wr (w.heap.size + 1) (.int .i64 0) (.int .i64 0) 27 := (hB4.block _ (lt_of_block HT3.out)).trans HT3.out
          obtain ⟨z1, z2⟩ := cell_two t3'
          have f1 := free_two t3' 0
          have f2 := free_two t3' 1
          have hlb := lt_of_block HT3.out
          have hs2 := hB2.size
          have hsB := HB.out.size
          go_wp2
          refine bodyPost_ret (v := .tuple #[.slice vo (cutsTo BS k).length vc, .agg #[.int .i64 0, .int .i64 0]]) ?_ rfl ⟨_, rfl, ?_, ?_⟩
          · simp [results, Try.results12, go_sem, z1, z2]
          · refine ownsRow_mono (b' := w.heap.size) (ownsRow_setCell_below (ownsRow_setCell_below hown ?_ _) ?_ _) (by omega) <;> simp <;> omega
          · exact ((below_next HB.out hB4).setCell (by simp) _).setCell (by simp) _
end Go.Proofs.Ytgepibidhebbiab
