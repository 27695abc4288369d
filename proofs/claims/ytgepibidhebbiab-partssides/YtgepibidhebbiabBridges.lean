/- Bridges of package parts. -/
import Derived.Test.YtgepibidhebbiabBlks
namespace Go.Proofs.Ytgepibidhebbiab
open Go.RowKit Go.Maps
attribute [local go_sem ↓] Go.wp_at_zero Go.wp_at_succ

def single : List Pair → Option Pair
  | [e] => some e
  | _ => none
def singles (bs : List (List Pair)) : List Pair := bs.filterMap single
theorem singles_take {bs : List (List Pair)} {q : Nat} {l : List Pair} (h : bs[q]? = some l) : singles (bs.take (q + 1)) = singles (bs.take q) ++ (single l).toList := by
  obtain ⟨h1, h2⟩ := List.getElem?_eq_some_iff.1 h
  rw [List.take_succ_eq_append_getElem h1, h2]
  unfold singles
  rw [List.filterMap_append]
  cases hs : single l <;> simp [hs]
theorem singles_len (bs : List (List Pair)) (q : Nat) : (singles (bs.take q)).length ≤ q :=
  Nat.le_trans (List.length_filterMap_le _ _) (by rw [List.length_take]; omega)

theorem BlocksAt.at {w : World} {base : Nat} {ao : Option Addr} {n cap : Nat} {bs : List (List Pair)} (h : BlocksAt w base (.slice ao n cap) bs) {q : Nat} {l : List Pair} (hq : bs[q]? = some l) : ∃ g xo xc, ao = some ⟨g, 0, none⟩ ∧ w.cell? ⟨g, q, none⟩ = some (.slice xo l.length xc) ∧ w.ownsRow base 63 2 (.slice xo l.length xc) l.length (flat l) := by
  obtain ⟨vs, h1, h2, h3⟩ := h
  have hl := (List.getElem?_eq_some_iff.1 hq).1
  obtain ⟨x, hx⟩ : ∃ x, vs[q]? = some x := ⟨vs[q]'(by omega), List.getElem?_eq_getElem (by omega)⟩
  have hr := h3 q x l hx hq
  obtain ⟨xo, xc, rfl⟩ := form_row hr
  rcases h2.2 with ⟨_, e⟩ | ⟨g, c, cur, e, _⟩
  · omega
  · cases e
    refine ⟨g, xo, xc, rfl, ?_, hr⟩
    have := h2.cells (g := g) rfl q _ hx
    rw [add_none] at this
    exact this
theorem blocks_len (fes : List Pair) (RK : Nat → Nat → Bool) : (blocksS fes RK).length ≤ fes.length := by
  unfold blocksS; rw [List.length_map]; exact piecesTo_le _ _ _ _
theorem block_len {fes : List Pair} {RK : Nat → Nat → Bool} {q : Nat} {l : List Pair} (h : (blocksS fes RK)[q]? = some l) : l.length ≤ fes.length ∧ ∀ e, e ∈ l → ∃ i : Nat, fes[i]? = some e := by
  unfold blocksS at h
  rw [List.getElem?_map] at h
  obtain ⟨l0, h0, rfl⟩ := Option.map_eq_some_iff.1 h
  obtain ⟨h1, h2⟩ := piece_lt h0
  refine ⟨by rw [edgesL_len]; exact h1, fun e he => ?_⟩
  obtain ⟨i, hi, rfl⟩ := List.mem_map.1 he
  have := h2 i hi
  exact ⟨i, by simp [List.getD, this]⟩

set_option maxHeartbeats 400000 in
theorem bridges_bad (n : Int) (v : Value) (es : List Pair) (w : World) (hE : EdgesAt w v es) (hc : (chk n es).1 ≠ 0) :
    Calls Try.prog 11 #[.agg #[.int .i64 n, v]] w fun r w' => r = .returned (.tuple #[.slice none 0 0, .agg #[.int .i64 (chk n es).1, .int .i64 (chk n es).2]]) ∧ Below w.heap.size w w' := by
  have hc1 : ((chk n es).1 != 0) = true := by simpa using hc
  go_enter Try.func11, Try.ntmps11
  go_wp2_with (go_at_call 22; refine (blocks_bad n v es _ ?_ hc).mono ?_; exact hE.below (below2 _ _); rintro e w1 ⟨rfl, hb⟩; obtain ⟨bc, bf, bc1, bf1, bc2, bf2⟩ := bcell hb; have hz := hb.size; simp at hz)
  go_region
  go_wp2
  refine bodyPost_ret (v := .tuple #[.slice none 0 0, .agg #[.int .i64 (chk n es).1, .int .i64 (chk n es).2]]) ?_ rfl ⟨rfl, ?_⟩
  · simp [results, Try.results11, go_sem, bc1]
  · exact (((below_alloc (below_next (below2 _ _) hb) _).setCell (by simp) _).setCell (by simp) _).drew

set_option maxHeartbeats 2000000 in
theorem bridges_ok (m : Nat) (ao : Option Addr) (cap : Nat) (es : List Pair) (w : World) (hE : EdgesAt w (.slice ao es.length cap) es) (hc : (chk m es).1 = 0) (RK : Nat → Nat → Bool) (hRK : ∀ i j, RK i j = true ↔ Star (LkF m (allP m (hasB es))) i j) :
    Calls Try.prog 11 #[.agg #[.int .i64 (m : Int), .slice ao es.length cap]] w fun r w' => ∃ v', r = .returned (.tuple #[v', .agg #[.int .i64 0, .int .i64 0]]) ∧ w'.ownsRow w.heap.size 63 2 v' (singles (blocksS (allP m (hasB es)) RK)).length (flat (singles (blocksS (allP m (hasB es)) RK))) ∧ Below w.heap.size w w' := by
  obtain ⟨hck, hn0, hn1, hl, _⟩ := chk_good hc
  obtain ⟨i0, hi, hz0, hz1, hz2⟩ := info_parts Try.info63
  have hfl : (allP m (hasB es)).length ≤ 1000 := Nat.le_trans (allP_has_le m es) hl
  have hbl := Nat.le_trans (blocks_len (allP m (hasB es)) RK) hfl
  have hblk : ∀ (q : Nat) (l : List Pair), (blocksS (allP m (hasB es)) RK)[q]? = some l → l.length ≤ 1000 := fun q l h => Nat.le_trans (block_len h).1 hfl
  have hcall := fun (w' : World) (hb : Below w.heap.size w w') => blocks_ok m ao cap es w' (hE.below hb) hc RK hRK
  obtain ⟨BS, hBS⟩ : ∃ BS, BS = blocksS (allP m (hasB es)) RK := ⟨_, rfl⟩
  rw [← hBS] at hbl hblk ⊢
  simp only [← hBS] at hcall
  have HCL : Hid _ := hcall
  have HBK : Hid _ := hblk
  clear hE hRK hBS hck hn0 hn1 hl hc hcall hfl hblk
  go_enter Try.func11, Try.ntmps11
  go_upto_region 4 with (go_at_call 22; refine (HCL.out _ (below2 _ _)).mono ?_; rintro e w1 ⟨bv, rfl, hbs, hb⟩; obtain ⟨bo, bcp, rfl⟩ := hbs.form; obtain ⟨bc, bf, bc1, bf1, bc2, bf2⟩ := bcell hb; have hz := hb.size; simp at hz)
  have t3 : Two (w1.alloc (Obj.cells #[.int .i64 0, .int .i64 0] 27)) (w.heap.size + 1) (.int .i64 0) (.int .i64 0) 27 := two_alloc (two_next (two_new1 w _ _ _ _) hb) _
  have hB := below_alloc (below_next (below2 (Obj.cells #[.int .i64 (m : Int), .slice ao es.length cap] 24) (Obj.cells #[.int .i64 0, .int .i64 0] 27)) hb) (Obj.cells #[.int .i64 0, .int .i64 0] 27)
  have hbsW := hbs.below (below_alloc (Below.refl _ w1) (Obj.cells #[.int .i64 0, .int .i64 0] 27))
  generalize w1.alloc (Obj.cells #[.int .i64 0, .int .i64 0] 27) = W at t3 hB hbsW ⊢
  have HT3 : Hid _ := t3
  have HBS : Hid _ := hbsW
  have HB : Hid _ := hB
  clear bc bf bc1 bf1 bc2 bf2 hz hb hbs t3 hbsW hB
  go_wp2
  go_loopw [6, 20] (fun v i wr => ∃ q : Nat, q ≤ BS.length ∧ i = .int .i64 (q : Int) ∧ wr.ownsRow W.heap.size 63 2 v (singles (BS.take q)).length (flat (singles (BS.take q))) ∧ Below W.heap.size W wr) (fun _ i _ => BS.length - (numOf i).toNat)
  case atStart => exact ⟨0, Nat.zero_le _, rfl, by simpa [singles, flat] using World.ownsRow_nil _ _ _ _, Below.refl _ _⟩
  case round =>
    obtain ⟨q, hq, rfl, hown, hB2⟩ := hrel
    obtain ⟨vo, vc, rfl⟩ := form_row hown
    have hsl := singles_len BS q
    by_cases hqlt : q < BS.length
    · obtain ⟨l, hq?⟩ : ∃ l, BS[q]? = some l := ⟨BS[q], List.getElem?_eq_getElem hqlt⟩
      obtain ⟨g, xo, xc, rfl, cg, hrow⟩ := (BlocksAt.below HBS.out hB2).at hq?
      have hll := HBK.out q l hq?
      have HQ : Hid _ := hq?
      clear hq?
      have i1 : (0 : Int) ≤ (q : Int) := by omega
      have i2 : (q : Int) < (BS.length : Int) := by omega
      by_cases h1 : l.length = 1
      · obtain ⟨⟨x, y⟩, rfl⟩ : ∃ e, l = [e] := List.length_eq_one_iff.1 h1
        clear h1
        rcases hrow.2 with ⟨e, _⟩ | ⟨gx, cx, cur, e, _⟩
        · cases e
        cases e
        have c0 := hrow.cells (g := gx) rfl 0 (.int .i64 x) (by simp [flat])
        have c1 := hrow.cells (g := gx) rfl 1 (.int .i64 y) (by simp [flat])
        rw [add_none] at c0 c1
        go_wp2_with (first | (at_builtin; refine wpList_append_own _ rfl _ _ 22 rfl W.heap.size 63 i0 (.agg #[.int .i64 0, .int .i64 0]) 2 16 Try.underlying22 hi hz0 hz1 hz2 rfl (by decide) _ _ _ rfl (hown.alloc _) ⟨wr.heap.size, 0, none⟩ 1 1 [.int .i64 x, .int .i64 y] rfl rfl ?n1 ?n2 ?n3 ?n4 ?n5 ?_) | go_in)
        case n1 =>
          intro j z hj
          match j, hj with
          | 0, hj => simp at hj; subst hj; simp [Addr.add]
          | 1, hj => simp at hj; subst hj; simp [Addr.add]
        case n2 => first | exact ⟨rfl, rfl⟩ | (intro x hx; simp at hx; rcases hx with rfl | rfl <;> rfl)
        case n3 => unfold maxLen; omega
        case n4 => omega
        case n5 => have := hB2.size; simp; omega
        intro v' w3 hown' hgrow _
        have hB5 := (hB2.alloc hB2.size _).grown hgrow (by have := hB2.size; simp; omega) (fun k hk => (hown.lt k hk).1)
        clear hgrow
        go_wp2
        go_roundw
        case rel => exact ⟨q + 1, by omega, by go_num, by rw [singles_take HQ.out]; simp only [single, Option.toList, flat_snoc]; simpa using hown', hB5⟩
        case measure => simp [numOf]; omega
      · have hs : single l = none := by
          match l, h1 with
          | [], _ => rfl
          | [_], h => simp at h
          | _ :: _ :: _, _ => rfl
        have HS : Hid _ := hs
        clear hs
        have hne : ((l.length : Int) == 1) = false := by simp; omega
        go_wp2
        go_roundw
        case rel => exact ⟨q + 1, by omega, by go_num, by rw [singles_take HQ.out, HS.out]; simpa using hown, hB2⟩
        case measure => simp [numOf]; omega
    · have : q = BS.length := by omega
      subst this
      rw [List.take_length] at hown
      have t3' := two_next HT3.out hB2
      obtain ⟨z1, z2⟩ := cell_two t3'
      have f1 := free_two t3' 0
      have f2 := free_two t3' 1
      go_wp2
      rw [List.take_length]
      refine bodyPost_ret (v := .tuple #[.slice vo (singles BS).length vc, .agg #[.int .i64 0, .int .i64 0]]) ?_ rfl ⟨_, rfl, ?_, ?_⟩
      · simp [results, Try.results11, go_sem, z1, z2]
      · have hlb := lt_of_block HT3.out
        refine ownsRow_mono (b' := w.heap.size) (ownsRow_setCell_below (ownsRow_setCell_below hown ?_ _) ?_ _) HB.out.size <;> simp <;> omega
      · exact ((below_next HB.out hB2).setCell (by simp) _).setCell (by simp) _
end Go.Proofs.Ytgepibidhebbiab
