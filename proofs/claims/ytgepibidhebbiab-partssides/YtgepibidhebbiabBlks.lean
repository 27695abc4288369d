/- Blocks of package parts. -/
import Derived.Test.YtgepibidhebbiabRinged
namespace Go.Proofs.Ytgepibidhebbiab
open Go.RowKit Go.Maps
attribute [local go_sem ↓] Go.wp_at_zero Go.wp_at_succ

theorem Try.info22 : (Try.prog.info? 22).map (fun i => (i.zero, i.size, i.bytes)) = some (some (.slice none 0 0), 1, 24) := by kernel_rfl

/-- A slice of slices of edges, all of its own. -/
def BlocksAt (w : World) (base : Nat) (v : Value) (bs : List (List Pair)) : Prop :=
  ∃ vs : List Value, vs.length = bs.length ∧ w.ownsRow base 22 1 v bs.length vs ∧ ∀ (i : Nat) (x : Value) (l : List Pair), vs[i]? = some x → bs[i]? = some l → w.ownsRow base 63 2 x l.length (flat l)
theorem blocksAt_nil (w : World) (base : Nat) : BlocksAt w base (.slice none 0 0) [] := ⟨[], rfl, World.ownsRow_nil _ _ _ _, fun i x l h => by simp at h⟩
theorem BlocksAt.form {w : World} {base : Nat} {v : Value} {bs : List (List Pair)} (h : BlocksAt w base v bs) : ∃ ao cap, v = .slice ao bs.length cap := by
  obtain ⟨vs, _, h2, _⟩ := h
  exact form_row h2
theorem BlocksAt.turns {M : Nat → Prop} {w w' : World} {base : Nat} {v : Value} {bs : List (List Pair)} (h : BlocksAt w base v bs) (ht : Turns M w w') (hm : ∀ k, M k → k < base ∨ w.heap.size ≤ k ∨ ∃ cur t, t ≠ 22 ∧ t ≠ 63 ∧ w.heap[k]? = some (.cells cur t (0, 0))) : BlocksAt w' base v bs := by
  obtain ⟨vs, h1, h2, h3⟩ := h
  have key : ∀ {t : TypeId} {sz : Nat} {x : Value} {n : Nat} {xs : List Value}, (t = 22 ∨ t = 63) → w.ownsRow base t sz x n xs → w'.ownsRow base t sz x n xs := by
    intro t sz x n xs ht' ho
    refine ownsRow_blocks ho fun b hb => ht.block b (ho.lt b hb).2 fun hmb => ?_
    rcases hm b hmb with h' | h' | ⟨cur, t', n1, n2, h'⟩
    · have := (ho.lt b hb).1; omega
    · have := (ho.lt b hb).2; omega
    · obtain ⟨cur', hc⟩ := own_cells ho hb
      rw [hc] at h'
      simp at h'
      rcases ht' with e | e
      · exact n1 (h'.2.symm.trans e)
      · exact n2 (h'.2.symm.trans e)
  exact ⟨vs, h1, key (Or.inl rfl) h2, fun i x l hx hl => key (Or.inr rfl) (h3 i x l hx hl)⟩
theorem BlocksAt.mono {w : World} {base base' : Nat} {v : Value} {bs : List (List Pair)} (h : BlocksAt w base v bs) (hb : base' ≤ base) : BlocksAt w base' v bs := by
  obtain ⟨vs, h1, h2, h3⟩ := h
  exact ⟨vs, h1, ownsRow_mono h2 hb, fun i x l hx hl => ownsRow_mono (h3 i x l hx hl) hb⟩
theorem blocksAt_push {w w1 : World} {base : Nat} {v v' : Value} {bs : List (List Pair)} {x : Value} {l : List Pair} {o : Obj} (hx : w.ownsRow base 63 2 x l.length (flat l)) {vs : List Value} (hvs : vs.length = bs.length) (hrow : w.ownsRow base 22 1 v bs.length vs)
    (hel : ∀ (i : Nat) (x : Value) (l : List Pair), vs[i]? = some x → bs[i]? = some l → w.ownsRow base 63 2 x l.length (flat l)) (hown : w1.ownsRow base 22 1 v' (bs.length + 1) (vs ++ [x])) (hg : (w.alloc o).grownBy w1 v.ownBlock) : BlocksAt w1 base v' (bs ++ [l]) := by
  have T := (alloc_turns w o (fun k => some k = v.ownBlock)).trans (Turns.of_grown hg)
  have key : ∀ {x : Value} {n : Nat} {xs : List Value}, w.ownsRow base 63 2 x n xs → w1.ownsRow base 63 2 x n xs := by
    intro x n xs ho
    refine ownsRow_blocks ho fun b hb => T.block b (ho.lt b hb).2 fun hmb => ?_
    obtain ⟨c1, h1⟩ := own_cells ho hb
    obtain ⟨c2, h2⟩ := own_cells hrow hmb.symm
    rw [h1] at h2; simp at h2
  refine ⟨vs ++ [x], by simp [hvs], by simpa using hown, fun i y m hy hm => ?_⟩
  by_cases hi : i < bs.length
  · rw [List.getElem?_append_left (by omega)] at hy hm
    exact key (hel i y m hy hm)
  · rw [List.getElem?_append_right (by omega)] at hy hm
    by_cases h0 : i - bs.length = 0
    · rw [hvs, h0] at hy; rw [h0] at hm
      simp at hy hm
      subst hy; subst hm
      exact key hx
    · rw [List.getElem?_eq_none (by simp; omega)] at hm; cases hm

def edgesL (fes : List Pair) (l : List Nat) : List Pair := l.map fun i => fes.getD i (0, 0)
def blocksS (fes : List Pair) (RK : Nat → Nat → Bool) : List (List Pair) := (piecesS fes.length allB RK).map (edgesL fes)

theorem formed_all (m : Nat) (p : Int → Int → Bool) : Formed m (allP m p) where
  nodup := allP_nodup m p
  ok := fun i e h => by
    obtain ⟨u, v, h1, h2, _, rfl⟩ := allP_mem.1 (List.mem_of_getElem? h)
    exact ⟨u, v, rfl, h1, h2⟩

theorem wide_form {n : Int} {v : Value} {es : List Pair} {w : World} (hE : EdgesAt w v es) {a : Ans} (h : formS n es = a) : Tells 44 #[.agg #[.int .i64 n, v]] w a := form_as hE h

set_option maxHeartbeats 400000 in
theorem blocks_bad (n : Int) (v : Value) (es : List Pair) (w : World) (hE : EdgesAt w v es) (hc : (chk n es).1 ≠ 0) :
    Calls Try.prog 22 #[.agg #[.int .i64 n, v]] w fun r w' => r = .returned (.tuple #[.slice none 0 0, .agg #[.int .i64 (chk n es).1, .int .i64 (chk n es).2]]) ∧ Below w.heap.size w w' := by
  have hc1 : ((chk n es).1 != 0) = true := by simpa using hc
  have hfs : formS n es = ⟨0, [], (chk n es).1, (chk n es).2⟩ := by unfold formS; rw [if_neg hc]
  go_enter Try.func22, Try.ntmps22
  go_wp2_with (go_at_call 44; refine (form_as (a := ⟨0, [], (chk n es).1, (chk n es).2⟩) ?_ hfs).mono ?_; exact hE.below (below2 _ _); rintro e w1 ⟨hb, lo, lc, rfl, hEl, hfr⟩; obtain ⟨bc, bf, bc1, bf1, bc2, bf2⟩ := bcell hb; have hz := hb.size; simp at hz)
  go_region
  go_wp2
  refine bodyPost_ret (v := .tuple #[.slice none 0 0, .agg #[.int .i64 (chk n es).1, .int .i64 (chk n es).2]]) ?_ rfl ⟨rfl, ?_⟩
  · simp [results, Try.results22, go_sem, bc2]
  · exact (((below_alloc (below_alloc (below_next (below2 _ _) hb) _) _).setCell (by simp) _).setCell (by simp) _).drew

theorem EdgesAt.marks {M : Nat → Prop} {w w' : World} {v : Value} {es : List Pair} (h : EdgesAt w v es) (ht : Turns M w w') (hm : ∀ k, M k → ∃ ms c, w.heap[k]? = some (.map ms c)) : EdgesAt w' v es := by
  obtain ⟨ao, cap, h1, h2, h3, h4⟩ := h
  refine ⟨ao, cap, h1, h2, h3, fun k hk => ?_⟩
  obtain ⟨b, off, e, c0, c1⟩ := h4 k hk
  have hn : ¬ M b := fun hb => by
    obtain ⟨ms, c, hc⟩ := hm b hb
    simp [World.cell?, hc] at c0
  exact ⟨b, off, e, cell_turns c0 ht hn, cell_turns c1 ht hn⟩
theorem edgesL_take (fes : List Pair) {l : List Nat} {t u : Nat} (h : l[t]? = some u) : edgesL fes (l.take (t + 1)) = edgesL fes (l.take t) ++ [fes.getD u (0, 0)] := by
  rw [take_at h]; simp [edgesL]
theorem edgesL_len (fes : List Pair) (l : List Nat) : (edgesL fes l).length = l.length := by simp [edgesL]
theorem ListsAt.below {w w' : World} {base : Nat} {v : Value} {ls : List (List Nat)} (h : ListsAt w base v ls) (hb : Below w.heap.size w w') : ListsAt w' base v ls := h.turns (Turns.of_below hb (fun _ => False)) (fun _ h => h.elim)
theorem BlocksAt.below {w w' : World} {base : Nat} {v : Value} {bs : List (List Pair)} (h : BlocksAt w base v bs) (hb : Below w.heap.size w w') : BlocksAt w' base v bs := h.turns (Turns.of_below hb (fun _ => False)) (fun _ h => h.elim)
theorem piece_lt {N : Nat} {L : Nat → Bool} {R : Nat → Nat → Bool} {q : Nat} {l : List Nat} (h : (piecesS N L R)[q]? = some l) : l.length ≤ N ∧ ∀ x, x ∈ l → x < N := by
  have h1 := List.mem_of_getElem? h
  simp only [piecesS, piecesTo, List.mem_map] at h1
  obtain ⟨r, _, rfl⟩ := h1
  refine ⟨Nat.le_trans (List.length_filter_le _ _) (by simp), fun x hx => ?_⟩
  simp [classL] at hx
  exact hx.1
theorem take_snoc_map {α β : Type} (f : α → β) {l : List α} {q : Nat} {x : α} (h : l[q]? = some x) : (l.take (q + 1)).map f = (l.take q).map f ++ [f x] := by
  obtain ⟨h1, h2⟩ := List.getElem?_eq_some_iff.1 h
  rw [List.take_succ_eq_append_getElem h1, h2]; simp

/-- Three boxes that are held while a region goes on. -/
theorem held3_mk {w wz : World} {b3 b4 : Nat} {x y : Value} (hb : Below w.heap.size w wz) (t3 : Two wz b3 (.int .i64 0) (.int .i64 0) 27) (t4 : Two wz b4 x y 24) : Below w.heap.size w wz ∧ Two wz b3 (.int .i64 0) (.int .i64 0) 27 ∧ Two wz b4 x y 24 ∧ wz.cell? ⟨b4, 0, none⟩ = some x ∧ wz.cell? ⟨b4, 1, none⟩ = some y :=
  ⟨hb, t3, t4, (cell_two t4).1, (cell_two t4).2⟩

set_option maxHeartbeats 4000000 in
theorem blocks_ok (m : Nat) (ao : Option Addr) (cap : Nat) (es : List Pair) (w : World) (hE : EdgesAt w (.slice ao es.length cap) es) (hc : (chk m es).1 = 0) (RK : Nat → Nat → Bool) (hRK : ∀ i j, RK i j = true ↔ Star (LkF m (allP m (hasB es))) i j) :
    Calls Try.prog 22 #[.agg #[.int .i64 (m : Int), .slice ao es.length cap]] w fun r w' => ∃ v', r = .returned (.tuple #[v', .agg #[.int .i64 0, .int .i64 0]]) ∧ BlocksAt w' w.heap.size v' (blocksS (allP m (hasB es)) RK) ∧ Below w.heap.size w w' := by
  obtain ⟨hck, hn0, hn1, hl, _⟩ := chk_good hc
  obtain ⟨i0, hi, hz0, hz1, hz2⟩ := info_parts Try.info63
  obtain ⟨iE, hiE, hy0, hy1, hy2⟩ := info_parts Try.info22
  have hm : m ≤ 100 := by omega
  have hfs := formS_good hc
  have hfl : (allP m (hasB es)).length ≤ 1000 := Nat.le_trans (allP_has_le m es) hl
  have hff := formed_all m (hasB es)
  obtain ⟨fes, hfes⟩ : ∃ fes, fes = allP m (hasB es) := ⟨_, rfl⟩
  rw [← hfes] at hfs hfl hff hRK ⊢
  have HE : Hid _ := hE
  have HRK : Hid _ := hRK
  have HFS : Hid _ := hfs
  have HFF : Hid _ := hff
  clear hE hRK hfs hff hfes hck hn0 hn1 hl hc
  go_enter Try.func22, Try.ntmps22
  go_upto_region 5 with (go_at_call 44; refine (form_as (a := ⟨m, fes, 0, 0⟩) ?_ HFS.out).mono ?_; exact EdgesAt.below HE.out (below2 _ _); rintro e w1 ⟨hb, lo, lc, rfl, hEl, hfr⟩; obtain ⟨bc, bf, bc1, bf1, bc2, bf2⟩ := bcell hb; have hz := hb.size; simp at hz)
  have t3 : Two ((w1.alloc (Obj.cells #[.int .i64 (m : Int), .slice lo fes.length lc] 24)).alloc (Obj.cells #[.int .i64 0, .int .i64 0] 27)) (w.heap.size + 1) (.int .i64 0) (.int .i64 0) 27 := two_alloc (two_alloc (two_next (two_new1 w _ _ _ _) hb) _) _
  have t4 : Two ((w1.alloc (Obj.cells #[.int .i64 (m : Int), .slice lo fes.length lc] 24)).alloc (Obj.cells #[.int .i64 0, .int .i64 0] 27)) w1.heap.size (.int .i64 (m : Int)) (.slice lo fes.length lc) 24 := two_alloc (two_new w1 _ _ _) _
  have hB := below_alloc (below_alloc (below_next (below2 (Obj.cells #[.int .i64 (m : Int), .slice ao es.length cap] 24) (Obj.cells #[.int .i64 0, .int .i64 0] 27)) hb) (Obj.cells #[.int .i64 (m : Int), .slice lo fes.length lc] 24)) (Obj.cells #[.int .i64 0, .int .i64 0] 27)
  have hEf := hEl.below (below2 (w := w1) (Obj.cells #[.int .i64 (m : Int), .slice lo fes.length lc] 24) (Obj.cells #[.int .i64 0, .int .i64 0] 27))
  have hw1 : w.heap.size + 1 < w1.heap.size := by omega
  generalize (w1.alloc (Obj.cells #[.int .i64 (m : Int), .slice lo fes.length lc] 24)).alloc (Obj.cells #[.int .i64 0, .int .i64 0] 27) = W at t3 t4 hB hEf ⊢
  clear bc bf bc1 bf1 bc2 bf2 hz hb hEl hfr HE
  have HEF : Hid _ := hEf
  clear hEf
  go_region_held3 (fun wz => Below w.heap.size w wz ∧ Two wz (w.heap.size + 1) (.int .i64 0) (.int .i64 0) 27 ∧ Two wz w1.heap.size (.int .i64 (m : Int)) (.slice lo fes.length lc) 24 ∧ wz.cell? ⟨w1.heap.size, 0, none⟩ = some (.int .i64 (m : Int)) ∧ wz.cell? ⟨w1.heap.size, 1, none⟩ = some (.slice lo fes.length lc))
    (first | assumption | exact held3_mk hB.drew t3 t4 | (go_split_ands; exact held3_mk hbk tk3 tk4))
    ((first
      | (go_at_call 45; refine (ringed_call m _ _ fes _ ?_ hm hfl HFF.out).mono ?_; exact EdgesAt.below HEF.out (Below.refl _ _).drew; rintro r wa ⟨la, bl2, lk, rfl, hN1, hlks, hest, hge, hbk0⟩; have hbk := below_next hB.drew hbk0; have tk3 := two_next (W := W.drew) t3 hbk0; have tk4 := two_next (W := W.drew) t4 hbk0; have hEa := EdgesAt.below (EdgesAt.below HEF.out (Below.refl _ _).drew) hbk0; have hA3 := lt_of_block tk3; have hA4 := lt_of_block tk4)
      | (go_at_call 38; refine (all_call fes.length _ (by omega)).mono ?_; rintro r wb ⟨bL, rfl, hbL, hS1, hbk0⟩; have hN2 := hN1.below hbk0; have hbA := hbk; replace hbk := below_next hbk hbk0; replace tk3 := two_next tk3 hbk0; replace tk4 := two_next tk4 hbk0; have hEb := EdgesAt.below hEa hbk0)
      | (go_at_call 36; obtain ⟨R, hR⟩ := ex2 (fun x y => Star (LkS fes lk) x y); refine (pieces_call hN2 (hS1.congr (T := allB) (fun _ _ => rfl)) (fun i hi e => by have := (hN1.sets i hi).lt; omega) (by omega) (fun a b _ _ h => hlks.sym a b h) R hR).mono ?_; rintro r wc ⟨vp, rfl, hls, htc⟩; obtain ⟨po, pc, rfl⟩ := hls.form; have hlt3 := lt_of_block tk3; have hlt4 := lt_of_block tk4; replace hbk := htc.below hbk hbk.size (fun k hk => by have := hbA.size; omega); have hlA := hbA.size; replace tk3 := two_turns tk3 htc (by omega); replace tk4 := two_turns tk4 htc (by omega); have hEc := hEb.marks htc (fun k hk => by subst hk; exact hS1.isMap))))
  have hRe : piecesS fes.length allB R = piecesS fes.length allB RK := piecesS_congr fun i j hi _ => by
    rw [Bool.eq_iff_iff, hR, HRK.out]
    exact links_blocks HFF.out hlks hest hi j
  rw [hRe] at hls ⊢
  obtain ⟨PL, hPL⟩ : ∃ PL, PL = piecesS fes.length allB RK := ⟨_, rfl⟩
  rw [← hPL] at hls ⊢
  have hle : PL.length ≤ fes.length := by rw [hPL]; exact piecesTo_le _ _ _ _
  have HP : Hid _ := hPL
  have HLS : Hid _ := hls
  have HEC : Hid _ := hEc
  have HB : Hid _ := hbk
  have HT3 : Hid _ := tk3
  have HT4 : Hid _ := tk4
  go_split_ands
  clear hRe hPL hls hEc hbk tk3 tk4 hR hlks hest hN1 hN2 hS1 htc hEb hEa hbA hge
  go_wp2
  go_loopw [6, 29] (fun bv i wr => ∃ q : Nat, q ≤ PL.length ∧ i = .int .i64 (q : Int) ∧ BlocksAt wr wc.heap.size bv ((PL.take q).map (edgesL fes)) ∧ Below wc.heap.size wc wr) (fun _ i _ => PL.length - (numOf i).toNat)
  case atStart => exact ⟨0, Nat.zero_le _, rfl, by simpa using blocksAt_nil _ _, Below.refl _ _⟩
  case round =>
    obtain ⟨q, hq, rfl, hbs, hB2⟩ := hrel
    obtain ⟨vo, vc, hbv⟩ := hbs.form
    rw [List.length_map, List.length_take, Nat.min_eq_left hq] at hbv
    subst hbv
    by_cases hqlt : q < PL.length
    · obtain ⟨l, hq?⟩ : ∃ l, PL[q]? = some l := ⟨PL[q], List.getElem?_eq_getElem hqlt⟩
      obtain ⟨g, xo, xc, rfl, cg, hrow⟩ := (ListsAt.below HLS.out hB2).at hq?
      obtain ⟨hll, hlm⟩ := piece_lt (N := fes.length) (by rw [← HP.out]; exact hq?)
      have HQ : Hid _ := hq?
      have HLM : Hid _ := hlm
      clear hq? hlm
      have i1 : (0 : Int) ≤ (q : Int) := by omega
      have i2 : (q : Int) < (PL.length : Int) := by omega
      go_wp2
      rename World => wq
      clear cg
      go_loopw [9, 35] (fun ev i wr => ∃ t : Nat, t ≤ l.length ∧ i = .int .i64 (t : Int) ∧ wr.ownsRow wq.heap.size 63 2 ev t (flat (edgesL fes (l.take t))) ∧ Below wq.heap.size wq wr) (fun _ i _ => l.length - (numOf i).toNat)
      case atStart => exact ⟨0, Nat.zero_le _, rfl, by simpa [edgesL, flat] using World.ownsRow_nil _ _ _ _, Below.refl _ _⟩
      case round =>
        obtain ⟨t, ht, rfl, hown, hB3⟩ := hrel
        obtain ⟨uo, uc, rfl⟩ := form_row hown
        by_cases htl : t < l.length
        · obtain ⟨u, hu?⟩ : ∃ u, l[t]? = some u := ⟨l[t], List.getElem?_eq_getElem htl⟩
          have hum := HLM.out u (List.mem_of_getElem? hu?)
          obtain ⟨gx, rfl, cu⟩ := qcell hrow hu?
          obtain ⟨eo', ec', ee, _, hEI, hcells⟩ := HEC.out
          cases ee
          obtain ⟨b, off, rfl, c0, c1⟩ := hcells u hum
          obtain ⟨x, y, hxy⟩ : ∃ x y, fes[u] = (x, y) := ⟨fes[u].1, fes[u].2, rfl⟩
          rw [hxy] at c0 c1
          have hB4 := below_next hB2 hB3
          have hb := World.block_lt_of_cell? wc _ c0
          rw [← hB4.cell (by exact hb)] at c0 c1
          have hbu := World.block_lt_of_cell? wq _ cu
          rw [← hB3.cell (by exact hbu)] at cu
          obtain ⟨z1, z2⟩ := cell_two (two_next (two_next HT4.out hB2) hB3)
          have hgd : fes.getD u (0, 0) = (x, y) := by rw [← hxy]; simp [List.getD, hum]
          have HGD : Hid _ := hgd
          have HU : Hid _ := hu?
          clear hgd hu? hxy hcells hEI hB4
          have j1 : (0 : Int) ≤ (t : Int) := by omega
          have j2 : (t : Int) < (l.length : Int) := by omega
          have k1 : (0 : Int) ≤ (u : Int) := by omega
          have k2 : (u : Int) < (fes.length : Int) := by omega
          go_wp2_with (first | (at_builtin; refine wpList_append_own _ rfl _ _ 22 rfl wq.heap.size 63 i0 (.agg #[.int .i64 0, .int .i64 0]) 2 16 Try.underlying22 hi hz0 hz1 hz2 rfl (by decide) _ _ _ rfl (hown.alloc _) ⟨wr.heap.size, 0, none⟩ 1 1 [.int .i64 x, .int .i64 y] rfl rfl ?c1 ?c2 ?c3 ?c4 ?c5 ?_) | go_in)
          case c2 => first | exact ⟨rfl, rfl⟩ | (intro x hx; simp at hx; rcases hx with rfl | rfl <;> rfl)
          case c3 => unfold maxLen; omega
          case c4 => omega
          case c5 => have := hB3.size; simp; omega
          intro v' w3 hown' hgrow _
          have hB5 := (hB3.alloc hB3.size _).grown hgrow (by have := hB3.size; simp; omega) (fun k hk => (hown.lt k hk).1)
          clear hgrow
          go_wp2
          go_roundw
          case rel => exact ⟨t + 1, by omega, by go_num, by rw [edgesL_take fes HU.out, HGD.out, flat_snoc]; exact hown', hB5⟩
          case measure => simp [numOf]; omega
        · have : t = l.length := by omega
          subst this
          rw [List.take_length] at hown
          have hbs3 := hbs.below hB3
          obtain ⟨vs, hvs, hrow2, hel⟩ := hbs3
          rw [List.length_map, List.length_take, Nat.min_eq_left hq] at hrow2
          go_wp2_with (first | (at_builtin; refine wpList_append_own _ rfl _ _ 49 rfl wc.heap.size 22 iE (.slice none 0 0) 1 24 Try.underlying49 hiE hy0 hy1 hy2 rfl (by decide) _ _ _ rfl (hrow2.alloc _) ⟨wr.heap.size, 0, none⟩ 1 1 [.slice uo l.length uc] rfl rfl ?d1 ?d2 ?d3 ?d4 ?d5 ?_) | go_in)
          case d1 => exact cell_one_new _ _ _
          case d2 => first | rfl | (intro y hy; simp at hy; subst hy; rfl)
          case d3 => unfold maxLen; omega
          case d4 => omega
          case d5 => have := hB3.size; have := hB2.size; simp; omega
          intro v' w3 hown' hgrow _
          have hlen : ((PL.take q).map (edgesL fes)).length = q := by rw [List.length_map, List.length_take, Nat.min_eq_left hq]
          have hx : wr.ownsRow wc.heap.size 63 2 (.slice uo l.length uc) (edgesL fes l).length (flat (edgesL fes l)) := by rw [edgesL_len]; exact ownsRow_mono hown hB2.size
          have hbs4 := blocksAt_push (bs := (PL.take q).map (edgesL fes)) hx hvs (by rw [hlen]; exact hrow2) hel (by rw [hlen]; exact hown') hgrow
          have hB5 := ((below_next hB2 hB3).alloc (below_next hB2 hB3).size _).grown hgrow (by have := (below_next hB2 hB3).size; simp; omega) (fun k hk => (hrow2.lt k hk).1)
          have HBS : Hid _ := hbs4
          clear hgrow hbs4 hown' hx hlen hvs hrow2 hel
          go_wp2
          go_roundw
          case rel => exact ⟨q + 1, by omega, by go_num, by rw [take_snoc_map _ HQ.out]; exact HBS.out, hB5⟩
          case measure => simp [numOf]; omega
    · have : q = PL.length := by omega
      subst this
      rw [List.take_length] at hbs
      have t3' := two_next HT3.out hB2
      obtain ⟨z1, z2⟩ := cell_two t3'
      have f1 := free_two t3' 0
      have f2 := free_two t3' 1
      go_wp2
      refine bodyPost_ret (v := .tuple #[.slice vo PL.length vc, .agg #[.int .i64 0, .int .i64 0]]) ?_ rfl ⟨_, rfl, ?_, ?_⟩
      · simp [results, Try.results22, go_sem, z1, z2]
      · have hlb := lt_of_block HT3.out
        unfold blocksS
        rw [← HP.out]
        exact ((hbs.turns (setCell_turns _ _ _ _) (fun k hk => Or.inl (by omega))).turns (setCell_turns _ _ _ _) (fun k hk => Or.inl (by omega))).mono HB.out.size
      · exact ((below_next HB.out hB2).setCell (by simp) _).setCell (by simp) _
end Go.Proofs.Ytgepibidhebbiab
