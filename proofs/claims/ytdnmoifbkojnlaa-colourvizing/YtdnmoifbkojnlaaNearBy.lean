/- nearBy: of each node those that have an edge with it; and most: the greatest number of them. -/
import Derived.BigRegion
import Derived.Test.YtdnmoifbkojnlaaNbMath
import Derived.Test.YtdnmoifbkojnlaaDegr
import Derived.Test.YtdnmoifbkojnlaaNewDye
import Derived.Deep.AppendLies
import Derived.Deep.CutRange
import Derived.Deep.RegionHeld3
import Derived.Deep.RegionLaw
namespace Go.Proofs.Ytdnmoifbkojnlaa
open Go.RowKit Go.Maps
attribute [local go_sem ↓] Go.wp_at_zero Go.wp_at_succ

/-- Block g holds N rows of numbers, each of its own. -/
structure NearL (w : World) (base g N : Nat) (vs : Nat → Value) (ls : Nat → List Nat) : Prop where
  row : RowV w g 29 N vs
  own : ∀ i, i < N → w.ownsRow base 3 1 (vs i) (ls i).length (qv (ls i))
  sep : ∀ i j b, i < N → j < N → i ≠ j → (vs i).ownBlock = some b → (vs j).ownBlock ≠ some b

theorem NearL.ne {w : World} {base g N : Nat} {vs : Nat → Value} {ls : Nat → List Nat} (h : NearL w base g N vs ls) {i : Nat} (hi : i < N) : (vs i).ownBlock ≠ some g := fun hb => by
  obtain ⟨cur, h1⟩ := own_cells (h.own i hi) hb
  obtain ⟨cur', h2, _⟩ := h.row
  rw [h1] at h2
  simp at h2
theorem NearL.below {w w' : World} {base g N : Nat} {vs : Nat → Value} {ls : Nat → List Nat} (h : NearL w base g N vs ls) (hb : Below w.heap.size w w') : NearL w' base g N vs ls :=
  ⟨h.row.block (hb.block _ h.row.lt), fun i hi => ownsRow_blocks (h.own i hi) fun b hb' => hb.block b ((h.own i hi).lt b hb').2, h.sep⟩
theorem NearL.congr {w : World} {base g N : Nat} {vs : Nat → Value} {ls ls' : Nat → List Nat} (h : NearL w base g N vs ls) (he : ∀ i, i < N → ls i = ls' i) : NearL w base g N vs ls' :=
  ⟨h.row, fun i hi => by rw [← he i hi]; exact h.own i hi, h.sep⟩
/-- One number more in row i. -/
theorem NearL.put {w w1 : World} {base g N : Nat} {vs : Nat → Value} {ls : Nat → List Nat} {o : Obj} (h : NearL w base g N vs ls) {i x g1 c1 : Nat} (hi : i < N)
    (hown : w1.ownsRow base 3 1 (.slice (some ⟨g1, 0, none⟩) ((ls i).length + 1) c1) ((ls i).length + 1) (qv (ls i) ++ [.int .i64 (x : Int)])) (hg : (w.alloc o).grownBy w1 (vs i).ownBlock) (hat : (vs i).ownBlock = some g1 ∨ w.heap.size ≤ g1) :
    NearL (w1.setCell ⟨g, i, none⟩ (.slice (some ⟨g1, 0, none⟩) ((ls i).length + 1) c1)) base g N (fun j => if j = i then .slice (some ⟨g1, 0, none⟩) ((ls i).length + 1) c1 else vs j) (fun j => if j = i then ls i ++ [x] else ls j) := by
  have T := (alloc_turns w o (fun k => some k = (vs i).ownBlock)).trans (Turns.of_grown hg)
  have hrow1 := h.row.block (w' := w1) (T.block _ h.row.lt (fun hh => h.ne hi hh.symm))
  have hg1 : g1 ≠ g := fun e => by
    rcases hat with h1 | h1
    · rw [e] at h1; exact h.ne hi h1
    · have := h.row.lt; omega
  refine ⟨(hrow1.set i _).congr (fun j _ => rfl), fun j hj => ?_, fun a b k ha hb hab hk => ?_⟩
  · by_cases e : j = i
    · subst e
      simp only
      refine ownsRow_blocks (w := w1) ?_ (fun b hb => Below.heap_setCell _ _ _ _ (fun hh => ?_))
      · simpa [qv] using hown
      · have : b = g1 := by simpa [Value.ownBlock] using hb.symm
        exact hg1 (this ▸ hh)
    · simp only [if_neg e]
      refine ownsRow_blocks (h.own j hj) (fun b hb => ?_)
      rw [Below.heap_setCell _ _ _ _ (fun hh => by rw [show b = g from hh] at hb; exact h.ne hj hb)]
      exact T.block b ((h.own j hj).lt b hb).2 (fun hh => h.sep j i b hj hi e hb hh.symm)
  · by_cases e1 : a = i
    · subst e1
      simp only [if_neg (fun h => hab h.symm : ¬ b = a)] at hk ⊢
      have : k = g1 := by simpa [Value.ownBlock] using hk.symm
      subst this
      rcases hat with h1 | h1
      · exact h.sep a b k ha hb hab h1
      · intro hh
        have := ((h.own b hb).lt k hh).2
        omega
    · simp only [if_neg e1] at hk
      by_cases e2 : b = i
      · subst e2
        simp only
        intro hh
        have : k = g1 := by simpa [Value.ownBlock] using hh.symm
        subst this
        rcases hat with h1 | h1
        · exact h.sep a b k ha hb hab hk h1
        · have := ((h.own a ha).lt k hk).2
          omega
      · simp only [if_neg e2]
        exact h.sep a b k ha hb hab hk

theorem nbOf_len (es : List Pair) (i : Nat) : (nbOf es i).length ≤ es.length := by
  unfold nbOf
  induction es with
  | nil => simp
  | cons a l ih =>
    rw [List.flatMap_cons, List.length_append, List.length_cons]
    have : (nbF i a).length ≤ 1 := by
      unfold nbF
      split
      · simp
      · split <;> simp
    omega
theorem NearL.far {w : World} {base g N b o : Nat} {vs : Nat → Value} {ls : Nat → List Nat} {u : Value} (h : NearL w base g N vs ls) (h1 : b < base) (h2 : b ≠ g) : NearL (w.setCell ⟨b, o, none⟩ u) base g N vs ls :=
  ⟨h.row.block (Below.heap_setCell _ _ _ _ (fun e => h2 e.symm)), fun i hi => ownsRow_blocks (h.own i hi) (fun c hc => Below.heap_setCell _ _ _ _ (fun e => by have := ((h.own i hi).lt c hc).1; have e' : c = b := e; omega)), h.sep⟩
theorem NearL.mono {w : World} {base base' g N : Nat} {vs : Nat → Value} {ls : Nat → List Nat} (h : NearL w base g N vs ls) (hb : base' ≤ base) : NearL w base' g N vs ls := ⟨h.row, fun i hi => ownsRow_mono (h.own i hi) hb, h.sep⟩
set_option maxRecDepth 20000 in
set_option maxHeartbeats 8000000 in
theorem nearBy_call {w : World} {m : Nat} {lo : Option Addr} {lc : Nat} {fes : List Pair} (hE : EdgesAt w (.slice lo fes.length lc) fes) (hm : m ≤ 100) (hl : fes.length ≤ 1000) (hmem : ∀ (k : Nat) (e : Pair), fes[k]? = some e → ∃ x y : Nat, e = ((x : Int), (y : Int)) ∧ x < y ∧ y < m) :
    Calls Try.prog 37 #[.agg #[.int .i64 (m : Int), .slice lo fes.length lc]] w fun e w' => ∃ g vs, e = .returned (sl g m) ∧ w.heap.size ≤ g ∧ NearL w' w.heap.size g m vs (fun i => nbOf fes i) ∧ Below w.heap.size w w' := by
  obtain ⟨i3, hi3, hy0, hy1, hy2⟩ := info_parts Try.info3
  have hmk := make69 m (by omega)
  have HE : Hid (EdgesAt w (.slice lo fes.length lc) fes) := hE
  have HM : Hid (∀ (k : Nat) (e : Pair), fes[k]? = some e → ∃ x y : Nat, e = ((x : Int), (y : Int)) ∧ x < y ∧ y < m) := hmem
  clear hE hmem
  go_enter Try.func37, Try.ntmps37
  go_upto_region 1 with (fail)
  have t1 := two_new w (.int .i64 (m : Int)) (.slice lo fes.length lc) 24
  have hB0 := below_alloc (Below.refl _ w) (Obj.cells #[.int .i64 (m : Int), .slice lo fes.length lc] 24)
  obtain ⟨b1, hb1⟩ : ∃ b, b = w.heap.size := ⟨_, rfl⟩
  have HB1 : Hid (b1 = w.heap.size) := hb1
  rw [← hb1] at t1 ⊢
  generalize w.alloc (Obj.cells #[.int .i64 (m : Int), .slice lo fes.length lc] 24) = Wz at t1 hB0 ⊢
  obtain ⟨y1, y2⟩ := cell_two t1
  clear hb1
  go_upto_region 2 with (fail)
  have hrow0 : RowV (Wz.alloc (Obj.cells (rep m (.slice none 0 0)) 29)) Wz.heap.size 29 m (fun _ => .slice none 0 0) := rowV_rep (heap_alloc_new _ _)
  have hbG := below_alloc (Below.refl _ Wz) (Obj.cells (rep m (.slice none 0 0)) 29)
  generalize Wz.alloc (Obj.cells (rep m (.slice none 0 0)) 29) = W1 at hrow0 hbG ⊢
  have HEF : Hid (EdgesAt Wz (.slice lo fes.length lc) fes) := HE.out.below hB0
  have hnl0 : NearL W1 Wz.heap.size Wz.heap.size m (fun _ => .slice none 0 0) (fun i => nbOf (fes.take 0) i) := ⟨hrow0, fun i hi => by simpa [nbOf, qv] using World.ownsRow_nil _ _ _ _, fun i j b _ _ _ h => by simp [Value.ownBlock] at h⟩
  have HT1 : Hid (Two Wz b1 (.int .i64 (m : Int)) (.slice lo fes.length lc) 24) := t1
  clear hrow0 y1 y2 hmk t1 HE
  obtain ⟨y1, y2⟩ := cell_two (two_next HT1.out hbG)
  go_wp2
  clear y1 y2
  go_loopw [12] (fun i wq => ∃ (k : Nat) (vs : Nat → Value), k ≤ fes.length ∧ i = .int .i64 (k : Int) ∧ NearL wq Wz.heap.size Wz.heap.size m vs (fun i => nbOf (fes.take k) i) ∧ Below Wz.heap.size Wz wq) (fun i _ => fes.length - (numOf i).toNat)
  case atStart => exact ⟨0, _, Nat.zero_le _, rfl, hnl0, hbG⟩
  case round =>
    obtain ⟨k, vs, hk, rfl, hnl, hBq⟩ := hrel
    clear hnl0 hbG
    by_cases hkl : k < fes.length
    · obtain ⟨yo, yc, ey, _, _, hcells⟩ := EdgesAt.below HEF.out hBq
      cases ey
      obtain ⟨b, off, rfl, c1, c2⟩ := hcells k hkl
      obtain ⟨x, y, hxy, hlt, hym⟩ := HM.out k _ (List.getElem?_eq_getElem hkl)
      rw [hxy] at c1 c2
      have hget : fes[k]? = some ((x : Int), (y : Int)) := by rw [List.getElem?_eq_getElem hkl, hxy]
      have HGT : Hid _ := hget
      clear hcells hxy hget
      have j1 : (0 : Int) ≤ (k : Int) := by omega
      have j2 : (k : Int) < (fes.length : Int) := by omega
      go_upto_region 5 with (fail)
      have t12 := two_new wr (.int .i64 (x : Int)) (.int .i64 (y : Int)) 48
      have hBx := below_alloc hBq (Obj.cells #[.int .i64 (x : Int), .int .i64 (y : Int)] 48)
      have hnlx := hnl.below (below_alloc (Below.refl _ wr) (Obj.cells #[.int .i64 (x : Int), .int .i64 (y : Int)] 48))
      have hsw : wr.heap.size < (wr.alloc (Obj.cells #[.int .i64 (x : Int), .int .i64 (y : Int)] 48)).heap.size := by simp
      have hrl : ∀ i b, i < m → (vs i).ownBlock = some b → b < wr.heap.size := fun i b hi hb => ((hnl.own i hi).lt b hb).2
      have hgl := hnl.row.lt
      clear c1 c2 hnl hBq
      generalize wr.heap.size = b12 at t12 hsw hrl hgl ⊢
      generalize wr.alloc (Obj.cells #[.int .i64 (x : Int), .int .i64 (y : Int)] 48) = wx at t12 hBx hnlx hsw ⊢
      obtain ⟨z1, z2⟩ := cell_two t12
      have hxm : x < m := by omega
      have i1 : (0 : Int) ≤ (x : Int) := by omega
      have i2 : (x : Int) < (m : Int) := by omega
      have i3' : (0 : Int) ≤ (y : Int) := by omega
      have i4 : (y : Int) < (m : Int) := by omega
      have hlen : ∀ i, (nbOf (fes.take k) i).length ≤ 1000 := fun i => Nat.le_trans (nbOf_len _ i) (by simp; omega)
      have HLN : Hid _ := hlen
      clear hlen
      go_cut [3] from 16 to 28 (fun s3 wc => s3 = .slice (some ⟨Wz.heap.size, 0, none⟩) m m ∧ (∃ vs', NearL wc Wz.heap.size Wz.heap.size m vs' (fun j => if j = x then nbOf (fes.take k) x ++ [y] else nbOf (fes.take k) j)) ∧ Two wc b12 (.int .i64 (x : Int)) (.int .i64 (y : Int)) 48 ∧ Below Wz.heap.size Wz wc)
      case first =>
        have hown2 := hnlx.own x hxm
        obtain ⟨ro, rc, hvx⟩ := form_row hown2
        have cx := hnlx.row.cell hxm
        rw [hvx] at cx
        have hox : (wx.drew).ownsRow Wz.heap.size 3 1 (.slice ro (nbOf (fes.take k) x).length rc) (nbOf (fes.take k) x).length (qv (nbOf (fes.take k) x)) := by
          rw [hvx] at hown2
          exact ownsRow_blocks hown2 (fun _ _ => rfl)
        have hne12 : (Value.slice ro (nbOf (fes.take k) x).length rc).ownBlock ≠ some b12 := fun h => by
          obtain ⟨cur, h1⟩ := own_cells hox h
          have h2 : wx.drew.heap[b12]? = _ := t12
          rw [h1] at h2
          simp at h2
        have hneg : (Value.slice ro (nbOf (fes.take k) x).length rc).ownBlock ≠ some Wz.heap.size := fun h => by
          rw [← hvx] at h
          exact hnlx.ne hxm h
        have hrx : RowV wx.drew Wz.heap.size 29 m vs := hnlx.row
        have hszx := hBx.size
        have hly := HLN.out x
        have hK : ∀ (w1 : World) (o : Obj), ((wx.drew).alloc o).grownBy w1 (Value.slice ro (nbOf (fes.take k) x).length rc).ownBlock → (w1.cell? ⟨b12, 0, none⟩ = some (.int .i64 (x : Int)) ∧ w1.cell? ⟨b12, 1, none⟩ = some (.int .i64 (y : Int)) ∧ w1.cell? ⟨Wz.heap.size, x, none⟩ = some (.slice ro (nbOf (fes.take k) x).length rc)) ∧ w1.frozen? ⟨Wz.heap.size, x, none⟩ = false := fun w1 o hg =>
          ⟨⟨cell_grown (w := wx.drew) hg z1 hne12, cell_grown (w := wx.drew) hg z2 hne12, cell_grown (w := wx.drew) hg cx hneg⟩, (row_grown hrx hg hneg).free x⟩
        have HK : Hid _ := hK
        have HNL : Hid _ := hnlx
        have HVX : Hid _ := hvx
        have HOX : Hid _ := hox
        have HT12 : Hid _ := t12
        have hbW : b12 ≠ Wz.heap.size := by omega
        clear hK hnlx hvx hrx hown2 t12
        have cxa := all_alloc cx
        have z1a := all_alloc z1
        have z2a := all_alloc z2
        go_region_law (refine step_append_lies _ (by rfl) _ _ _ (by rfl) Wz.heap.size 3 i3 _ 1 8 Try.underlying29 hi3 hy0 hy1 hy2 rfl (by omega) (.slice ro (nbOf (fes.take k) x).length rc) (nbOf (fes.take k) x).length (qv (nbOf (fes.take k) x)) (by rfl) (hox.alloc _) ⟨wx.heap.size, 0, none⟩ 1 1 [.int .i64 (y : Int)] (by rfl) rfl (cell_one_new _ _ _) (by intro u hu; simp at hu; subst hu; rfl) (by omega) (by unfold maxLen; omega) (by omega) (by simp; omega) (wx.heap.size + 1) (by simp) ?_; intro g1 c1 w1 hown1 hgr1 hat1 hlt1; obtain ⟨⟨hk0, hk1, hk2⟩, f1⟩ := HK.out _ _ hgr1; have HAT : Hid _ := hat1; have HGR : Hid _ := hgr1; have HO1 : Hid _ := hown1; clear hat1 hgr1 hown1)
        all_goals
          go_wp2_with fail
          go_meet
          case rel =>
            have hT := (alloc_turns wx.drew (Obj.cells #[.int .i64 (y : Int)] 3) _).trans (Turns.of_grown HGR.out)
            have hB1 := hT.below hBx.drew hszx (fun j hj => (World.ownsRow.lt HOX.out j hj.symm).1)
            have hnl3 := NearL.put (w := wx.drew) (w1 := w1) (o := Obj.cells #[.int .i64 (y : Int)] 3) (g1 := g1) (c1 := c1) (x := y) (NearL.below HNL.out (Below.refl _ wx).drew) hxm HO1.out (by rw [HVX.out]; exact HGR.out) (by rw [HVX.out]; exact HAT.out.imp id (fun h => by have h' : g1 = wx.heap.size + 1 := h; show wx.heap.size ≤ g1; omega))
            have ht := two_far (b' := Wz.heap.size) (o := x) (u := .slice (some ⟨g1, 0, none⟩) ((nbOf (fes.take k) x).length + 1) c1) (two_turns (w := wx.drew) HT12.out hT (fun h => hne12 h.symm)) hbW
            exact ⟨rfl, ⟨_, hnl3⟩, ht, hB1.setCell (Nat.le_refl _) _⟩
      case rest =>
        obtain ⟨rfl, ⟨vs2, hnl2⟩, t12c, hBc⟩ := hcut
        clear z1 z2 t12 hnlx hBx hrl hsw hgl
        obtain ⟨z1, z2⟩ := cell_two t12c
        go_upto_region 6 with (fail)
        have hlx2 : (if y = x then nbOf (fes.take k) x ++ [y] else nbOf (fes.take k) y) = nbOf (fes.take k) y := if_neg (by omega)
        have hown2 := hnl2.own y hym
        simp only [hlx2] at hown2
        obtain ⟨ro, rc, hvx⟩ := form_row hown2
        have cx := hnl2.row.cell hym
        rw [hvx] at cx
        have hox : (wc.drew).ownsRow Wz.heap.size 3 1 (.slice ro (nbOf (fes.take k) y).length rc) (nbOf (fes.take k) y).length (qv (nbOf (fes.take k) y)) := by
          rw [hvx] at hown2
          exact ownsRow_blocks hown2 (fun _ _ => rfl)
        have hne12 : (Value.slice ro (nbOf (fes.take k) y).length rc).ownBlock ≠ some b12 := fun h => by
          obtain ⟨cur, h1⟩ := own_cells hox h
          have h2 : wc.drew.heap[b12]? = _ := t12c
          rw [h1] at h2
          simp at h2
        have hneg : (Value.slice ro (nbOf (fes.take k) y).length rc).ownBlock ≠ some Wz.heap.size := fun h => by
          rw [← hvx] at h
          exact hnl2.ne hym h
        have hrx : RowV wc.drew Wz.heap.size 29 m vs2 := hnl2.row
        have hszx := hBc.size
        have hly := HLN.out y
        have hK : ∀ (w1 : World) (o : Obj), ((wc.drew).alloc o).grownBy w1 (Value.slice ro (nbOf (fes.take k) y).length rc).ownBlock → (w1.cell? ⟨b12, 0, none⟩ = some (.int .i64 (x : Int)) ∧ w1.cell? ⟨b12, 1, none⟩ = some (.int .i64 (y : Int)) ∧ w1.cell? ⟨Wz.heap.size, y, none⟩ = some (.slice ro (nbOf (fes.take k) y).length rc)) ∧ w1.frozen? ⟨Wz.heap.size, y, none⟩ = false := fun w1 o hg =>
          ⟨⟨cell_grown (w := wc.drew) hg z1 hne12, cell_grown (w := wc.drew) hg z2 hne12, cell_grown (w := wc.drew) hg cx hneg⟩, (row_grown hrx hg hneg).free y⟩
        have HK : Hid _ := hK
        have HNL : Hid _ := hnl2
        have HVX : Hid _ := hvx
        have HOX : Hid _ := hox
        have HL2 : Hid _ := hlx2
        clear hK hnl2 hvx hrx hown2 hlx2
        have cxa := all_alloc cx
        have z1a := all_alloc z1
        have z2a := all_alloc z2
        go_region_law (refine step_append_lies _ (by rfl) _ _ _ (by rfl) Wz.heap.size 3 i3 _ 1 8 Try.underlying29 hi3 hy0 hy1 hy2 rfl (by omega) (.slice ro (nbOf (fes.take k) y).length rc) (nbOf (fes.take k) y).length (qv (nbOf (fes.take k) y)) (by rfl) (hox.alloc _) ⟨wc.heap.size, 0, none⟩ 1 1 [.int .i64 (x : Int)] (by rfl) rfl (cell_one_new _ _ _) (by intro u hu; simp at hu; subst hu; rfl) (by omega) (by unfold maxLen; omega) (by omega) (by simp; omega) (wc.heap.size + 1) (by simp) ?_; intro g1 c1 w1 hown1 hgr1 hat1 hlt1; obtain ⟨⟨hk0, hk1, hk2⟩, f1⟩ := HK.out _ _ hgr1; have HAT : Hid _ := hat1; have HGR : Hid _ := hgr1; have HO1 : Hid _ := hown1; clear hat1 hgr1 hown1)
        all_goals
          go_wp2
          have hT := (alloc_turns wc.drew (Obj.cells #[.int .i64 (x : Int)] 3) _).trans (Turns.of_grown HGR.out)
          have hB1 := hT.below hBc.drew hszx (fun j hj => (World.ownsRow.lt HOX.out j hj.symm).1)
          have hnl3 := NearL.put (w := wc.drew) (w1 := w1) (o := Obj.cells #[.int .i64 (x : Int)] 3) (g1 := g1) (c1 := c1) (x := x) (NearL.below HNL.out (Below.refl _ wc).drew) hym (by simp only [HL2.out]; exact HO1.out) (by rw [HVX.out]; exact HGR.out) (by rw [HVX.out]; exact HAT.out.imp id (fun h => by have h' : g1 = wc.heap.size + 1 := h; show wc.heap.size ≤ g1; omega))
          simp only [HL2.out] at hnl3
          have hnl4 := hnl3.congr (ls' := fun i => nbOf (fes.take (k + 1)) i) (fun i _ => by
            have hxy' : ¬ y = x := by omega
            rw [nbOf_take HGT.out]
            by_cases e1 : i = y
            · subst e1
              rw [if_pos rfl, if_neg (fun h => hxy' h.symm), if_pos rfl]
            · rw [if_neg e1]
              by_cases e2 : i = x
              · subst e2
                rw [if_pos rfl, if_pos rfl]
              · rw [if_neg e2, if_neg (fun h => e2 h.symm), if_neg (fun h => e1 h.symm), List.append_nil])
          go_roundw
          case rel => exact ⟨k + 1, _, by omega, by go_num, hnl4, hB1.setCell (Nat.le_refl _) _⟩
          case measure => simp [numOf]; omega
    · have hke : fes.length = k := by omega
      subst hke
      rw [List.take_length] at hnl
      have hfin : NearL wr w.heap.size Wz.heap.size m vs (fun i => nbOf fes i) := hnl.mono hB0.size
      have hB' := below_next hB0 hBq
      have hge := hB0.size
      clear hnl hBq
      go_wp2
      go_ret
      exact ⟨_, vs, rfl, hge, hfin, hB'⟩
end Go.Proofs.Ytdnmoifbkojnlaa
