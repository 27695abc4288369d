/- open: of each node those that have an edge with it. -/
import Derived.BigRegion
import Derived.Test.YtkbgcbbloogdjacNbMath
import Derived.Test.YtkbgcbbloogdjacTake
import Derived.Deep.AppendLies
import Derived.Deep.CutRange
import Derived.Deep.RegionHeld3
import Derived.Deep.RegionLaw
namespace Go.Proofs.Ytkbgcbbloogdjac
open Go.RowKit Go.Maps
attribute [local go_sem ↓] Go.wp_at_zero Go.wp_at_succ

/-- Block g holds N rows of numbers, each of its own. -/
structure NearL (w : World) (base g N : Nat) (vs : Nat → Value) (ls : Nat → List Nat) : Prop where
  row : RowV w g 29 N vs
  own : ∀ i, i < N → w.ownsRow base 3 1 (vs i) (ls i).length (qv (ls i))
  sep : ∀ i j b, i < N → j < N → i ≠ j → (vs i).ownBlock = some b → (vs j).ownBlock ≠ some b

theorem NearL.ne {w : World} {base g N : Nat} {vs : Nat → Value} {ls : Nat → List Nat} (h : NearL w base g N vs ls) {i : Nat} (hi : i < N) : (vs i).ownBlock ≠ some g := fun hb => by
  obtain ⟨cur, h1⟩ := own_cells (h.own i hi) hb
  obtain ⟨cur', h2, _⟩ := h.row
  rw [h1] at h2
  simp at h2
theorem NearL.below {w w' : World} {base g N : Nat} {vs : Nat → Value} {ls : Nat → List Nat} (h : NearL w base g N vs ls) (hb : Below w.heap.size w w') : NearL w' base g N vs ls :=
  ⟨h.row.block (hb.block _ h.row.lt), fun i hi => ownsRow_blocks (h.own i hi) fun b hb' => hb.block b ((h.own i hi).lt b hb').2, h.sep⟩
theorem NearL.congr {w : World} {base g N : Nat} {vs : Nat → Value} {ls ls' : Nat → List Nat} (h : NearL w base g N vs ls) (he : ∀ i, i < N → ls i = ls' i) : NearL w base g N vs ls' :=
  ⟨h.row, fun i hi => by rw [← he i hi]; exact h.own i hi, h.sep⟩
/-- One number more in row i. -/
theorem NearL.put {w w1 : World} {base g N : Nat} {vs : Nat → Value} {ls : Nat → List Nat} {o : Obj} (h : NearL w base g N vs ls) {i x g1 c1 : Nat} (hi : i < N)
    (hown : w1.ownsRow base 3 1 (.slice (some ⟨g1, 0, none⟩) ((ls i).length + 1) c1) ((ls i).length + 1) (qv (ls i) ++ [.int .i64 (x : Int)])) (hg : (w.alloc o).grownBy w1 (vs i).ownBlock) (hat : (vs i).ownBlock = some g1 ∨ w.heap.size ≤ g1) :
    NearL (w1.setCell ⟨g, i, none⟩ (.slice (some ⟨g1, 0, none⟩) ((ls i).length + 1) c1)) base g N (fun j => if j = i then .slice (some ⟨g1, 0, none⟩) ((ls i).length + 1) c1 else vs j) (fun j => if j = i then ls i ++ [x] else ls j) := by
  have T := (alloc_turns w o (fun k => some k = (vs i).ownBlock)).trans (Turns.of_grown hg)
  have hrow1 := h.row.block (w' := w1) (T.block _ h.row.lt (fun hh => h.ne hi hh.symm))
  have hg1 : g1 ≠ g := fun e => by
    rcases hat with h1 | h1
    · rw [e] at h1; exact h.ne hi h1
    · have := h.row.lt; omega
  refine ⟨(hrow1.set i _).congr (fun j _ => rfl), fun j hj => ?_, fun a b k ha hb hab hk => ?_⟩
  · by_cases e : j = i
    · subst e
      simp only
      refine ownsRow_blocks (w := w1) ?_ (fun b hb => Below.heap_setCell _ _ _ _ (fun hh => ?_))
      · simpa [qv] using hown
      · have : b = g1 := by simpa [Value.ownBlock] using hb.symm
        exact hg1 (this ▸ hh)
    · simp only [if_neg e]
      refine ownsRow_blocks (h.own j hj) (fun b hb => ?_)
      rw [Below.heap_setCell _ _ _ _ (fun hh => by rw [show b = g from hh] at hb; exact h.ne hj hb)]
      exact T.block b ((h.own j hj).lt b hb).2 (fun hh => h.sep j i b hj hi e hb hh.symm)
  · by_cases e1 : a = i
    · subst e1
      simp only [if_neg (fun h => hab h.symm : ¬ b = a)] at hk ⊢
      have : k = g1 := by simpa [Value.ownBlock] using hk.symm
      subst this
      rcases hat with h1 | h1
      · exact h.sep a b k ha hb hab h1
      · intro hh
        have := ((h.own b hb).lt k hh).2
        omega
    · simp only [if_neg e1] at hk
      by_cases e2 : b = i
      · subst e2
        simp only
        intro hh
        have : k = g1 := by simpa [Value.ownBlock] using hh.symm
        subst this
        rcases hat with h1 | h1
        · exact h.sep a b k ha hb hab hk h1
        · have := ((h.own a ha).lt k hk).2
          omega
      · simp only [if_neg e2]
        exact h.sep a b k ha hb hab hk

theorem two_set {w : World} {b : Nat} {x y x' y' : Value} {t : TypeId} (h : Two w b x y t) : Two ((w.setCell ⟨b, 0, none⟩ x').setCell ⟨b, 1, none⟩ y') b x' y' t := by
  have hl := lt_of_block h
  have h' : w.heap[b]? = some (.cells #[x, y] t (0, 0)) := h
  show ((w.setCell ⟨b, 0, none⟩ x').setCell ⟨b, 1, none⟩ y').heap[b]? = _
  simp [World.setCell, Array.getElem?_modify, h']
theorem two_turns {M : Nat → Prop} {w w' : World} {b : Nat} {x y : Value} {t : TypeId} (h : Two w b x y t) (ht : Turns M w w') (hm : ¬ M b) : Two w' b x y t := (ht.block b (lt_of_block h) hm).trans h
theorem two_far {w : World} {b b' o : Nat} {x y u : Value} {t : TypeId} (h : Two w b x y t) (hne : b ≠ b') : Two (w.setCell ⟨b', o, none⟩ u) b x y t := (Below.heap_setCell _ _ _ _ hne).trans h
theorem two_new1 (w : World) (o : Obj) (x y : Value) (t : TypeId) : Two ((w.alloc o).alloc (Obj.cells #[x, y] t)) (w.heap.size + 1) x y t := by
  simpa [Two] using heap_alloc_new (w.alloc o) (Obj.cells #[x, y] t)
theorem Try.info29o : (Try.prog.info? 29).map (fun i => (i.zero, i.size, i.bytes)) = some (some (.slice none 0 0), 1, 24) := by kernel_rfl

theorem nbOf_len (es : List Pair) (i : Nat) : (nbOf es i).length ≤ es.length := by
  unfold nbOf
  induction es with
  | nil => simp
  | cons a l ih =>
    rw [List.flatMap_cons, List.length_append, List.length_cons]
    have : (nbF i a).length ≤ 1 := by
      unfold nbF
      split
      · simp
      · split <;> simp
    omega
theorem NearL.far {w : World} {base g N b o : Nat} {vs : Nat → Value} {ls : Nat → List Nat} {u : Value} (h : NearL w base g N vs ls) (h1 : b < base) (h2 : b ≠ g) : NearL (w.setCell ⟨b, o, none⟩ u) base g N vs ls :=
  ⟨h.row.block (Below.heap_setCell _ _ _ _ (fun e => h2 e.symm)), fun i hi => ownsRow_blocks (h.own i hi) (fun c hc => Below.heap_setCell _ _ _ _ (fun e => by have := ((h.own i hi).lt c hc).1; have e' : c = b := e; omega)), h.sep⟩
theorem NearL.mono {w : World} {base base' g N : Nat} {vs : Nat → Value} {ls : Nat → List Nat} (h : NearL w base g N vs ls) (hb : base' ≤ base) : NearL w base' g N vs ls := ⟨h.row, fun i hi => ownsRow_mono (h.own i hi) hb, h.sep⟩
theorem cell_grown {w w1 : World} {o : Obj} {row : Option Nat} {a : Addr} {v : Value} (hg : (w.alloc o).grownBy w1 row) (hc : w.cell? a = some v) (hne : row ≠ some a.block) : w1.cell? a = some v := by
  have hl := World.block_lt_of_cell? w _ hc
  rw [← hc]
  have : w1.heap[a.block]? = w.heap[a.block]? := (hg.block _ (by simp; omega) (fun h => hne h.symm)).trans (Below.heap_alloc _ _ _ hl)
  simp [World.cell?, this]

theorem row_grown {w w1 : World} {o : Obj} {row : Option Nat} {g n : Nat} {t : TypeId} {f : Nat → Value} (h : RowV w g t n f) (hg : (w.alloc o).grownBy w1 row) (hne : row ≠ some g) : RowV w1 g t n f :=
  h.block ((hg.block _ (by have := h.lt; simp; omega) (fun h => hne h.symm)).trans (Below.heap_alloc _ _ _ h.lt))

set_option maxRecDepth 20000 in
set_option maxHeartbeats 8000000 in
theorem open_ok (m : Nat) (ao : Option Addr) (cap : Nat) (es : List Pair) (nv : Value) (ns : List Int) (w : World) (hE : EdgesAt w (.slice ao es.length cap) es) (hI : IntsAt w nv ns) (hns : ∀ x ∈ ns, 0 ≤ x ∧ x < m) (hl : ns.length ≤ 10) (hc : (chk m es).1 = 0) :
    Calls Try.prog 28 #[.agg #[.int .i64 (m : Int), .slice ao es.length cap], nv] w fun r w' => ∃ g vs, r = .returned (.tuple #[.slice (some ⟨g, 0, none⟩) m m, .agg #[.int .i64 0, .int .i64 0]]) ∧ w.heap.size ≤ g ∧ NearL w' w.heap.size g m vs (fun i => (List.range m).filter fun (x : Nat) => hasB es i x) ∧ Below w.heap.size w w' := by
  obtain ⟨hck, hn0, hn1, hle, hgood⟩ := chk_good hc
  obtain ⟨i29, hi29, hz0, hz1, hz2⟩ := info_parts Try.info29o
  obtain ⟨i3, hi3, hy0, hy1, hy2⟩ := info_parts Try.info3
  have hm : m ≤ 100 := by omega
  have hfs := formS_good hc
  have hfl : (allP m (hasB es)).length ≤ 1000 := Nat.le_trans (allP_has_le m es) hle
  have hmem : ∀ (k : Nat) (e : Pair), (allP m (hasB es))[k]? = some e → ∃ x y : Nat, e = ((x : Int), (y : Int)) ∧ x < y ∧ y < m := fun k e h => by
    obtain ⟨u, v, h1, h2, _, h3⟩ := allP_mem.1 (List.mem_of_getElem? h)
    exact ⟨u, v, h3, h1, h2⟩
  have hnb : ∀ i, i < m → nbOf (allP m (hasB es)) i = (List.range m).filter fun (x : Nat) => hasB es i x := fun i hi => nbOf_all (fun u v => hasB_comm es u v) (fun u => by
    cases hh : hasB es u u
    · rfl
    · unfold hasB at hh
      obtain ⟨q, hq, hqq⟩ := List.any_eq_true.1 hh
      have := (hgood q hq).2
      simp at hqq
      omega) hi
  obtain ⟨fes, hfes⟩ : ∃ fes, fes = allP m (hasB es) := ⟨_, rfl⟩
  rw [← hfes] at hfs hfl hnb hmem
  obtain ⟨no, nc, rfl, hnl, hnI, hncells⟩ := hI
  have HE : Hid _ := hE
  have HFS : Hid _ := hfs
  have HM : Hid _ := hmem
  have HNB : Hid _ := hnb
  have HNS : Hid _ := hns
  have HNC : Hid _ := hncells
  clear hE hfs hmem hnb hns hncells hfes hck hn0 hn1 hle hc hgood hnI hnl
  go_enter Try.func28, Try.ntmps28
  go_upto_region 2 with (go_at_call 44; refine (form_as (a := ⟨m, fes, 0, 0⟩) ?_ HFS.out).mono ?_; exact EdgesAt.below HE.out (below2 _ _); rintro e w1 ⟨hb, lo, lc, rfl, hEl, hfr⟩; obtain ⟨bc, bf, bc1, bf1, bc2, bf2⟩ := bcell hb; have hz := hb.size; simp at hz)
  have t5 : Two ((w1.alloc (Obj.cells #[.int .i64 (m : Int), .slice lo fes.length lc] 24)).alloc (Obj.cells #[.int .i64 0, .int .i64 0] 27)) (w.heap.size + 1) (.int .i64 0) (.int .i64 0) 27 := two_alloc (two_alloc (two_next (two_new1 w _ _ _ _) hb) _) _
  have t6 : Two ((w1.alloc (Obj.cells #[.int .i64 (m : Int), .slice lo fes.length lc] 24)).alloc (Obj.cells #[.int .i64 0, .int .i64 0] 27)) w1.heap.size (.int .i64 (m : Int)) (.slice lo fes.length lc) 24 := two_alloc (two_new w1 _ _ _) _
  have t7 : Two ((w1.alloc (Obj.cells #[.int .i64 (m : Int), .slice lo fes.length lc] 24)).alloc (Obj.cells #[.int .i64 0, .int .i64 0] 27)) (w1.heap.size + 1) (.int .i64 0) (.int .i64 0) 27 := two_new1 w1 _ _ _ _
  have hB := below_alloc (below_alloc (below_next (below2 (w := w) (Obj.cells #[.int .i64 (m : Int), .slice ao es.length cap] 24) (Obj.cells #[.int .i64 0, .int .i64 0] 27)) hb) (Obj.cells #[.int .i64 (m : Int), .slice lo fes.length lc] 24)) (Obj.cells #[.int .i64 0, .int .i64 0] 27)
  have hEf := hEl.below (below2 (w := w1) (Obj.cells #[.int .i64 (m : Int), .slice lo fes.length lc] 24) (Obj.cells #[.int .i64 0, .int .i64 0] 27))
  have hw1 : w.heap.size + 1 < w1.heap.size := by omega
  clear bc bf bc1 bf1 bc2 bf2 hz hEl hfr
  generalize (w1.alloc (Obj.cells #[.int .i64 (m : Int), .slice lo fes.length lc] 24)).alloc (Obj.cells #[.int .i64 0, .int .i64 0] 27) = W at t5 t6 t7 hB hEf ⊢
  clear hb HE HFS
  generalize w1.heap.size = b6 at t6 t7 hw1 ⊢
  obtain ⟨y1, y2⟩ := cell_two t6
  obtain ⟨y3, y4⟩ := cell_two t7
  have HEF : Hid _ := hEf
  clear hEf
  go_wp2
  go_loopw [4, 24] (fun p i wr => ∃ k : Nat, p = .slice none 0 0 ∧ k ≤ ns.length ∧ i = .int .i64 (k : Int) ∧ wr = W) (fun _ i _ => ns.length - (numOf i).toNat)
  case atStart => exact ⟨0, rfl, Nat.zero_le _, rfl, rfl⟩
  case round =>
    obtain ⟨k, rfl, hk, rfl, rfl⟩ := hrel
    by_cases hkl : k < ns.length
    · obtain ⟨b, off, rfl, c1⟩ := HNC.out k hkl
      rw [← hB.cell (by exact World.block_lt_of_cell? w _ c1)] at c1
      obtain ⟨x0, x1⟩ := HNS.out _ (List.getElem_mem hkl)
      obtain ⟨x, hx⟩ : ∃ x, x = ns[k] := ⟨_, rfl⟩
      rw [← hx] at c1 x0 x1
      clear hx
      have i1 : (0 : Int) ≤ (k : Int) := by omega
      have i2 : (k : Int) < (ns.length : Int) := by omega
      have z1 : ¬ x < 0 := by omega
      have z2 : ¬ (m : Int) ≤ x := by omega
      go_wp2
      go_roundw
      case rel => exact ⟨k + 1, rfl, by omega, by go_num, trivial⟩
      case measure => simp [numOf]; omega
    · have hke : ns.length = k := by omega
      subst hke
      have hsW := hB.size
      have hl6 := lt_of_block t6
      go_upto_region 11 with (first
        | (at_make; refine wpList_make_full _ rfl _ _ 53 rfl wr.heap.size 29 i29 (.slice none 0 0) 1 Try.underlying53 hi29 hz0 hz1 .i64 .i64 _ _ m rfl rfl rfl rfl ?_ ?_ ?_ ?_; (rw [hz2]; omega); (unfold maxLen; omega); (omega); intro W1 hmade hg1)
        | go_in)
      have hrow0 := rowV_made rfl hmade
      have hbG := below_grown hg1
      obtain ⟨Wz, hWz⟩ : ∃ Wz, Wz = wr := ⟨_, rfl⟩
      rw [← hWz] at hrow0 hbG hB HEF t5 t6 hsW hl6 ⊢
      have hnl0 : NearL W1 Wz.heap.size Wz.heap.size m (fun _ => .slice none 0 0) (fun i => nbOf (fes.take 0) i) := ⟨hrow0, fun i hi => by simpa [nbOf, qv] using World.ownsRow_nil _ _ _ _, fun i j b _ _ _ h => by simp [Value.ownBlock] at h⟩
      clear hWz hmade hg1 hrow0 y1 y2 y3 y4 t7 HNC HNS
      obtain ⟨y1, y2⟩ := cell_two (two_next t6 hbG)
      go_wp2
      clear y1 y2
      go_loopw [46] (fun i wq => ∃ (k : Nat) (vs : Nat → Value), k ≤ fes.length ∧ i = .int .i64 (k : Int) ∧ NearL wq Wz.heap.size Wz.heap.size m vs (fun i => nbOf (fes.take k) i) ∧ Below Wz.heap.size Wz wq) (fun i _ => fes.length - (numOf i).toNat)
      case atStart => exact ⟨0, _, Nat.zero_le _, rfl, hnl0, hbG⟩
      case round =>
        obtain ⟨k, vs, hk, rfl, hnl, hBq⟩ := hrel
        clear hnl0 hbG
        by_cases hkl : k < fes.length
        · obtain ⟨yo, yc, ey, _, _, hcells⟩ := EdgesAt.below HEF.out hBq
          cases ey
          obtain ⟨b, off, rfl, c1, c2⟩ := hcells k hkl
          obtain ⟨x, y, hxy, hlt, hym⟩ := HM.out k _ (List.getElem?_eq_getElem hkl)
          rw [hxy] at c1 c2
          have hget : fes[k]? = some ((x : Int), (y : Int)) := by rw [List.getElem?_eq_getElem hkl, hxy]
          have HGT : Hid _ := hget
          clear hcells hxy hget
          have j1 : (0 : Int) ≤ (k : Int) := by omega
          have j2 : (k : Int) < (fes.length : Int) := by omega
          go_upto_region 14 with (fail)
          have t12 := two_new wr (.int .i64 (x : Int)) (.int .i64 (y : Int)) 59
          have hBx := below_alloc hBq (Obj.cells #[.int .i64 (x : Int), .int .i64 (y : Int)] 59)
          have hnlx := hnl.below (below_alloc (Below.refl _ wr) (Obj.cells #[.int .i64 (x : Int), .int .i64 (y : Int)] 59))
          have hsw : wr.heap.size < (wr.alloc (Obj.cells #[.int .i64 (x : Int), .int .i64 (y : Int)] 59)).heap.size := by simp
          have hrl : ∀ i b, i < m → (vs i).ownBlock = some b → b < wr.heap.size := fun i b hi hb => ((hnl.own i hi).lt b hb).2
          have hgl := hnl.row.lt
          clear c1 c2 hnl hBq
          generalize wr.heap.size = b12 at t12 hsw hrl hgl ⊢
          generalize wr.alloc (Obj.cells #[.int .i64 (x : Int), .int .i64 (y : Int)] 59) = wx at t12 hBx hnlx hsw ⊢
          obtain ⟨z1, z2⟩ := cell_two t12
          have hxm : x < m := by omega
          have i1 : (0 : Int) ≤ (x : Int) := by omega
          have i2 : (x : Int) < (m : Int) := by omega
          have i3' : (0 : Int) ≤ (y : Int) := by omega
          have i4 : (y : Int) < (m : Int) := by omega
          have hlen : ∀ i, (nbOf (fes.take k) i).length ≤ 1000 := fun i => Nat.le_trans (nbOf_len _ i) (by simp; omega)
          have HLN : Hid _ := hlen
          clear hlen
          go_cut [10] from 50 to 62 (fun s10 wc => s10 = .slice (some ⟨Wz.heap.size, 0, none⟩) m m ∧ (∃ vs', NearL wc Wz.heap.size Wz.heap.size m vs' (fun j => if j = x then nbOf (fes.take k) x ++ [y] else nbOf (fes.take k) j)) ∧ Two wc b12 (.int .i64 (x : Int)) (.int .i64 (y : Int)) 59 ∧ Below Wz.heap.size Wz wc)
          case first =>
            have hown2 := hnlx.own x hxm
            obtain ⟨ro, rc, hvx⟩ := form_row hown2
            have cx := hnlx.row.cell hxm
            rw [hvx] at cx
            have hox : (wx.drew).ownsRow Wz.heap.size 3 1 (.slice ro (nbOf (fes.take k) x).length rc) (nbOf (fes.take k) x).length (qv (nbOf (fes.take k) x)) := by
              rw [hvx] at hown2
              exact ownsRow_blocks hown2 (fun _ _ => rfl)
            have hne12 : (Value.slice ro (nbOf (fes.take k) x).length rc).ownBlock ≠ some b12 := fun h => by
              obtain ⟨cur, h1⟩ := own_cells hox h
              have h2 : wx.drew.heap[b12]? = _ := t12
              rw [h1] at h2
              simp at h2
            have hneg : (Value.slice ro (nbOf (fes.take k) x).length rc).ownBlock ≠ some Wz.heap.size := fun h => by
              rw [← hvx] at h
              exact hnlx.ne hxm h
            have hrx : RowV wx.drew Wz.heap.size 29 m vs := hnlx.row
            have hszx := hBx.size
            have hly := HLN.out x
            have hK : ∀ (w1 : World) (o : Obj), ((wx.drew).alloc o).grownBy w1 (Value.slice ro (nbOf (fes.take k) x).length rc).ownBlock → (w1.cell? ⟨b12, 0, none⟩ = some (.int .i64 (x : Int)) ∧ w1.cell? ⟨b12, 1, none⟩ = some (.int .i64 (y : Int)) ∧ w1.cell? ⟨Wz.heap.size, x, none⟩ = some (.slice ro (nbOf (fes.take k) x).length rc)) ∧ w1.frozen? ⟨Wz.heap.size, x, none⟩ = false := fun w1 o hg =>
              ⟨⟨cell_grown (w := wx.drew) hg z1 hne12, cell_grown (w := wx.drew) hg z2 hne12, cell_grown (w := wx.drew) hg cx hneg⟩, (row_grown hrx hg hneg).free x⟩
            have HK : Hid _ := hK
            have HNL : Hid _ := hnlx
            have HVX : Hid _ := hvx
            have HOX : Hid _ := hox
            have HT12 : Hid _ := t12
            have hbW : b12 ≠ Wz.heap.size := by omega
            clear hK hnlx hvx hrx hown2 t12
            have cxa := all_alloc cx
            have z1a := all_alloc z1
            have z2a := all_alloc z2
            go_region_law (refine step_append_lies _ (by rfl) _ _ _ (by rfl) Wz.heap.size 3 i3 _ 1 8 Try.underlying29 hi3 hy0 hy1 hy2 rfl (by omega) (.slice ro (nbOf (fes.take k) x).length rc) (nbOf (fes.take k) x).length (qv (nbOf (fes.take k) x)) (by rfl) (hox.alloc _) ⟨wx.heap.size, 0, none⟩ 1 1 [.int .i64 (y : Int)] (by rfl) rfl (cell_one_new _ _ _) (by intro u hu; simp at hu; subst hu; rfl) (by omega) (by unfold maxLen; omega) (by omega) (by simp; omega) (wx.heap.size + 1) (by simp) ?_; intro g1 c1 w1 hown1 hgr1 hat1 hlt1; obtain ⟨⟨hk0, hk1, hk2⟩, f1⟩ := HK.out _ _ hgr1; have HAT : Hid _ := hat1; have HGR : Hid _ := hgr1; have HO1 : Hid _ := hown1; clear hat1 hgr1 hown1)
            all_goals
              go_wp2_with fail
              go_meet
              case rel =>
                have hT := (alloc_turns wx.drew (Obj.cells #[.int .i64 (y : Int)] 3) _).trans (Turns.of_grown HGR.out)
                have hB1 := hT.below hBx.drew hszx (fun j hj => (World.ownsRow.lt HOX.out j hj.symm).1)
                have hnl3 := NearL.put (w := wx.drew) (w1 := w1) (o := Obj.cells #[.int .i64 (y : Int)] 3) (g1 := g1) (c1 := c1) (x := y) (NearL.below HNL.out (Below.refl _ wx).drew) hxm HO1.out (by rw [HVX.out]; exact HGR.out) (by rw [HVX.out]; exact HAT.out.imp id (fun h => by have h' : g1 = wx.heap.size + 1 := h; show wx.heap.size ≤ g1; omega))
                have ht := two_far (b' := Wz.heap.size) (o := x) (u := .slice (some ⟨g1, 0, none⟩) ((nbOf (fes.take k) x).length + 1) c1) (two_turns (w := wx.drew) HT12.out hT (fun h => hne12 h.symm)) hbW
                exact ⟨rfl, ⟨_, hnl3⟩, ht, hB1.setCell (Nat.le_refl _) _⟩
          case rest =>
            obtain ⟨rfl, ⟨vs2, hnl2⟩, t12c, hBc⟩ := hcut
            clear z1 z2 t12 hnlx hBx hrl hsw hgl
            obtain ⟨z1, z2⟩ := cell_two t12c
            go_upto_region 15 with (fail)
            have hlx2 : (if y = x then nbOf (fes.take k) x ++ [y] else nbOf (fes.take k) y) = nbOf (fes.take k) y := if_neg (by omega)
            have hown2 := hnl2.own y hym
            simp only [hlx2] at hown2
            obtain ⟨ro, rc, hvx⟩ := form_row hown2
            have cx := hnl2.row.cell hym
            rw [hvx] at cx
            have hox : (wc.drew).ownsRow Wz.heap.size 3 1 (.slice ro (nbOf (fes.take k) y).length rc) (nbOf (fes.take k) y).length (qv (nbOf (fes.take k) y)) := by
              rw [hvx] at hown2
              exact ownsRow_blocks hown2 (fun _ _ => rfl)
            have hne12 : (Value.slice ro (nbOf (fes.take k) y).length rc).ownBlock ≠ some b12 := fun h => by
              obtain ⟨cur, h1⟩ := own_cells hox h
              have h2 : wc.drew.heap[b12]? = _ := t12c
              rw [h1] at h2
              simp at h2
            have hneg : (Value.slice ro (nbOf (fes.take k) y).length rc).ownBlock ≠ some Wz.heap.size := fun h => by
              rw [← hvx] at h
              exact hnl2.ne hym h
            have hrx : RowV wc.drew Wz.heap.size 29 m vs2 := hnl2.row
            have hszx := hBc.size
            have hly := HLN.out y
            have hK : ∀ (w1 : World) (o : Obj), ((wc.drew).alloc o).grownBy w1 (Value.slice ro (nbOf (fes.take k) y).length rc).ownBlock → (w1.cell? ⟨b12, 0, none⟩ = some (.int .i64 (x : Int)) ∧ w1.cell? ⟨b12, 1, none⟩ = some (.int .i64 (y : Int)) ∧ w1.cell? ⟨Wz.heap.size, y, none⟩ = some (.slice ro (nbOf (fes.take k) y).length rc)) ∧ w1.frozen? ⟨Wz.heap.size, y, none⟩ = false := fun w1 o hg =>
              ⟨⟨cell_grown (w := wc.drew) hg z1 hne12, cell_grown (w := wc.drew) hg z2 hne12, cell_grown (w := wc.drew) hg cx hneg⟩, (row_grown hrx hg hneg).free y⟩
            have HK : Hid _ := hK
            have HNL : Hid _ := hnl2
            have HVX : Hid _ := hvx
            have HOX : Hid _ := hox
            have HL2 : Hid _ := hlx2
            clear hK hnl2 hvx hrx hown2 hlx2
            have cxa := all_alloc cx
            have z1a := all_alloc z1
            have z2a := all_alloc z2
            go_region_law (refine step_append_lies _ (by rfl) _ _ _ (by rfl) Wz.heap.size 3 i3 _ 1 8 Try.underlying29 hi3 hy0 hy1 hy2 rfl (by omega) (.slice ro (nbOf (fes.take k) y).length rc) (nbOf (fes.take k) y).length (qv (nbOf (fes.take k) y)) (by rfl) (hox.alloc _) ⟨wc.heap.size, 0, none⟩ 1 1 [.int .i64 (x : Int)] (by rfl) rfl (cell_one_new _ _ _) (by intro u hu; simp at hu; subst hu; rfl) (by omega) (by unfold maxLen; omega) (by omega) (by simp; omega) (wc.heap.size + 1) (by simp) ?_; intro g1 c1 w1 hown1 hgr1 hat1 hlt1; obtain ⟨⟨hk0, hk1, hk2⟩, f1⟩ := HK.out _ _ hgr1; have HAT : Hid _ := hat1; have HGR : Hid _ := hgr1; have HO1 : Hid _ := hown1; clear hat1 hgr1 hown1)
            all_goals
              go_wp2
              have hT := (alloc_turns wc.drew (Obj.cells #[.int .i64 (x : Int)] 3) _).trans (Turns.of_grown HGR.out)
              have hB1 := hT.below hBc.drew hszx (fun j hj => (World.ownsRow.lt HOX.out j hj.symm).1)
              have hnl3 := NearL.put (w := wc.drew) (w1 := w1) (o := Obj.cells #[.int .i64 (x : Int)] 3) (g1 := g1) (c1 := c1) (x := x) (NearL.below HNL.out (Below.refl _ wc).drew) hym (by simp only [HL2.out]; exact HO1.out) (by rw [HVX.out]; exact HGR.out) (by rw [HVX.out]; exact HAT.out.imp id (fun h => by have h' : g1 = wc.heap.size + 1 := h; show wc.heap.size ≤ g1; omega))
              simp only [HL2.out] at hnl3
              have hnl4 := hnl3.congr (ls' := fun i => nbOf (fes.take (k + 1)) i) (fun i _ => by
                have hxy' : ¬ y = x := by omega
                rw [nbOf_take HGT.out]
                by_cases e1 : i = y
                · subst e1
                  rw [if_pos rfl, if_neg (fun h => hxy' h.symm), if_pos rfl]
                · rw [if_neg e1]
                  by_cases e2 : i = x
                  · subst e2
                    rw [if_pos rfl, if_pos rfl]
                  · rw [if_neg e2, if_neg (fun h => e2 h.symm), if_neg (fun h => e1 h.symm), List.append_nil])
              go_roundw
              case rel => exact ⟨k + 1, _, by omega, by go_num, hnl4, hB1.setCell (Nat.le_refl _) _⟩
              case measure => simp [numOf]; omega
        · have hke : fes.length = k := by omega
          subst hke
          rw [List.take_length] at hnl
          have hnlE := hnl.congr (ls' := fun i => (List.range m).filter fun (x : Nat) => hasB es i x) (fun i hi => HNB.out i hi)
          have t5q := two_next t5 hBq
          obtain ⟨s1, s2⟩ := cell_two t5q
          have f1 := free_two t5q 0
          have f2 := free_two t5q 1
          clear hnl
          go_wp2
          refine bodyPost_ret (v := .tuple #[.slice (some ⟨Wz.heap.size, 0, none⟩) m m, .agg #[.int .i64 0, .int .i64 0]]) ?_ rfl ⟨Wz.heap.size, vs, rfl, hsW, ?_, ((below_next hB hBq).setCell (by simp) _).setCell (by simp) _⟩
          · simp [results, Try.results28, go_sem, s1, s2]
          · have hl5 := lt_of_block t5
            exact (hnlE.far (b := w.heap.size + 1) (by omega) (by omega)).far (b := w.heap.size + 1) (by omega) (by omega) |>.mono hsW
end Go.Proofs.Ytkbgcbbloogdjac
