/- pairUp: a greatest matching. -/
import Derived.BigRegion
import Derived.Test.YtenjkhgpfmfgmaaDoorNearMk
import Derived.Test.YtenjkhgpfmfgmaaDoorTurn
import Derived.Deep.RegionHeldLaw
namespace Go.Proofs.YtenjkhgpfmfgmaaDoor
open Go.RowKit Go.Maps
attribute [local go_sem ↓] Go.wp_at_zero Go.wp_at_succ
theorem Tryd.info29s : (Tryd.prog.info? 29).map (fun i => (i.zero, i.size, i.bytes)) = some (some (.slice none 0 0), 1, 24) := by kernel_rfl
theorem make65 (N : Nat) (hN : N ≤ 1000) (w : World) : (Instr.makeSlice 65 (.int .i64 (N : Int)) (.int .i64 (N : Int))).run Tryd.prog w = .ok (.slice (some ⟨w.heap.size, 0, none⟩) N N) (w.alloc (.cells (rep N (.slice none 0 0)) 29)) := by
  obtain ⟨i3, hi3, hy0, hy1, hy2⟩ := info_parts Tryd.info29s
  have hr := run_make (P := Tryd.prog) w 65 29 i3 (.slice none 0 0) Tryd.underlying65 hi3 hy0 .i64 .i64 N N (by omega) (Int.le_refl _) (by rw [hy2]; omega) (by omega)
  simpa [hy1, Value.cells] using hr

/-- The rows while they are made: rows of near in g, the mates in bm, the pairing in bp. -/
structure PU (w : World) (base bp g bm N : Nat) (vs : Nat → Value) (ls : Nat → List Nat) (mr : Nat → Value) : Prop where
  box : Box w bp #[sl g N, sl bm N, .slice none 0 0, .slice none 0 0, .slice none 0 0, .slice none 0 0] 80
  near : NearL w base g N vs ls
  mate : RowV w bm 3 N mr
  lt : bp < base ∧ g < base ∧ bm < base
  ne : bm ≠ bp ∧ g ≠ bp ∧ g ≠ bm

theorem three_at {w : World} {A o0 o1 o2 : Obj} {n : Nat} {o : Obj} (h : [o0, o1, o2][n]? = some o) : ((((w.alloc A).alloc o0).alloc o1).alloc o2).heap[w.heap.size + 1 + n]? = some o := by
  have s1 : (w.alloc A).heap.size = w.heap.size + 1 := by simp
  have s2 : ((w.alloc A).alloc o0).heap.size = w.heap.size + 1 + 1 := by simp
  have s3 : (((w.alloc A).alloc o0).alloc o1).heap.size = w.heap.size + 1 + 2 := by simp
  have h1 := heap_alloc_new (w.alloc A) o0
  have h2 := heap_alloc_new ((w.alloc A).alloc o0) o1
  have h3 := heap_alloc_new (((w.alloc A).alloc o0).alloc o1) o2
  rw [s1] at h1
  rw [s2] at h2
  rw [s3] at h3
  match n, h with
  | 0, h =>
    cases h
    rw [Nat.add_zero, Below.heap_alloc _ _ _ (by rw [s3]; omega), Below.heap_alloc _ _ _ (by rw [s2]; omega)]
    exact h1
  | 1, h =>
    cases h
    rw [Below.heap_alloc _ _ _ (by rw [s3]; omega)]
    exact h2
  | 2, h =>
    cases h
    exact h3
theorem leafU {w : World} {N : Nat} {o0 o1 o2 : Obj} {R3 R5 : Array Value} (np ng nm : Nat)
    (h5 : [o0, o1, o2][np]? = some (.cells #[sl (w.heap.size + 1 + ng) N, sl (w.heap.size + 1 + nm) N, .slice none 0 0, .slice none 0 0, .slice none 0 0, .slice none 0 0] 80))
    (hg : [o0, o1, o2][ng]? = some (.cells R5 29)) (hb : [o0, o1, o2][nm]? = some (.cells R3 3)) (hR3 : R3 = rep N (.int .i64 0)) (hR5 : R5 = rep N (.slice none 0 0))
    (hn : np ≠ ng ∧ np ≠ nm ∧ ng ≠ nm ∧ np < 3 ∧ ng < 3 ∧ nm < 3) {x y : Value} :
    ∃ bp g bm, Value.pointer (some ⟨w.heap.size + 1 + np, 0, none⟩) = .pointer (some ⟨bp, 0, none⟩) ∧ PU ((((w.alloc (.cells #[x, y] 24)).alloc o0).alloc o1).alloc o2).drew (w.heap.size + 4) bp g bm N (fun _ => .slice none 0 0) (fun _ => []) (fun _ => .int .i64 0) ∧ (w.heap.size < bp ∧ w.heap.size < g ∧ w.heap.size < bm) ∧ Two ((((w.alloc (.cells #[x, y] 24)).alloc o0).alloc o1).alloc o2).drew w.heap.size x y 24 ∧ Below w.heap.size w ((((w.alloc (.cells #[x, y] 24)).alloc o0).alloc o1).alloc o2).drew := by
  rw [hR3] at hb
  rw [hR5] at hg
  refine ⟨_, _, _, rfl, ⟨three_at (w := w) h5, ⟨rowV_rep (w := ((((w.alloc (.cells #[x, y] 24)).alloc o0).alloc o1).alloc o2).drew) (three_at (w := w) (A := .cells #[x, y] 24) hg), fun _ _ => World.ownsRow_nil _ _ _ _, fun i j b _ _ _ h => by simp [Value.ownBlock] at h⟩, rowV_rep (w := ((((w.alloc (.cells #[x, y] 24)).alloc o0).alloc o1).alloc o2).drew) (three_at (w := w) (A := .cells #[x, y] 24) hb), ⟨by omega, by omega, by omega⟩, ⟨by omega, by omega, by omega⟩⟩, ⟨by omega, by omega, by omega⟩, ?_, ?_⟩
  · exact two_alloc (two_alloc (two_alloc (two_new w _ _ _) _) _) _
  · exact Below.drew (below_alloc (below_alloc (below_alloc (below_alloc (Below.refl _ w) _) _) _) _)

theorem PU.turns {M : Nat → Prop} {w w' : World} {base bp g bm N : Nat} {vs : Nat → Value} {ls : Nat → List Nat} {mr : Nat → Value} (h : PU w base bp g bm N vs ls mr) (ht : Turns M w w') (hm : ∀ k, M k → k ≠ bp ∧ k ≠ g ∧ k ≠ bm ∧ k < base) : PU w' base bp g bm N vs ls mr :=
  ⟨box_turns h.box ht (fun hh => (hm _ hh).1 rfl), ⟨h.near.row.turns ht (fun hh => (hm _ hh).2.1 rfl), fun i hi => ownsRow_blocks (h.near.own i hi) (fun b hb => ht.block b ((h.near.own i hi).lt b hb).2 (fun hh => by have := (hm _ hh).2.2.2; have := ((h.near.own i hi).lt b hb).1; omega)), h.near.sep⟩, h.mate.turns ht (fun hh => (hm _ hh).2.2.1 rfl), h.lt, h.ne⟩
theorem PU.below {w w' : World} {base bp g bm N : Nat} {vs : Nat → Value} {ls : Nat → List Nat} {mr : Nat → Value} (h : PU w base bp g bm N vs ls mr) (hb : Below w.heap.size w w') : PU w' base bp g bm N vs ls mr :=
  h.turns (M := fun _ => False) (Turns.of_below hb _) (fun _ h => h.elim)
theorem PU.setMate {w : World} {base bp g bm N : Nat} {vs : Nat → Value} {ls : Nat → List Nat} {mr : Nat → Value} (h : PU w base bp g bm N vs ls mr) (y : Nat) (x : Value) : PU (w.setCell ⟨bm, y, none⟩ x) base bp g bm N vs ls (fun j => if j = y then x else mr j) := by
  have ht := setCell_turns w bm y x
  have hne := h.ne
  have hlt := h.lt
  exact ⟨box_turns h.box ht (fun hh => hne.1 hh.symm), ⟨h.near.row.turns ht (fun hh => hne.2.2 hh), fun i hi => ownsRow_blocks (h.near.own i hi) (fun b hb => ht.block b ((h.near.own i hi).lt b hb).2 (fun hh => by have := ((h.near.own i hi).lt b hb).1; omega)), h.near.sep⟩, h.mate.set y x, h.lt, h.ne⟩
theorem PU.congr {w : World} {base bp g bm N : Nat} {vs : Nat → Value} {ls ls' : Nat → List Nat} {mr mr' : Nat → Value} (h : PU w base bp g bm N vs ls mr) (h1 : ∀ i, i < N → ls i = ls' i) (h2 : ∀ i, i < N → mr i = mr' i) : PU w base bp g bm N vs ls' mr' :=
  ⟨h.box, h.near.congr h1, h.mate.congr h2, h.lt, h.ne⟩
/-- One number more in row i. -/
theorem PU.put {w w1 : World} {base bp gg bm N : Nat} {vs : Nat → Value} {ls : Nat → List Nat} {mr : Nat → Value} {o : Obj} (h : PU w base bp gg bm N vs ls mr) {i x g1 c1 : Nat} (hi : i < N)
    (hown : w1.ownsRow base 3 1 (.slice (some ⟨g1, 0, none⟩) ((ls i).length + 1) c1) ((ls i).length + 1) (qv (ls i) ++ [.int .i64 (x : Int)])) (hg : (w.alloc o).grownBy w1 (vs i).ownBlock) (hat : (vs i).ownBlock = some g1 ∨ w.heap.size ≤ g1) :
    PU (w1.setCell ⟨gg, i, none⟩ (.slice (some ⟨g1, 0, none⟩) ((ls i).length + 1) c1)) base bp gg bm N (fun j => if j = i then .slice (some ⟨g1, 0, none⟩) ((ls i).length + 1) c1 else vs j) (fun j => if j = i then ls i ++ [x] else ls j) mr := by
  have T := (alloc_turns w o (fun k => some k = (vs i).ownBlock)).trans (Turns.of_grown hg)
  have hk : ∀ k, some k = (vs i).ownBlock → base ≤ k := fun k e => ((h.near.own i hi).lt k e.symm).1
  have hne := h.ne
  have hlt := h.lt
  have T2 := setCell_turns w1 gg i (.slice (some ⟨g1, 0, none⟩) ((ls i).length + 1) c1)
  exact ⟨box_turns (box_turns h.box T (fun hh => by have := hk _ hh; omega)) T2 (fun hh => hne.2.1 hh.symm), h.near.put hi hown hg hat, (h.mate.turns T (fun hh => by have := hk _ hh; omega)).turns T2 (fun hh => hne.2.2 hh.symm), h.lt, h.ne⟩

/-- What comes of one root. -/
def NextM (N : Nat) (E : Nat → Nat → Prop) (r : Nat) (m m' : Nat → Option Nat) : Prop :=
  Mat N E m' ∧ (∀ x, x ≠ r → m' x = none → m x = none ∧ ∀ Ev Od k, Trap E m x Ev Od k → Trap E m' x Ev Od k) ∧ (m' r = none → ∃ Ev Od k, Trap E m' r Ev Od k)
theorem turn_any {w : World} {bp base g bm N : Nat} {ls : Nat → List Nat} {m : Nat → Option Nat} {be bf bb : Nat} {q : Value} {ev : Nat → Bool} {f : Nat → Option Nat} {bs : Nat → Nat} {Q : List Nat} {E : Nat → Nat → Prop} {r : Nat} {z : Option Nat} (h : PSt w bp base g bm N ls m be bf bb q ev f bs Q) (hM : Mat N E m) (hsy : ∀ a b, E a b → E b a) (hz : Found N E m r ev f bs Q z) :
    Calls Tryd.prog 40 #[.pointer (some ⟨bp, 0, none⟩), .int .i64 (farZ z)] w fun e w' => e = .returned (.tuple #[]) ∧ Turns (fun k => k = bm) w w' ∧ ∃ m', RowV w' bm 3 N (fun x => .int .i64 (farZ (m' x))) ∧ NextM N E r m m' := by
  cases z with
  | none =>
    obtain ⟨dep, D, hsk, hD⟩ := hz
    refine (turn_none _ w).mono ?_
    rintro e w' ⟨rfl, rfl⟩
    exact ⟨rfl, Turns.refl _ _, m, h.mate, hM, fun x _ hx => ⟨hx, fun _ _ _ ht => ht⟩, fun _ => ⟨_, _, _, (hsk.trap hM hsy hD).1⟩⟩
  | some u =>
    obtain ⟨v, l, ha⟩ := hz
    refine (turn_call h hM hsy ha).mono ?_
    rintro e w' ⟨rfl, hr, ht⟩
    obtain ⟨h1, h2, h3⟩ := turned_ok hsy ha.edge (by rw [cutM_self ha.ul]; exact hM) ha.fu ha.way ha.simple ha.tl ha.uo ha.ut (fun a _ e => by
      have := hM.sym _ _ e
      rw [ha.ul] at this; cases this)
    rw [cutM_self ha.ul] at h2
    refine ⟨rfl, ht, _, hr, h1, fun x hx hxn => ?_, fun hr => ?_⟩
    · obtain ⟨e1, e2, e3⟩ := (h2 x).1 hxn
      refine ⟨e1, fun Ev Od k ht => ?_⟩
      obtain ⟨_, hp⟩ := ht.past hM hsy ha
      obtain ⟨p1, p2, p3, p4, p5⟩ := hp (fun e => e2 e.symm)
      refine ht.congr (fun z hz => h3 z (fun e => ?_) (fun e => ?_) (fun hz' => ?_) (fun a hal he => ?_))
      · rw [e] at hz; exact hz.elim p1 p2
      · rw [e] at hz; exact hz.elim p3 p4
      · exact hz.elim (p5 z hz').1 (p5 z hz').2.1
      · exact hz.elim ((p5 a hal).2.2 z he).1 ((p5 a hal).2.2 z he).2
    · exact absurd rfl ((h2 r).1 hr).2.2

section
variable {w w' : World} {N : Nat}
set_option maxRecDepth 20000 in
set_option maxHeartbeats 8000000 in
theorem pairUp_call (ao : Option Addr) (cap : Nat) (es : List Pair) (w : World) (hE : EdgesAt w (.slice ao es.length cap) es) (hN : N ≤ 100) (hl : es.length ≤ 1000) (hg : ∀ e ∈ es, (0 ≤ e.1 ∧ e.1 < N ∧ 0 ≤ e.2 ∧ e.2 < N) ∧ e.1 ≠ e.2) :
    Calls Tryd.prog 27 #[.agg #[.int .i64 (N : Int), .slice ao es.length cap]] w fun e w' => ∃ bp, e = .returned (.pointer (some ⟨bp, 0, none⟩)) ∧ w.heap.size ≤ bp ∧ Below w.heap.size w w' ∧ ∃ g bm m, PB w' bp g bm N (nbOf es) m ∧ NearP w' bm w'.heap.size g N (nbOf es) ∧ Mat N (Ef N es) m ∧ ∀ r, r < N → m r = none → ∃ Ev Od k, Trap (Ef N es) m r Ev Od k := by
  have hm1 := make29 N (by omega)
  have hm2 := make65 N (by omega)
  obtain ⟨i3, hi3, hy0, hy1, hy2⟩ := info_parts Tryd.info3s
  obtain ⟨R3, hR3⟩ : ∃ R, R = rep N (.int .i64 0) := ⟨_, rfl⟩
  obtain ⟨R5, hR5⟩ : ∃ R, R = rep N (.slice none 0 0) := ⟨_, rfl⟩
  rw [← hR3] at hm1
  rw [← hR5] at hm2
  have HR3 : Hid _ := hR3
  have HR5 : Hid _ := hR5
  have HE : Hid _ := hE
  have HG : Hid _ := hg
  clear hR3 hR5 hE hg
  go_enter Tryd.func27, Tryd.ntmps27
  go_upto_region 1 with (fail)
  obtain ⟨y1, y2⟩ := cell_two (two_new w (.int .i64 (N : Int)) (.slice ao es.length cap) 24)
  have y1a := all_alloc y1
  have y1b := fun o o' => all_alloc (y1a o) o'
  go_cut [3] from 8 to 15 (fun s3 wc => ∃ bp g bm, s3 = .pointer (some ⟨bp, 0, none⟩) ∧ PU wc (w.heap.size + 4) bp g bm N (fun _ => .slice none 0 0) (fun _ => []) (fun _ => .int .i64 0) ∧ (w.heap.size < bp ∧ w.heap.size < g ∧ w.heap.size < bm) ∧ Two wc w.heap.size (.int .i64 (N : Int)) (.slice ao es.length cap) 24 ∧ Below w.heap.size w wc)
  case first =>
    go_region
    all_goals (go_wp2_with fail; go_meet)
    all_goals (first | (refine leafU (w := w) 2 0 1 ?_ ?_ ?_ HR3.out HR5.out (by decide) <;> rfl) | (refine leafU (w := w) 2 1 0 ?_ ?_ ?_ HR3.out HR5.out (by decide) <;> rfl))
  case rest =>
    obtain ⟨bp, g, bm, rfl, hpu, hfr, htw, hB⟩ := hcut
    clear HR3 HR5 y1 y2 y1a y1b hm1 hm2
    have c1 := box_cell hpu.box (i := 1) rfl
    have hlt := hpu.lt
    have hne := hpu.ne
    have HPU : Hid _ := hpu
    have HTW : Hid _ := htw
    clear hpu htw
    go_wp2
    clear c1
    go_loopw [4, 21] (fun _ i wr => ∃ k : Nat, k ≤ N ∧ i = .int .i64 (k : Int) ∧ PU wr (w.heap.size + 4) bp g bm N (fun _ => .slice none 0 0) (fun _ => []) (fun x => if x < k then .int .i64 (-1) else .int .i64 0) ∧ Two wr w.heap.size (.int .i64 (N : Int)) (.slice ao es.length cap) 24 ∧ Below w.heap.size w wr) (fun _ i _ => N - (numOf i).toNat)
    case atStart => exact ⟨0, Nat.zero_le _, rfl, HPU.out.congr (fun _ _ => rfl) (fun j _ => by simp), HTW.out, hB⟩
    case round =>
      obtain ⟨k, hk, rfl, hpu, htw, hB2⟩ := hrel
      clear HPU HTW hB
      by_cases hkN : k < N
      · have c1 := box_cell hpu.box (i := 1) rfl
        have ck := hpu.mate.cell hkN
        have fk := hpu.mate.free k
        have i1 : (0 : Int) ≤ (k : Int) := by omega
        have i2 : (k : Int) < (N : Int) := by omega
        have hp2 := (hpu.setMate k (.int .i64 (-1))).congr (ls' := fun _ => []) (mr' := fun x => if x < k + 1 then .int .i64 (-1) else .int .i64 0) (fun _ _ => rfl) (fun j _ => by
          by_cases e : j = k
          · simp [e]
          · by_cases e1 : j < k
            · simp [e, e1, show j < k + 1 by omega]
            · simp [e, e1, show ¬ j < k + 1 by omega])
        have htw2 : Two (wr.setCell ⟨bm, k, none⟩ (.int .i64 (-1))) w.heap.size (.int .i64 (N : Int)) (.slice ao es.length cap) 24 := two_far htw (by omega)
        have hB3 := hB2.setCell (p := ⟨bm, k, none⟩) (by show w.heap.size ≤ bm; omega) (.int .i64 (-1))
        have HPU : Hid _ := hp2
        have HTW : Hid _ := htw2
        clear hpu hp2 htw htw2
        go_wp2
        go_roundw
        case rel => exact ⟨k + 1, by omega, by go_num, HPU.out, HTW.out, hB3⟩
        case measure => simp [numOf]; omega
      · have hke : N = k := by omega
        subst hke
        obtain ⟨t1, t2⟩ := cell_two htw
        have hp0 : PU wr (w.heap.size + 4) bp g bm N (fun _ => .slice none 0 0) (fun i => nbOf (es.take 0) i) (fun _ => .int .i64 (-1)) := hpu.congr (fun _ _ => by simp [nbOf]) (fun j hj => by simp [hj])
        have HPU : Hid _ := hp0
        clear hpu hp0 htw
        go_wp2
        clear t1 t2
        go_loopw [34] (fun i wq => ∃ (k : Nat) (vs : Nat → Value), k ≤ es.length ∧ i = .int .i64 (k : Int) ∧ PU wq (w.heap.size + 4) bp g bm N vs (fun i => nbOf (es.take k) i) (fun _ => .int .i64 (-1)) ∧ Below w.heap.size w wq) (fun i _ => es.length - (numOf i).toNat)
        case atStart => exact ⟨0, _, Nat.zero_le _, rfl, HPU.out, hB2⟩
        case round =>
          obtain ⟨k, vs, hk, rfl, hpu, hBq⟩ := hrel
          clear HPU hB2
          by_cases hkl : k < es.length
          · obtain ⟨yo, yc, ey, _, _, hcells⟩ := EdgesAt.below HE.out hBq
            cases ey
            obtain ⟨b, off, rfl, c1, c2⟩ := hcells k hkl
            obtain ⟨hgd, hxny⟩ := HG.out _ (List.getElem_mem hkl)
            obtain ⟨x, y, hxy⟩ : ∃ x y : Nat, es[k] = ((x : Int), (y : Int)) := ⟨es[k].1.toNat, es[k].2.toNat, by
              have h1 := hgd.1
              have h2 := hgd.2.2.1
              rw [Int.toNat_of_nonneg h1, Int.toNat_of_nonneg h2]⟩
            rw [hxy] at c1 c2 hgd hxny
            have hget : es[k]? = some ((x : Int), (y : Int)) := by rw [List.getElem?_eq_getElem hkl, hxy]
            have HGT : Hid _ := hget
            have xN : x < N := by have := hgd.2.1; simp at this; omega
            have yN : y < N := by have := hgd.2.2.2; simp at this; omega
            have hxy1 : x ≠ y := by simp at hxny; omega
            clear hcells hxy hget hgd hxny
            have j1 : (0 : Int) ≤ (k : Int) := by omega
            have j2 : (k : Int) < (es.length : Int) := by omega
            go_upto_region 10 with (fail)
            have t12 := two_new wr (.int .i64 (x : Int)) (.int .i64 (y : Int)) 50
            have hBx := below_alloc hBq (Obj.cells #[.int .i64 (x : Int), .int .i64 (y : Int)] 50)
            have hnlx := hpu.below (below_alloc (Below.refl _ wr) (Obj.cells #[.int .i64 (x : Int), .int .i64 (y : Int)] 50))
            have hb12 : w.heap.size + 4 ≤ wr.heap.size := by have := hpu.near.row.lt; have := lt_of_block hpu.box; have := hpu.mate.lt; omega
            clear c1 c2 hpu hBq
            generalize wr.heap.size = b12 at t12 hb12 ⊢
            generalize wr.alloc (Obj.cells #[.int .i64 (x : Int), .int .i64 (y : Int)] 50) = wx at t12 hBx hnlx ⊢
            obtain ⟨z1, z2⟩ := cell_two t12
            have i1 : (0 : Int) ≤ (x : Int) := by omega
            have i2 : (x : Int) < (N : Int) := by omega
            have i3' : (0 : Int) ≤ (y : Int) := by omega
            have i4 : (y : Int) < (N : Int) := by omega
            have hlen : ∀ i, (nbOf (es.take k) i).length ≤ 1000 := fun i => Nat.le_trans (nbOf_len _ i) (by simp; omega)
            have HLN : Hid _ := hlen
            clear hlen
            go_cut [] from 38 to 56 (fun wc => (∃ vs', PU wc (w.heap.size + 4) bp g bm N vs' (fun j => if j = x then nbOf (es.take k) x ++ [y] else nbOf (es.take k) j) (fun _ => .int .i64 (-1))) ∧ Two wc b12 (.int .i64 (x : Int)) (.int .i64 (y : Int)) 50 ∧ Below w.heap.size w wc)
            case first =>
              have hown2 := hnlx.near.own x xN
              skip
              obtain ⟨ro, rc, hvx⟩ := form_row hown2
              have cx := hnlx.near.row.cell xN
              rw [hvx] at cx
              have hox : (wx.drew).ownsRow (w.heap.size + 4) 3 1 (.slice ro (nbOf (es.take k) x).length rc) (nbOf (es.take k) x).length (qv (nbOf (es.take k) x)) := by
                rw [hvx] at hown2
                exact ownsRow_blocks hown2 (fun _ _ => rfl)
              have hne12 : (Value.slice ro (nbOf (es.take k) x).length rc).ownBlock ≠ some b12 := fun h => by
                obtain ⟨cur, h1⟩ := own_cells hox h
                have h2 : wx.drew.heap[b12]? = _ := t12
                rw [h1] at h2
                simp at h2
              have hneg : (Value.slice ro (nbOf (es.take k) x).length rc).ownBlock ≠ some g := fun h => by have := (World.ownsRow.lt hox g h).1; omega
              have hnep : (Value.slice ro (nbOf (es.take k) x).length rc).ownBlock ≠ some bp := fun h => by have := (World.ownsRow.lt hox bp h).1; omega
              have hrx : RowV wx.drew g 29 N vs := hnlx.near.row
              have cb0 := box_cell hnlx.box (i := 0) rfl
              have hszx : w.heap.size + 4 ≤ wx.heap.size := by have := hnlx.near.row.lt; have := lt_of_block hnlx.box; have := hnlx.mate.lt; omega
              have hly := HLN.out x
              have hK : ∀ (w1 : World) (o : Obj), ((wx.drew).alloc o).grownBy w1 (Value.slice ro (nbOf (es.take k) x).length rc).ownBlock → (w1.cell? ⟨b12, 0, none⟩ = some (.int .i64 (x : Int)) ∧ w1.cell? ⟨b12, 1, none⟩ = some (.int .i64 (y : Int)) ∧ w1.cell? ⟨g, x, none⟩ = some (.slice ro (nbOf (es.take k) x).length rc) ∧ w1.cell? ⟨bp, 0, none⟩ = some (sl g N)) ∧ w1.frozen? ⟨g, x, none⟩ = false := fun w1 o hg =>
                ⟨⟨cell_grown (w := wx.drew) hg z1 hne12, cell_grown (w := wx.drew) hg z2 hne12, cell_grown (w := wx.drew) hg cx hneg, cell_grown (w := wx.drew) hg cb0 hnep⟩, (row_grown hrx hg hneg).free x⟩
              have HK : Hid _ := hK
              have HNL : Hid _ := hnlx
              have HVX : Hid _ := hvx
              have HOX : Hid _ := hox
              have HT12 : Hid _ := t12
              clear hK hvx hrx hown2 hnlx
              have cxa := all_alloc cx
              have z1a := all_alloc z1
              have z2a := all_alloc z2
              have cb0a := all_alloc cb0
              refine wp_region_held_drew (S := fun w' => w'.cell? ⟨bp, 0, none⟩ = some (sl g N) ∧ w'.cell? ⟨b12, 0, none⟩ = some (.int .i64 (x : Int)) ∧ w'.cell? ⟨b12, 1, none⟩ = some (.int .i64 (y : Int))) (by kernel_rfl) ⟨cb0, z1, z2⟩ (fun hHeld => ?_)
              refine wpAnyH_take (i := 0) (v := ?tv1) rfl (by kernel_rfl) (by kernel_rfl) (by kernel_rfl) (fun _ _ _ h => h) (Or.inl ⟨by rfl, ?ty1⟩) hHeld ?_
              case ty1 => (intro w hSw; (try dsimp only at hSw); go_simp; try with_reducible rfl)
              try simp only [Act.put]
              try simp only [List.setIfInBounds_toArray]
              try simp only [List.set_cons_succ]
              try simp only [List.set_cons_zero]
              refine wpAnyH_take (i := 1) (v := ?tv2) rfl (by kernel_rfl) (by kernel_rfl) (by kernel_rfl) (fun _ _ _ h => h) (Or.inl ⟨by rfl, ?ty2⟩) hHeld ?_
              case ty2 => (intro w hSw; (try dsimp only at hSw); go_simp; try with_reducible rfl)
              try simp only [Act.put]
              try simp only [List.setIfInBounds_toArray]
              try simp only [List.set_cons_succ]
              try simp only [List.set_cons_zero]
              refine wpAnyH_take (i := 2) (v := ?tv3) rfl (by kernel_rfl) (by kernel_rfl) (by kernel_rfl) (fun _ _ _ h => h) (Or.inl ⟨by rfl, ?ty3⟩) hHeld ?_
              case ty3 => (intro w hSw; (try dsimp only at hSw); go_simp; try with_reducible rfl)
              try simp only [Act.put]
              try simp only [List.setIfInBounds_toArray]
              try simp only [List.set_cons_succ]
              try simp only [List.set_cons_zero]
              refine wpAnyH_take (i := 3) (v := ?tv4) rfl (by kernel_rfl) (by kernel_rfl) (by kernel_rfl) (fun _ _ _ h => h) (Or.inl ⟨by rfl, ?ty4⟩) hHeld ?_
              case ty4 => (intro w hSw; (try dsimp only at hSw); go_simp; try with_reducible rfl)
              try simp only [Act.put]
              try simp only [List.setIfInBounds_toArray]
              try simp only [List.set_cons_succ]
              try simp only [List.set_cons_zero]
              refine wpAnyH_take (i := 4) (v := ?tv5) rfl (by kernel_rfl) (by kernel_rfl) (by kernel_rfl) (fun _ _ _ h => h) (Or.inl ⟨by rfl, ?ty5⟩) hHeld ?_
              case ty5 => (intro w hSw; (try dsimp only at hSw); go_simp; try with_reducible rfl)
              try simp only [Act.put]
              try simp only [List.setIfInBounds_toArray]
              try simp only [List.set_cons_succ]
              try simp only [List.set_cons_zero]
              refine wpAnyH_take (i := 5) (v := ?tv6) rfl (by kernel_rfl) (by kernel_rfl) (by kernel_rfl) (fun _ _ _ h => h) (Or.inl ⟨by rfl, ?ty6⟩) hHeld ?_
              case ty6 => (intro w hSw; (try dsimp only at hSw); go_simp; try with_reducible rfl)
              try simp only [Act.put]
              try simp only [List.setIfInBounds_toArray]
              try simp only [List.set_cons_succ]
              try simp only [List.set_cons_zero]
              refine wpAnyH_take (i := 6) (v := ?tv7) rfl (by kernel_rfl) (by kernel_rfl) (by kernel_rfl) (fun _ _ _ h => h) (Or.inl ⟨by rfl, ?ty7⟩) hHeld ?_
              case ty7 => (intro w hSw; (try dsimp only at hSw); go_simp; try with_reducible rfl)
              try simp only [Act.put]
              try simp only [List.setIfInBounds_toArray]
              try simp only [List.set_cons_succ]
              try simp only [List.set_cons_zero]
              refine wpAnyH_take (i := 7) (v := ?tv8) rfl (by kernel_rfl) (by kernel_rfl) (by kernel_rfl) (fun _ _ _ h => h) (Or.inl ⟨by rfl, ?ty8⟩) hHeld ?_
              case ty8 => (intro w hSw; (try dsimp only at hSw); go_simp; try with_reducible rfl)
              try simp only [Act.put]
              try simp only [List.setIfInBounds_toArray]
              try simp only [List.set_cons_succ]
              try simp only [List.set_cons_zero]
              refine wpAnyH_take (i := 8) (v := ?tv9) rfl (by kernel_rfl) (by kernel_rfl) (by kernel_rfl) (fun _ _ _ h => h) (Or.inl ⟨by rfl, ?ty9⟩) hHeld ?_
              case ty9 => (intro w hSw; (try dsimp only at hSw); go_simp; try with_reducible rfl)
              try simp only [Act.put]
              try simp only [List.setIfInBounds_toArray]
              try simp only [List.set_cons_succ]
              try simp only [List.set_cons_zero]
              refine wpAnyH_take (i := 9) (v := ?tv10) rfl (by kernel_rfl) (by kernel_rfl) (by kernel_rfl) (fun _ _ _ h => h) (Or.inl ⟨by rfl, ?ty10⟩) hHeld ?_
              case ty10 => (intro w hSw; (try dsimp only at hSw); go_simp; try with_reducible rfl)
              try simp only [Act.put]
              try simp only [List.setIfInBounds_toArray]
              try simp only [List.set_cons_succ]
              try simp only [List.set_cons_zero]
              refine wpAnyH_take (i := 10) (v := ?tv11) rfl (by kernel_rfl) (by kernel_rfl) (by kernel_rfl) (fun _ _ _ h => h) (Or.inl ⟨by rfl, ?ty11⟩) hHeld ?_
              case ty11 => (intro w hSw; (try dsimp only at hSw); go_simp; try with_reducible rfl)
              try simp only [Act.put]
              try simp only [List.setIfInBounds_toArray]
              try simp only [List.set_cons_succ]
              try simp only [List.set_cons_zero]
              refine wpAnyH_take (i := 11) (v := ?tv12) rfl (by kernel_rfl) (by kernel_rfl) (by kernel_rfl) (fun _ _ _ h => h) (Or.inl ⟨by rfl, ?ty12⟩) hHeld ?_
              case ty12 => (intro w hSw; (try dsimp only at hSw); go_simp; try with_reducible rfl)
              try simp only [Act.put]
              try simp only [List.setIfInBounds_toArray]
              try simp only [List.set_cons_succ]
              try simp only [List.set_cons_zero]
              refine wpAnyH_take (i := 12) (v := ?tv13) rfl (by kernel_rfl) (by kernel_rfl) (by kernel_rfl) (fun _ _ _ h => h) (Or.inl ⟨by rfl, ?ty13⟩) hHeld ?_
              case ty13 => (intro w hSw; (try dsimp only at hSw); go_simp; try with_reducible rfl)
              try simp only [Act.put]
              try simp only [List.setIfInBounds_toArray]
              try simp only [List.set_cons_succ]
              try simp only [List.set_cons_zero]
              refine wpAnyH_take (i := 14) (v := ?tv14) rfl (by kernel_rfl) (by kernel_rfl) (by kernel_rfl) (fun _ _ _ h => h) (Or.inl ⟨by rfl, ?ty14⟩) hHeld ?_
              case ty14 => (intro w hSw; (try dsimp only at hSw); go_simp; try with_reducible rfl)
              try simp only [Act.put]
              try simp only [List.setIfInBounds_toArray]
              try simp only [List.set_cons_succ]
              try simp only [List.set_cons_zero]
              refine wpAnyH_take (i := 15) (v := ?tv15) rfl (by kernel_rfl) (by kernel_rfl) (by kernel_rfl) (fun _ _ _ h => h) (Or.inl ⟨by rfl, ?ty15⟩) hHeld ?_
              case ty15 => (intro w hSw; (try dsimp only at hSw); go_simp; try with_reducible rfl)
              try simp only [Act.put]
              try simp only [List.setIfInBounds_toArray]
              try simp only [List.set_cons_succ]
              try simp only [List.set_cons_zero]
              refine wpAnyH_ready (rs := [13, 16]) (by kernel_rfl) (by simp) ?_
              refine AllReadyH.cons rfl (fun K hK => ?_) (AllReadyH.cons rfl (fun K hK => ?_) AllReadyH.nil)
              go_simp
              refine hK.out _ _ ⟨cb0, z1, z2⟩ (fun hHeld => ?_)
              clear hK K
              refine wpAnyH_ready (rs := [16]) (by kernel_rfl) (by simp) ?_
              refine AllReadyH.cons rfl (fun K hK => ?_) AllReadyH.nil
              go_simp
              refine hK.out _ _ ⟨cb0a _, z1a _, z2a _⟩ (fun hHeld => ?_)
              clear hK K
              refine wpAnyH_ready (rs := [17]) (by kernel_rfl) (by simp) ?_
              refine AllReadyH.cons rfl (fun K hK => ?_) AllReadyH.nil
              (refine step_append_lies _ (by rfl) _ _ _ (by rfl) (w.heap.size + 4) 3 i3 _ 1 8 Tryd.underlying29 hi3 hy0 hy1 hy2 rfl (by omega) (.slice ro (nbOf (es.take k) x).length rc) (nbOf (es.take k) x).length (qv (nbOf (es.take k) x)) (by rfl) (hox.alloc _) ⟨wx.heap.size, 0, none⟩ 1 1 [.int .i64 (y : Int)] (by rfl) rfl (cell_one_new _ _ _) (by intro u hu; simp at hu; subst hu; rfl) (by omega) (by unfold maxLen; omega) (by omega) (by simp; omega) (wx.heap.size + 1) (by simp) ?_; intro g1 c1 w1 hown1 hgr1 hat1 hlt1; obtain ⟨⟨hk0, hk1, hk2, hk3⟩, f1⟩ := HK.out _ _ hgr1; have hkk := And.intro hk3 (And.intro hk0 hk1); have hks := fun (u : Value) => And.intro (cell_turns (w := w1) hk3 (setCell_turns w1 g x u) (fun (e : bp = g) => hne.2.1 e.symm)) (And.intro (cell_turns (w := w1) hk0 (setCell_turns w1 g x u) (fun (e : b12 = g) => by omega)) (cell_turns (w := w1) hk1 (setCell_turns w1 g x u) (fun (e : b12 = g) => by omega))); have HAT : Hid _ := hat1; have HGR : Hid _ := hgr1; have HO1 : Hid _ := hown1; clear hat1 hgr1 hown1)
              refine hK.out _ _ hkk (fun hHeld => ?_)
              clear hK K
              refine wpAnyH_take (i := 18) (v := ?tv1001) rfl (by kernel_rfl) (by kernel_rfl) (by kernel_rfl) (fun _ _ _ h => h) (Or.inl ⟨by rfl, ?ty1001⟩) hHeld ?_
              case ty1001 => (intro w hSw; (try dsimp only at hSw); go_simp; try with_reducible rfl)
              try simp only [Act.put]
              try simp only [List.setIfInBounds_toArray]
              try simp only [List.set_cons_succ]
              try simp only [List.set_cons_zero]
              refine wpAnyH_ready (rs := [19]) (by kernel_rfl) (by simp) ?_
              refine AllReadyH.cons rfl (fun K hK => ?_) AllReadyH.nil
              go_simp
              refine hK.out _ _ (hks _) (fun hHeld => ?_)
              clear hK K
              refine wpAnyH_done (by kernel_rfl) ?_ _
              rotate_left
              go_simp
              refine hK.out _ _ ⟨cb0a _, z1a _, z2a _⟩ (fun hHeld => ?_)
              clear hK K
              refine wpAnyH_ready (rs := [13]) (by kernel_rfl) (by simp) ?_
              refine AllReadyH.cons rfl (fun K hK => ?_) AllReadyH.nil
              go_simp
              refine hK.out _ _ ⟨cb0a _, z1a _, z2a _⟩ (fun hHeld => ?_)
              clear hK K
              refine wpAnyH_ready (rs := [17]) (by kernel_rfl) (by simp) ?_
              refine AllReadyH.cons rfl (fun K hK => ?_) AllReadyH.nil
              (refine step_append_lies _ (by rfl) _ _ _ (by rfl) (w.heap.size + 4) 3 i3 _ 1 8 Tryd.underlying29 hi3 hy0 hy1 hy2 rfl (by omega) (.slice ro (nbOf (es.take k) x).length rc) (nbOf (es.take k) x).length (qv (nbOf (es.take k) x)) (by rfl) (hox.alloc _) ⟨wx.heap.size, 0, none⟩ 1 1 [.int .i64 (y : Int)] (by rfl) rfl (cell_one_new _ _ _) (by intro u hu; simp at hu; subst hu; rfl) (by omega) (by unfold maxLen; omega) (by omega) (by simp; omega) (wx.heap.size + 1) (by simp) ?_; intro g1 c1 w1 hown1 hgr1 hat1 hlt1; obtain ⟨⟨hk0, hk1, hk2, hk3⟩, f1⟩ := HK.out _ _ hgr1; have hkk := And.intro hk3 (And.intro hk0 hk1); have hks := fun (u : Value) => And.intro (cell_turns (w := w1) hk3 (setCell_turns w1 g x u) (fun (e : bp = g) => hne.2.1 e.symm)) (And.intro (cell_turns (w := w1) hk0 (setCell_turns w1 g x u) (fun (e : b12 = g) => by omega)) (cell_turns (w := w1) hk1 (setCell_turns w1 g x u) (fun (e : b12 = g) => by omega))); have HAT : Hid _ := hat1; have HGR : Hid _ := hgr1; have HO1 : Hid _ := hown1; clear hat1 hgr1 hown1)
              refine hK.out _ _ hkk (fun hHeld => ?_)
              clear hK K
              refine wpAnyH_take (i := 18) (v := ?tv1002) rfl (by kernel_rfl) (by kernel_rfl) (by kernel_rfl) (fun _ _ _ h => h) (Or.inl ⟨by rfl, ?ty1002⟩) hHeld ?_
              case ty1002 => (intro w hSw; (try dsimp only at hSw); go_simp; try with_reducible rfl)
              try simp only [Act.put]
              try simp only [List.setIfInBounds_toArray]
              try simp only [List.set_cons_succ]
              try simp only [List.set_cons_zero]
              refine wpAnyH_ready (rs := [19]) (by kernel_rfl) (by simp) ?_
              refine AllReadyH.cons rfl (fun K hK => ?_) AllReadyH.nil
              go_simp
              refine hK.out _ _ (hks _) (fun hHeld => ?_)
              clear hK K
              refine wpAnyH_done (by kernel_rfl) ?_ _
              all_goals
                go_wp2_with fail
                go_meet
                case rel =>
                  have hT := (alloc_turns wx.drew (Obj.cells #[.int .i64 (y : Int)] 3) _).trans (Turns.of_grown HGR.out)
                  have hB1 := hT.below hBx.drew (by show w.heap.size ≤ wx.heap.size; omega) (fun j hj => by have := (World.ownsRow.lt HOX.out j hj.symm).1; omega)
                  have hnl3 := PU.put (w := wx.drew) (w1 := w1) (o := Obj.cells #[.int .i64 (y : Int)] 3) (g1 := g1) (c1 := c1) (x := y) (PU.below HNL.out (Below.refl _ wx).drew) xN HO1.out (by rw [HVX.out]; exact HGR.out) (by rw [HVX.out]; exact HAT.out.imp id (fun h => by have h' : g1 = wx.heap.size + 1 := h; show wx.heap.size ≤ g1; omega))
                  have ht := two_far (b' := g) (o := x) (u := .slice (some ⟨g1, 0, none⟩) ((nbOf (es.take k) x).length + 1) c1) (two_turns (w := wx.drew) HT12.out hT (fun h => hne12 h.symm)) (by omega)
                  exact ⟨⟨_, hnl3⟩, ht, hB1.setCell (by show w.heap.size ≤ g; omega) _⟩
            case rest =>
              obtain ⟨⟨vs2, hnl2⟩, t12c, hBc⟩ := hcut
              clear z1 z2 t12 hnlx hBx
              obtain ⟨z1, z2⟩ := cell_two t12c
              go_upto_region 11 with (fail)
              have hlx2 : (if y = x then nbOf (es.take k) x ++ [y] else nbOf (es.take k) y) = nbOf (es.take k) y := if_neg (fun e => hxy1 e.symm)
              have HL2 : Hid _ := hlx2
              have hown2 := hnl2.near.own y yN
              simp only [hlx2] at hown2
              obtain ⟨ro, rc, hvx⟩ := form_row hown2
              have cx := hnl2.near.row.cell yN
              rw [hvx] at cx
              have hox : (wc.drew).ownsRow (w.heap.size + 4) 3 1 (.slice ro (nbOf (es.take k) y).length rc) (nbOf (es.take k) y).length (qv (nbOf (es.take k) y)) := by
                rw [hvx] at hown2
                exact ownsRow_blocks hown2 (fun _ _ => rfl)
              have hne12 : (Value.slice ro (nbOf (es.take k) y).length rc).ownBlock ≠ some b12 := fun h => by
                obtain ⟨cur, h1⟩ := own_cells hox h
                have h2 : wc.drew.heap[b12]? = _ := t12c
                rw [h1] at h2
                simp at h2
              have hneg : (Value.slice ro (nbOf (es.take k) y).length rc).ownBlock ≠ some g := fun h => by have := (World.ownsRow.lt hox g h).1; omega
              have hnep : (Value.slice ro (nbOf (es.take k) y).length rc).ownBlock ≠ some bp := fun h => by have := (World.ownsRow.lt hox bp h).1; omega
              have hrx : RowV wc.drew g 29 N vs2 := hnl2.near.row
              have cb0 := box_cell hnl2.box (i := 0) rfl
              have hszx : w.heap.size + 4 ≤ wc.heap.size := by have := hnl2.near.row.lt; have := lt_of_block hnl2.box; have := hnl2.mate.lt; omega
              have hly := HLN.out y
              have hK : ∀ (w1 : World) (o : Obj), ((wc.drew).alloc o).grownBy w1 (Value.slice ro (nbOf (es.take k) y).length rc).ownBlock → (w1.cell? ⟨b12, 0, none⟩ = some (.int .i64 (x : Int)) ∧ w1.cell? ⟨b12, 1, none⟩ = some (.int .i64 (y : Int)) ∧ w1.cell? ⟨g, y, none⟩ = some (.slice ro (nbOf (es.take k) y).length rc) ∧ w1.cell? ⟨bp, 0, none⟩ = some (sl g N)) ∧ w1.frozen? ⟨g, y, none⟩ = false := fun w1 o hg =>
                ⟨⟨cell_grown (w := wc.drew) hg z1 hne12, cell_grown (w := wc.drew) hg z2 hne12, cell_grown (w := wc.drew) hg cx hneg, cell_grown (w := wc.drew) hg cb0 hnep⟩, (row_grown hrx hg hneg).free y⟩
              have HK : Hid _ := hK
              have HNL : Hid _ := hnl2
              have HVX : Hid _ := hvx
              have HOX : Hid _ := hox
              have HT12 : Hid _ := t12c
              clear hK hvx hrx hown2 hnl2 hlx2
              have cxa := all_alloc cx
              have z1a := all_alloc z1
              have z2a := all_alloc z2
              have cb0a := all_alloc cb0
              refine wp_region_held_drew (S := fun w' => w'.cell? ⟨bp, 0, none⟩ = some (sl g N) ∧ w'.cell? ⟨b12, 0, none⟩ = some (.int .i64 (x : Int)) ∧ w'.cell? ⟨b12, 1, none⟩ = some (.int .i64 (y : Int))) (by kernel_rfl) ⟨cb0, z1, z2⟩ (fun hHeld => ?_)
              refine wpAnyH_take (i := 0) (v := ?tv17) rfl (by kernel_rfl) (by kernel_rfl) (by kernel_rfl) (fun _ _ _ h => h) (Or.inl ⟨by rfl, ?ty17⟩) hHeld ?_
              case ty17 => (intro w hSw; (try dsimp only at hSw); go_simp; try with_reducible rfl)
              try simp only [Act.put]
              try simp only [List.setIfInBounds_toArray]
              try simp only [List.set_cons_succ]
              try simp only [List.set_cons_zero]
              refine wpAnyH_take (i := 1) (v := ?tv18) rfl (by kernel_rfl) (by kernel_rfl) (by kernel_rfl) (fun _ _ _ h => h) (Or.inl ⟨by rfl, ?ty18⟩) hHeld ?_
              case ty18 => (intro w hSw; (try dsimp only at hSw); go_simp; try with_reducible rfl)
              try simp only [Act.put]
              try simp only [List.setIfInBounds_toArray]
              try simp only [List.set_cons_succ]
              try simp only [List.set_cons_zero]
              refine wpAnyH_take (i := 2) (v := ?tv19) rfl (by kernel_rfl) (by kernel_rfl) (by kernel_rfl) (fun _ _ _ h => h) (Or.inl ⟨by rfl, ?ty19⟩) hHeld ?_
              case ty19 => (intro w hSw; (try dsimp only at hSw); go_simp; try with_reducible rfl)
              try simp only [Act.put]
              try simp only [List.setIfInBounds_toArray]
              try simp only [List.set_cons_succ]
              try simp only [List.set_cons_zero]
              refine wpAnyH_take (i := 3) (v := ?tv20) rfl (by kernel_rfl) (by kernel_rfl) (by kernel_rfl) (fun _ _ _ h => h) (Or.inl ⟨by rfl, ?ty20⟩) hHeld ?_
              case ty20 => (intro w hSw; (try dsimp only at hSw); go_simp; try with_reducible rfl)
              try simp only [Act.put]
              try simp only [List.setIfInBounds_toArray]
              try simp only [List.set_cons_succ]
              try simp only [List.set_cons_zero]
              refine wpAnyH_take (i := 4) (v := ?tv21) rfl (by kernel_rfl) (by kernel_rfl) (by kernel_rfl) (fun _ _ _ h => h) (Or.inl ⟨by rfl, ?ty21⟩) hHeld ?_
              case ty21 => (intro w hSw; (try dsimp only at hSw); go_simp; try with_reducible rfl)
              try simp only [Act.put]
              try simp only [List.setIfInBounds_toArray]
              try simp only [List.set_cons_succ]
              try simp only [List.set_cons_zero]
              refine wpAnyH_take (i := 5) (v := ?tv22) rfl (by kernel_rfl) (by kernel_rfl) (by kernel_rfl) (fun _ _ _ h => h) (Or.inl ⟨by rfl, ?ty22⟩) hHeld ?_
              case ty22 => (intro w hSw; (try dsimp only at hSw); go_simp; try with_reducible rfl)
              try simp only [Act.put]
              try simp only [List.setIfInBounds_toArray]
              try simp only [List.set_cons_succ]
              try simp only [List.set_cons_zero]
              refine wpAnyH_take (i := 6) (v := ?tv23) rfl (by kernel_rfl) (by kernel_rfl) (by kernel_rfl) (fun _ _ _ h => h) (Or.inl ⟨by rfl, ?ty23⟩) hHeld ?_
              case ty23 => (intro w hSw; (try dsimp only at hSw); go_simp; try with_reducible rfl)
              try simp only [Act.put]
              try simp only [List.setIfInBounds_toArray]
              try simp only [List.set_cons_succ]
              try simp only [List.set_cons_zero]
              refine wpAnyH_take (i := 7) (v := ?tv24) rfl (by kernel_rfl) (by kernel_rfl) (by kernel_rfl) (fun _ _ _ h => h) (Or.inl ⟨by rfl, ?ty24⟩) hHeld ?_
              case ty24 => (intro w hSw; (try dsimp only at hSw); go_simp; try with_reducible rfl)
              try simp only [Act.put]
              try simp only [List.setIfInBounds_toArray]
              try simp only [List.set_cons_succ]
              try simp only [List.set_cons_zero]
              refine wpAnyH_take (i := 8) (v := ?tv25) rfl (by kernel_rfl) (by kernel_rfl) (by kernel_rfl) (fun _ _ _ h => h) (Or.inl ⟨by rfl, ?ty25⟩) hHeld ?_
              case ty25 => (intro w hSw; (try dsimp only at hSw); go_simp; try with_reducible rfl)
              try simp only [Act.put]
              try simp only [List.setIfInBounds_toArray]
              try simp only [List.set_cons_succ]
              try simp only [List.set_cons_zero]
              refine wpAnyH_take (i := 9) (v := ?tv26) rfl (by kernel_rfl) (by kernel_rfl) (by kernel_rfl) (fun _ _ _ h => h) (Or.inl ⟨by rfl, ?ty26⟩) hHeld ?_
              case ty26 => (intro w hSw; (try dsimp only at hSw); go_simp; try with_reducible rfl)
              try simp only [Act.put]
              try simp only [List.setIfInBounds_toArray]
              try simp only [List.set_cons_succ]
              try simp only [List.set_cons_zero]
              refine wpAnyH_take (i := 10) (v := ?tv27) rfl (by kernel_rfl) (by kernel_rfl) (by kernel_rfl) (fun _ _ _ h => h) (Or.inl ⟨by rfl, ?ty27⟩) hHeld ?_
              case ty27 => (intro w hSw; (try dsimp only at hSw); go_simp; try with_reducible rfl)
              try simp only [Act.put]
              try simp only [List.setIfInBounds_toArray]
              try simp only [List.set_cons_succ]
              try simp only [List.set_cons_zero]
              refine wpAnyH_take (i := 11) (v := ?tv28) rfl (by kernel_rfl) (by kernel_rfl) (by kernel_rfl) (fun _ _ _ h => h) (Or.inl ⟨by rfl, ?ty28⟩) hHeld ?_
              case ty28 => (intro w hSw; (try dsimp only at hSw); go_simp; try with_reducible rfl)
              try simp only [Act.put]
              try simp only [List.setIfInBounds_toArray]
              try simp only [List.set_cons_succ]
              try simp only [List.set_cons_zero]
              refine wpAnyH_take (i := 12) (v := ?tv29) rfl (by kernel_rfl) (by kernel_rfl) (by kernel_rfl) (fun _ _ _ h => h) (Or.inl ⟨by rfl, ?ty29⟩) hHeld ?_
              case ty29 => (intro w hSw; (try dsimp only at hSw); go_simp; try with_reducible rfl)
              try simp only [Act.put]
              try simp only [List.setIfInBounds_toArray]
              try simp only [List.set_cons_succ]
              try simp only [List.set_cons_zero]
              refine wpAnyH_take (i := 14) (v := ?tv30) rfl (by kernel_rfl) (by kernel_rfl) (by kernel_rfl) (fun _ _ _ h => h) (Or.inl ⟨by rfl, ?ty30⟩) hHeld ?_
              case ty30 => (intro w hSw; (try dsimp only at hSw); go_simp; try with_reducible rfl)
              try simp only [Act.put]
              try simp only [List.setIfInBounds_toArray]
              try simp only [List.set_cons_succ]
              try simp only [List.set_cons_zero]
              refine wpAnyH_take (i := 15) (v := ?tv31) rfl (by kernel_rfl) (by kernel_rfl) (by kernel_rfl) (fun _ _ _ h => h) (Or.inl ⟨by rfl, ?ty31⟩) hHeld ?_
              case ty31 => (intro w hSw; (try dsimp only at hSw); go_simp; try with_reducible rfl)
              try simp only [Act.put]
              try simp only [List.setIfInBounds_toArray]
              try simp only [List.set_cons_succ]
              try simp only [List.set_cons_zero]
              refine wpAnyH_ready (rs := [13, 16]) (by kernel_rfl) (by simp) ?_
              refine AllReadyH.cons rfl (fun K hK => ?_) (AllReadyH.cons rfl (fun K hK => ?_) AllReadyH.nil)
              go_simp
              refine hK.out _ _ ⟨cb0, z1, z2⟩ (fun hHeld => ?_)
              clear hK K
              refine wpAnyH_ready (rs := [16]) (by kernel_rfl) (by simp) ?_
              refine AllReadyH.cons rfl (fun K hK => ?_) AllReadyH.nil
              go_simp
              refine hK.out _ _ ⟨cb0a _, z1a _, z2a _⟩ (fun hHeld => ?_)
              clear hK K
              refine wpAnyH_ready (rs := [17]) (by kernel_rfl) (by simp) ?_
              refine AllReadyH.cons rfl (fun K hK => ?_) AllReadyH.nil
              (refine step_append_lies _ (by rfl) _ _ _ (by rfl) (w.heap.size + 4) 3 i3 _ 1 8 Tryd.underlying29 hi3 hy0 hy1 hy2 rfl (by omega) (.slice ro (nbOf (es.take k) y).length rc) (nbOf (es.take k) y).length (qv (nbOf (es.take k) y)) (by rfl) (hox.alloc _) ⟨wc.heap.size, 0, none⟩ 1 1 [.int .i64 (x : Int)] (by rfl) rfl (cell_one_new _ _ _) (by intro u hu; simp at hu; subst hu; rfl) (by omega) (by unfold maxLen; omega) (by omega) (by simp; omega) (wc.heap.size + 1) (by simp) ?_; intro g1 c1 w1 hown1 hgr1 hat1 hlt1; obtain ⟨⟨hk0, hk1, hk2, hk3⟩, f1⟩ := HK.out _ _ hgr1; have hkk := And.intro hk3 (And.intro hk0 hk1); have hks := fun (u : Value) => And.intro (cell_turns (w := w1) hk3 (setCell_turns w1 g y u) (fun (e : bp = g) => hne.2.1 e.symm)) (And.intro (cell_turns (w := w1) hk0 (setCell_turns w1 g y u) (fun (e : b12 = g) => by omega)) (cell_turns (w := w1) hk1 (setCell_turns w1 g y u) (fun (e : b12 = g) => by omega))); have HAT : Hid _ := hat1; have HGR : Hid _ := hgr1; have HO1 : Hid _ := hown1; clear hat1 hgr1 hown1)
              refine hK.out _ _ hkk (fun hHeld => ?_)
              clear hK K
              refine wpAnyH_take (i := 18) (v := ?tv1003) rfl (by kernel_rfl) (by kernel_rfl) (by kernel_rfl) (fun _ _ _ h => h) (Or.inl ⟨by rfl, ?ty1003⟩) hHeld ?_
              case ty1003 => (intro w hSw; (try dsimp only at hSw); go_simp; try with_reducible rfl)
              try simp only [Act.put]
              try simp only [List.setIfInBounds_toArray]
              try simp only [List.set_cons_succ]
              try simp only [List.set_cons_zero]
              refine wpAnyH_ready (rs := [19]) (by kernel_rfl) (by simp) ?_
              refine AllReadyH.cons rfl (fun K hK => ?_) AllReadyH.nil
              go_simp
              refine hK.out _ _ (hks _) (fun hHeld => ?_)
              clear hK K
              refine wpAnyH_done (by kernel_rfl) ?_ _
              rotate_left
              go_simp
              refine hK.out _ _ ⟨cb0a _, z1a _, z2a _⟩ (fun hHeld => ?_)
              clear hK K
              refine wpAnyH_ready (rs := [13]) (by kernel_rfl) (by simp) ?_
              refine AllReadyH.cons rfl (fun K hK => ?_) AllReadyH.nil
              go_simp
              refine hK.out _ _ ⟨cb0a _, z1a _, z2a _⟩ (fun hHeld => ?_)
              clear hK K
              refine wpAnyH_ready (rs := [17]) (by kernel_rfl) (by simp) ?_
              refine AllReadyH.cons rfl (fun K hK => ?_) AllReadyH.nil
              (refine step_append_lies _ (by rfl) _ _ _ (by rfl) (w.heap.size + 4) 3 i3 _ 1 8 Tryd.underlying29 hi3 hy0 hy1 hy2 rfl (by omega) (.slice ro (nbOf (es.take k) y).length rc) (nbOf (es.take k) y).length (qv (nbOf (es.take k) y)) (by rfl) (hox.alloc _) ⟨wc.heap.size, 0, none⟩ 1 1 [.int .i64 (x : Int)] (by rfl) rfl (cell_one_new _ _ _) (by intro u hu; simp at hu; subst hu; rfl) (by omega) (by unfold maxLen; omega) (by omega) (by simp; omega) (wc.heap.size + 1) (by simp) ?_; intro g1 c1 w1 hown1 hgr1 hat1 hlt1; obtain ⟨⟨hk0, hk1, hk2, hk3⟩, f1⟩ := HK.out _ _ hgr1; have hkk := And.intro hk3 (And.intro hk0 hk1); have hks := fun (u : Value) => And.intro (cell_turns (w := w1) hk3 (setCell_turns w1 g y u) (fun (e : bp = g) => hne.2.1 e.symm)) (And.intro (cell_turns (w := w1) hk0 (setCell_turns w1 g y u) (fun (e : b12 = g) => by omega)) (cell_turns (w := w1) hk1 (setCell_turns w1 g y u) (fun (e : b12 = g) => by omega))); have HAT : Hid _ := hat1; have HGR : Hid _ := hgr1; have HO1 : Hid _ := hown1; clear hat1 hgr1 hown1)
              refine hK.out _ _ hkk (fun hHeld => ?_)
              clear hK K
              refine wpAnyH_take (i := 18) (v := ?tv1004) rfl (by kernel_rfl) (by kernel_rfl) (by kernel_rfl) (fun _ _ _ h => h) (Or.inl ⟨by rfl, ?ty1004⟩) hHeld ?_
              case ty1004 => (intro w hSw; (try dsimp only at hSw); go_simp; try with_reducible rfl)
              try simp only [Act.put]
              try simp only [List.setIfInBounds_toArray]
              try simp only [List.set_cons_succ]
              try simp only [List.set_cons_zero]
              refine wpAnyH_ready (rs := [19]) (by kernel_rfl) (by simp) ?_
              refine AllReadyH.cons rfl (fun K hK => ?_) AllReadyH.nil
              go_simp
              refine hK.out _ _ (hks _) (fun hHeld => ?_)
              clear hK K
              refine wpAnyH_done (by kernel_rfl) ?_ _
              all_goals
                go_wp2
                have hT := (alloc_turns wc.drew (Obj.cells #[.int .i64 (x : Int)] 3) _).trans (Turns.of_grown HGR.out)
                have hB1 := hT.below hBc.drew (by show w.heap.size ≤ wc.heap.size; omega) (fun j hj => by have := (World.ownsRow.lt HOX.out j hj.symm).1; omega)
                have hnl3 := PU.put (w := wc.drew) (w1 := w1) (o := Obj.cells #[.int .i64 (x : Int)] 3) (g1 := g1) (c1 := c1) (x := x) (PU.below HNL.out (Below.refl _ wc).drew) yN (by simp only [HL2.out]; exact HO1.out) (by rw [HVX.out]; exact HGR.out) (by rw [HVX.out]; exact HAT.out.imp id (fun h => by have h' : g1 = wc.heap.size + 1 := h; show wc.heap.size ≤ g1; omega))
                simp only [HL2.out] at hnl3
                have hnl4 := hnl3.congr (ls' := fun i => nbOf (es.take (k + 1)) i) (mr' := fun _ => .int .i64 (-1)) (fun i _ => by
                  rw [nbOf_take HGT.out]
                  by_cases e1 : i = y
                  · subst e1
                    rw [if_pos rfl, if_neg hxy1, if_pos rfl]
                  · rw [if_neg e1]
                    by_cases e2 : i = x
                    · subst e2
                      rw [if_pos rfl, if_pos rfl]
                    · rw [if_neg e2, if_neg (fun h => e2 h.symm), if_neg (fun h => e1 h.symm), List.append_nil]) (fun _ _ => rfl)
                go_roundw
                case rel => exact ⟨k + 1, _, by omega, by go_num, hnl4, hB1.setCell (by show w.heap.size ≤ g; omega) _⟩
                case measure => simp [numOf]; omega
          · have hke : es.length = k := by omega
            subst hke
            rw [List.take_length] at hpu
            have hnb := nbs_of HG.out hl
            have hpb : PB wr bp g bm N (nbOf es) (fun _ => none) := ⟨⟨_, _, _, _, _, _, _, _, _, _, _, _, hpu.box⟩, hpu.near.nearP hpu.lt.1 hne.2.1, hpu.mate.congr (fun _ _ => rfl), hne.1⟩
            have hnm : NearP wr bm wr.heap.size g N (nbOf es) := hpu.near.nearP hpu.lt.2.2 hne.2.2
            have hmat : Mat N (Ef N es) (fun _ => none) := ⟨(fun _ _ h => by cases h), (fun _ _ h => by cases h), (fun _ _ h => by cases h)⟩
            have c1 := box_cell hpu.box (i := 1) rfl
            have HPB : Hid _ := hpb
            have HNM : Hid _ := hnm
            have HMT : Hid _ := hmat
            have HNB : Hid _ := hnb
            clear hpu hpb hnm hmat hnb
            go_wp2
            clear c1
            go_loopw [82] (fun i wr => ∃ (k : Nat) (mc : Nat → Option Nat), k ≤ N ∧ i = .int .i64 (k : Int) ∧ PB wr bp g bm N (nbOf es) mc ∧ NearP wr bm wr.heap.size g N (nbOf es) ∧ Mat N (Ef N es) mc ∧ (∀ r, r < k → mc r = none → ∃ Ev Od k, Trap (Ef N es) mc r Ev Od k) ∧ Below w.heap.size w wr) (fun i _ => N - (numOf i).toNat)
            case atStart => exact ⟨0, _, Nat.zero_le _, rfl, HPB.out, HNM.out, HMT.out, fun r hr => absurd hr (Nat.not_lt_zero _), hBq⟩
            case round =>
              obtain ⟨k, mc, hk, rfl, hpb, hnm, hmat, htr, hB4⟩ := hrel
              clear HPB HNM HMT hBq
              by_cases hkN : k < N
              · have cm := hpb.mate.cell hkN
                obtain ⟨eo, en, ec, fo, fn, fc, bo, bn, bc, qo, qn, qc, hbox⟩ := hpb.box
                have c1 := box_cell hbox (i := 1) rfl
                have i1 : (0 : Int) ≤ (k : Int) := by omega
                have i2 : (k : Int) < (N : Int) := by omega
                cases hmk : mc k with
                | none =>
                  rw [hmk] at cm
                  have z1 : farZ none = -1 := rfl
                  rw [z1] at cm
                  have hsk := seek_call hpb hN hmat HNB.out hkN hmk
                  have HSK : Hid _ := hsk
                  have HPB : Hid _ := hpb
                  have HNM : Hid _ := hnm
                  have HMT : Hid _ := hmat
                  have HTR : Hid _ := htr
                  have hbl := lt_of_block hbox
                  clear hsk hpb hnm hmat htr hbox hmk z1
                  go_wp2_with (first
                    | (go_at_call 41; refine Calls.mono HSK.out ?_; rintro e W1 ⟨z, rfl, hT1, be, bf, bb, q, ev, f, bs, Q, hst1, hfd1⟩; have hta := turn_any hst1 HMT.out HNB.out.sym hfd1; have HTA : Hid _ := hta; have HST1 : Hid _ := hst1; clear hta hst1 hfd1)
                    | (go_at_call 40; refine Calls.mono HTA.out ?_; rintro e W2 ⟨rfl, hT2, m2, hm2, hnx⟩)
                    | go_in)
                  have hpb1 := HST1.out.pb
                  have hnm1 := (NearP.pair HPB.out.near HNM.out hT1 (fun j e => Or.inl e)).2
                  have hnm2 := NearP.pair hpb1.near (hnm1.mono hT1.size) hT2 (fun j e => Or.inr (Or.inl e))
                  have hpb2 : PB W2 bp g bm N (nbOf es) m2 := by
                    obtain ⟨eo, en, ec, fo, fn, fc, bo, bn, bc, qo, qn, qc, hbox⟩ := hpb1.box
                    exact ⟨⟨_, _, _, _, _, _, _, _, _, _, _, _, box_turns hbox hT2 (fun e => hne.1 e.symm)⟩, hnm2.1.mono hT2.size, hm2, hne.1⟩
                  have hB5 : Below w.heap.size w W2 := hT2.below (hT1.below hB4 hB4.size (fun j e => by omega)) (Nat.le_trans hB4.size hT1.size) (fun j e => by omega)
                  go_roundw
                  case rel =>
                    refine ⟨k + 1, m2, by omega, by go_num, hpb2, hnm2.2.mono hT2.size, hnx.1, fun r hr hrn => ?_, hB5⟩
                    by_cases e : r = k
                    · subst e; exact hnx.2.2 hrn
                    · obtain ⟨h1, h2⟩ := hnx.2.1 r e hrn
                      obtain ⟨Ev, Od, kk, ht⟩ := HTR.out r (by omega) h1
                      exact ⟨Ev, Od, kk, h2 Ev Od kk ht⟩
                  case measure => simp [numOf]; omega
                | some y =>
                  rw [hmk] at cm
                  have z1 : farZ (some y) = (y : Int) := rfl
                  rw [z1] at cm
                  have k1 : ((y : Int) == -1) = false := by simp
                  have HPB : Hid _ := hpb
                  have HNM : Hid _ := hnm
                  have HMT : Hid _ := hmat
                  have HTR : Hid _ := htr
                  have HMK : Hid _ := hmk
                  clear hpb hnm hmat htr hbox hmk z1
                  go_wp2
                  go_roundw
                  case rel =>
                    refine ⟨k + 1, mc, by omega, by go_num, HPB.out, HNM.out, HMT.out, fun r hr hrn => ?_, hB4⟩
                    by_cases e : r = k
                    · subst e; rw [HMK.out] at hrn; cases hrn
                    · exact HTR.out r (by omega) hrn
                  case measure => simp [numOf]; omega
              · have hke : N = k := by omega
                subst hke
                have HPB : Hid _ := hpb
                have HNM : Hid _ := hnm
                have HMT : Hid _ := hmat
                have HTR : Hid _ := htr
                clear hpb hnm hmat htr
                go_wp2
                go_ret
                exact ⟨bp, rfl, by omega, hB4, g, bm, mc, HPB.out, HNM.out, HMT.out, HTR.out⟩
end
end Go.Proofs.YtenjkhgpfmfgmaaDoor
