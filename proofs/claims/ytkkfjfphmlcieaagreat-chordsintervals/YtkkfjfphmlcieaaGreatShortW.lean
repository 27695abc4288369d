/- shortWay: a shortest way, or that there is none. -/
import Derived.Test.YtkkfjfphmlcieaaGreatBackW
import Derived.Test.YtkkfjfphmlcieaaGreatRepeat
namespace Go.Proofs.YtkkfjfphmlcieaaGreat
set_option maxRecDepth 4000
open Go.RowKit Go.Maps
attribute [local go_sem ↓] Go.wp_at_zero Go.wp_at_succ
theorem RowV.setI {w : World} {b n : Nat} {f : Nat → Int} (h : RowV w b 3 n (iv f)) (u : Nat) (x : Int) : RowV (w.setCell ⟨b, u, none⟩ (.int .i64 x)) b 3 n (iv (updB f u x)) := (h.set u (.int .i64 x)).congr (fun j _ => by
  unfold iv updB
  by_cases e : j = u
  · simp [e]
  · simp [e])
/-- What shortWay answers. -/
def ShortEnd (N : Nat) (adj : Nat → Nat → Bool) (opn lst : Nat → Bool) (a base : Nat) (r : Ending) (w' : World) : Prop :=
  (r = .returned (.slice none 0 0) ∧ ∃ Q bk, Bq N adj opn lst a Q bk Q.length) ∨
  ∃ (Q : List Nat) (bk : Nat → Int) (i u : Nat) (W : List Nat) (po : Option Addr) (pc : Nat), r = .returned (.slice po W.length pc) ∧ w'.ownsRow base 3 1 (.slice po W.length pc) W.length (qv W) ∧ Bq N adj opn lst a Q bk i ∧ i < Q.length ∧ u < N ∧ adj (Q.getD i 0) u = true ∧ bk u = -1 ∧ lst u = true ∧ Chain (updB bk u (Q.getD i 0)) u W ∧ (∀ x ∈ W, x < N)
/-- What lies there in a round. -/
structure SwI (w wr : World) (gb N : Nat) (qo : Option Addr) (qc : Nat) (Q : List Nat) (bk : Nat → Int) : Prop where
  row : RowV wr gb 3 N (iv bk)
  own : wr.ownsRow w.heap.size 3 1 (.slice qo Q.length qc) Q.length (qv Q)
  ne : (Value.slice qo Q.length qc).ownBlock ≠ some gb
  below : Below w.heap.size w wr
theorem SwI.next {w wr wr' : World} {gb N : Nat} {qo : Option Addr} {qc : Nat} {Q : List Nat} {bk : Nat → Int} (h : SwI w wr gb N qo qc Q bk) (hb : Below wr.heap.size wr wr') : SwI w wr' gb N qo qc Q bk :=
  ⟨h.row.block (hb.block _ h.row.lt), ownsRow_blocks h.own (fun b hb' => hb.block b (h.own.lt b hb').2), h.ne, below_next h.below hb⟩
theorem own_typed {w : World} {base : Nat} {v : Value} {n b : Nat} {xs : List Value} (h : w.ownsRow base 3 1 v n xs) (hb : v.ownBlock = some b) : ∃ cur, w.heap[b]? = some (.cells cur 3 (0, 0)) := own_cells h hb
theorem NumsAt.turns {M : Nat → Prop} {w w' : World} {lo : Option Addr} {L : List Nat} (h : NumsAt w lo L) (ht : Turns M w w') (hm : ∀ b, lo = some ⟨b, 0, none⟩ → ¬ M b) : NumsAt w' lo L := fun k u hu => by
  obtain ⟨b, e, hc⟩ := h k u hu
  exact ⟨b, e, cell_turns hc ht (hm b e)⟩
/-- The row that is gone through lies apart. -/
structure LiN (wz : World) (gb : Nat) (qv' : Value) (lo : Option Addr) (L : List Nat) : Prop where
  nums : NumsAt wz lo L
  apart : ∀ b, lo = some ⟨b, 0, none⟩ → b ≠ gb ∧ qv'.ownBlock ≠ some b ∧ b < wz.heap.size
theorem LiN.next {w w' : World} {gb : Nat} {q : Value} {lo : Option Addr} {L : List Nat} (h : LiN w gb q lo L) (hb : Below w.heap.size w w') : LiN w' gb q lo L :=
  ⟨h.nums.below hb, fun b e => ⟨(h.apart b e).1, (h.apart b e).2.1, Nat.lt_of_lt_of_le (h.apart b e).2.2 hb.size⟩⟩
theorem LiN.set {w : World} {gb o : Nat} {q x : Value} {lo : Option Addr} {L : List Nat} (h : LiN w gb q lo L) : LiN (w.setCell ⟨gb, o, none⟩ x) gb q lo L :=
  ⟨h.nums.turns (setCell_turns w gb o x) (fun b e => (h.apart b e).1), fun b e => ⟨(h.apart b e).1, (h.apart b e).2.1, by rw [World.size_setCell]; exact (h.apart b e).2.2⟩⟩
theorem SwI.set {w wr : World} {gb N : Nat} {qo : Option Addr} {qc : Nat} {Q : List Nat} {bk : Nat → Int} (h : SwI w wr gb N qo qc Q bk) (hgb : w.heap.size ≤ gb) (u : Nat) (x : Int) : SwI w (wr.setCell ⟨gb, u, none⟩ (.int .i64 x)) gb N qo qc Q (updB bk u x) :=
  ⟨h.row.setI u x, ownsRow_blocks h.own (fun b hb => Below.heap_setCell _ _ _ _ (fun e => h.ne (by rw [hb]; exact congrArg some e))), h.ne, h.below.setCell (p := ⟨gb, u, none⟩) hgb _⟩
/-- One node more in the queue. -/
theorem SwI.push {w wr w1 : World} {gb N : Nat} {qo : Option Addr} {qc : Nat} {Q : List Nat} {bk : Nat → Int} {u g1 c1 : Nat} {o : Obj} (h : SwI w wr gb N qo qc Q bk) (hown : w1.ownsRow w.heap.size 3 1 (.slice (some ⟨g1, 0, none⟩) (Q ++ [u]).length c1) (Q ++ [u]).length (qv (Q ++ [u]))) (hgr : (wr.alloc o).grownBy w1 (Value.slice qo Q.length qc).ownBlock) (hat : (Value.slice qo Q.length qc).ownBlock = some g1 ∨ wr.heap.size ≤ g1) :
    SwI w w1 gb N (some ⟨g1, 0, none⟩) c1 (Q ++ [u]) bk := by
  have T1 := (alloc_turns wr o (fun x => some x = (Value.slice qo Q.length qc).ownBlock)).trans (Turns.of_grown hgr)
  refine ⟨h.row.block (T1.block _ h.row.lt (fun e => h.ne e.symm)), hown, ?_, Turns.below h.below T1 h.below.size (fun x hx => (h.own.lt x hx.symm).1)⟩
  · intro e
    have e' : g1 = gb := by
      have : (Value.slice (some ⟨g1, 0, none⟩) (Q ++ [u]).length c1).ownBlock = some g1 := rfl
      rw [this] at e
      injection e
    rcases hat with h1 | h1
    · rw [e'] at h1; exact h.ne h1
    · have := h.row.lt
      omega
theorem LiN.push {wr w1 : World} {gb n c n' c' : Nat} {qo : Option Addr} {g1 : Nat} {lo : Option Addr} {L : List Nat} {o : Obj} (h : LiN wr gb (.slice qo n c) lo L) (hgr : (wr.alloc o).grownBy w1 (Value.slice qo n c).ownBlock) (hat : (Value.slice qo n c).ownBlock = some g1 ∨ wr.heap.size ≤ g1) : LiN w1 gb (.slice (some ⟨g1, 0, none⟩) n' c') lo L := by
  have T1 := (alloc_turns wr o (fun x => some x = (Value.slice qo n c).ownBlock)).trans (Turns.of_grown hgr)
  refine ⟨h.nums.turns T1 (fun b e e' => (h.apart b e).2.1 e'.symm), fun b e => ⟨(h.apart b e).1, fun e' => ?_, Nat.lt_of_lt_of_le (h.apart b e).2.2 T1.size⟩⟩
  have eb : g1 = b := by
    have : (Value.slice (some ⟨g1, 0, none⟩) n' c').ownBlock = some g1 := rfl
    rw [this] at e'
    injection e'
  rcases hat with h1 | h1
  · rw [eb] at h1; exact (h.apart b e).2.1 h1
  · have := (h.apart b e).2.2
    omega
theorem listN_mem {N : Nat} {S : Nat → Bool} {x : Nat} : x ∈ listN N S ↔ x < N ∧ S x = true := by simp [listN]
set_option maxHeartbeats 8000000 in
theorem shortWay_call {w : World} {ao : Option Addr} {cap N a : Nat} {bl : Nat → Nat} {adj : Nat → Nat → Bool} (hnear : NearsAt w ao N bl adj) (hN : N ≤ 100) (ha : a < N) {opn lst : Nat → Bool} (F1 F2 : FuncId) (c1 c2 : Array Value)
    (hF1 : ∀ args w', (callFunc F1 args).run Tryz.prog w' = .ok (.enter F1 args) w') (hF2 : ∀ args w', (callFunc F2 args).run Tryz.prog w' = .ok (.enter F2 args) w')
    (h1 : ∀ W, Below w.heap.size w W → ∀ x : Nat, x < N → Calls Tryz.prog F1 (#[.int .i64 (x : Int)] ++ c1) W fun r w' => r = .returned (.bool (opn x)) ∧ Below W.heap.size W w')
    (h2 : ∀ W, Below w.heap.size w W → ∀ x : Nat, x < N → Calls Tryz.prog F2 (#[.int .i64 (x : Int)] ++ c2) W fun r w' => r = .returned (.bool (lst x)) ∧ Below W.heap.size W w') :
    Calls Tryz.prog 58 #[.slice ao N cap, .int .i64 (a : Int), .func (.func F1) #[] c1, .func (.func F2) #[] c2] w fun r w' => ShortEnd N adj opn lst a w.heap.size r w' ∧ Below w.heap.size w w' := by
  have HNR : Hid (NearsAt w ao N bl adj) := hnear
  have H1 : Hid (∀ W, Below w.heap.size w W → ∀ x : Nat, x < N → Calls Tryz.prog F1 (#[.int .i64 (x : Int)] ++ c1) W fun r w' => r = .returned (.bool (opn x)) ∧ Below W.heap.size W w') := h1
  have H2 : Hid (∀ W, Below w.heap.size w W → ∀ x : Nat, x < N → Calls Tryz.prog F2 (#[.int .i64 (x : Int)] ++ c2) W fun r w' => r = .returned (.bool (lst x)) ∧ Below W.heap.size W w') := h2
  have HREP : Hid (∀ (W : World) (g0 c0 : Nat), W.cell? ⟨g0, 0, none⟩ = some (.int .i64 (-1)) → Calls Tryz.prog 76 #[.slice (some ⟨g0, 0, none⟩) 1 c0, .int .i64 (N : Int)] W fun r w' => ∃ b, r = .returned (sl b N) ∧ W.heap.size ≤ b ∧ RowV w' b 3 N (fun _ => .int .i64 (-1)) ∧ Below W.heap.size W w') := fun W g0 c0 h => repeat_call h (by omega)
  have hN6 : N ≤ 1000000 := by omega
  have i1 : (0 : Int) ≤ (a : Int) := by omega
  have i2 : (a : Int) < (N : Int) := by omega
  clear hnear h1 h2
  go_enter Tryz.func58, Tryz.ntmps58
  go_upto_region 2 with (first | (go_at_call 76; refine Calls.mono (HREP.out _ _ _ (box_cell (one_new w (.int .i64 (-1)) 3) rfl)) ?_; rintro e w2 ⟨gb, rfl, hgb, hrow, hB2⟩) | go_in)
  have hB02 : Below w.heap.size w w2 := below_next (below_alloc (Below.refl _ w) _) hB2
  have hgb' : w.heap.size ≤ gb := by rw [World.size_alloc] at hgb; omega
  have ca : w2.cell? ⟨gb, a, none⟩ = some (.int .i64 (-1)) := hrow.cell ha
  have fa := hrow.free a
  have hrow3 : RowV (w2.setCell ⟨gb, a, none⟩ (.int .i64 (a : Int))) gb 3 N (iv (updB (fun _ => -1) a a)) := RowV.setI (f := fun _ => -1) hrow a a
  have hB3 : Below w.heap.size w (w2.setCell ⟨gb, a, none⟩ (.int .i64 (a : Int))) := hB02.setCell (p := ⟨gb, a, none⟩) hgb' _
  clear hB2 hgb HREP
  have hst : SwI w ((w2.setCell ⟨gb, a, none⟩ (.int .i64 (a : Int))).alloc (Obj.cells #[.int .i64 (a : Int)] 3)) gb N (some ⟨(w2.setCell ⟨gb, a, none⟩ (.int .i64 (a : Int))).heap.size, 0, none⟩) 1 [a] (updB (fun _ => -1) a a) := by
    have hB9 := below_alloc (Below.refl _ (w2.setCell ⟨gb, a, none⟩ (.int .i64 (a : Int)))) (Obj.cells #[.int .i64 (a : Int)] 3)
    refine ⟨hrow3.block (hB9.block _ hrow3.lt), ownsRow_one _ _ _ 3 hB3.size, fun e => ?_, below_next hB3 hB9⟩
    have h1 : (Value.slice (some ⟨(w2.setCell ⟨gb, a, none⟩ (.int .i64 (a : Int))).heap.size, 0, none⟩) [a].length 1).ownBlock = some (w2.setCell ⟨gb, a, none⟩ (.int .i64 (a : Int))).heap.size := rfl
    rw [h1] at e
    injection e with e
    have := hrow3.lt
    omega
  rw [World.size_setCell] at hst
  have HST : Hid (SwI w ((w2.setCell ⟨gb, a, none⟩ (.int .i64 (a : Int))).alloc (Obj.cells #[.int .i64 (a : Int)] 3)) gb N (some ⟨w2.heap.size, 0, none⟩) 1 [a] (updB (fun _ => -1) a a)) := hst
  have HB0 : Hid (Bq N adj opn lst a [a] (updB (fun _ => -1) a a) 0) := Bq.start ha
  clear hst hrow3 hB3 hB02 hrow
  go_wp2
  go_loopw [10, 11] (fun sq si wr => ∃ (Q : List Nat) (bk : Nat → Int) (k : Nat) (qo : Option Addr) (qc : Nat), sq = .slice qo Q.length qc ∧ si = .int .i64 (k : Int) ∧ k ≤ Q.length ∧ Bq N adj opn lst a Q bk k ∧ SwI w wr gb N qo qc Q bk) (fun _ si _ => N - (numOf si).toNat)
  case atStart => exact ⟨[a], _, 0, _, _, rfl, rfl, Nat.zero_le _, HB0.out, HST.out⟩
  case round =>
    obtain ⟨Q, bk, k, qo, qc, rfl, rfl, hk, hbq, hsw⟩ := hrel
    clear HST HB0 ca fa
    have hQN := hbq.len
    have HBQ : Hid (Bq N adj opn lst a Q bk k) := hbq
    have HSW : Hid (SwI w wr gb N qo qc Q bk) := hsw
    clear hbq hsw
    by_cases hlt : k < Q.length
    · obtain ⟨u, hu⟩ : ∃ u, u = Q.getD k 0 := ⟨_, rfl⟩
      have huN : u < N := by rw [hu]; exact HBQ.out.lt _ (getD_memC hlt)
      have hget : Q[k]? = some u := by rw [hu]; simp [List.getD, List.getElem?_eq_getElem hlt]
      obtain ⟨gq, rfl, cq⟩ := qcell HSW.out.own hget
      have hnr := HNR.out.below HSW.out.below
      obtain ⟨gn, rfl, cn⟩ := hnr.row u huN
      have h35 := rising_call (hnr.sets u huN) hN6
      obtain ⟨L, hL⟩ : ∃ L, L = listN N (adj u) := ⟨_, rfl⟩
      rw [← hL] at h35
      have HL : Hid (L = listN N (adj u)) := hL
      have HU : Hid (u = Q.getD k 0) := hu
      have H35 : Hid (Calls Tryz.prog 51 #[.map (some (bl u))] wr fun e w' => ∃ v, e = .returned v ∧ w'.ownsRow wr.heap.size 3 1 v L.length (qv L) ∧ Below wr.heap.size wr w') := h35
      have hLN : L.length ≤ N := by
        rw [hL]; unfold listN
        exact Nat.le_trans (List.length_filter_le _ _) (by simp)
      have k1 : (0 : Int) ≤ (k : Int) := by omega
      have k2 : (k : Int) < (Q.length : Int) := by omega
      have j1 : (0 : Int) ≤ (u : Int) := by omega
      have j2 : (u : Int) < (N : Int) := by omega
      clear hL hu hget hnr h35
      go_wp2_with (first | (go_at_call 51; refine Calls.mono H35.out ?_; rintro e wl ⟨v, rfl, hown, hbl⟩; obtain ⟨lo, lc, rfl⟩ := form_row hown) | go_in)
      have HSWl : Hid (SwI w wl gb N (some ⟨gq, 0, none⟩) qc Q bk) := HSW.out.next hbl
      have HLI : Hid (LiN wl gb (.slice (some ⟨gq, 0, none⟩) Q.length qc) lo L) := ⟨numsAt_own hown, fun b e => by
        have h1 := hown.lt b (by rw [e]; rfl)
        have h2 := HSW.out.row.lt
        refine ⟨by omega, fun e' => ?_, h1.2⟩
        have h3 := (HSW.out.own.lt b e').2
        omega⟩
      clear cq cn H35 hown hbl HSW
      go_loopw [10, 41] (fun sq sj wz => ∃ (Q' : List Nat) (bk' : Nat → Int) (j : Nat) (qo' : Option Addr) (qc' : Nat), sq = .slice qo' Q'.length qc' ∧ sj = .int .i64 (j : Int) ∧ j ≤ L.length ∧ Bq N adj opn lst a Q' bk' k ∧ Q'.getD k 0 = u ∧ k < Q'.length ∧ (∀ t, t < j → L.getD t 0 ∈ Q' ∨ (lst (L.getD t 0) = false ∧ opn (L.getD t 0) = false)) ∧ SwI w wz gb N qo' qc' Q' bk' ∧ LiN wz gb (.slice qo' Q'.length qc') lo L) (fun _ sj _ => L.length - (numOf sj).toNat)
      case atStart => exact ⟨Q, bk, 0, _, _, rfl, rfl, Nat.zero_le _, HBQ.out, HU.out.symm, hlt, fun t ht => by omega, HSWl.out, HLI.out⟩
      case round =>
        obtain ⟨Q', bk', j, qo', qc', rfl, rfl, hj, hbq, hQu, hkQ, hdone, hsw, hli⟩ := hrel
        clear HSWl HLI HBQ HU hlt hQN k2
        have hQN := hbq.len
        have HBQ : Hid (Bq N adj opn lst a Q' bk' k) := hbq
        have HQU : Hid (Q'.getD k 0 = u) := hQu
        have HDN : Hid (∀ t, t < j → L.getD t 0 ∈ Q' ∨ (lst (L.getD t 0) = false ∧ opn (L.getD t 0) = false)) := hdone
        have HSW : Hid (SwI w wr gb N qo' qc' Q' bk') := hsw
        have HLI : Hid (LiN wr gb (.slice qo' Q'.length qc') lo L) := hli
        clear hbq hQu hdone hsw hli
        by_cases hjl : j < L.length
        · obtain ⟨y, hy⟩ : ∃ y, y = L.getD j 0 := ⟨_, rfl⟩
          have hget : L[j]? = some y := by rw [hy]; simp [List.getD, List.getElem?_eq_getElem hjl]
          have hyL : y ∈ listN N (adj u) := by rw [← HL.out, hy]; exact getD_memC hjl
          obtain ⟨hyN, huy⟩ := listN_mem.1 hyL
          obtain ⟨bL, rfl, cy⟩ := HLI.out.nums j y hget
          have cb : wr.cell? ⟨gb, y, none⟩ = some (.int .i64 (bk' y)) := HSW.out.row.cell hyN
          have fb := HSW.out.row.free y
          have HY : Hid (y = L.getD j 0) := hy
          have HUY : Hid (adj u y = true) := huy
          have k1' : (0 : Int) ≤ (j : Int) := by omega
          have k2' : (j : Int) < (L.length : Int) := by omega
          have l1 : (0 : Int) ≤ (y : Int) := by omega
          have l2 : (y : Int) < (N : Int) := by omega
          clear hy hget hyL huy
          obtain ⟨z, hz⟩ : ∃ z, z = bk' y := ⟨_, rfl⟩
          rw [← hz] at cb
          have HZ : Hid (z = bk' y) := hz
          clear hz
          have stay : ∀ {c : Bool × Bool}, (y ∈ Q' ∨ (lst y = false ∧ opn y = false)) → ∀ t, t < j + 1 → L.getD t 0 ∈ Q' ∨ (lst (L.getD t 0) = false ∧ opn (L.getD t 0) = false) := fun {_} h t ht => by
            by_cases e : t = j
            · rw [e, ← HY.out]; exact h
            · exact HDN.out t (by omega)
          have STAY : Hid ((y ∈ Q' ∨ (lst y = false ∧ opn y = false)) → ∀ t, t < j + 1 → L.getD t 0 ∈ Q' ∨ (lst (L.getD t 0) = false ∧ opn (L.getD t 0) = false)) := fun h => stay (c := (true, true)) h
          clear stay
          by_cases hzn : z = -1
          · have kz : (z != -1) = false := by simp [hzn]
            have HBY : Hid (bk' y = -1) := by rw [← hzn, HZ.out]; exact rfl
            clear hzn
            have h2 := H2.out wr HSW.out.below y hyN
            cases hl : lst y with
            | true =>
              rw [hl] at h2
              have HC : Hid (Calls Tryz.prog F2 (#[.int .i64 (y : Int)] ++ c2) wr fun r w' => r = .returned (.bool true) ∧ Below wr.heap.size wr w') := h2
              have HLY : Hid (lst y = true) := hl
              clear h2 hl
              go_upto_region 13 with (first | (refine Calls.mono HC.out ?_; rintro r wa ⟨rfl, hba⟩) | go_in)
              have HSWa : Hid (SwI w wa gb N qo' qc' Q' bk') := HSW.out.next hba
              have cb2 : wa.cell? ⟨gb, y, none⟩ = some (.int .i64 (bk' y)) := HSWa.out.row.cell hyN
              have fb2 := HSWa.out.row.free y
              obtain ⟨W, hW, hWN, hWl⟩ := HBQ.out.back' hkQ hyN HBY.out
              rw [HQU.out] at hW
              have HW : Hid (Chain (updB bk' y u) y W) := hW
              have HWN : Hid (∀ x ∈ W, x < N) := hWN
              have hswb := HSWa.out.set hgb' y u
              have H58 : Hid (Calls Tryz.prog 77 #[sl gb N, .int .i64 (y : Int)] (wa.setCell ⟨gb, y, none⟩ (.int .i64 (u : Int))) fun r w' => ∃ po pc, r = .returned (.slice po W.length pc) ∧ w'.ownsRow (wa.setCell ⟨gb, y, none⟩ (.int .i64 (u : Int))).heap.size 3 1 (.slice po W.length pc) W.length (qv W) ∧ Below (wa.setCell ⟨gb, y, none⟩ (.int .i64 (u : Int))).heap.size (wa.setCell ⟨gb, y, none⟩ (.int .i64 (u : Int))) w') := goBack_call hswb.row hW hWN (by omega)
              have HSB : Hid (Below w.heap.size w (wa.setCell ⟨gb, y, none⟩ (.int .i64 (u : Int)))) := hswb.below
              clear cb fb cy hW hWN hswb hba
              go_wp2_with (first | (go_at_call 77; refine Calls.mono H58.out ?_; rintro r wd ⟨po, pc, rfl, hownd, hbd⟩) | go_in)
              go_ret
              refine ⟨Or.inr ⟨Q', bk', k, y, W, po, pc, rfl, ownsRow_mono hownd HSB.out.size, HBQ.out, hkQ, hyN, by rw [HQU.out]; exact HUY.out, HBY.out, HLY.out, by rw [HQU.out]; exact HW.out, HWN.out⟩, below_next HSB.out hbd⟩
            | false =>
              rw [hl] at h2
              have HC : Hid (Calls Tryz.prog F2 (#[.int .i64 (y : Int)] ++ c2) wr fun r w' => r = .returned (.bool false) ∧ Below wr.heap.size wr w') := h2
              have HLY : Hid (lst y = false) := hl
              clear h2 hl
              go_upto_region 15 with (first | (refine Calls.mono HC.out ?_; rintro r wa ⟨rfl, hba⟩) | go_in)
              have HSWa : Hid (SwI w wa gb N qo' qc' Q' bk') := HSW.out.next hba
              have HLIa : Hid (LiN wa gb (.slice qo' Q'.length qc') (some ⟨bL, 0, none⟩) L) := HLI.out.next hba
              have h1 := H1.out wa HSWa.out.below y hyN
              clear cb fb cy hba HSW HLI HC
              cases ho : opn y with
              | true =>
                rw [ho] at h1
                have HC : Hid (Calls Tryz.prog F1 (#[.int .i64 (y : Int)] ++ c1) wa fun r w' => r = .returned (.bool true) ∧ Below wa.heap.size wa w') := h1
                have HOY : Hid (opn y = true) := ho
                clear h1 ho
                go_upto_region 16 with (first | (refine Calls.mono HC.out ?_; rintro r wb ⟨rfl, hbb⟩) | go_in)
                have HSWb : Hid (SwI w wb gb N qo' qc' Q' bk') := HSWa.out.next hbb
                have HLIb : Hid (LiN wb gb (.slice qo' Q'.length qc') (some ⟨bL, 0, none⟩) L) := HLIa.out.next hbb
                have cb2 : wb.cell? ⟨gb, y, none⟩ = some (.int .i64 (bk' y)) := HSWb.out.row.cell hyN
                have fb2 := HSWb.out.row.free y
                clear hbb HSWa HLIa
                go_upto_region 17 with (fail)
                have hswc := HSWb.out.set hgb' y u
                have hlic : LiN (wb.setCell ⟨gb, y, none⟩ (.int .i64 (u : Int))) gb (.slice qo' Q'.length qc') (some ⟨bL, 0, none⟩) L := HLIb.out.set
                have hszc := hswc.below.size
                generalize wb.setCell ⟨gb, y, none⟩ (.int .i64 (u : Int)) = wc at hswc hlic hszc ⊢
                have HSWc : Hid (SwI w wc gb N qo' qc' Q' (updB bk' y u)) := hswc
                have HLIc : Hid (LiN wc gb (.slice qo' Q'.length qc') (some ⟨bL, 0, none⟩) L) := hlic
                clear cb2 fb2 hswc hlic HSWb HLIb
                go_wp2_with (first | (at_builtin; refine wpList_pushA (x := y) rfl _ _ rfl rfl rfl HSWc.out.own (by omega) hszc ?_; intro g1 c1' w2' hown1 hgr1 hat1) | go_in)
                have HSWd := HSWc.out.push hown1 hgr1 hat1
                have HLId := HLIc.out.push (n' := (Q' ++ [y]).length) (c' := c1') hgr1 hat1
                have hpb := HBQ.out.push hkQ hyN HBY.out HLY.out HOY.out (by rw [HQU.out]; exact HUY.out)
                rw [HQU.out] at hpb
                go_roundw
                case rel =>
                  refine ⟨Q' ++ [y], updB bk' y u, j + 1, some ⟨g1, 0, none⟩, c1', by simp, by go_num, by omega, hpb, by rw [getD_pushC hkQ]; exact HQU.out, by simp; omega, fun t ht => ?_, HSWd, HLId⟩
                  by_cases e : t = j
                  · left; rw [e, ← HY.out]; simp
                  · rcases HDN.out t (by omega) with h | h
                    · exact Or.inl (List.mem_append.2 (Or.inl h))
                    · exact Or.inr h
                case measure => simp [numOf]; omega
              | false =>
                rw [ho] at h1
                have HC : Hid (Calls Tryz.prog F1 (#[.int .i64 (y : Int)] ++ c1) wa fun r w' => r = .returned (.bool false) ∧ Below wa.heap.size wa w') := h1
                have HOY : Hid (opn y = false) := ho
                clear h1 ho
                go_wp2_with (first | (refine Calls.mono HC.out ?_; rintro r wb ⟨rfl, hbb⟩) | go_in)
                go_roundw
                case rel => exact ⟨Q', bk', j + 1, qo', qc', rfl, by go_num, by omega, HBQ.out, HQU.out, hkQ, STAY.out (Or.inr ⟨HLY.out, HOY.out⟩), HSWa.out.next hbb, HLIa.out.next hbb⟩
                case measure => simp [numOf]; omega
          · have kz : (z != -1) = true := by simpa using hzn
            have HMET : Hid (y ∈ Q') := by
              apply Classical.byContradiction
              intro hn
              exact hzn (HZ.out.trans ((HBQ.out.met y hyN).2 hn))
            clear hzn
            go_wp2
            go_roundw
            case rel => exact ⟨Q', bk', j + 1, qo', qc', rfl, by go_num, by omega, HBQ.out, HQU.out, hkQ, STAY.out (Or.inl HMET.out), HSW.out, HLI.out⟩
            case measure => simp [numOf]; omega
        · have k2' : ¬ (j : Int) < (L.length : Int) := by omega
          have hjL : j = L.length := by omega
          have HNX : Hid (Bq N adj opn lst a Q' bk' (k + 1)) := HBQ.out.next (fun y hy hya => by
            rw [HQU.out] at hya
            have hyL : y ∈ L := by rw [HL.out]; exact listN_mem.2 ⟨hy, hya⟩
            obtain ⟨t, ht, e⟩ := List.getElem_of_mem hyL
            have := HDN.out t (by omega)
            have e' : L.getD t 0 = y := by simp [List.getD, List.getElem?_eq_getElem ht, e]
            rw [e'] at this
            exact this)
          go_wp2
          go_roundw
          case rel => exact ⟨Q', bk', k + 1, qo', qc', rfl, by go_num, by omega, HNX.out, HSW.out⟩
          case measure => simp [numOf]; omega
    · have k2 : ¬ (k : Int) < (Q.length : Int) := by omega
      have hkl : k = Q.length := by omega
      have HX : Hid (Bq N adj opn lst a Q bk Q.length) := by
        have := HBQ.out
        rw [hkl] at this
        exact this
      clear hkl
      go_wp2
      go_ret
      exact ⟨Or.inl ⟨rfl, Q, bk, HX.out⟩, HSW.out.below⟩
end Go.Proofs.YtkkfjfphmlcieaaGreat
