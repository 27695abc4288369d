/- Behind: the dart that follows one, as the document says it. -/
import Derived.Test.YtekokjechbibdaaDoorDartM
import Derived.Test.YtekokjechbibdaaDoorRoundR
namespace Go.Proofs.YtekokjechbibdaaDoor
set_option maxRecDepth 8000
open Go.RowKit Go.Maps
attribute [local go_sem ↓] Go.wp_at_zero Go.wp_at_succ
theorem NumO.numF {w : World} {xo : Option Addr} {l : List Nat} (h : NumO w xo l) : NumF w xo l.length (fun j => ((l.getD j 0 : Nat) : Int)) := fun j hj => by
  obtain ⟨b, off, e, c⟩ := h j l[j] (List.getElem?_eq_getElem hj)
  refine ⟨b, off, e, ?_⟩
  show _ = some (Value.int .i64 ((l.getD j 0 : Nat) : Int))
  rw [c, List.getD_eq_getElem?_getD, List.getElem?_eq_getElem hj]
  rfl
theorem idx_of {l : List Nat} (hn : l.Nodup) {a m : Nat} (ha : a ∈ l) (h1 : m ≤ l.length) (h2 : ∀ j, j < m → ((l.getD j 0 : Nat) : Int) ≠ (a : Int)) (h3 : m < l.length → ((l.getD m 0 : Nat) : Int) = (a : Int)) : m = l.idxOf a := by
  have hi := List.idxOf_lt_length_of_mem ha
  have hg := List.getElem_idxOf hi
  have gd : ∀ j (hj : j < l.length), l.getD j 0 = l[j] := fun j hj => by rw [List.getD_eq_getElem?_getD, List.getElem?_eq_getElem hj]; rfl
  rcases Nat.lt_or_ge (l.idxOf a) m with h | h
  · have := h2 _ h
    rw [gd _ hi, hg] at this
    exact absurd rfl this
  · have hm : m < l.length := by omega
    have := h3 hm
    rw [gd m hm] at this
    exact nodup_get hn hm hi (by rw [hg]; omega)
set_option maxHeartbeats 2000000 in
theorem behind_call {w : World} {x : Value} {rs : List (List Nat)} {a b : Nat} (hx : RowsAt w x (castR rs)) (hr : Rot rs) (hl : rs.length ≤ 100) (hd : IsD rs (a, b)) :
    Calls Tryd.prog 35 #[x, .agg #[.int .i64 (a : Int), .int .i64 (b : Int)]] w fun e w' => e = .returned (.agg #[.int .i64 ((nxtD rs (a, b)).1 : Int), .int .i64 ((nxtD rs (a, b)).2 : Int)]) ∧ Below w.heap.size w w' := by
  obtain ⟨ao, cap, rfl, hrow⟩ := rowsAt_castR hx
  obtain ⟨h1, h2, h3⟩ := hd
  simp only at h1 h2 h3
  have hab := hr.sym a b h1 h2 h3
  obtain ⟨l, hlb⟩ : ∃ l, rs[b]? = some l := ⟨rs[b], List.getElem?_eq_getElem h2⟩
  have hge : rs.getD b [] = l := by rw [List.getD_eq_getElem?_getD, hlb]; rfl
  obtain ⟨g, off, xo, xc, rfl, cx, hnum⟩ := hrow b l hlb
  rw [hge] at hab
  have hnd : l.Nodup := hr.nd l (List.mem_of_getElem? hlb)
  have hll : l.length ≤ 100 := nodupN_len hnd (fun x hx => by have := hr.lt l (List.mem_of_getElem? hlb) x hx; omega)
  have hnx : nxtD rs (a, b) = (b, l.getD ((l.idxOf a + 1) % l.length) 0) := by
    unfold nxtD nxtL
    simp only [hge]
  rw [hnx]
  simp only
  have hi := List.idxOf_lt_length_of_mem hab
  have C29 : Hid (∀ A, Below w.heap.size w A → Calls Tryd.prog 29 #[.slice xo l.length xc, .int .i64 (a : Int)] A fun e w' => e = .returned (.int .i64 (l.idxOf a : Int)) ∧ w' = A) := fun A hA => (rank_call (hnum.below hA).numF (by omega) (a : Int)).mono fun e w' hh => by
    obtain ⟨⟨m, e1, e2, e3, e4⟩, e5⟩ := hh
    rw [idx_of hnd hab e2 e3 e4] at e1
    exact ⟨e1, e5⟩
  obtain ⟨i', hi'⟩ : ∃ i', i' = (l.idxOf a + 1) % l.length := ⟨_, rfl⟩
  have hil : i' < l.length := by rw [hi']; exact Nat.mod_lt _ (by omega)
  rw [← hi']
  obtain ⟨gx, offx, hxo, ci⟩ := hnum i' (l.getD i' 0) (by rw [List.getD_eq_getElem?_getD, List.getElem?_eq_getElem hil]; rfl)
  subst hxo
  have HI : Hid (i' = (l.idxOf a + 1) % l.length) := hi'
  have HCI : Hid (∀ A, Below w.heap.size w A → A.cell? ⟨gx, offx + i', none⟩ = some (.int .i64 (l.getD i' 0 : Int)) ∧ A.cell? ⟨g, off + b, none⟩ = some (.slice (some ⟨gx, offx, none⟩) l.length xc)) := fun A hA => ⟨(hA.cell (World.block_lt_of_cell? w _ ci)).trans ci, (hA.cell (World.block_lt_of_cell? w _ cx)).trans cx⟩
  generalize l.getD i' 0 = c at *
  obtain ⟨ix, hix⟩ : ∃ ix, ix = l.idxOf a := ⟨_, rfl⟩
  rw [← hix] at C29 hi HI
  obtain ⟨len, hlen⟩ : ∃ n, n = l.length := ⟨_, rfl⟩
  rw [← hlen] at C29 hi HI HCI hll hil
  obtain ⟨rn, hrn⟩ : ∃ n, n = rs.length := ⟨_, rfl⟩
  rw [← hrn] at h2 hl ⊢
  clear hrow hlb hge cx hnum hab hnd hnx ci hi' hix hlen hx h1 h3 hrn
  have i1 : (0 : Int) ≤ (b : Int) := by omega
  have i2 : (b : Int) < (rn : Int) := by omega
  go_enter Tryd.func35, Tryd.ntmps35
  go_upto_region 1 with (fail)
  have x3 : Two ((w.alloc (Obj.cells #[.int .i64 (a : Int), .int .i64 (b : Int)] 49)).alloc (Obj.cells #[.int .i64 0, .int .i64 0] 49)) w.heap.size (.int .i64 (a : Int)) (.int .i64 (b : Int)) 49 := two_alloc (two_new _ _ _ _) _
  have x4 : Two ((w.alloc (Obj.cells #[.int .i64 (a : Int), .int .i64 (b : Int)] 49)).alloc (Obj.cells #[.int .i64 0, .int .i64 0] 49)) (w.heap.size + 1) (.int .i64 0) (.int .i64 0) 49 := two_nxt _ _ _ _ _
  have hB2 : Below w.heap.size w ((w.alloc (Obj.cells #[.int .i64 (a : Int), .int .i64 (b : Int)] 49)).alloc (Obj.cells #[.int .i64 0, .int .i64 0] 49)) := below_alloc (below_alloc (Below.refl _ w) _) _
  obtain ⟨q, hq⟩ : ∃ q, q = w.heap.size := ⟨_, rfl⟩
  rw [← hq] at x3 x4 ⊢
  generalize (w.alloc (Obj.cells #[.int .i64 (a : Int), .int .i64 (b : Int)] 49)).alloc (Obj.cells #[.int .i64 0, .int .i64 0] 49) = W2 at *
  have HB2 : Hid (Below w.heap.size w W2 ∧ Two W2 (q + 1) (.int .i64 0) (.int .i64 0) 49 ∧ w.heap.size = q ∧ Two W2 q (.int .i64 (a : Int)) (.int .i64 (b : Int)) 49) := ⟨hB2, x4, hq.symm, x3⟩
  obtain ⟨c0, c1⟩ := cell_two x3
  obtain ⟨d1, d0⟩ := HCI.out W2 hB2
  have C29' : Hid (Calls Tryd.prog 29 #[.slice (some ⟨gx, offx, none⟩) len xc, .int .i64 (a : Int)] W2 fun e w' => e = .returned (.int .i64 (ix : Int)) ∧ w' = W2) := C29.out W2 hB2
  clear hq x3 x4 hB2 C29
  have g0 := cell_growD c0
  have g1 := cell_growD c1
  have g2 := cell_growD d1
  have r1 : (0 : Int) ≤ (i' : Int) := by omega
  have r2 : (i' : Int) < (len : Int) := by omega
  go_upto_region 3 with (first | (go_at_call 29; refine Calls.mono C29'.out ?_; rintro e w3 ⟨rfl, hw3⟩; have hw3' := hw3.symm; clear hw3; subst hw3') | fail)
  by_cases hw : ix + 1 = len
  · have e0 : i' = 0 := by rw [HI.out, hw, Nat.mod_self]
    subst e0
    simp only [Nat.add_zero] at g2
    have q1 : ((ix : Int) + 1 == (len : Int)) = true := by simp; omega
    have q2 : (ix : Int) + 1 = (len : Int) := by omega
    clear hw HI
    go_upto_region 5 with (fail)
    clear c0 c1 d0 d1
    refine wp_region_tailT 7 (by kernel_rfl) (by kernel_rfl) (by kernel_rfl) (by decide) ?_
    simp only [List.take_succ_cons, List.take_zero, List.drop_succ_cons, List.drop_zero]
    repeat (quiet_step (fail))
    refine wpQuiet_nil ?_
    rintro _ ⟨gp, rfl⟩
    have hB8 := growD_below W2 gp
    clear g0 g1 g2
    generalize growD W2 gp = w8 at *
    have y5 := two_next HB2.out.2.1 hB8
    obtain ⟨k0, k1⟩ := cell_two y5
    have f0 := box_free y5 0
    have z6 := box_set y5 0 (.int .i64 (b : Int))
    have k2 := box_cell z6 (i := 1) rfl
    have f2 := box_free z6 1
    have y7 := two_setN (x' := .int .i64 (b : Int)) (y' := .int .i64 (c : Int)) y5
    obtain ⟨l0, l1⟩ := cell_two y7
    have HB8 : Hid (Below w.heap.size w w8) := below_next HB2.out.1 hB8
    clear hB8 y5 z6 y7
    go_wp2
    refine bodyPost_ret (v := .agg #[.int .i64 (b : Int), .int .i64 (c : Int)]) ?_ rfl ?_
    · simp [results, Tryd.results35, go_sem, l0, l1]
    · have hq1 : w.heap.size ≤ q + 1 := by have := HB2.out.2.2.1; omega
      exact ⟨rfl, (HB8.out.setCell hq1 _).setCell hq1 _⟩
  · have e0 : i' = ix + 1 := by rw [HI.out, Nat.mod_eq_of_lt (by omega)]
    subst e0
    have q1 : ((ix : Int) + 1 == (len : Int)) = false := by simp; omega
    have q2 : ¬ (ix : Int) + 1 = (len : Int) := by omega
    have q3 : ((ix : Int) + 1).toNat = ix + 1 := by omega
    have q4 : (0 : Int) ≤ (ix : Int) + 1 := by omega
    have q5 : (ix : Int) + 1 < (len : Int) := by omega
    clear hw HI
    go_upto_region 5 with (fail)
    clear c0 c1 d0 d1
    refine wp_region_tailT 7 (by kernel_rfl) (by kernel_rfl) (by kernel_rfl) (by decide) ?_
    simp only [List.take_succ_cons, List.take_zero, List.drop_succ_cons, List.drop_zero]
    repeat (quiet_step (fail))
    refine wpQuiet_nil ?_
    rintro _ ⟨gp, rfl⟩
    have hB8 := growD_below W2 gp
    clear g0 g1 g2
    generalize growD W2 gp = w8 at *
    have y5 := two_next HB2.out.2.1 hB8
    obtain ⟨k0, k1⟩ := cell_two y5
    have f0 := box_free y5 0
    have z6 := box_set y5 0 (.int .i64 (b : Int))
    have k2 := box_cell z6 (i := 1) rfl
    have f2 := box_free z6 1
    have y7 := two_setN (x' := .int .i64 (b : Int)) (y' := .int .i64 (c : Int)) y5
    obtain ⟨l0, l1⟩ := cell_two y7
    have HB8 : Hid (Below w.heap.size w w8) := below_next HB2.out.1 hB8
    clear hB8 y5 z6 y7
    go_wp2
    refine bodyPost_ret (v := .agg #[.int .i64 (b : Int), .int .i64 (c : Int)]) ?_ rfl ?_
    · simp [results, Tryd.results35, go_sem, l0, l1]
    · have hq1 : w.heap.size ≤ q + 1 := by have := HB2.out.2.2.1; omega
      exact ⟨rfl, (HB8.out.setCell hq1 _).setCell hq1 _⟩
end Go.Proofs.YtekokjechbibdaaDoor
