/- placesIn: at which place each list names each. -/
import Derived.Test.YtmbnaegcichoeaaLikeM
import Derived.Test.YtmbnaegcichoeaaSearch
namespace Go.Proofs.Ytmbnaegcichoeaa
open Go.RowKit Go.Maps
attribute [local go_sem ↓] Go.wp_at_zero Go.wp_at_succ

/-- A table of numbers behind a slice of slices, its blocks in S. -/
def GridS (w : World) (S : Nat → Prop) (v : Value) (n : Nat) (C : Nat → Nat → Int) : Prop :=
  ∃ ao cap, v = .slice ao n cap ∧ ∀ i, i < n → ∃ b off vo vc, ao = some ⟨b, off, none⟩ ∧ S b ∧ w.cell? ⟨b, off + i, none⟩ = some (.slice vo n vc) ∧ ∀ j, j < n → ∃ b' off', vo = some ⟨b', off', none⟩ ∧ S b' ∧ w.cell? ⟨b', off' + j, none⟩ = some (.int .i64 (C i j))
theorem GridS.turns {M S : Nat → Prop} {w w' : World} {n : Nat} {v : Value} {C : Nat → Nat → Int} (h : GridS w S v n C) (ht : Turns M w w') (hm : ∀ k, M k → ¬ S k) : GridS w' S v n C := by
  obtain ⟨ao, cap, e, h⟩ := h
  refine ⟨ao, cap, e, fun i hi => ?_⟩
  obtain ⟨b, off, vo, vc, e1, h1, h2, h3⟩ := h i hi
  refine ⟨b, off, vo, vc, e1, h1, cell_turns h2 ht (fun hk => hm _ hk h1), fun j hj => ?_⟩
  obtain ⟨b', off', e2, h4, h5⟩ := h3 j hj
  exact ⟨b', off', e2, h4, cell_turns h5 ht (fun hk => hm _ hk h4)⟩
theorem GridS.form {w : World} {S : Nat → Prop} {n : Nat} {v : Value} {C : Nat → Nat → Int} (h : GridS w S v n C) : ∃ ao cap, v = .slice ao n cap := by
  obtain ⟨ao, cap, e, _⟩ := h
  exact ⟨ao, cap, e⟩
theorem GridI.gridS {w : World} {lo n : Nat} {v : Value} {C : Nat → Nat → Int} (h : GridI w lo v n C) : GridS w (fun k => k < lo) v n C := h
theorem GridS.mono {S S' : Nat → Prop} {w : World} {n : Nat} {v : Value} {C : Nat → Nat → Int} (h : GridS w S v n C) (hs : ∀ k, S k → S' k) : GridS w S' v n C := by
  obtain ⟨ao, cap, e, h⟩ := h
  refine ⟨ao, cap, e, fun i hi => ?_⟩
  obtain ⟨b, off, vo, vc, e1, h1, h2, h3⟩ := h i hi
  refine ⟨b, off, vo, vc, e1, hs _ h1, h2, fun j hj => ?_⟩
  obtain ⟨b', off', e2, h4, h5⟩ := h3 j hj
  exact ⟨b', off', e2, hs _ h4, h5⟩
theorem GridS.congr {S : Nat → Prop} {w : World} {n : Nat} {v : Value} {C C' : Nat → Nat → Int} (h : GridS w S v n C) (hs : ∀ i j, i < n → j < n → C i j = C' i j) : GridS w S v n C' := by
  obtain ⟨ao, cap, e, h⟩ := h
  refine ⟨ao, cap, e, fun i hi => ?_⟩
  obtain ⟨b, off, vo, vc, e1, h1, h2, h3⟩ := h i hi
  refine ⟨b, off, vo, vc, e1, h1, h2, fun j hj => ?_⟩
  obtain ⟨b', off', e2, h4, h5⟩ := h3 j hj
  exact ⟨b', off', e2, h4, by rw [h5, hs i j hi hj]⟩
theorem make22 (N : Nat) (hN : N ≤ 1000) (w : World) : (Instr.makeSlice 22 (.int .i64 (N : Int)) (.int .i64 (N : Int))).run Try.prog w = .ok (.slice (some ⟨w.heap.size, 0, none⟩) N N) (w.alloc (.cells (rep N (.slice none 0 0)) 27)) := by
  obtain ⟨i3, hi3, hy0, hy1, hy2⟩ := info_parts Try.info27
  have hr := run_make (P := Try.prog) w 22 27 i3 (.slice none 0 0) Try.underlying22 hi3 hy0 .i64 .i64 N N (by omega) (Int.le_refl _) (by rw [hy2]; omega) (by omega)
  simpa [hy1, Value.cells] using hr
/-- The table as it grows. -/
structure Pl (w : World) (p n k : Nat) (B : Nat → Nat) (C : Nat → Nat → Int) : Prop where
  top : RowV w p 27 n (fun i => if i < k then sl (B i) n else .slice none 0 0)
  row : ∀ i, i < k → RowV w (B i) 3 n (iv (C i))
  gt : ∀ i, i < k → p < B i
theorem Pl.turns {M : Nat → Prop} {w w' : World} {p n k : Nat} {B : Nat → Nat} {C : Nat → Nat → Int} (h : Pl w p n k B C) (ht : Turns M w w') (hm : ∀ x, M x → x ≠ p ∧ ∀ i, i < k → x ≠ B i) : Pl w' p n k B C :=
  ⟨h.top.turns ht (fun hk => (hm _ hk).1 rfl), fun i hi => (h.row i hi).turns ht (fun hk => (hm _ hk).2 i hi rfl), h.gt⟩
theorem Pl.grid {w : World} {p n : Nat} {B : Nat → Nat} {C : Nat → Nat → Int} (h : Pl w p n n B C) : GridS w (fun k => p ≤ k ∧ k < w.heap.size) (sl p n) n C := by
  refine ⟨_, _, rfl, fun i hi => ⟨p, 0, some ⟨B i, 0, none⟩, n, rfl, ⟨Nat.le_refl _, h.top.lt⟩, ?_, fun j hj => ⟨B i, 0, rfl, ⟨Nat.le_of_lt (h.gt i hi), (h.row i hi).lt⟩, ?_⟩⟩⟩
  · have := h.top.cell hi
    simp only [hi, if_true] at this
    rw [Nat.zero_add]; exact this
  · have := (h.row i hi).cell hj
    rw [Nat.zero_add]; exact this
/-- One row more. -/
theorem Pl.next {w w' : World} {p n k b : Nat} {B : Nat → Nat} {C : Nat → Nat → Int} (h : Pl w p n k B C) (hb : w.heap.size ≤ b) (ht : Turns (fun x => x = b) ((w.setCell ⟨p, k, none⟩ (sl b n)).alloc (Obj.cells (rep n (.int .i64 0)) 3)) w') (hr : RowV w' b 3 n (iv (C k))) : ∃ B', Pl w' p n (k + 1) B' C := by
  have hp := h.top.lt
  have t0 := h.top.set k (sl b n)
  have t1 := (t0.block (Below.heap_alloc _ (Obj.cells (rep n (.int .i64 0)) 3) _ t0.lt)).turns ht (fun e => by omega)
  refine ⟨fun i => if i = k then b else B i, t1.congr (fun j _ => ?_), fun i hi => ?_, fun i hi => ?_⟩
  · by_cases e : j = k
    · subst e; simp
    · by_cases e2 : j < k
      · simp [e, e2, show j < k + 1 by omega]
      · simp [e, e2, show ¬ j < k + 1 by omega]
  · by_cases e : i = k
    · subst e; simp only [if_true]; exact hr
    · simp only [e, if_false]
      have h1 := h.row i (by omega)
      have hl := h1.lt
      have h2 := h.gt i (by omega)
      have h3 := h1.turns (setCell_turns _ p k (sl b n)) (fun e => by omega)
      exact (h3.block (Below.heap_alloc _ _ _ h3.lt)).turns ht (fun e => by omega)
  · by_cases e : i = k
    · subst e; simp only [if_true]; omega
    · simp only [e, if_false]; exact h.gt i (by omega)

set_option maxRecDepth 4000 in
set_option maxHeartbeats 2000000 in
theorem placesIn_call {w : World} {v : Value} {ls : List (List Int)} {n : Nat} (h : RowsAt w v ls) (hn : ls.length = n) (hn1 : n ≤ 100) (hg : ∀ l ∈ ls, Nam n l) :
    Calls Try.prog 33 #[v] w fun e w' => ∃ v', e = .returned v' ∧ GridS w' (fun k => w.heap.size ≤ k ∧ k < w'.heap.size) v' n (fun j x => fillF (ls.getD j []) n x) ∧ Below w.heap.size w w' := by
  obtain ⟨ao, cap, hv, hcap, hbig, hrows⟩ := h
  rw [hn] at hv
  subst hv
  have HR : Hid (∀ i, i < n → ∃ b off lo lc, ao = some ⟨b, off, none⟩ ∧ w.cell? ⟨b, off + i, none⟩ = some (.slice lo n lc) ∧ ∀ j, j < n → ∃ b off, lo = some ⟨b, off, none⟩ ∧ w.cell? ⟨b, off + j, none⟩ = some (.int .i64 ((ls.getD i []).getD j 0))) := fun i hi => by
    obtain ⟨b, off, x, e, cx, hx⟩ := hrows i (by omega)
    obtain ⟨lo, lc, rfl, _, _, hc⟩ := hx
    have hlen := (hg ls[i] (List.getElem_mem (by omega))).len
    rw [hlen] at cx
    refine ⟨b, off, lo, lc, e, cx, fun j hj => ?_⟩
    obtain ⟨b', off', e', c'⟩ := hc j (by omega)
    exact ⟨b', off', e', by rw [c', getD_lt (l := ls) (by omega), getD_lt (by omega)]⟩
  have HNAM : Hid (∀ i, i < n → Nam n (ls.getD i [])) := fun i hi => by
    rw [getD_lt (l := ls) (by omega)]
    exact hg _ (List.getElem_mem (by omega))
  obtain ⟨C, hC⟩ : ∃ C : Nat → Nat → Int, C = fun j x => fillF (ls.getD j []) n x := ⟨_, rfl⟩
  rw [← hC]
  have HC : Hid (C = fun j x => fillF (ls.getD j []) n x) := hC
  have hmk := make22 n (by omega)
  have hmk2 := make27 n (by omega)
  clear hrows hg hn hcap hbig hC
  go_enter Try.func33, Try.ntmps33
  go_upto_region 2 with (fail)
  have hB0 := below_alloc (Below.refl _ w) (Obj.cells (rep n (.slice none 0 0)) 27)
  have htop : RowV (w.alloc (Obj.cells (rep n (.slice none 0 0)) 27)) w.heap.size 27 n (fun _ => .slice none 0 0) := rowV_rep (heap_alloc_new _ _)
  have hsz : (w.alloc (Obj.cells (rep n (.slice none 0 0)) 27)).heap.size = w.heap.size + 1 := by simp
  generalize w.alloc (Obj.cells (rep n (.slice none 0 0)) 27) = W1 at hB0 htop hsz ⊢
  clear hmk
  go_wp2
  go_loopw [13] (fun iv' wr => ∃ k : Nat, k ≤ n ∧ iv' = .int .i64 (k : Int) ∧ (∃ B, Pl wr w.heap.size n k B C) ∧ Turns (fun x => x = w.heap.size) W1 wr) (fun iv' _ => n - (numOf iv').toNat)
  case atStart => exact ⟨0, Nat.zero_le _, rfl, ⟨fun _ => 0, htop.congr (fun j _ => by simp), fun i hi => by omega, fun i hi => by omega⟩, Turns.refl _ _⟩
  case round =>
    obtain ⟨k, hk, rfl, ⟨B, hpl⟩, ht⟩ := hrel
    have hBr : Below w.heap.size w wr := Turns.below hB0 ht hB0.size (fun x hx => by rw [hx]; exact Nat.le_refl _)
    by_cases hlt : k < n
    · obtain ⟨b, off, lo, lc, rfl, cx, hcl⟩ := HR.out k hlt
      have cx1 := (hBr.cell (World.block_lt_of_cell? w _ cx)).trans cx
      have hnam := HNAM.out k hlt
      have hCk : ∀ x, C k x = fillF (ls.getD k []) n x := fun x => by rw [HC.out]
      generalize ls.getD k [] = l at hcl hnam hCk
      have HCL : Hid (∀ j, j < n → ∃ b off, lo = some ⟨b, off, none⟩ ∧ w.cell? ⟨b, off + j, none⟩ = some (.int .i64 (l.getD j 0))) := hcl
      have HPL : Hid (Pl wr w.heap.size n k B C) := hpl
      have HCK : Hid (∀ x, C k x = fillF l n x) := hCk
      have HN : Hid (Nam n l) := hnam
      have i1 : (0 : Int) ≤ (k : Int) := by omega
      have i2 : (k : Int) < (n : Int) := by omega
      have ff := hpl.top.free k
      have ct := hpl.top.cell hlt
      simp only [Nat.lt_irrefl, if_false] at ct
      have ct1 := all_alloc ct
      have ff1 := all_free (a := ⟨w.heap.size, k, none⟩) hpl.top.lt ff
      have hszr := hpl.top.lt
      clear hcl cx hCk hnam hpl ct ff
      go_upto_region 6 with (fail)
      clear cx1 ct1 ff1
      obtain ⟨bk, hbk⟩ : ∃ bk, bk = wr.heap.size := ⟨_, rfl⟩
      rw [← hbk]
      have hrow0 : RowV ((wr.setCell ⟨w.heap.size, k, none⟩ (sl bk n)).alloc (Obj.cells (rep n (.int .i64 0)) 3)) bk 3 n (iv (fillF l 0)) := by
        have hz : (wr.setCell ⟨w.heap.size, k, none⟩ (sl bk n)).heap.size = bk := by rw [hbk]; simp
        have := heap_alloc_new (wr.setCell ⟨w.heap.size, k, none⟩ (sl bk n)) (Obj.cells (rep n (.int .i64 0)) 3)
        rw [hz] at this
        exact rowV_rep this
      have hcell0 : ((wr.setCell ⟨w.heap.size, k, none⟩ (sl bk n)).alloc (Obj.cells (rep n (.int .i64 0)) 3)).cell? ⟨w.heap.size, k, none⟩ = some (sl bk n) := by
        have := (HPL.out.top.set k (sl bk n)).cell hlt
        simp only [if_true] at this
        exact all_alloc this _
      have hbel : Below w.heap.size w ((wr.setCell ⟨w.heap.size, k, none⟩ (sl bk n)).alloc (Obj.cells (rep n (.int .i64 0)) 3)) := below_alloc (hBr.setCell (p := ⟨w.heap.size, k, none⟩) (Nat.le_refl _) _) _
      have hT2 : Turns (fun x => x = w.heap.size) W1 ((wr.setCell ⟨w.heap.size, k, none⟩ (sl bk n)).alloc (Obj.cells (rep n (.int .i64 0)) 3)) := (ht.trans (setCell_turns _ _ _ _)).trans (alloc_turns _ _ _)
      have HNX : Hid (∀ w', Turns (fun x => x = bk) ((wr.setCell ⟨w.heap.size, k, none⟩ (sl bk n)).alloc (Obj.cells (rep n (.int .i64 0)) 3)) w' → RowV w' bk 3 n (iv (fillF l n)) → ∃ B', Pl w' w.heap.size n (k + 1) B' C) := fun w' ht' hr' => HPL.out.next (by omega) ht' (hr'.congr (fun j _ => by unfold iv; rw [HCK.out]))
      have hbk2 : W1.heap.size ≤ bk := by rw [hbk]; exact ht.size
      generalize ((wr.setCell ⟨w.heap.size, k, none⟩ (sl bk n)).alloc (Obj.cells (rep n (.int .i64 0)) 3)) = W2 at hrow0 hcell0 hbel hT2 HNX ⊢
      have HCELL : Hid (W2.cell? ⟨w.heap.size, k, none⟩ = some (sl bk n)) := hcell0
      have hwne : w.heap.size ≠ bk := by omega
      have HROW0 : Hid (RowV W2 bk 3 n (iv (fillF l 0))) := hrow0
      clear hbk HPL ht hcell0 hrow0
      go_wp2
      go_loopw [26] (fun iv' wr' => ∃ m : Nat, m ≤ n ∧ iv' = .int .i64 (m : Int) ∧ RowV wr' bk 3 n (iv (fillF l m)) ∧ Turns (fun x => x = bk) W2 wr') (fun iv' _ => n - (numOf iv').toNat)
      case atStart => exact ⟨0, Nat.zero_le _, rfl, HROW0.out, Turns.refl _ _⟩
      case round =>
        clear HROW0
        obtain ⟨m, hm, rfl, hrow, ht2⟩ := hrel
        have hB2 : Below w.heap.size w wr := Turns.below hbel ht2 hbel.size (fun x hx => by rw [hx]; have := hB0.size; omega)
        by_cases hltm : m < n
        · obtain ⟨b', off', rfl, cy⟩ := HCL.out m hltm
          have cy1 := (hB2.cell (World.block_lt_of_cell? w _ cy)).trans cy
          obtain ⟨r1, r2⟩ := HN.out.rng m hltm
          have cp := cell_turns HCELL.out ht2 (fun e => hwne e)
          obtain ⟨x, hx⟩ : ∃ x : Nat, l.getD m 0 = (x : Int) := ⟨(l.getD m 0).toNat, by omega⟩
          rw [hx] at cy1 r1 r2
          have hxn : x < n := by omega
          have cr := hrow.cell hxn
          have fr := hrow.free x
          unfold iv at cr
          generalize fillF l m x = old at cr
          have HR2 : Hid (RowV (wr.setCell ⟨bk, x, none⟩ (.int .i64 (m : Int))) bk 3 n (iv (fillF l (m + 1)))) := (hrow.set x (.int .i64 (m : Int))).congr (fun j _ => by
            unfold iv
            show _ = Value.int .i64 (if (j : Int) = l.getD m 0 then (m : Int) else fillF l m j)
            rw [hx]
            by_cases e : j = x
            · subst e; simp
            · have : ¬ (j : Int) = (x : Int) := by omega
              simp [e, this])
          have ht3 := ht2.trans (setCell_turns wr bk x (.int .i64 (m : Int)))
          have j1 : (0 : Int) ≤ (m : Int) := by omega
          have j2 : (m : Int) < (n : Int) := by omega
          clear hrow cy hx
          go_wp2
          go_roundw
          case rel => exact ⟨m + 1, by omega, by go_num, HR2.out, ht3⟩
          case measure => simp [numOf]; omega
        · have j2 : ¬ (m : Int) < (n : Int) := by omega
          have hmn : m = n := by omega
          have HR2 : Hid (∃ B', Pl wr w.heap.size n (k + 1) B' C) := HNX.out wr ht2 (by rw [← hmn]; exact (by subst hmn; exact hrow))
          have ht3 : Turns (fun x => x = w.heap.size) W1 wr := hT2.next ht2 (fun x hx e => by omega)
          subst hmn
          clear hrow HNX
          go_wp2
          go_roundw
          case rel => exact ⟨k + 1, by omega, by go_num, HR2.out, ht3⟩
          case measure => simp [numOf]; omega
    · have i2 : ¬ (k : Int) < (n : Int) := by omega
      have hkn : k = n := by omega
      subst hkn
      go_wp2
      go_ret
      refine ⟨_, rfl, GridS.mono hpl.grid (fun x hx => hx), hBr⟩
end Go.Proofs.Ytmbnaegcichoeaa
