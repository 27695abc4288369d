/- The deal in memory, and its small functions. -/
import Derived.Test.YtmbnaegcichoeaaKit
import Derived.Test.YtmbnaegcichoeaaKuhnM
namespace Go.Proofs.Ytmbnaegcichoeaa
open Go.RowKit Go.Maps
attribute [local go_sem ↓] Go.wp_at_zero Go.wp_at_succ

/-- A table of numbers behind a slice of slices; its blocks lie below lo. -/
def GridI (w : World) (lo : Nat) (v : Value) (n : Nat) (C : Nat → Nat → Int) : Prop :=
  ∃ ao cap, v = .slice ao n cap ∧ ∀ i, i < n → ∃ b off vo vc, ao = some ⟨b, off, none⟩ ∧ b < lo ∧ w.cell? ⟨b, off + i, none⟩ = some (.slice vo n vc) ∧ ∀ j, j < n → ∃ b' off', vo = some ⟨b', off', none⟩ ∧ b' < lo ∧ w.cell? ⟨b', off' + j, none⟩ = some (.int .i64 (C i j))
theorem GridI.turns {M : Nat → Prop} {w w' : World} {lo n : Nat} {v : Value} {C : Nat → Nat → Int} (h : GridI w lo v n C) (ht : Turns M w w') (hm : ∀ k, M k → lo ≤ k) : GridI w' lo v n C := by
  obtain ⟨ao, cap, e, h⟩ := h
  refine ⟨ao, cap, e, fun i hi => ?_⟩
  obtain ⟨b, off, vo, vc, e1, h1, h2, h3⟩ := h i hi
  refine ⟨b, off, vo, vc, e1, h1, cell_turns h2 ht (fun hk => by have := hm _ hk; simp at this; omega), fun j hj => ?_⟩
  obtain ⟨b', off', e2, h4, h5⟩ := h3 j hj
  exact ⟨b', off', e2, h4, cell_turns h5 ht (fun hk => by have := hm _ hk; simp at this; omega)⟩
theorem GridI.form {w : World} {lo n : Nat} {v : Value} {C : Nat → Nat → Int} (h : GridI w lo v n C) : ∃ ao cap, v = .slice ao n cap := by
  obtain ⟨ao, cap, e, _⟩ := h
  exact ⟨ao, cap, e⟩
/-- Where a deal lies. -/
structure Dc where
  (bp br bc bt bb lo n : Nat)
  v : Value
  C : Nat → Nat → Int
def iv (f : Nat → Int) : Nat → Value := fun i => .int .i64 (f i)
/-- A deal: the rows' numbers, the columns', whom each row has, who has each column. -/
structure DS (c : Dc) (w : World) (r u : Nat → Int) (tk ow : Nat → Int) : Prop where
  box : Box w c.bp #[c.v, sl c.br c.n, sl c.bc c.n, sl c.bt c.n, sl c.bb c.n] 46
  rows : RowV w c.br 3 c.n (iv r)
  cols : RowV w c.bc 3 c.n (iv u)
  tos : RowV w c.bt 3 c.n (iv tk)
  bys : RowV w c.bb 3 c.n (iv ow)
  grid : GridI w c.lo c.v c.n c.C
  ge : c.lo ≤ c.bp ∧ c.lo ≤ c.br ∧ c.lo ≤ c.bc ∧ c.lo ≤ c.bt ∧ c.lo ≤ c.bb
  ne : c.bp ≠ c.br ∧ c.bp ≠ c.bc ∧ c.bp ≠ c.bt ∧ c.bp ≠ c.bb ∧ c.br ≠ c.bc ∧ c.br ≠ c.bt ∧ c.br ≠ c.bb ∧ c.bc ≠ c.bt ∧ c.bc ≠ c.bb ∧ c.bt ≠ c.bb
section
variable {c : Dc} {w w' : World} {r u tk ow : Nat → Int}
def Dc.own (c : Dc) (k : Nat) : Prop := k = c.bp ∨ k = c.br ∨ k = c.bc ∨ k = c.bt ∨ k = c.bb
theorem DS.turns {M : Nat → Prop} (h : DS c w r u tk ow) (ht : Turns M w w') (hm : ∀ k, M k → c.lo ≤ k ∧ ¬ c.own k) : DS c w' r u tk ow where
  box := box_turns h.box ht (fun hk => (hm _ hk).2 (Or.inl rfl))
  rows := h.rows.turns ht (fun hk => (hm _ hk).2 (Or.inr (Or.inl rfl)))
  cols := h.cols.turns ht (fun hk => (hm _ hk).2 (Or.inr (Or.inr (Or.inl rfl))))
  tos := h.tos.turns ht (fun hk => (hm _ hk).2 (Or.inr (Or.inr (Or.inr (Or.inl rfl)))))
  bys := h.bys.turns ht (fun hk => (hm _ hk).2 (Or.inr (Or.inr (Or.inr (Or.inr rfl)))))
  grid := h.grid.turns ht (fun k hk => (hm k hk).1)
  ge := h.ge
  ne := h.ne
theorem DS.below (h : DS c w r u tk ow) (hb : Below w.heap.size w w') : DS c w' r u tk ow := h.turns (M := fun _ => False) (Turns.of_below hb _) (fun _ h => h.elim)
theorem DS.lt (h : DS c w r u tk ow) {k : Nat} (hk : c.own k) : k < w.heap.size := by
  rcases hk with rfl | rfl | rfl | rfl | rfl
  · exact (Array.getElem?_eq_some_iff.1 h.box).1
  · exact h.rows.lt
  · exact h.cols.lt
  · exact h.tos.lt
  · exact h.bys.lt
theorem DS.cellB (h : DS c w r u tk ow) : w.cell? ⟨c.bp, 0, none⟩ = some c.v ∧ w.cell? ⟨c.bp, 1, none⟩ = some (sl c.br c.n) ∧ w.cell? ⟨c.bp, 2, none⟩ = some (sl c.bc c.n) ∧ w.cell? ⟨c.bp, 3, none⟩ = some (sl c.bt c.n) ∧ w.cell? ⟨c.bp, 4, none⟩ = some (sl c.bb c.n) :=
  ⟨box_cell h.box rfl, box_cell h.box rfl, box_cell h.box rfl, box_cell h.box rfl, box_cell h.box rfl⟩
end

set_option maxRecDepth 4000 in
set_option maxHeartbeats 1000000 in
theorem rest_call {c : Dc} {w : World} {r u tk ow : Nat → Int} (h : DS c w r u tk ow) {i j : Nat} (hi : i < c.n) (hj : j < c.n) (h1 : -10000000 ≤ c.C i j ∧ c.C i j ≤ 10000000) (h2 : -10000000 ≤ r i ∧ r i ≤ 10000000) (h3 : -10000000 ≤ u j ∧ u j ≤ 10000000) :
    Calls Try.prog 35 #[ptr c.bp, .int .i64 (i : Int), .int .i64 (j : Int)] w fun e w' => e = .returned (.int .i64 (c.C i j - r i - u j)) ∧ ∃ m, w' = w.drewN m := by
  obtain ⟨c0, c1, c2, _, _⟩ := h.cellB
  have cr := h.rows.cell hi
  have cu := h.cols.cell hj
  obtain ⟨ao, cap, ev, hg⟩ := h.grid
  rw [ev] at c0
  obtain ⟨b, off, vo, vc, e1, _, g1, hg2⟩ := hg i hi
  subst e1
  obtain ⟨b', off', e2, _, g2⟩ := hg2 j hj
  subst e2
  unfold iv at cr cu
  generalize c.C i j = x at h1 g2 ⊢
  generalize r i = y at h2 cr ⊢
  generalize u j = z at h3 cu ⊢
  have j1 : (0 : Int) ≤ (i : Int) := by omega
  have j2 : (i : Int) < (c.n : Int) := by omega
  have j3 : (0 : Int) ≤ (j : Int) := by omega
  have j4 : (j : Int) < (c.n : Int) := by omega
  have k1 : IntKind.i64.wrap (x - y) = x - y := by rw [IntKind.wrap_i64]; omega
  have k2 : IntKind.i64.wrap (x - y - z) = x - y - z := by rw [IntKind.wrap_i64]; omega
  clear h hg hg2 ev hi hj
  go_enter Try.func35, Try.ntmps35
  go_upto_region 1 with (fail)
  go_quiet (fail)
  go_wp2
  go_ret
  exact ⟨rfl, _, rfl⟩
/-- Where a search lies. -/
structure Sc where
  (bs bf bg n : Nat)
structure SS (c : Sc) (w : World) (dv : Value) (fa fr : Nat → Int) : Prop where
  box : Box w c.bs #[sl c.bf c.n, sl c.bg c.n, dv] 54
  far : RowV w c.bf 3 c.n (iv fa)
  frm : RowV w c.bg 3 c.n (iv fr)
  ne : c.bs ≠ c.bf ∧ c.bs ≠ c.bg ∧ c.bf ≠ c.bg
def Sc.own (c : Sc) (k : Nat) : Prop := k = c.bs ∨ k = c.bf ∨ k = c.bg
section
variable {c : Sc} {w w' : World} {dv : Value} {fa fr : Nat → Int}
theorem SS.turns {M : Nat → Prop} (h : SS c w dv fa fr) (ht : Turns M w w') (hm : ∀ k, M k → ¬ c.own k) : SS c w' dv fa fr where
  box := box_turns h.box ht (fun hk => hm _ hk (Or.inl rfl))
  far := h.far.turns ht (fun hk => hm _ hk (Or.inr (Or.inl rfl)))
  frm := h.frm.turns ht (fun hk => hm _ hk (Or.inr (Or.inr rfl)))
  ne := h.ne
theorem SS.below (h : SS c w dv fa fr) (hb : Below w.heap.size w w') : SS c w' dv fa fr := h.turns (M := fun _ => False) (Turns.of_below hb _) (fun _ h => h.elim)
theorem SS.lt (h : SS c w dv fa fr) {k : Nat} (hk : c.own k) : k < w.heap.size := by
  rcases hk with rfl | rfl | rfl
  · exact (Array.getElem?_eq_some_iff.1 h.box).1
  · exact h.far.lt
  · exact h.frm.lt
theorem SS.cellB (h : SS c w dv fa fr) : w.cell? ⟨c.bs, 0, none⟩ = some (sl c.bf c.n) ∧ w.cell? ⟨c.bs, 1, none⟩ = some (sl c.bg c.n) ∧ w.cell? ⟨c.bs, 2, none⟩ = some dv :=
  ⟨box_cell h.box rfl, box_cell h.box rfl, box_cell h.box rfl⟩
end
def bv (f : Nat → Bool) : Nat → Value := fun i => .bool (f i)

set_option maxRecDepth 4000 in
set_option maxHeartbeats 2000000 in
theorem nearest_call {c : Sc} {w : World} {dv : Value} {fa fr : Nat → Int} {bo : Nat} {op : Nat → Bool} (h : SS c w dv fa fr) (ho : RowV w bo 4 c.n (bv op)) (hn : c.n ≤ 1000) {j0 : Nat} (hj0 : j0 < c.n) (hop : op j0 = true) :
    Calls Try.prog 37 #[ptr c.bs, sl bo c.n] w fun e w' => ∃ m : Nat, e = .returned (.int .i64 (m : Int)) ∧ m < c.n ∧ op m = true ∧ (∀ j, j < c.n → op j = true → fa m ≤ fa j) ∧ Below w.heap.size w w' := by
  have HS : Hid (SS c w dv fa fr) := h
  have HO : Hid (RowV w bo 4 c.n (bv op)) := ho
  have HJ : Hid (op j0 = true) := hop
  clear h ho hop
  go_enter Try.func37, Try.ntmps37
  go_wp2
  go_loopw [5, 9] (fun bvv i wr => ∃ k : Nat, k ≤ c.n ∧ i = .int .i64 (k : Int) ∧ ((bvv = .int .i64 (-1) ∧ ∀ j, j < k → op j = false) ∨ (∃ m : Nat, m < k ∧ bvv = .int .i64 (m : Int) ∧ op m = true ∧ ∀ j, j < k → op j = true → fa m ≤ fa j)) ∧ Below w.heap.size w wr) (fun _ i _ => c.n - (numOf i).toNat)
  case atStart => exact ⟨0, Nat.zero_le _, rfl, Or.inl ⟨rfl, fun j h => by omega⟩, Below.refl _ _⟩
  case round =>
    obtain ⟨k, hk, rfl, hbest, hB⟩ := hrel
    by_cases hlt : k < c.n
    · have i2 : (k : Int) < (c.n : Int) := by omega
      have i1 : (0 : Int) ≤ (k : Int) := by omega
      have hss := SS.below HS.out hB
      have hoo := RowV.block HO.out (hB.block _ (RowV.lt HO.out))
      obtain ⟨c0, _, _⟩ := hss.cellB
      have ck := hss.far.cell hlt
      have cok := hoo.cell hlt
      unfold iv at ck
      unfold bv at cok
      cases hopk : op k with
      | false =>
        rw [hopk] at cok
        have HB : Hid ((u5 = .int .i64 (-1) ∧ ∀ j, j < k + 1 → op j = false) ∨ (∃ m : Nat, m < k + 1 ∧ u5 = .int .i64 (m : Int) ∧ op m = true ∧ ∀ j, j < k + 1 → op j = true → fa m ≤ fa j)) := by
          rcases hbest with ⟨e, h1⟩ | ⟨m, h1, e, h2, h3⟩
          · refine Or.inl ⟨e, fun j hj => ?_⟩
            by_cases hjk : j = k
            · rw [hjk]; exact hopk
            · exact h1 j (by omega)
          · refine Or.inr ⟨m, by omega, e, h2, fun j hj hoj => ?_⟩
            by_cases hjk : j = k
            · rw [hjk, hopk] at hoj; cases hoj
            · exact h3 j (by omega) hoj
        clear hbest hss hoo hopk
        go_upto_region 5 with (fail)
        go_quiet (fail)
        go_wp2
        go_roundw
        case rel => exact ⟨k + 1, by omega, by go_num, HB.out, below_drewN hB _⟩
        case measure => simp [numOf]; omega
      | true =>
        rw [hopk] at cok
        rcases hbest with ⟨rfl, h1⟩ | ⟨m, h1, rfl, h2, h3⟩
        · have HB : Hid (∀ j, j < k + 1 → op j = true → fa k ≤ fa j) := fun j hj hoj => by
            by_cases hjk : j = k
            · rw [hjk]; exact Int.le_refl _
            · rw [h1 j (by omega)] at hoj; cases hoj
          have HO1 : Hid (op k = true) := hopk
          clear hss hoo hopk h1
          go_upto_region 5 with (fail)
          go_quiet (fail)
          go_wp2
          go_roundw
          case rel => exact ⟨k + 1, by omega, by go_num, Or.inr ⟨k, by omega, rfl, HO1.out, HB.out⟩, below_drewN hB _⟩
          case measure => simp [numOf]; omega
        · have cm := hss.far.cell (show m < c.n by omega)
          unfold iv at cm
          have j1 : (0 : Int) ≤ (m : Int) := by omega
          have j2 : (m : Int) < (c.n : Int) := by omega
          have j3 : ((m : Int) == -1) = false := by rw [beq_eq_false_iff_ne]; omega
          have HO1 : Hid (op k = true) := hopk
          have HO2 : Hid (op m = true) := h2
          have H3 : Hid (∀ j, j < k → op j = true → fa m ≤ fa j) := h3
          clear hss hoo hopk h2 h3
          by_cases hf : fa k < fa m
          · have HB : Hid (∀ j, j < k + 1 → op j = true → fa k ≤ fa j) := fun j hj hoj => by
              by_cases hjk : j = k
              · rw [hjk]; exact Int.le_refl _
              · have := H3.out j (by omega) hoj; omega
            clear H3
            go_upto_region 5 with (fail)
            go_quiet (fail)
            go_wp2
            go_roundw
            case rel => exact ⟨k + 1, by omega, by go_num, Or.inr ⟨k, by omega, rfl, HO1.out, HB.out⟩, below_drewN hB _⟩
            case measure => simp [numOf]; omega
          · have HB : Hid (∀ j, j < k + 1 → op j = true → fa m ≤ fa j) := fun j hj hoj => by
              by_cases hjk : j = k
              · rw [hjk]; omega
              · exact H3.out j (by omega) hoj
            clear H3
            go_upto_region 5 with (fail)
            go_quiet (fail)
            go_wp2
            go_roundw
            case rel => exact ⟨k + 1, by omega, by go_num, Or.inr ⟨m, by omega, rfl, HO2.out, HB.out⟩, below_drewN hB _⟩
            case measure => simp [numOf]; omega
    · have i2 : ¬ (k : Int) < (c.n : Int) := by omega
      have hkn : k = c.n := by omega
      rcases hbest with ⟨rfl, h1⟩ | ⟨m, h1, rfl, h2, h3⟩
      · have := h1 j0 (by omega)
        rw [HJ.out] at this; cases this
      · have H2 : Hid (op m = true ∧ ∀ j, j < c.n → op j = true → fa m ≤ fa j) := ⟨h2, by rw [← hkn]; exact h3⟩
        clear h2 h3
        go_wp2
        go_ret
        exact ⟨m, rfl, by omega, H2.out.1, H2.out.2, hB⟩
theorem relF_at (fa : Nat → Int) (x : Int) (rs : Nat → Int) (k : Nat) : relF fa x rs k k = fa k := if_neg (by omega)
theorem relR_at (fa fr : Nat → Int) (x : Int) (rs : Nat → Int) (i : Int) (k : Nat) : relR fa fr x rs i k k = fr k := if_neg (by omega)
theorem relF_stay {fa : Nat → Int} {x : Int} {rs : Nat → Int} {k : Nat} (h : ¬ x + rs k < fa k) (j : Nat) : relF fa x rs (k + 1) j = relF fa x rs k j := by
  unfold relF
  by_cases e : j = k
  · subst e; rw [if_neg (fun h' => h h'.2), if_neg (by omega)]
  · by_cases h' : j < k ∧ x + rs j < fa j
    · rw [if_pos ⟨by omega, h'.2⟩, if_pos h']
    · rw [if_neg (fun h2 => h' ⟨by omega, h2.2⟩), if_neg h']
theorem relR_stay {fa fr : Nat → Int} {x : Int} {rs : Nat → Int} {i : Int} {k : Nat} (h : ¬ x + rs k < fa k) (j : Nat) : relR fa fr x rs i (k + 1) j = relR fa fr x rs i k j := by
  unfold relR
  by_cases e : j = k
  · subst e; rw [if_neg (fun h' => h h'.2), if_neg (by omega)]
  · by_cases h' : j < k ∧ x + rs j < fa j
    · rw [if_pos ⟨by omega, h'.2⟩, if_pos h']
    · rw [if_neg (fun h2 => h' ⟨by omega, h2.2⟩), if_neg h']
theorem relF_go {fa : Nat → Int} {x : Int} {rs : Nat → Int} {k : Nat} (h : x + rs k < fa k) (j : Nat) : relF fa x rs (k + 1) j = if j = k then x + rs k else relF fa x rs k j := by
  unfold relF
  by_cases e : j = k
  · subst e; rw [if_pos ⟨by omega, h⟩, if_pos rfl]
  · rw [if_neg e]
    by_cases h' : j < k ∧ x + rs j < fa j
    · rw [if_pos ⟨by omega, h'.2⟩, if_pos h']
    · rw [if_neg (fun h2 => h' ⟨by omega, h2.2⟩), if_neg h']
theorem relR_go {fa fr : Nat → Int} {x : Int} {rs : Nat → Int} {i : Int} {k : Nat} (h : x + rs k < fa k) (j : Nat) : relR fa fr x rs i (k + 1) j = if j = k then i else relR fa fr x rs i k j := by
  unfold relR
  by_cases e : j = k
  · subst e; rw [if_pos ⟨by omega, h⟩, if_pos rfl]
  · rw [if_neg e]
    by_cases h' : j < k ∧ x + rs j < fa j
    · rw [if_pos ⟨by omega, h'.2⟩, if_pos h']
    · rw [if_neg (fun h2 => h' ⟨by omega, h2.2⟩), if_neg h']
theorem SS.setF {c : Sc} {w : World} {dv : Value} {fa fr : Nat → Int} (h : SS c w dv fa fr) (j : Nat) (x : Int) : SS c (w.setCell ⟨c.bf, j, none⟩ (.int .i64 x)) dv (fun k => if k = j then x else fa k) fr where
  box := box_turns h.box (setCell_turns w c.bf j _) h.ne.1
  far := (h.far.set j _).congr (fun k _ => by unfold iv; by_cases e : k = j <;> simp [e])
  frm := h.frm.turns (setCell_turns w c.bf j _) (fun e => h.ne.2.2 e.symm)
  ne := h.ne
theorem SS.setR {c : Sc} {w : World} {dv : Value} {fa fr : Nat → Int} (h : SS c w dv fa fr) (j : Nat) (x : Int) : SS c (w.setCell ⟨c.bg, j, none⟩ (.int .i64 x)) dv fa (fun k => if k = j then x else fr k) where
  box := box_turns h.box (setCell_turns w c.bg j _) h.ne.2.1
  far := h.far.turns (setCell_turns w c.bg j _) h.ne.2.2
  frm := (h.frm.set j _).congr (fun k _ => by unfold iv; by_cases e : k = j <;> simp [e])
  ne := h.ne
theorem SS.congr {c : Sc} {w : World} {dv : Value} {fa fr fa' fr' : Nat → Int} (h : SS c w dv fa fr) (e1 : ∀ j, j < c.n → fa j = fa' j) (e2 : ∀ j, j < c.n → fr j = fr' j) : SS c w dv fa' fr' :=
  ⟨h.box, h.far.congr (fun j hj => by unfold iv; rw [e1 j hj]), h.frm.congr (fun j hj => by unfold iv; rw [e2 j hj]), h.ne⟩

set_option maxRecDepth 4000 in
set_option maxHeartbeats 3000000 in
theorem goOn_call {c : Dc} {s : Sc} {w : World} {r u tk ow : Nat → Int} {dv : Value} {fa fr : Nat → Int} (hd : DS c w r u tk ow) (hs : SS s w dv fa fr) (hn : s.n = c.n) (hn1 : c.n ≤ 1000) (hsep : ∀ k, s.own k → c.lo ≤ k ∧ ¬ c.own k)
    {col i : Nat} (hcol : col < c.n) (hi : i < c.n) (how : ow col = i) (hb1 : ∀ j, j < c.n → -10000000 ≤ c.C i j ∧ c.C i j ≤ 10000000) (hb2 : -10000000 ≤ r i ∧ r i ≤ 10000000) (hb3 : ∀ j, j < c.n → -10000000 ≤ u j ∧ u j ≤ 10000000)
    (hf : 0 ≤ fa col ∧ fa col ≤ 100000000) (hz : 0 ≤ c.C i col - r i - u col) :
    Calls Try.prog 38 #[ptr s.bs, ptr c.bp, .int .i64 (col : Int)] w fun e w' => e = .returned (.tuple #[]) ∧ SS s w' dv (relF fa (fa col) (fun j => c.C i j - r i - u j) c.n) (relR fa fr (fa col) (fun j => c.C i j - r i - u j) i c.n) ∧ Turns (fun k => k = s.bf ∨ k = s.bg) w w' := by
  have HD : Hid (DS c w r u tk ow) := hd
  have HS : Hid (SS s w dv fa fr) := hs
  have HSP : Hid (∀ k, s.own k → c.lo ≤ k ∧ ¬ c.own k) := hsep
  have HB1 : Hid (∀ j, j < c.n → -10000000 ≤ c.C i j ∧ c.C i j ≤ 10000000) := hb1
  have HB3 : Hid (∀ j, j < c.n → -10000000 ≤ u j ∧ u j ≤ 10000000) := hb3
  have HN : Hid (s.n = c.n) := hn
  obtain ⟨_, _, _, _, c4⟩ := hd.cellB
  have cw := hd.bys.cell hcol
  unfold iv at cw
  rw [how] at cw
  obtain ⟨s0, _, _⟩ := hs.cellB
  rw [hn] at s0
  have j1 : (0 : Int) ≤ (col : Int) := by omega
  have j2 : (col : Int) < (c.n : Int) := by omega
  clear hd hs hsep hb1 hb3 how hn
  go_enter Try.func38, Try.ntmps38
  go_wp2
  clear c4 cw s0
  go_loopw [21] (fun iv' wr => ∃ k : Nat, k ≤ c.n ∧ iv' = .int .i64 (k : Int) ∧ SS s wr dv (relF fa (fa col) (fun j => c.C i j - r i - u j) k) (relR fa fr (fa col) (fun j => c.C i j - r i - u j) i k) ∧ Turns (fun k => k = s.bf ∨ k = s.bg) w wr) (fun iv' _ => c.n - (numOf iv').toNat)
  case atStart => exact ⟨0, Nat.zero_le _, rfl, SS.congr HS.out (fun j _ => (if_neg (by omega)).symm) (fun j _ => (if_neg (by omega)).symm), Turns.refl _ _⟩
  case round =>
    clear HS
    obtain ⟨k, hk, rfl, hss, ht⟩ := hrel
    by_cases hlt : k < c.n
    · have i1 : (0 : Int) ≤ (k : Int) := by omega
      have i2 : (k : Int) < (c.n : Int) := by omega
      have hd1 : DS c wr r u tk ow := DS.turns HD.out ht (fun k hk => HSP.out k (by rcases hk with rfl | rfl; exact Or.inr (Or.inl rfl); exact Or.inr (Or.inr rfl)))
      have h35 : ∀ m, Calls Try.prog 35 #[ptr c.bp, .int .i64 (i : Int), .int .i64 (k : Int)] (wr.drewN m) fun e w' => e = .returned (.int .i64 (c.C i k - r i - u k)) ∧ ∃ m', w' = (wr.drewN m).drewN m' := fun m => rest_call (hd1.below (drewN_below wr m)) hi hlt (HB1.out k hlt) hb2 (HB3.out k hlt)
      have hb1k := HB1.out k hlt
      have hb3k := HB3.out k hlt
      have hcc : relF fa (fa col) (fun j => c.C i j - r i - u j) k col = fa col := by
        unfold relF
        by_cases h : col < k ∧ fa col + (fun j => c.C i j - r i - u j) col < fa col
        · exfalso; have := h.2; simp only at this; omega
        · rw [if_neg h]
      have hn := HN.out
      obtain ⟨s0, s1, _⟩ := hss.cellB
      have cc := hss.far.cell (show col < s.n by omega)
      have ck := hss.far.cell (show k < s.n by omega)
      have f1 := hss.far.free k
      have f2 := hss.frm.free k
      have cg := hss.frm.cell (show k < s.n by omega)
      have hne := hss.ne.2.2
      unfold iv at cc ck cg
      rw [hcc] at cc
      rw [relF_at] at ck
      rw [relR_at] at cg
      rw [hn] at s0 s1
      have HSS : Hid (SS s wr dv (relF fa (fa col) (fun j => c.C i j - r i - u j) k) (relR fa fr (fa col) (fun j => c.C i j - r i - u j) i k)) := hss
      obtain ⟨y, hy⟩ : ∃ y, y = c.C i k - r i - u k := ⟨_, rfl⟩
      rw [← hy] at h35
      have H35 : Hid (∀ m, Calls Try.prog 35 #[ptr c.bp, .int .i64 (i : Int), .int .i64 (k : Int)] (wr.drewN m) fun e w' => e = .returned (.int .i64 y) ∧ ∃ m', w' = (wr.drewN m).drewN m') := h35
      have k1 : IntKind.i64.wrap (fa col + y) = fa col + y := by rw [IntKind.wrap_i64]; omega
      have HY : Hid (y = c.C i k - r i - u k) := hy
      clear hss hd1 h35 hy hcc hb1k hb3k hn
      obtain ⟨x, hx⟩ : ∃ x, x = fa col := ⟨_, rfl⟩
      rw [← hx] at cc k1
      have HX : Hid (fa col = x) := hx.symm
      clear hx
      go_upto_region 4 with (fail)
      go_quiet ((go_at_call 35; exact Calls.quiet_of (H35.out _)))
      have s0q : (wr.drewN nq).cell? ⟨s.bs, 0, none⟩ = some (sl s.bf c.n) := s0
      have s1q : (wr.drewN nq).cell? ⟨s.bs, 1, none⟩ = some (sl s.bg c.n) := s1
      have ckq : (wr.drewN nq).cell? ⟨s.bf, k, none⟩ = some (.int .i64 (fa k)) := ck
      have cgq : (wr.drewN nq).cell? ⟨s.bg, k, none⟩ = some (.int .i64 (fr k)) := cg
      have f1q : (wr.drewN nq).frozen? ⟨s.bf, k, none⟩ = false := f1
      have f2q : (wr.drewN nq).frozen? ⟨s.bg, k, none⟩ = false := f2
      have HSQ : Hid (SS s (wr.drewN nq) dv (relF fa (fa col) (fun j => c.C i j - r i - u j) k) (relR fa fr (fa col) (fun j => c.C i j - r i - u j) i k)) := SS.below HSS.out (drewN_below wr nq)
      have htq : Turns (fun k => k = s.bf ∨ k = s.bg) w (wr.drewN nq) := ht.trans (Turns.of_below (drewN_below wr nq) _)
      generalize wr.drewN nq = Wq at s0q s1q ckq cgq f1q f2q HSQ htq ⊢
      clear s0 s1 cc ck cg f1 f2 HSS H35 ht
      by_cases hlt2 : x + y < fa k
      · have HL : Hid (fa col + (fun j => c.C i j - r i - u j) k < fa k) := by show fa col + (c.C i k - r i - u k) < fa k; rw [HX.out, ← HY.out]; exact hlt2
        go_upto_region 6 with (fail)
        go_region
        all_goals
          have hs1 := (SS.setF HSQ.out k (x + y)).setR k (i : Int)
          have ht1 := ((htq.trans ((setCell_turns Wq s.bf k (.int .i64 (x + y))).mono (fun _ _ h => Or.inl h))).trans ((setCell_turns _ s.bg k (.int .i64 (i : Int))).mono (fun _ _ h => Or.inr h)))
          have hs2 := SS.congr (SS.below hs1 (Below.refl _ _).drew) (fa' := relF fa (fa col) (fun j => c.C i j - r i - u j) (k + 1)) (fr' := relR fa fr (fa col) (fun j => c.C i j - r i - u j) i (k + 1)) (fun j _ => by rw [relF_go HL.out, HX.out, HY.out]) (fun j _ => by rw [relR_go HL.out])
          have ht2 := ht1.trans (Turns.of_below (Below.refl _ _).drew _)
          have HS2 : Hid _ := hs2
          clear hs1 hs2 ht1
          go_wp2
          go_roundw
          case rel => exact ⟨k + 1, by omega, by go_num, HS2.out, ht2⟩
          case measure => simp [numOf]; omega
      · have HL : Hid (¬ fa col + (fun j => c.C i j - r i - u j) k < fa k) := by show ¬ fa col + (c.C i k - r i - u k) < fa k; rw [HX.out, ← HY.out]; exact hlt2
        have HS2 : Hid (SS s Wq dv (relF fa (fa col) (fun j => c.C i j - r i - u j) (k + 1)) (relR fa fr (fa col) (fun j => c.C i j - r i - u j) i (k + 1))) := SS.congr HSQ.out (fun j _ => (relF_stay HL.out j).symm) (fun j _ => (relR_stay HL.out j).symm)
        clear HSQ
        go_wp2
        go_roundw
        case rel => exact ⟨k + 1, by omega, by go_num, HS2.out, htq⟩
        case measure => simp [numOf]; omega
    · have i2 : ¬ (k : Int) < (c.n : Int) := by omega
      have hkn : k = c.n := by omega
      rw [hkn] at hss
      have HSS : Hid (SS s wr dv (relF fa (fa col) (fun j => c.C i j - r i - u j) c.n) (relR fa fr (fa col) (fun j => c.C i j - r i - u j) i c.n)) := hss
      clear hss
      go_wp2
      go_end0
      exact ⟨rfl, HSS.out, ht⟩
end Go.Proofs.Ytmbnaegcichoeaa
