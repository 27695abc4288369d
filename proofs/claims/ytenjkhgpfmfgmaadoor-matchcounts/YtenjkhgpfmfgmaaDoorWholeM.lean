/- Two triangles at one node: their blocks and their cut. The document's Lists, Pairs, Without and Bridges. What the program and the document answer of bridges and cuts is the same: plain mathematics. -/
import Derived.Test.YtenjkhgpfmfgmaaDoorCutsM
import Derived.Test.YtenjkhgpfmfgmaaDoorSame
import Derived.Test.YtenjkhgpfmfgmaaDoorRefP
namespace Go.Proofs.YtenjkhgpfmfgmaaDoor
open Go.RowKit Go.Maps
attribute [local go_sem ↓] Go.wp_at_zero Go.wp_at_succ

def bowE : List Pair := [(0, 1), (1, 2), (0, 2), (2, 3), (3, 4), (2, 4)]
def bowF : List Pair := [(0, 1), (0, 2), (1, 2), (2, 3), (2, 4), (3, 4)]
theorem bow_chk : chk 5 bowE = (0, 0) := by decide +kernel
theorem bow_form : allP 5 (hasB bowE) = bowF := by decide +kernel

theorem bow_near : ∀ a, a < 5 → ∀ b, b < 5 → bothB bowF a b = true → a < 2 → b ≠ 2 → b < 2 := by decide +kernel
theorem bow_formed : Formed 5 bowF := bow_form ▸ formed_all 5 (hasB bowE)

theorem bow_apart {u w : Nat} (h : Con (Ef 5 bowF) 2 u w) (hu : u < 2) : w < 2 :=
  Star.closed (P := fun x => x < 2) (fun a b ha hab => bow_near a hab.1.1 b hab.1.2.1 hab.1.2.2 ha hab.2) h hu

theorem bow_at : ∀ i, i < 6 → (i < 3 → (elf bowF i).1 < 2 ∧ (elf bowF i).2 ≤ 2) ∧ (3 ≤ i → 2 ≤ (elf bowF i).1 ∧ 2 < (elf bowF i).2) := by decide +kernel

theorem bow_side {i j : Nat} (h : LkF 5 bowF i j) : (i < 3) ↔ (j < 3) := by
  have key : ∀ {i j}, LkF 5 bowF i j → i < 3 → j < 3 := by
    intro i j h hi
    refine Classical.byContradiction fun hj => ?_
    obtain ⟨h1, h2, v, u, w, h3, h4, h5⟩ := h
    have a1 := (bow_at i h1).1 hi
    have a2 := (bow_at j h2).2 (by omega)
    have hv : v = 2 ∧ u < 2 ∧ 2 < w := by
      rcases h3 with e | e <;> rcases h4 with e' | e' <;> rw [e] at a1 <;> rw [e'] at a2 <;> simp at a1 a2 <;> omega
    obtain ⟨rfl, hu, hw⟩ := hv
    have := bow_apart h5 hu
    omega
  exact ⟨key h, key (link_symm (ef_gr bow_formed) (ef_edges bow_formed) _ _ h)⟩

theorem bow_one {a b : Nat} (ha : a < 5) (hb : b < 5) (h : bothB bowF a b = true) {x : Nat} (hx : b ≠ x) : Con (Ef 5 bowF) x a b := .one ⟨⟨ha, hb, h⟩, hx⟩
theorem bow_lk {i j v u w : Nat} (hi : i < 6) (hj : j < 6) (h1 : Inc (elf bowF) i v u) (h2 : Inc (elf bowF) j v w) (hu : u < 5) (hw : w < 5) (h : bothB bowF u w = true) (hx : w ≠ v) : LkF 5 bowF i j := ⟨hi, hj, v, u, w, h1, h2, bow_one hu hw h hx⟩
theorem inc_dec {i v u : Nat} (h : (decide (elf bowF i = (v, u)) || decide (elf bowF i = (u, v))) = true) : Inc (elf bowF) i v u := by
  simpa [Inc] using h
theorem bow_links : LkF 5 bowF 0 1 ∧ LkF 5 bowF 0 2 ∧ LkF 5 bowF 3 4 ∧ LkF 5 bowF 3 5 :=
  ⟨bow_lk (v := 0) (u := 1) (w := 2) (by omega) (by omega) (inc_dec (by decide +kernel)) (inc_dec (by decide +kernel)) (by omega) (by omega) (by decide +kernel) (by omega),
   bow_lk (v := 1) (u := 0) (w := 2) (by omega) (by omega) (inc_dec (by decide +kernel)) (inc_dec (by decide +kernel)) (by omega) (by omega) (by decide +kernel) (by omega),
   bow_lk (v := 2) (u := 3) (w := 4) (by omega) (by omega) (inc_dec (by decide +kernel)) (inc_dec (by decide +kernel)) (by omega) (by omega) (by decide +kernel) (by omega),
   bow_lk (v := 3) (u := 2) (w := 4) (by omega) (by omega) (inc_dec (by decide +kernel)) (inc_dec (by decide +kernel)) (by omega) (by omega) (by decide +kernel) (by omega)⟩

def bowK (i j : Nat) : Bool := decide (i < 3) == decide (j < 3)

theorem bow_star {i j : Nat} (hi : i < 6) (hj : j < 6) : Star (LkF 5 bowF) i j ↔ bowK i j = true := by
  have sy := link_symm (ef_gr bow_formed) (ef_edges bow_formed)
  constructor
  · intro h
    have := Star.closed (P := fun x => (i < 3) ↔ (x < 3)) (fun a b ha hab => ha.trans (bow_side hab)) h Iff.rfl
    simp [bowK, this]
  · intro h
    have hs : (i < 3) ↔ (j < 3) := by simpa [bowK] using h
    obtain ⟨l1, l2, l3, l4⟩ := bow_links
    have lo : ∀ x, x < 3 → Star (LkF 5 bowF) 0 x := fun x hx => by
      match x, hx with
      | 0, _ => exact .refl _
      | 1, _ => exact .one l1
      | 2, _ => exact .one l2
    have hig : ∀ x, x < 6 → ¬ x < 3 → Star (LkF 5 bowF) 3 x := fun x hx hn => by
      match x, hx, hn with
      | 0, _, h => exact absurd (by omega) h
      | 1, _, h => exact absurd (by omega) h
      | 2, _, h => exact absurd (by omega) h
      | 3, _, _ => exact .refl _
      | 4, _, _ => exact .one l3
      | 5, _, _ => exact .one l4
    by_cases h3 : i < 3
    · exact ((lo i h3).symm sy).trans (lo j (hs.1 h3))
    · exact ((hig i hi h3).symm sy).trans (hig j hj (fun h => h3 (hs.2 h)))

theorem bow_blocks {RK : Nat → Nat → Bool} (hRK : ∀ i j, RK i j = true ↔ Star (LkF 5 (allP 5 (hasB bowE))) i j) : (blocksS (allP 5 (hasB bowE)) RK).length = 2 ∧ cutsTo (blocksS (allP 5 (hasB bowE)) RK) 5 = [2] := by
  rw [bow_form] at hRK ⊢
  have e : blocksS bowF RK = blocksS bowF bowK := by
    unfold blocksS
    rw [piecesS_congr (R' := bowK) fun i j hi hj => by
      rw [Bool.eq_iff_iff, hRK]
      exact bow_star hi hj]
  rw [e]
  decide +kernel

theorem qv_ints (L : List Nat) : qv L = (L.map fun (x : Nat) => (x : Int)).map (Value.int .i64) := by simp [qv]
theorem intsAt_q {w : World} {base : Nat} {v : Value} {L : List Nat} (h : w.ownsRow base 3 1 v L.length (qv L)) (hb : ∀ x ∈ L, x ≤ 1000000) (hl : L.length ≤ 1000000) : IntsAt w v (L.map fun (x : Nat) => (x : Int)) := by
  rw [qv_ints] at h
  refine intsAt_row (by simpa using h) (fun x hx => ?_) (by simp; omega)
  obtain ⟨y, hy, rfl⟩ := List.mem_map.1 hx
  have := hb y hy
  constructor <;> omega

end Go.Proofs.YtenjkhgpfmfgmaaDoor

namespace Go.Proofs.YtenjkhgpfmfgmaaDoor
open Go.RowKit Go.Maps
attribute [local go_sem ↓] Go.wp_at_zero Go.wp_at_succ

theorem neq63d {x y x' y' : Int} (hx : I64 x) (hy : I64 y) (hx' : I64 x') (hy' : I64 y') (w : World) : (binOp .neq 50 (.agg #[.int .i64 x, .int .i64 y]) (.agg #[.int .i64 x', .int .i64 y'])).run Tryd.prog w = .ok (.bool (decide (¬ (x, y) = (x', y')))) w := by
  obtain ⟨r, h1, h2⟩ := run_equal_deep (P := Tryd.prog) w (m := Tryd.prog.types.size + 1) (of_decide_eq_true (by kernel_rfl)) (k := 50) (by kernel_rfl) (by kernel_rfl) (key_mk hx hy) (key_mk hx' hy')
  have h3 : r = decide ((x, y) = (x', y')) := by
    rw [Bool.eq_iff_iff, h2, decide_eq_true_iff]
    constructor
    · intro h; have := key_inj hx hy hx' hy' h; simp [this]
    · intro h; simp at h; rw [h.1, h.2]
  rw [h3] at h1
  simp only [binOp]
  simp only [Sem.run_bind, h1]
  by_cases h : (x, y) = (x', y') <;> simp [h, Result.andThen]

/-- The pairs but for one. -/
def lessL (es : List Pair) (e : Pair) : List Pair := es.filter fun d => decide (¬ d = e)
theorem lessL_take {es : List Pair} {k : Nat} {d : Pair} (h : es[k]? = some d) (e : Pair) : lessL (es.take (k + 1)) e = lessL (es.take k) e ++ (if d = e then [] else [d]) := by
  obtain ⟨h1, h2⟩ := List.getElem?_eq_some_iff.1 h
  rw [List.take_succ_eq_append_getElem h1, h2]
  unfold lessL
  rw [List.filter_append]
  congr 1
  by_cases hd : d = e <;> simp [hd]
theorem lessL_len (es : List Pair) (k : Nat) (e : Pair) : (lessL (es.take k) e).length ≤ k := Nat.le_trans (List.length_filter_le _ _) (by rw [List.length_take]; omega)

/-- A slice of slices of numbers that is only read. -/
def ListsIn (w : World) (v : Value) (ls : List (List Nat)) : Prop :=
  ∃ ao cap, v = .slice ao ls.length cap ∧ ls.length ≤ 1000 ∧ ∀ (q : Nat) (l : List Nat), ls[q]? = some l → ∃ g xo xc, ao = some ⟨g, 0, none⟩ ∧ w.cell? ⟨g, q, none⟩ = some (.slice xo l.length xc) ∧ IntsAt w (.slice xo l.length xc) (l.map fun (x : Nat) => (x : Int))
theorem ListsAt.in {w : World} {base : Nat} {v : Value} {ls : List (List Nat)} (h : ListsAt w base v ls) (hl : ls.length ≤ 1000) (hx : ∀ l ∈ ls, l.length ≤ 1000 ∧ ∀ x ∈ l, x ≤ 1000) : ListsIn w v ls := by
  obtain ⟨ao, cap, rfl⟩ := h.form
  refine ⟨ao, cap, rfl, hl, fun q l hq => ?_⟩
  obtain ⟨g, xo, xc, h1, h2, h3⟩ := h.at hq
  have := hx l (List.mem_of_getElem? hq)
  exact ⟨g, xo, xc, h1, h2, intsAt_q h3 (fun x hx' => by have := this.2 x hx'; omega) (by omega)⟩
theorem ListsIn.below {w w' : World} {v : Value} {ls : List (List Nat)} (h : ListsIn w v ls) (hb : Below w.heap.size w w') : ListsIn w' v ls := by
  obtain ⟨ao, cap, h1, hl, h2⟩ := h
  refine ⟨ao, cap, h1, hl, fun q l hq => ?_⟩
  obtain ⟨g, xo, xc, h3, h4, h5⟩ := h2 q l hq
  exact ⟨g, xo, xc, h3, by rw [hb.cell (by exact World.block_lt_of_cell? w _ h4)]; exact h4, h5.below hb⟩

theorem keepL {W : World} {g q g' : Nat} {x y : Value} (c0 : W.cell? ⟨g, q, none⟩ = some x) (c1 : W.cell? ⟨g', q, none⟩ = some y) {w' : World} (hb : Below W.heap.size W w') : Below W.heap.size W w' ∧ w'.cell? ⟨g, q, none⟩ = some x ∧ w'.cell? ⟨g', q, none⟩ = some y :=
  ⟨hb, by rw [hb.cell (by exact World.block_lt_of_cell? W _ c0)]; exact c0, by rw [hb.cell (by exact World.block_lt_of_cell? W _ c1)]; exact c1⟩

theorem ownsRow_drewN {w : World} {base : Nat} {t : TypeId} {sz : Nat} {v : Value} {n : Nat} {xs : List Value} (h : w.ownsRow base t sz v n xs) (k : Nat) : (w.drewN k).ownsRow base t sz v n xs :=
  ownsRow_blocks h fun b hb => (below_drewN (Below.refl w.heap.size w) k).block b (h.lt b hb).2
theorem drewN_below (w : World) (k : Nat) : Below w.heap.size w (w.drewN k) := below_drewN (Below.refl _ _) k
theorem two_pair (w : World) (x y : Value) (t : TypeId) : Two (w.alloc (Obj.cells #[x, y] t)) w.heap.size x y t := two_new w x y t

/-- The edges, of the first k, without which there are more components. -/
def refBridgesTo (N : Nat) (fes : List Pair) (R : Nat → Nat → Bool) (Re : Pair → Nat → Nat → Bool) (k : Nat) : List Pair := (fes.take k).filter fun e => decide (partsN N allB R < partsN N allB (Re e))
theorem refBridgesTo_succ {N : Nat} {fes : List Pair} {R : Nat → Nat → Bool} {Re : Pair → Nat → Nat → Bool} {k : Nat} {e : Pair} (h : fes[k]? = some e) : refBridgesTo N fes R Re (k + 1) = refBridgesTo N fes R Re k ++ (if partsN N allB R < partsN N allB (Re e) then [e] else []) := by
  obtain ⟨h1, h2⟩ := List.getElem?_eq_some_iff.1 h
  unfold refBridgesTo
  rw [List.take_succ_eq_append_getElem h1, h2, List.filter_append]
  congr 1
  by_cases hd : partsN N allB R < partsN N allB (Re e) <;> simp [hd]
theorem refBridgesTo_le (N : Nat) (fes : List Pair) (R : Nat → Nat → Bool) (Re : Pair → Nat → Nat → Bool) (k : Nat) : (refBridgesTo N fes R Re k).length ≤ k := Nat.le_trans (List.length_filter_le _ _) (by rw [List.length_take]; omega)

theorem field24 (n : Int) (ao : Option Addr) (l c : Nat) (w : World) : (Instr.field 24 (.agg #[.int .i64 n, .slice ao l c]) 1).run Tryd.prog w = .ok (.slice ao l c) w := by
  simp [Instr.field, go_sem, asAgg, Result.andThen]

end Go.Proofs.YtenjkhgpfmfgmaaDoor

namespace Go.Proofs.YtenjkhgpfmfgmaaDoor

abbrev Good (m : Nat) (es : List Pair) : Prop := ∀ e ∈ es, (0 ≤ e.1 ∧ e.1 < m ∧ 0 ≤ e.2 ∧ e.2 < m) ∧ e.1 ≠ e.2

theorem has_good {m : Nat} {es : List Pair} (hg : Good m es) {a b : Nat} (h : hasB es a b = true) : a < m ∧ b < m ∧ a ≠ b := by
  unfold hasB at h
  rw [List.any_eq_true] at h
  obtain ⟨e, he, hb⟩ := h
  have := hg e he
  simp at hb
  omega

theorem has_allP {m : Nat} {es : List Pair} (hg : Good m es) (a b : Nat) : hasB (allP m (hasB es)) a b = true ↔ hasB es a b = true := by
  have h1 : hasB (allP m (hasB es)) a b = true ↔ ∃ i : Nat, (allP m (hasB es))[i]? = some (((min a b : Nat) : Int), ((max a b : Nat) : Int)) := both_iff (formed_all m (hasB es)) a b
  rw [h1]
  constructor
  · rintro ⟨i, hi⟩
    obtain ⟨u, v, h2, h3, h4, e⟩ := allP_mem.1 (List.mem_of_getElem? hi)
    simp at e
    rcases Nat.le_total a b with h | h
    · rw [Nat.min_eq_left h, Nat.max_eq_right h] at e
      have e1 : (u : Int) = (a : Int) := by omega
      have e2 : (v : Int) = (b : Int) := by omega
      rw [← e1, ← e2]; exact h4
    · rw [Nat.min_eq_right h, Nat.max_eq_left h] at e
      have e1 : (u : Int) = (b : Int) := by omega
      have e2 : (v : Int) = (a : Int) := by omega
      rw [hasB_comm, ← e1, ← e2]; exact h4
  · intro h
    obtain ⟨h2, h3, h4⟩ := has_good hg h
    have : (((min a b : Nat) : Int), ((max a b : Nat) : Int)) ∈ allP m (hasB es) := by
      rw [allP_mem]
      refine ⟨min a b, max a b, by omega, by omega, ?_, rfl⟩
      rcases Nat.le_total a b with h' | h'
      · rw [Nat.min_eq_left h', Nat.max_eq_right h']; exact h
      · rw [Nat.min_eq_right h', Nat.max_eq_left h', hasB_comm]; exact h
    exact List.mem_iff_getElem?.1 this

/-- The graph of es, by its form. -/
abbrev EF (m : Nat) (es : List Pair) : Nat → Nat → Prop := Ef m (allP m (hasB es))

theorem ef_iff {m : Nat} {es : List Pair} (hg : Good m es) (a b : Nat) : EF m es a b ↔ hasB es a b = true := by
  show (a < m ∧ b < m ∧ hasB (allP m (hasB es)) a b = true) ↔ _
  rw [has_allP hg]
  constructor
  · exact fun h => h.2.2
  · exact fun h => ⟨(has_good hg h).1, (has_good hg h).2.1, h⟩
theorem st_iff {m : Nat} {es : List Pair} (hg : Good m es) (a b : Nat) : St m (pn (hasB es)) allB a b ↔ EF m es a b := by
  rw [ef_iff hg]
  constructor
  · exact fun h => h.2.1
  · exact fun h => ⟨(has_good hg h).2.1, h, rfl⟩
theorem stx_iff {m : Nat} {es : List Pair} (hg : Good m es) (x a b : Nat) : St m (pn (hasB es)) (notB x) a b ↔ (EF m es a b ∧ b ≠ x) := by
  rw [ef_iff hg]
  constructor
  · exact fun h => ⟨h.2.1, by have := h.2.2; simpa [notB] using this⟩
  · exact fun h => ⟨(has_good hg h.1).2.1, h.1, by simpa [notB] using h.2⟩
theorem ste_iff {m : Nat} {es : List Pair} (hg : Good m es) {s t : Nat} (hst : s < t) (a b : Nat) : St m (pn (hasB (lessL (allP m (hasB es)) ((s : Int), (t : Int))))) allB a b ↔ Less (EF m es) s t a b := by
  unfold Less
  have key : hasB (lessL (allP m (hasB es)) ((s : Int), (t : Int))) a b = true ↔ hasB es a b = true ∧ ¬ ((a = s ∧ b = t) ∨ (a = t ∧ b = s)) := by
    rw [← has_allP hg]
    unfold hasB lessL
    rw [List.any_eq_true, List.any_eq_true]
    constructor
    · rintro ⟨e, he, hb⟩
      obtain ⟨h1, h2⟩ := List.mem_filter.1 he
      refine ⟨⟨e, h1, hb⟩, fun hh => ?_⟩
      obtain ⟨u, v, h3, _, _, rfl⟩ := allP_mem.1 h1
      simp at hb h2
      omega
    · rintro ⟨⟨e, h1, hb⟩, hh⟩
      refine ⟨e, List.mem_filter.2 ⟨h1, ?_⟩, hb⟩
      obtain ⟨u, v, h3, _, _, rfl⟩ := allP_mem.1 h1
      simp at hb ⊢
      omega
  constructor
  · intro h
    have := key.1 h.2.1
    exact ⟨(ef_iff hg a b).2 this.1, this.2⟩
  · intro h
    have h1 := (ef_iff hg a b).1 h.1
    exact ⟨(has_good hg h1).2.1, key.2 ⟨h1, h.2⟩, rfl⟩

section
variable {m : Nat} {es : List Pair} {RK : Nat → Nat → Bool}

theorem rk_symm (hRK : ∀ i j, RK i j = true ↔ Star (LkF m (allP m (hasB es))) i j) {i j : Nat} (h : RK i j = true) : RK j i = true :=
  (hRK _ _).2 (((hRK _ _).1 h).symm (link_symm (ef_gr (formed_all m (hasB es))) (ef_edges (formed_all m (hasB es)))))
theorem rk_trans (hRK : ∀ i j, RK i j = true ↔ Star (LkF m (allP m (hasB es))) i j) {i j k : Nat} (h : RK i j = true) (h2 : RK j k = true) : RK i k = true := (hRK _ _).2 (((hRK _ _).1 h).trans ((hRK _ _).1 h2))
theorem rk_refl (hRK : ∀ i j, RK i j = true ↔ Star (LkF m (allP m (hasB es))) i j) (i : Nat) : RK i i = true := (hRK _ _).2 (.refl _)

theorem filter_eq_single {n i : Nat} {p : Nat → Bool} (hi : i < n) (h : ∀ j, j < n → (p j = true ↔ j = i)) : (List.range n).filter p = [i] := by
  have e : (List.range n).filter p = (List.range n).filter (fun j => decide (j = i)) := List.filter_congr fun j hj => by
    rw [Bool.eq_iff_iff, h j (by simpa using hj)]; simp
  rw [e]
  induction n with
  | zero => omega
  | succ n ih =>
    rw [List.range_succ, List.filter_append]
    by_cases hin : i = n
    · subst hin
      have : (List.range i).filter (fun j => decide (j = i)) = [] := by
        rw [List.filter_eq_nil_iff]; intro j hj; simp at hj ⊢; omega
      rw [this]; simp
    · have hn : ¬ n = i := fun e => hin e.symm
      have := ih (by omega) (fun j hj => h j (by omega)) (List.filter_congr fun j hj => by
        rw [Bool.eq_iff_iff, h j (by simp at hj; omega)]; simp)
      rw [this]
      simp [hn]

theorem single_of (fes : List Pair) (RK : Nat → Nat → Bool) (hr : ∀ i, RK i i = true) (hs : ∀ i j, RK i j = true → RK j i = true) {i : Nat} (hi : i < fes.length) :
    (if firstB allB RK i = true then single (edgesL fes (classL fes.length RK i)) else none) = if (∀ j, j < fes.length → RK i j = true → j = i) then some (fes.getD i (0, 0)) else none := by
  by_cases ha : ∀ j, j < fes.length → RK i j = true → j = i
  · rw [if_pos ha]
    have hf : firstB allB RK i = true := first_all.2 fun u hu => by
      cases h : RK u i
      · rfl
      · have := ha u (by omega) (hs _ _ h); omega
    have hc : classL fes.length RK i = [i] := filter_eq_single hi (fun j hj => ⟨ha j hj, fun e => e ▸ hr i⟩)
    rw [if_pos hf, hc]
    rfl
  · rw [if_neg ha]
    by_cases hf : firstB allB RK i = true
    · rw [if_pos hf]
      have h2 : ¬ (edgesL fes (classL fes.length RK i)).length = 1 := by
        rw [edgesL_len]
        intro h1
        obtain ⟨x, hx⟩ := List.length_eq_one_iff.1 h1
        have mem : ∀ j, j < fes.length → RK i j = true → j = x := fun j hj h => by
          have : j ∈ classL fes.length RK i := by simp [classL, hj, h]
          rw [hx] at this; simpa using this
        exact ha fun j hj h => by rw [mem j hj h, mem i hi (hr i)]
      match edgesL fes (classL fes.length RK i), h2 with
      | [], _ => rfl
      | [_], h => exact absurd rfl h
      | _ :: _ :: _, _ => rfl
    · rw [if_neg hf]

theorem filterMap_congr' {α β : Type} {l : List α} {f g : α → Option β} (h : ∀ x ∈ l, f x = g x) : l.filterMap f = l.filterMap g := by
  induction l with
  | nil => rfl
  | cons a l ih =>
    rw [List.filterMap_cons, List.filterMap_cons, h a (by simp), ih (fun x hx => h x (by simp [hx]))]
theorem filterMap_filter' {α β : Type} (l : List α) (p : α → Bool) (g : α → Option β) : (l.filter p).filterMap g = l.filterMap fun i => if p i = true then g i else none := by
  induction l with
  | nil => rfl
  | cons a l ih =>
    rw [List.filter_cons]
    by_cases h : p a = true
    · rw [if_pos h]; simp [List.filterMap_cons, ih, h]
    · rw [if_neg h]; simp [ih, h]
theorem filter_range (fes : List Pair) (q : Pair → Bool) : fes.filter q = (List.range fes.length).filterMap fun i => if q (fes.getD i (0, 0)) = true then some (fes.getD i (0, 0)) else none := by
  have key : ∀ (l pre : List Pair), l.filter q = (List.range l.length).filterMap fun i => if q ((pre ++ l).getD (pre.length + i) (0, 0)) = true then some ((pre ++ l).getD (pre.length + i) (0, 0)) else none := by
    intro l
    induction l with
    | nil => intro pre; rfl
    | cons a l ih =>
      intro pre
      rw [List.length_cons, List.range_succ_eq_map, List.filterMap_cons, List.filterMap_map, List.filter_cons]
      have e0 : (pre ++ a :: l).getD (pre.length + 0) (0, 0) = a := by simp [List.getD]
      have ih' := ih (pre ++ [a])
      have e1 : (fun i => if q ((pre ++ [a] ++ l).getD ((pre ++ [a]).length + i) (0, 0)) = true then some ((pre ++ [a] ++ l).getD ((pre ++ [a]).length + i) (0, 0)) else none) = ((fun i => if q ((pre ++ a :: l).getD (pre.length + i) (0, 0)) = true then some ((pre ++ a :: l).getD (pre.length + i) (0, 0)) else none) ∘ Nat.succ) := by
        funext i
        have : (pre ++ [a]).length + i = pre.length + (i + 1) := by simp; omega
        simp only [Function.comp_def, this, List.append_assoc, List.singleton_append, Nat.succ_eq_add_one]
      rw [e1] at ih'
      rw [e0, ← ih']
      by_cases h : q a = true <;> simp [h]
  simpa using key fes []

/-- The bridges that the program tells are those of the document. -/
theorem bridges_same (hg : Good m es) (hRK : ∀ i j, RK i j = true ↔ Star (LkF m (allP m (hasB es))) i j) {R : Nat → Nat → Bool} (hR : ∀ v x, R v x = true ↔ Star (St m (pn (hasB es)) allB) v x) {Re : Pair → Nat → Nat → Bool} (hRe : ∀ e v x, Re e v x = true ↔ Star (St m (pn (hasB (lessL (allP m (hasB es)) e))) allB) v x) :
    singles (blocksS (allP m (hasB es)) RK) = refBridgesTo m (allP m (hasB es)) R Re (allP m (hasB es)).length := by
  have hF := formed_all m (hasB es)
  unfold refBridgesTo
  rw [List.take_length, filter_range]
  unfold singles blocksS piecesS piecesTo
  rw [List.filterMap_map, List.filterMap_map, filterMap_filter']
  refine filterMap_congr' fun i hi => ?_
  have hi' : i < (allP m (hasB es)).length := by simpa using hi
  refine (single_of _ RK (rk_refl hRK) (fun i j => rk_symm hRK) hi').trans ?_
  obtain ⟨s, t, he, hst, htm⟩ := hF.at hi'
  have hgd : (allP m (hasB es)).getD i (0, 0) = ((s : Int), (t : Int)) := getD_some he
  have hel : elf (allP m (hasB es)) i = (s, t) := elf_some he
  have hE := (ef_edges hF).ok i hi'
  rw [hel] at hE
  have h1 : (∀ j, j < (allP m (hasB es)).length → RK i j = true → j = i) ↔ ¬ Star (Less (EF m es) s t) s t := by
    rw [← alone_bridge (ef_gr hF) (ef_edges hF) hi' hel]
    constructor
    · intro h j hj hs; exact h j hj ((hRK _ _).2 hs)
    · intro h j hj hs; exact h j hj ((hRK _ _).1 hs)
  have h2 := bridge_count (ef_gr hF) hE.2 (R := R) (R' := Re ((s : Int), (t : Int))) (fun v w => (hR v w).trans (Star.iff (st_iff hg) v w)) (fun v w => (hRe _ v w).trans (Star.iff (ste_iff hg hst) v w))
  rw [hgd]
  by_cases hb : ¬ Star (Less (EF m es) s t) s t
  · rw [if_pos (h1.2 hb), if_pos (by simpa using h2.2 hb)]
  · rw [if_neg (fun h => hb (h1.1 h)), if_neg (by simpa using fun h => hb (h2.1 h))]

theorem two_in {l : List Nat} (hn : l.Nodup) {p : Nat → Bool} : 1 < (l.filter p).length ↔ ∃ a b, a ∈ l ∧ b ∈ l ∧ a ≠ b ∧ p a = true ∧ p b = true := by
  have hn' := hn.filter p
  constructor
  · intro h
    match hl : l.filter p, h with
    | a :: b :: r, _ =>
      have ha : a ∈ l.filter p := by rw [hl]; simp
      have hb : b ∈ l.filter p := by rw [hl]; simp
      rw [hl] at hn'
      have hab : a ≠ b := by
        have := (List.nodup_cons.1 hn').1
        intro e; exact this (by simp [e])
      exact ⟨a, b, (List.mem_filter.1 ha).1, (List.mem_filter.1 hb).1, hab, (List.mem_filter.1 ha).2, (List.mem_filter.1 hb).2⟩
  · rintro ⟨a, b, ha, hb, hab, h1, h2⟩
    have := nat_nodup_len [a, b] (l.filter p) (by simp [hab]) (fun x hx => by
      simp at hx
      rcases hx with rfl | rfl
      · exact List.mem_filter.2 ⟨ha, h1⟩
      · exact List.mem_filter.2 ⟨hb, h2⟩)
    simp at this
    omega

/-- A node is in a block just if an edge of it goes to the node. -/
theorem node_class {fes : List Pair} (hf : Formed m fes) {i x : Nat} : nodeIn (edgesL fes (classL fes.length RK i)) x = true ↔ ∃ j u, j < fes.length ∧ RK i j = true ∧ Inc (elf fes) j x u := by
  unfold nodeIn edgesL
  rw [List.any_eq_true]
  constructor
  · rintro ⟨e, he, hb⟩
    obtain ⟨j, hj, rfl⟩ := List.mem_map.1 he
    simp [classL] at hj
    obtain ⟨s, t, h1, h2, h3⟩ := hf.at hj.1
    rw [getD_some h1] at hb
    simp at hb
    rcases hb with hb | hb
    · exact ⟨j, t, hj.1, hj.2, Or.inl (by rw [elf_some h1]; simp; omega)⟩
    · exact ⟨j, s, hj.1, hj.2, Or.inr (by rw [elf_some h1]; simp; omega)⟩
  · rintro ⟨j, u, hj, hR, hinc⟩
    obtain ⟨s, t, h1, h2, h3⟩ := hf.at hj
    refine ⟨((s : Int), (t : Int)), List.mem_map.2 ⟨j, by simp [classL, hj, hR], getD_some h1⟩, ?_⟩
    unfold Inc at hinc
    rw [elf_some h1] at hinc
    simp at hinc ⊢
    omega

/-- The cuts that the program tells are those of the document. -/
theorem cuts_same (hg : Good m es) (hRK : ∀ i j, RK i j = true ↔ Star (LkF m (allP m (hasB es))) i j) {R : Nat → Nat → Bool} (hR : ∀ v x, R v x = true ↔ Star (St m (pn (hasB es)) allB) v x) {Rx : Nat → Nat → Nat → Bool} (hRx : ∀ y v x, Rx y v x = true ↔ Star (St m (pn (hasB es)) (notB y)) v x) :
    cutsTo (blocksS (allP m (hasB es)) RK) m = refCutsTo m R Rx m := by
  have hF := formed_all m (hasB es)
  have gr := ef_gr hF
  have ed := ef_edges hF
  unfold cutsTo refCutsTo
  refine List.filter_congr fun x hx => ?_
  have hxm : x < m := by simpa using hx
  rw [Bool.eq_iff_iff, decide_eq_true_iff, decide_eq_true_iff, cut_count gr hxm (fun v w => (hR v w).trans (Star.iff (st_iff hg) v w)) (fun v w => (hRx x v w).trans (Star.iff (stx_iff hg x) v w))]
  unfold cntTo
  rw [List.take_length]
  have e : ((blocksS (allP m (hasB es)) RK).filter fun l => nodeIn l x).length = (((List.range (allP m (hasB es)).length).filter (firstB allB RK)).filter fun i => nodeIn (edgesL (allP m (hasB es)) (classL (allP m (hasB es)).length RK i)) x).length := by
    unfold blocksS piecesS piecesTo
    rw [List.map_map, List.filter_map, List.length_map]
    rfl
  rw [e, two_in (List.nodup_range.filter _)]
  have uniq : ∀ {i i'}, firstB allB RK i = true → firstB allB RK i' = true → RK i i' = true → i = i' := by
    intro i i' h1 h2 h
    rcases Nat.lt_trichotomy i i' with h' | h' | h'
    · have := first_all.1 h2 i h'; rw [h] at this; cases this
    · exact h'
    · have := first_all.1 h1 i' h'; rw [rk_symm hRK h] at this; cases this
  constructor
  · rintro ⟨i, i', hi, hi', hne, h1, h2⟩
    obtain ⟨hiM, hif⟩ := List.mem_filter.1 hi
    obtain ⟨hiM', hif'⟩ := List.mem_filter.1 hi'
    obtain ⟨j, u, hj, hRj, hinc⟩ := (node_class hF).1 h1
    obtain ⟨j', w, hj', hRj', hinc'⟩ := (node_class hF).1 h2
    refine ⟨u, w, (hinc.edge gr ed hj).1, (hinc'.edge gr ed hj').1, fun hc => hne (uniq hif hif' ?_)⟩
    have : RK j j' = true := (hRK _ _).2 ((star_at gr ed hj hj' hinc hinc').2 hc)
    exact rk_trans hRK (rk_trans hRK hRj this) (rk_symm hRK hRj')
  · rintro ⟨u, w, hu, hw, hno⟩
    obtain ⟨j, hj, hinc⟩ := ed.inc gr hu
    obtain ⟨j', hj', hinc'⟩ := ed.inc gr hw
    have rep : ∀ j, j < (allP m (hasB es)).length → ∃ i, i ∈ (List.range (allP m (hasB es)).length).filter (firstB allB RK) ∧ RK i j = true := by
      intro j hj
      obtain ⟨i, hij, hp, hl⟩ := least_ex (P := fun i => RK i j = true) (v := j) (rk_refl hRK j)
      refine ⟨i, List.mem_filter.2 ⟨by simp; omega, first_all.2 fun y hy => ?_⟩, hp⟩
      cases h : RK y i
      · rfl
      · exact absurd (rk_trans hRK h hp) (hl y hy)
    obtain ⟨i, hi, hij⟩ := rep j hj
    obtain ⟨i', hi', hij'⟩ := rep j' hj'
    refine ⟨i, i', hi, hi', fun e => hno ?_, (node_class hF).2 ⟨j, u, hj, hij, hinc⟩, (node_class hF).2 ⟨j', w, hj', hij', hinc'⟩⟩
    subst e
    exact (star_at gr ed hj hj' hinc hinc').1 ((hRK _ _).1 (rk_trans hRK (rk_symm hRK hij) hij'))
end
end Go.Proofs.YtenjkhgpfmfgmaaDoor
