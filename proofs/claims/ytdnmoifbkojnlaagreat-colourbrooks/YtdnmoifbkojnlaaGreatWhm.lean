/- Two triangles at one node: their blocks and their cut. The document's Lists, Pairs, Without and Bridges. What the program and the document answer of bridges and cuts is the same: plain mathematics. Sides: of each node on which of two sides it is, or a ring with an odd number of nodes. Counting the edges of a list: by nodes, and by two that meet. -/
import Derived.Test.YtdnmoifbkojnlaaGreatFrm
import Derived.Test.YtdnmoifbkojnlaaGreatGiven
import Derived.Test.YtdnmoifbkojnlaaGreatRch
import Derived.Test.YtdnmoifbkojnlaaGreatFst
namespace Go.Proofs.YtdnmoifbkojnlaaGreat
set_option maxRecDepth 4000
open Go.RowKit Go.Maps
attribute [local go_sem ↓] Go.wp_at_zero Go.wp_at_succ

def bowE : List Pair := [(0, 1), (1, 2), (0, 2), (2, 3), (3, 4), (2, 4)]
def bowF : List Pair := [(0, 1), (0, 2), (1, 2), (2, 3), (2, 4), (3, 4)]
theorem bow_chk : chk 5 bowE = (0, 0) := by decide +kernel
theorem bow_form : allP 5 (hasB bowE) = bowF := by decide +kernel

theorem bow_near : ∀ a, a < 5 → ∀ b, b < 5 → bothB bowF a b = true → a < 2 → b ≠ 2 → b < 2 := by decide +kernel
theorem bow_formed : Formed 5 bowF := bow_form ▸ formed_all 5 (hasB bowE)

theorem bow_apart {u w : Nat} (h : Con (Ef 5 bowF) 2 u w) (hu : u < 2) : w < 2 :=
  Star.closed (P := fun x => x < 2) (fun a b ha hab => bow_near a hab.1.1 b hab.1.2.1 hab.1.2.2 ha hab.2) h hu

theorem bow_at : ∀ i, i < 6 → (i < 3 → (elf bowF i).1 < 2 ∧ (elf bowF i).2 ≤ 2) ∧ (3 ≤ i → 2 ≤ (elf bowF i).1 ∧ 2 < (elf bowF i).2) := by decide +kernel

theorem bow_side {i j : Nat} (h : LkF 5 bowF i j) : (i < 3) ↔ (j < 3) := by
  have key : ∀ {i j}, LkF 5 bowF i j → i < 3 → j < 3 := by
    intro i j h hi
    refine Classical.byContradiction fun hj => ?_
    obtain ⟨h1, h2, v, u, w, h3, h4, h5⟩ := h
    have a1 := (bow_at i h1).1 hi
    have a2 := (bow_at j h2).2 (by omega)
    have hv : v = 2 ∧ u < 2 ∧ 2 < w := by
      rcases h3 with e | e <;> rcases h4 with e' | e' <;> rw [e] at a1 <;> rw [e'] at a2 <;> simp at a1 a2 <;> omega
    obtain ⟨rfl, hu, hw⟩ := hv
    have := bow_apart h5 hu
    omega
  exact ⟨key h, key (link_symm (ef_gr bow_formed) (ef_edges bow_formed) _ _ h)⟩

theorem bow_one {a b : Nat} (ha : a < 5) (hb : b < 5) (h : bothB bowF a b = true) {x : Nat} (hx : b ≠ x) : Con (Ef 5 bowF) x a b := .one ⟨⟨ha, hb, h⟩, hx⟩
theorem bow_lk {i j v u w : Nat} (hi : i < 6) (hj : j < 6) (h1 : Inc (elf bowF) i v u) (h2 : Inc (elf bowF) j v w) (hu : u < 5) (hw : w < 5) (h : bothB bowF u w = true) (hx : w ≠ v) : LkF 5 bowF i j := ⟨hi, hj, v, u, w, h1, h2, bow_one hu hw h hx⟩
theorem inc_dec {i v u : Nat} (h : (decide (elf bowF i = (v, u)) || decide (elf bowF i = (u, v))) = true) : Inc (elf bowF) i v u := by
  simpa [Inc] using h
theorem bow_links : LkF 5 bowF 0 1 ∧ LkF 5 bowF 0 2 ∧ LkF 5 bowF 3 4 ∧ LkF 5 bowF 3 5 :=
  ⟨bow_lk (v := 0) (u := 1) (w := 2) (by omega) (by omega) (inc_dec (by decide +kernel)) (inc_dec (by decide +kernel)) (by omega) (by omega) (by decide +kernel) (by omega),
   bow_lk (v := 1) (u := 0) (w := 2) (by omega) (by omega) (inc_dec (by decide +kernel)) (inc_dec (by decide +kernel)) (by omega) (by omega) (by decide +kernel) (by omega),
   bow_lk (v := 2) (u := 3) (w := 4) (by omega) (by omega) (inc_dec (by decide +kernel)) (inc_dec (by decide +kernel)) (by omega) (by omega) (by decide +kernel) (by omega),
   bow_lk (v := 3) (u := 2) (w := 4) (by omega) (by omega) (inc_dec (by decide +kernel)) (inc_dec (by decide +kernel)) (by omega) (by omega) (by decide +kernel) (by omega)⟩

def bowK (i j : Nat) : Bool := decide (i < 3) == decide (j < 3)

theorem bow_star {i j : Nat} (hi : i < 6) (hj : j < 6) : Star (LkF 5 bowF) i j ↔ bowK i j = true := by
  have sy := link_symm (ef_gr bow_formed) (ef_edges bow_formed)
  constructor
  · intro h
    have := Star.closed (P := fun x => (i < 3) ↔ (x < 3)) (fun a b ha hab => ha.trans (bow_side hab)) h Iff.rfl
    simp [bowK, this]
  · intro h
    have hs : (i < 3) ↔ (j < 3) := by simpa [bowK] using h
    obtain ⟨l1, l2, l3, l4⟩ := bow_links
    have lo : ∀ x, x < 3 → Star (LkF 5 bowF) 0 x := fun x hx => by
      match x, hx with
      | 0, _ => exact .refl _
      | 1, _ => exact .one l1
      | 2, _ => exact .one l2
    have hig : ∀ x, x < 6 → ¬ x < 3 → Star (LkF 5 bowF) 3 x := fun x hx hn => by
      match x, hx, hn with
      | 0, _, h => exact absurd (by omega) h
      | 1, _, h => exact absurd (by omega) h
      | 2, _, h => exact absurd (by omega) h
      | 3, _, _ => exact .refl _
      | 4, _, _ => exact .one l3
      | 5, _, _ => exact .one l4
    by_cases h3 : i < 3
    · exact ((lo i h3).symm sy).trans (lo j (hs.1 h3))
    · exact ((hig i hi h3).symm sy).trans (hig j hj (fun h => h3 (hs.2 h)))

theorem bow_blocks {RK : Nat → Nat → Bool} (hRK : ∀ i j, RK i j = true ↔ Star (LkF 5 (allP 5 (hasB bowE))) i j) : (blocksS (allP 5 (hasB bowE)) RK).length = 2 ∧ cutsTo (blocksS (allP 5 (hasB bowE)) RK) 5 = [2] := by
  rw [bow_form] at hRK ⊢
  have e : blocksS bowF RK = blocksS bowF bowK := by
    unfold blocksS
    rw [piecesS_congr (R' := bowK) fun i j hi hj => by
      rw [Bool.eq_iff_iff, hRK]
      exact bow_star hi hj]
  rw [e]
  decide +kernel

theorem qv_ints (L : List Nat) : qv L = (L.map fun (x : Nat) => (x : Int)).map (Value.int .i64) := by simp [qv]
theorem intsAt_q {w : World} {base : Nat} {v : Value} {L : List Nat} (h : w.ownsRow base 3 1 v L.length (qv L)) (hb : ∀ x ∈ L, x ≤ 1000000) (hl : L.length ≤ 1000000) : IntsAt w v (L.map fun (x : Nat) => (x : Int)) := by
  rw [qv_ints] at h
  refine intsAt_row (by simpa using h) (fun x hx => ?_) (by simp; omega)
  obtain ⟨y, hy, rfl⟩ := List.mem_map.1 hx
  have := hb y hy
  constructor <;> omega

end Go.Proofs.YtdnmoifbkojnlaaGreat

namespace Go.Proofs.YtdnmoifbkojnlaaGreat
set_option maxRecDepth 4000
open Go.RowKit Go.Maps
attribute [local go_sem ↓] Go.wp_at_zero Go.wp_at_succ

theorem neq63d {x y x' y' : Int} (hx : I64 x) (hy : I64 y) (hx' : I64 x') (hy' : I64 y') (w : World) : (binOp .neq 42 (.agg #[.int .i64 x, .int .i64 y]) (.agg #[.int .i64 x', .int .i64 y'])).run Tryz.prog w = .ok (.bool (decide (¬ (x, y) = (x', y')))) w := by
  obtain ⟨r, h1, h2⟩ := run_equal_deep (P := Tryz.prog) w (m := Tryz.prog.types.size + 1) (of_decide_eq_true (by kernel_rfl)) (k := 42) (by kernel_rfl) (by kernel_rfl) (key_mk hx hy) (key_mk hx' hy')
  have h3 : r = decide ((x, y) = (x', y')) := by
    rw [Bool.eq_iff_iff, h2, decide_eq_true_iff]
    constructor
    · intro h; have := key_inj hx hy hx' hy' h; simp [this]
    · intro h; simp at h; rw [h.1, h.2]
  rw [h3] at h1
  simp only [binOp]
  simp only [Sem.run_bind, h1]
  by_cases h : (x, y) = (x', y') <;> simp [h, Result.andThen]

/-- The pairs but for one. -/
def lessL (es : List Pair) (e : Pair) : List Pair := es.filter fun d => decide (¬ d = e)
theorem lessL_take {es : List Pair} {k : Nat} {d : Pair} (h : es[k]? = some d) (e : Pair) : lessL (es.take (k + 1)) e = lessL (es.take k) e ++ (if d = e then [] else [d]) := by
  obtain ⟨h1, h2⟩ := List.getElem?_eq_some_iff.1 h
  rw [List.take_succ_eq_append_getElem h1, h2]
  unfold lessL
  rw [List.filter_append]
  congr 1
  by_cases hd : d = e <;> simp [hd]
theorem lessL_len (es : List Pair) (k : Nat) (e : Pair) : (lessL (es.take k) e).length ≤ k := Nat.le_trans (List.length_filter_le _ _) (by rw [List.length_take]; omega)

/-- A slice of slices of numbers that is only read. -/
def ListsIn (w : World) (v : Value) (ls : List (List Nat)) : Prop :=
  ∃ ao cap, v = .slice ao ls.length cap ∧ ls.length ≤ 1000 ∧ ∀ (q : Nat) (l : List Nat), ls[q]? = some l → ∃ g xo xc, ao = some ⟨g, 0, none⟩ ∧ w.cell? ⟨g, q, none⟩ = some (.slice xo l.length xc) ∧ IntsAt w (.slice xo l.length xc) (l.map fun (x : Nat) => (x : Int))
theorem ListsAt.in {w : World} {base : Nat} {v : Value} {ls : List (List Nat)} (h : ListsAt w base v ls) (hl : ls.length ≤ 1000) (hx : ∀ l ∈ ls, l.length ≤ 1000 ∧ ∀ x ∈ l, x ≤ 1000) : ListsIn w v ls := by
  obtain ⟨ao, cap, rfl⟩ := h.form
  refine ⟨ao, cap, rfl, hl, fun q l hq => ?_⟩
  obtain ⟨g, xo, xc, h1, h2, h3⟩ := h.at hq
  have := hx l (List.mem_of_getElem? hq)
  exact ⟨g, xo, xc, h1, h2, intsAt_q h3 (fun x hx' => by have := this.2 x hx'; omega) (by omega)⟩
theorem ListsIn.below {w w' : World} {v : Value} {ls : List (List Nat)} (h : ListsIn w v ls) (hb : Below w.heap.size w w') : ListsIn w' v ls := by
  obtain ⟨ao, cap, h1, hl, h2⟩ := h
  refine ⟨ao, cap, h1, hl, fun q l hq => ?_⟩
  obtain ⟨g, xo, xc, h3, h4, h5⟩ := h2 q l hq
  exact ⟨g, xo, xc, h3, by rw [hb.cell (by exact World.block_lt_of_cell? w _ h4)]; exact h4, h5.below hb⟩

theorem keepL {W : World} {g q g' : Nat} {x y : Value} (c0 : W.cell? ⟨g, q, none⟩ = some x) (c1 : W.cell? ⟨g', q, none⟩ = some y) {w' : World} (hb : Below W.heap.size W w') : Below W.heap.size W w' ∧ w'.cell? ⟨g, q, none⟩ = some x ∧ w'.cell? ⟨g', q, none⟩ = some y :=
  ⟨hb, by rw [hb.cell (by exact World.block_lt_of_cell? W _ c0)]; exact c0, by rw [hb.cell (by exact World.block_lt_of_cell? W _ c1)]; exact c1⟩

theorem two_pair (w : World) (x y : Value) (t : TypeId) : Two (w.alloc (Obj.cells #[x, y] t)) w.heap.size x y t := two_new w x y t

/-- The edges, of the first k, without which there are more components. -/
def refBridgesTo (N : Nat) (fes : List Pair) (R : Nat → Nat → Bool) (Re : Pair → Nat → Nat → Bool) (k : Nat) : List Pair := (fes.take k).filter fun e => decide (partsN N allB R < partsN N allB (Re e))
theorem refBridgesTo_succ {N : Nat} {fes : List Pair} {R : Nat → Nat → Bool} {Re : Pair → Nat → Nat → Bool} {k : Nat} {e : Pair} (h : fes[k]? = some e) : refBridgesTo N fes R Re (k + 1) = refBridgesTo N fes R Re k ++ (if partsN N allB R < partsN N allB (Re e) then [e] else []) := by
  obtain ⟨h1, h2⟩ := List.getElem?_eq_some_iff.1 h
  unfold refBridgesTo
  rw [List.take_succ_eq_append_getElem h1, h2, List.filter_append]
  congr 1
  by_cases hd : partsN N allB R < partsN N allB (Re e) <;> simp [hd]
theorem refBridgesTo_le (N : Nat) (fes : List Pair) (R : Nat → Nat → Bool) (Re : Pair → Nat → Nat → Bool) (k : Nat) : (refBridgesTo N fes R Re k).length ≤ k := Nat.le_trans (List.length_filter_le _ _) (by rw [List.length_take]; omega)

theorem field24 (n : Int) (ao : Option Addr) (l c : Nat) (w : World) : (Instr.field 24 (.agg #[.int .i64 n, .slice ao l c]) 1).run Tryz.prog w = .ok (.slice ao l c) w := by
  simp [Instr.field, go_sem, asAgg, Result.andThen]

end Go.Proofs.YtdnmoifbkojnlaaGreat

namespace Go.Proofs.YtdnmoifbkojnlaaGreat
set_option maxRecDepth 4000

abbrev Good (m : Nat) (es : List Pair) : Prop := ∀ e ∈ es, (0 ≤ e.1 ∧ e.1 < m ∧ 0 ≤ e.2 ∧ e.2 < m) ∧ e.1 ≠ e.2

theorem has_good {m : Nat} {es : List Pair} (hg : Good m es) {a b : Nat} (h : hasB es a b = true) : a < m ∧ b < m ∧ a ≠ b := by
  unfold hasB at h
  rw [List.any_eq_true] at h
  obtain ⟨e, he, hb⟩ := h
  have := hg e he
  simp at hb
  omega

theorem has_allP {m : Nat} {es : List Pair} (hg : Good m es) (a b : Nat) : hasB (allP m (hasB es)) a b = true ↔ hasB es a b = true := by
  have h1 : hasB (allP m (hasB es)) a b = true ↔ ∃ i : Nat, (allP m (hasB es))[i]? = some (((min a b : Nat) : Int), ((max a b : Nat) : Int)) := both_iff (formed_all m (hasB es)) a b
  rw [h1]
  constructor
  · rintro ⟨i, hi⟩
    obtain ⟨u, v, h2, h3, h4, e⟩ := allP_mem.1 (List.mem_of_getElem? hi)
    simp at e
    rcases Nat.le_total a b with h | h
    · rw [Nat.min_eq_left h, Nat.max_eq_right h] at e
      have e1 : (u : Int) = (a : Int) := by omega
      have e2 : (v : Int) = (b : Int) := by omega
      rw [← e1, ← e2]; exact h4
    · rw [Nat.min_eq_right h, Nat.max_eq_left h] at e
      have e1 : (u : Int) = (b : Int) := by omega
      have e2 : (v : Int) = (a : Int) := by omega
      rw [hasB_comm, ← e1, ← e2]; exact h4
  · intro h
    obtain ⟨h2, h3, h4⟩ := has_good hg h
    have : (((min a b : Nat) : Int), ((max a b : Nat) : Int)) ∈ allP m (hasB es) := by
      rw [allP_mem]
      refine ⟨min a b, max a b, by omega, by omega, ?_, rfl⟩
      rcases Nat.le_total a b with h' | h'
      · rw [Nat.min_eq_left h', Nat.max_eq_right h']; exact h
      · rw [Nat.min_eq_right h', Nat.max_eq_left h', hasB_comm]; exact h
    exact List.mem_iff_getElem?.1 this

/-- The graph of es, by its form. -/
abbrev EF (m : Nat) (es : List Pair) : Nat → Nat → Prop := Ef m (allP m (hasB es))

theorem ef_iff {m : Nat} {es : List Pair} (hg : Good m es) (a b : Nat) : EF m es a b ↔ hasB es a b = true := by
  show (a < m ∧ b < m ∧ hasB (allP m (hasB es)) a b = true) ↔ _
  rw [has_allP hg]
  constructor
  · exact fun h => h.2.2
  · exact fun h => ⟨(has_good hg h).1, (has_good hg h).2.1, h⟩
theorem st_iff {m : Nat} {es : List Pair} (hg : Good m es) (a b : Nat) : St m (pn (hasB es)) allB a b ↔ EF m es a b := by
  rw [ef_iff hg]
  constructor
  · exact fun h => h.2.1
  · exact fun h => ⟨(has_good hg h).2.1, h, rfl⟩
theorem stx_iff {m : Nat} {es : List Pair} (hg : Good m es) (x a b : Nat) : St m (pn (hasB es)) (notB x) a b ↔ (EF m es a b ∧ b ≠ x) := by
  rw [ef_iff hg]
  constructor
  · exact fun h => ⟨h.2.1, by have := h.2.2; simpa [notB] using this⟩
  · exact fun h => ⟨(has_good hg h.1).2.1, h.1, by simpa [notB] using h.2⟩
theorem ste_iff {m : Nat} {es : List Pair} (hg : Good m es) {s t : Nat} (hst : s < t) (a b : Nat) : St m (pn (hasB (lessL (allP m (hasB es)) ((s : Int), (t : Int))))) allB a b ↔ Less (EF m es) s t a b := by
  unfold Less
  have key : hasB (lessL (allP m (hasB es)) ((s : Int), (t : Int))) a b = true ↔ hasB es a b = true ∧ ¬ ((a = s ∧ b = t) ∨ (a = t ∧ b = s)) := by
    rw [← has_allP hg]
    unfold hasB lessL
    rw [List.any_eq_true, List.any_eq_true]
    constructor
    · rintro ⟨e, he, hb⟩
      obtain ⟨h1, h2⟩ := List.mem_filter.1 he
      refine ⟨⟨e, h1, hb⟩, fun hh => ?_⟩
      obtain ⟨u, v, h3, _, _, rfl⟩ := allP_mem.1 h1
      simp at hb h2
      omega
    · rintro ⟨⟨e, h1, hb⟩, hh⟩
      refine ⟨e, List.mem_filter.2 ⟨h1, ?_⟩, hb⟩
      obtain ⟨u, v, h3, _, _, rfl⟩ := allP_mem.1 h1
      simp at hb ⊢
      omega
  constructor
  · intro h
    have := key.1 h.2.1
    exact ⟨(ef_iff hg a b).2 this.1, this.2⟩
  · intro h
    have h1 := (ef_iff hg a b).1 h.1
    exact ⟨(has_good hg h1).2.1, key.2 ⟨h1, h.2⟩, rfl⟩

section
variable {m : Nat} {es : List Pair} {RK : Nat → Nat → Bool}

theorem rk_symm (hRK : ∀ i j, RK i j = true ↔ Star (LkF m (allP m (hasB es))) i j) {i j : Nat} (h : RK i j = true) : RK j i = true :=
  (hRK _ _).2 (((hRK _ _).1 h).symm (link_symm (ef_gr (formed_all m (hasB es))) (ef_edges (formed_all m (hasB es)))))
theorem rk_trans (hRK : ∀ i j, RK i j = true ↔ Star (LkF m (allP m (hasB es))) i j) {i j k : Nat} (h : RK i j = true) (h2 : RK j k = true) : RK i k = true := (hRK _ _).2 (((hRK _ _).1 h).trans ((hRK _ _).1 h2))
theorem rk_refl (hRK : ∀ i j, RK i j = true ↔ Star (LkF m (allP m (hasB es))) i j) (i : Nat) : RK i i = true := (hRK _ _).2 (.refl _)

theorem filter_eq_single {n i : Nat} {p : Nat → Bool} (hi : i < n) (h : ∀ j, j < n → (p j = true ↔ j = i)) : (List.range n).filter p = [i] := by
  have e : (List.range n).filter p = (List.range n).filter (fun j => decide (j = i)) := List.filter_congr fun j hj => by
    rw [Bool.eq_iff_iff, h j (by simpa using hj)]; simp
  rw [e]
  induction n with
  | zero => omega
  | succ n ih =>
    rw [List.range_succ, List.filter_append]
    by_cases hin : i = n
    · subst hin
      have : (List.range i).filter (fun j => decide (j = i)) = [] := by
        rw [List.filter_eq_nil_iff]; intro j hj; simp at hj ⊢; omega
      rw [this]; simp
    · have hn : ¬ n = i := fun e => hin e.symm
      have := ih (by omega) (fun j hj => h j (by omega)) (List.filter_congr fun j hj => by
        rw [Bool.eq_iff_iff, h j (by simp at hj; omega)]; simp)
      rw [this]
      simp [hn]

theorem single_of (fes : List Pair) (RK : Nat → Nat → Bool) (hr : ∀ i, RK i i = true) (hs : ∀ i j, RK i j = true → RK j i = true) {i : Nat} (hi : i < fes.length) :
    (if firstB allB RK i = true then single (edgesL fes (classL fes.length RK i)) else none) = if (∀ j, j < fes.length → RK i j = true → j = i) then some (fes.getD i (0, 0)) else none := by
  by_cases ha : ∀ j, j < fes.length → RK i j = true → j = i
  · rw [if_pos ha]
    have hf : firstB allB RK i = true := first_all.2 fun u hu => by
      cases h : RK u i
      · rfl
      · have := ha u (by omega) (hs _ _ h); omega
    have hc : classL fes.length RK i = [i] := filter_eq_single hi (fun j hj => ⟨ha j hj, fun e => e ▸ hr i⟩)
    rw [if_pos hf, hc]
    rfl
  · rw [if_neg ha]
    by_cases hf : firstB allB RK i = true
    · rw [if_pos hf]
      have h2 : ¬ (edgesL fes (classL fes.length RK i)).length = 1 := by
        rw [edgesL_len]
        intro h1
        obtain ⟨x, hx⟩ := List.length_eq_one_iff.1 h1
        have mem : ∀ j, j < fes.length → RK i j = true → j = x := fun j hj h => by
          have : j ∈ classL fes.length RK i := by simp [classL, hj, h]
          rw [hx] at this; simpa using this
        exact ha fun j hj h => by rw [mem j hj h, mem i hi (hr i)]
      match edgesL fes (classL fes.length RK i), h2 with
      | [], _ => rfl
      | [_], h => exact absurd rfl h
      | _ :: _ :: _, _ => rfl
    · rw [if_neg hf]

theorem filterMap_congr' {α β : Type} {l : List α} {f g : α → Option β} (h : ∀ x ∈ l, f x = g x) : l.filterMap f = l.filterMap g := by
  induction l with
  | nil => rfl
  | cons a l ih =>
    rw [List.filterMap_cons, List.filterMap_cons, h a (by simp), ih (fun x hx => h x (by simp [hx]))]
theorem filterMap_filter' {α β : Type} (l : List α) (p : α → Bool) (g : α → Option β) : (l.filter p).filterMap g = l.filterMap fun i => if p i = true then g i else none := by
  induction l with
  | nil => rfl
  | cons a l ih =>
    rw [List.filter_cons]
    by_cases h : p a = true
    · rw [if_pos h]; simp [List.filterMap_cons, ih, h]
    · rw [if_neg h]; simp [ih, h]
theorem filter_range (fes : List Pair) (q : Pair → Bool) : fes.filter q = (List.range fes.length).filterMap fun i => if q (fes.getD i (0, 0)) = true then some (fes.getD i (0, 0)) else none := by
  have key : ∀ (l pre : List Pair), l.filter q = (List.range l.length).filterMap fun i => if q ((pre ++ l).getD (pre.length + i) (0, 0)) = true then some ((pre ++ l).getD (pre.length + i) (0, 0)) else none := by
    intro l
    induction l with
    | nil => intro pre; rfl
    | cons a l ih =>
      intro pre
      rw [List.length_cons, List.range_succ_eq_map, List.filterMap_cons, List.filterMap_map, List.filter_cons]
      have e0 : (pre ++ a :: l).getD (pre.length + 0) (0, 0) = a := by simp [List.getD]
      have ih' := ih (pre ++ [a])
      have e1 : (fun i => if q ((pre ++ [a] ++ l).getD ((pre ++ [a]).length + i) (0, 0)) = true then some ((pre ++ [a] ++ l).getD ((pre ++ [a]).length + i) (0, 0)) else none) = ((fun i => if q ((pre ++ a :: l).getD (pre.length + i) (0, 0)) = true then some ((pre ++ a :: l).getD (pre.length + i) (0, 0)) else none) ∘ Nat.succ) := by
        funext i
        have : (pre ++ [a]).length + i = pre.length + (i + 1) := by simp; omega
        simp only [Function.comp_def, this, List.append_assoc, List.singleton_append, Nat.succ_eq_add_one]
      rw [e1] at ih'
      rw [e0, ← ih']
      by_cases h : q a = true <;> simp [h]
  simpa using key fes []

/-- The bridges that the program tells are those of the document. -/
theorem bridges_same (hg : Good m es) (hRK : ∀ i j, RK i j = true ↔ Star (LkF m (allP m (hasB es))) i j) {R : Nat → Nat → Bool} (hR : ∀ v x, R v x = true ↔ Star (St m (pn (hasB es)) allB) v x) {Re : Pair → Nat → Nat → Bool} (hRe : ∀ e v x, Re e v x = true ↔ Star (St m (pn (hasB (lessL (allP m (hasB es)) e))) allB) v x) :
    singles (blocksS (allP m (hasB es)) RK) = refBridgesTo m (allP m (hasB es)) R Re (allP m (hasB es)).length := by
  have hF := formed_all m (hasB es)
  unfold refBridgesTo
  rw [List.take_length, filter_range]
  unfold singles blocksS piecesS piecesTo
  rw [List.filterMap_map, List.filterMap_map, filterMap_filter']
  refine filterMap_congr' fun i hi => ?_
  have hi' : i < (allP m (hasB es)).length := by simpa using hi
  refine (single_of _ RK (rk_refl hRK) (fun i j => rk_symm hRK) hi').trans ?_
  obtain ⟨s, t, he, hst, htm⟩ := hF.at hi'
  have hgd : (allP m (hasB es)).getD i (0, 0) = ((s : Int), (t : Int)) := getD_some he
  have hel : elf (allP m (hasB es)) i = (s, t) := elf_some he
  have hE := (ef_edges hF).ok i hi'
  rw [hel] at hE
  have h1 : (∀ j, j < (allP m (hasB es)).length → RK i j = true → j = i) ↔ ¬ Star (Less (EF m es) s t) s t := by
    rw [← alone_bridge (ef_gr hF) (ef_edges hF) hi' hel]
    constructor
    · intro h j hj hs; exact h j hj ((hRK _ _).2 hs)
    · intro h j hj hs; exact h j hj ((hRK _ _).1 hs)
  have h2 := bridge_count (ef_gr hF) hE.2 (R := R) (R' := Re ((s : Int), (t : Int))) (fun v w => (hR v w).trans (Star.iff (st_iff hg) v w)) (fun v w => (hRe _ v w).trans (Star.iff (ste_iff hg hst) v w))
  rw [hgd]
  by_cases hb : ¬ Star (Less (EF m es) s t) s t
  · rw [if_pos (h1.2 hb), if_pos (by simpa using h2.2 hb)]
  · rw [if_neg (fun h => hb (h1.1 h)), if_neg (by simpa using fun h => hb (h2.1 h))]

theorem two_in {l : List Nat} (hn : l.Nodup) {p : Nat → Bool} : 1 < (l.filter p).length ↔ ∃ a b, a ∈ l ∧ b ∈ l ∧ a ≠ b ∧ p a = true ∧ p b = true := by
  have hn' := hn.filter p
  constructor
  · intro h
    match hl : l.filter p, h with
    | a :: b :: r, _ =>
      have ha : a ∈ l.filter p := by rw [hl]; simp
      have hb : b ∈ l.filter p := by rw [hl]; simp
      rw [hl] at hn'
      have hab : a ≠ b := by
        have := (List.nodup_cons.1 hn').1
        intro e; exact this (by simp [e])
      exact ⟨a, b, (List.mem_filter.1 ha).1, (List.mem_filter.1 hb).1, hab, (List.mem_filter.1 ha).2, (List.mem_filter.1 hb).2⟩
  · rintro ⟨a, b, ha, hb, hab, h1, h2⟩
    have := nat_nodup_len [a, b] (l.filter p) (by simp [hab]) (fun x hx => by
      simp at hx
      rcases hx with rfl | rfl
      · exact List.mem_filter.2 ⟨ha, h1⟩
      · exact List.mem_filter.2 ⟨hb, h2⟩)
    simp at this
    omega

/-- A node is in a block just if an edge of it goes to the node. -/
theorem node_class {fes : List Pair} (hf : Formed m fes) {i x : Nat} : nodeIn (edgesL fes (classL fes.length RK i)) x = true ↔ ∃ j u, j < fes.length ∧ RK i j = true ∧ Inc (elf fes) j x u := by
  unfold nodeIn edgesL
  rw [List.any_eq_true]
  constructor
  · rintro ⟨e, he, hb⟩
    obtain ⟨j, hj, rfl⟩ := List.mem_map.1 he
    simp [classL] at hj
    obtain ⟨s, t, h1, h2, h3⟩ := hf.at hj.1
    rw [getD_some h1] at hb
    simp at hb
    rcases hb with hb | hb
    · exact ⟨j, t, hj.1, hj.2, Or.inl (by rw [elf_some h1]; simp; omega)⟩
    · exact ⟨j, s, hj.1, hj.2, Or.inr (by rw [elf_some h1]; simp; omega)⟩
  · rintro ⟨j, u, hj, hR, hinc⟩
    obtain ⟨s, t, h1, h2, h3⟩ := hf.at hj
    refine ⟨((s : Int), (t : Int)), List.mem_map.2 ⟨j, by simp [classL, hj, hR], getD_some h1⟩, ?_⟩
    unfold Inc at hinc
    rw [elf_some h1] at hinc
    simp at hinc ⊢
    omega

/-- The cuts that the program tells are those of the document. -/
theorem cuts_same (hg : Good m es) (hRK : ∀ i j, RK i j = true ↔ Star (LkF m (allP m (hasB es))) i j) {R : Nat → Nat → Bool} (hR : ∀ v x, R v x = true ↔ Star (St m (pn (hasB es)) allB) v x) {Rx : Nat → Nat → Nat → Bool} (hRx : ∀ y v x, Rx y v x = true ↔ Star (St m (pn (hasB es)) (notB y)) v x) :
    cutsTo (blocksS (allP m (hasB es)) RK) m = refCutsTo m R Rx m := by
  have hF := formed_all m (hasB es)
  have gr := ef_gr hF
  have ed := ef_edges hF
  unfold cutsTo refCutsTo
  refine List.filter_congr fun x hx => ?_
  have hxm : x < m := by simpa using hx
  rw [Bool.eq_iff_iff, decide_eq_true_iff, decide_eq_true_iff, cut_count gr hxm (fun v w => (hR v w).trans (Star.iff (st_iff hg) v w)) (fun v w => (hRx x v w).trans (Star.iff (stx_iff hg x) v w))]
  unfold cntTo
  rw [List.take_length]
  have e : ((blocksS (allP m (hasB es)) RK).filter fun l => nodeIn l x).length = (((List.range (allP m (hasB es)).length).filter (firstB allB RK)).filter fun i => nodeIn (edgesL (allP m (hasB es)) (classL (allP m (hasB es)).length RK i)) x).length := by
    unfold blocksS piecesS piecesTo
    rw [List.map_map, List.filter_map, List.length_map]
    rfl
  rw [e, two_in (List.nodup_range.filter _)]
  have uniq : ∀ {i i'}, firstB allB RK i = true → firstB allB RK i' = true → RK i i' = true → i = i' := by
    intro i i' h1 h2 h
    rcases Nat.lt_trichotomy i i' with h' | h' | h'
    · have := first_all.1 h2 i h'; rw [h] at this; cases this
    · exact h'
    · have := first_all.1 h1 i' h'; rw [rk_symm hRK h] at this; cases this
  constructor
  · rintro ⟨i, i', hi, hi', hne, h1, h2⟩
    obtain ⟨hiM, hif⟩ := List.mem_filter.1 hi
    obtain ⟨hiM', hif'⟩ := List.mem_filter.1 hi'
    obtain ⟨j, u, hj, hRj, hinc⟩ := (node_class hF).1 h1
    obtain ⟨j', w, hj', hRj', hinc'⟩ := (node_class hF).1 h2
    refine ⟨u, w, (hinc.edge gr ed hj).1, (hinc'.edge gr ed hj').1, fun hc => hne (uniq hif hif' ?_)⟩
    have : RK j j' = true := (hRK _ _).2 ((star_at gr ed hj hj' hinc hinc').2 hc)
    exact rk_trans hRK (rk_trans hRK hRj this) (rk_symm hRK hRj')
  · rintro ⟨u, w, hu, hw, hno⟩
    obtain ⟨j, hj, hinc⟩ := ed.inc gr hu
    obtain ⟨j', hj', hinc'⟩ := ed.inc gr hw
    have rep : ∀ j, j < (allP m (hasB es)).length → ∃ i, i ∈ (List.range (allP m (hasB es)).length).filter (firstB allB RK) ∧ RK i j = true := by
      intro j hj
      obtain ⟨i, hij, hp, hl⟩ := least_ex (P := fun i => RK i j = true) (v := j) (rk_refl hRK j)
      refine ⟨i, List.mem_filter.2 ⟨by simp; omega, first_all.2 fun y hy => ?_⟩, hp⟩
      cases h : RK y i
      · rfl
      · exact absurd (rk_trans hRK h hp) (hl y hy)
    obtain ⟨i, hi, hij⟩ := rep j hj
    obtain ⟨i', hi', hij'⟩ := rep j' hj'
    refine ⟨i, i', hi, hi', fun e => hno ?_, (node_class hF).2 ⟨j, u, hj, hij, hinc⟩, (node_class hF).2 ⟨j', w, hj', hij', hinc'⟩⟩
    subst e
    exact (star_at gr ed hj hj' hinc hinc').1 ((hRK _ _).1 (rk_trans hRK (rk_symm hRK hij) hij'))
end
end Go.Proofs.YtdnmoifbkojnlaaGreat

namespace Go.Proofs.YtdnmoifbkojnlaaGreat
set_option maxRecDepth 4000
open Go.RowKit Go.Maps
attribute [local go_sem ↓] Go.wp_at_zero Go.wp_at_succ

section
variable {N : Nat} {e R : Nat → Nat → Bool} {far : Nat → Nat}
theorem FarAll.at (h : FarAll N e R far N) (hR : ∀ v x, R v x = true ↔ Star (St N e allB) v x) {x : Nat} (hx : x < N) : ∃ f o, f < N ∧ firstB allB R f = true ∧ Dist N e f o ∧ R f x = true ∧ ∀ y, y < N → R f y = true → o y = some (far y) := by
  obtain ⟨f, hf, h1, h2⟩ := least_ex (P := fun u => R u x = true) ((hR x x).2 (.refl _))
  have hff : firstB allB R f = true := firstB_iff.2 ⟨rfl, fun u hu _ => by
    cases hc : R u f
    · rfl
    · exact absurd ((hR u x).2 (((hR u f).1 hc).trans ((hR f x).1 h1))) (h2 u hu)⟩
  obtain ⟨o, h3, h4⟩ := h f (by omega) hff
  exact ⟨f, o, by omega, hff, h3, h1, h4⟩
theorem FarAll.lt (h : FarAll N e R far N) (hR : ∀ v x, R v x = true ↔ Star (St N e allB) v x) {x : Nat} (hx : x < N) : far x < N := by
  obtain ⟨f, o, _, _, h1, h2, h3⟩ := h.at hR hx
  exact h1.lt hx (h3 x hx h2)
/-- Ends of an edge are at most one apart. -/
theorem FarAll.near (h : FarAll N e R far N) (hR : ∀ v x, R v x = true ↔ Star (St N e allB) v x) {a b : Nat} (ha : a < N) (hb : b < N) (hab : e a b = true) : far b ≤ far a + 1 := by
  obtain ⟨f, o, _, _, h1, h2, h3⟩ := h.at hR ha
  have hfb : R f b = true := (hR f b).2 (((hR f a).1 h2).step ⟨hb, hab, rfl⟩)
  obtain ⟨d, h4, h5⟩ := h1.tri a b _ ha hb hab (h3 a ha h2)
  rw [h3 b hb hfb] at h4
  cases h4
  exact h5
theorem FarAll.ways (h : FarAll N e R far N) (hR : ∀ v x, R v x = true ↔ Star (St N e allB) v x) (hs : ∀ a b, a < N → b < N → e a b = true → e b a = true) {a b : Nat} (ha : a < N) (hb : b < N) (hab : e a b = true) :
    ∃ P : Nat → Prop, P a ∧ P b ∧ (∀ x, P x → far x ≠ 0 → ∃ p, p < N ∧ e x p = true ∧ far p + 1 = far x) ∧ (∀ x y, P x → y < N → e x y = true → P y) ∧ (∀ x y, P x → P y → far x = 0 → far y = 0 → x = y) := by
  obtain ⟨f, o, hf, _, h1, h2, h3⟩ := h.at hR ha
  have hz : ∀ x, x < N ∧ R f x = true → far x = 0 → x = f := fun x hx h0 => by
    have := h3 x hx.1 hx.2
    rw [h0] at this
    rcases h1.par x 0 hx.1 this with ⟨h4, _⟩ | ⟨_, _, _, _, _, h4⟩
    · exact h4
    · omega
  refine ⟨fun x => x < N ∧ R f x = true, ⟨ha, h2⟩, ⟨hb, (hR f b).2 (((hR f a).1 h2).step ⟨hb, hab, rfl⟩)⟩, fun x hx h0 => ?_, fun x y hx hy hxy => ⟨hy, (hR f y).2 (((hR f x).1 hx.2).step ⟨hy, hxy, rfl⟩)⟩, fun x y hx hy h4 h5 => (hz x hx h4).trans (hz y hy h5).symm⟩
  rcases h1.par x _ hx.1 (h3 x hx.1 hx.2) with ⟨_, h4⟩ | ⟨p, d, hp, hpx, hop, h4⟩
  · exact absurd h4 h0
  · have hfp := (hR f p).2 (h1.star d p hp hop)
    rw [h3 p hp hfp] at hop
    cases hop
    exact ⟨p, hp, hs _ _ hp hx.1 hpx, h4.symm⟩
end

theorem two_set {w : World} {b : Nat} {x y x' y' : Value} {t : TypeId} (h : Two w b x y t) : Two ((w.setCell ⟨b, 0, none⟩ x').setCell ⟨b, 1, none⟩ y') b x' y' t := by
  have hl := lt_of_block h
  have h' : w.heap[b]? = some (.cells #[x, y] t (0, 0)) := h
  show ((w.setCell ⟨b, 0, none⟩ x').setCell ⟨b, 1, none⟩ y').heap[b]? = _
  simp [World.setCell, Array.getElem?_modify, h']

set_option maxHeartbeats 1000000 in
theorem sides_bad (n : Int) (v : Value) (es : List Pair) (w : World) (hE : EdgesAt w v es) (hc : (chk n es).1 ≠ 0) :
    Calls Tryz.prog 22 #[.agg #[.int .i64 n, v]] w fun r w' => r = .returned (.tuple #[.slice none 0 0, .slice none 0 0, .agg #[.int .i64 (chk n es).1, .int .i64 (chk n es).2]]) ∧ Below w.heap.size w w' := by
  have hc1 : ((chk n es).1 != 0) = true := by simpa using hc
  have hfs : formS n es = ⟨0, [], (chk n es).1, (chk n es).2⟩ := by unfold formS; rw [if_neg hc]
  obtain ⟨c, hcv⟩ : ∃ c, c = (chk n es).1 := ⟨_, rfl⟩
  obtain ⟨d, hdv⟩ : ∃ d, d = (chk n es).2 := ⟨_, rfl⟩
  rw [← hcv, ← hdv] at hfs ⊢
  rw [← hcv] at hc1
  clear hcv hdv hc
  go_enter Tryz.func22, Tryz.ntmps22
  go_upto_region 2 with (go_at_call 15; refine (form_as (a := ⟨0, [], c, d⟩) ?_ hfs).mono ?_; exact hE.below (below2 _ _); rintro e w1 ⟨hb, lo, lc, rfl, hEl, hfr⟩; obtain ⟨bc, bf, bc1, bf1, bc2, bf2⟩ := bcell hb; have hz := hb.size; simp at hz)
  have t4 := two_set (x' := .int .i64 c) (y' := .int .i64 d) (two_alloc (two_next (two_new1 w (Obj.cells #[.int .i64 n, v] 24) (.int .i64 0) (.int .i64 0) 27) hb) (Obj.cells #[.int .i64 0, .slice lo 0 lc] 24))
  have hB := ((below_alloc (below_next (below2 (w := w) (Obj.cells #[.int .i64 n, v] 24) (Obj.cells #[.int .i64 0, .int .i64 0] 27)) hb) (Obj.cells #[.int .i64 0, .slice lo 0 lc] 24)).setCell (p := ⟨w.heap.size + 1, 0, none⟩) (by simp) (.int .i64 c)).setCell (p := ⟨w.heap.size + 1, 1, none⟩) (by simp) (.int .i64 d)
  clear bc bf bc1 bf1 bc2 bf2 hz hEl hfr
  generalize ((w1.alloc (Obj.cells #[.int .i64 0, .slice lo 0 lc] 24)).setCell ⟨w.heap.size + 1, 0, none⟩ (.int .i64 c)).setCell ⟨w.heap.size + 1, 1, none⟩ (.int .i64 d) = W at t4 hB ⊢
  clear hb
  obtain ⟨y1, y2⟩ := cell_two t4
  have f1 := free_two t4 0
  have f2 := free_two t4 1
  go_wp2_with fail
  go_region
  all_goals
    go_wp2
    refine bodyPost_ret (v := .tuple #[.slice none 0 0, .slice none 0 0, .agg #[.int .i64 c, .int .i64 d]]) ?_ rfl ⟨rfl, ?_⟩
    · simp [results, Tryz.results22, go_sem, y1, y2]
    · exact ((hB.setCell (by simp) _).setCell (by simp) _).drew

theorem pn_symm (es : List Pair) (m : Nat) : ∀ a b, a < m → b < m → pn (hasB es) a b = true → pn (hasB es) b a = true := fun a b _ _ h => by unfold pn at *; rw [hasB_comm]; exact h
/-- What Sides answers of a graph in form. -/
def SidesTo (m : Nat) (e R : Nat → Nat → Bool) (base : Nat) (w' : World) (v1 v2 : Value) (far : Nat → Nat) : Prop :=
  FarAll m e R far m ∧
  ((v2 = .slice none 0 0 ∧ w'.ownsRow base 3 1 v1 m (qv ((List.range m).map fun x => far x % 2)) ∧ ∀ a b, a < m → b < m → e a b = true → far a ≠ far b) ∨
   (v1 = .slice none 0 0 ∧ (∃ g n c rg, v2 = .slice (some ⟨g, 0, none⟩) n c ∧ n ≤ 3000 ∧ n % 2 = 1 ∧ base ≤ g ∧ RowN w' g n rg ∧ RingF m e n rg) ∧ ∃ a b, a < m ∧ b < m ∧ e a b = true ∧ far a = far b))

set_option maxHeartbeats 4000000 in
theorem sides_ok (m : Nat) (ao : Option Addr) (cap : Nat) (es : List Pair) (w : World) (hE : EdgesAt w (.slice ao es.length cap) es) (hc : (chk m es).1 = 0) (R : Nat → Nat → Bool) (hR : ∀ v x, R v x = true ↔ Star (St m (pn (hasB es)) allB) v x) :
    Calls Tryz.prog 22 #[.agg #[.int .i64 (m : Int), .slice ao es.length cap]] w fun r w' => ∃ v1 v2 far, r = .returned (.tuple #[v1, v2, .agg #[.int .i64 0, .int .i64 0]]) ∧ SidesTo m (pn (hasB es)) R w.heap.size w' v1 v2 far ∧ Below w.heap.size w w' := by
  obtain ⟨hck, hn0, hn1, hl, hgood⟩ := chk_good hc
  have hm : m ≤ 100 := by omega
  have hfs := formS_good hc
  have hfl : (allP m (hasB es)).length ≤ 1000 := Nat.le_trans (allP_has_le m es) hl
  have hff := formed_all m (hasB es)
  have heq : bothB (allP m (hasB es)) = pn (hasB es) := by
    funext a b
    rw [Bool.eq_iff_iff]
    exact has_allP hgood a b
  have hsym := pn_symm es m
  obtain ⟨e, he⟩ : ∃ e, e = pn (hasB es) := ⟨_, rfl⟩
  rw [← he] at heq hR hsym ⊢
  obtain ⟨fes, hfes⟩ : ∃ fes, fes = allP m (hasB es) := ⟨_, rfl⟩
  rw [← hfes] at hfs hfl hff heq
  have hgd : ∀ x ∈ fes, 0 ≤ x.1 ∧ x.1 < m ∧ 0 ≤ x.2 ∧ x.2 < m := fun x hx => by
    obtain ⟨i, hi⟩ := List.mem_iff_getElem?.1 hx
    obtain ⟨a, b, rfl, h1, h2⟩ := hff.ok i x hi
    simp; omega
  have HE : Hid _ := hE
  have HR : Hid _ := hR
  have HFS : Hid _ := hfs
  have HFF : Hid _ := hff
  have HEQ : Hid _ := heq
  have HSY : Hid _ := hsym
  have HGD : Hid _ := hgd
  clear hE hR hfs hff heq hsym hgd hfes hck hn0 hn1 hl hc he hgood
  go_enter Tryz.func22, Tryz.ntmps22
  go_upto_region 2 with (go_at_call 15; refine (form_as (a := ⟨m, fes, 0, 0⟩) ?_ HFS.out).mono ?_; exact EdgesAt.below HE.out (below2 _ _); rintro e w1 ⟨hb, lo, lc, rfl, hEl, hfr⟩; obtain ⟨bc, bf, bc1, bf1, bc2, bf2⟩ := bcell hb; have hz := hb.size; simp at hz)
  have t4 := two_set (x' := .int .i64 0) (y' := .int .i64 0) (two_alloc (two_next (two_new1 w (Obj.cells #[.int .i64 (m : Int), .slice ao es.length cap] 24) (.int .i64 0) (.int .i64 0) 27) hb) (Obj.cells #[.int .i64 (m : Int), .slice lo fes.length lc] 24))
  have t5 : Two (((w1.alloc (Obj.cells #[.int .i64 (m : Int), .slice lo fes.length lc] 24)).setCell ⟨w.heap.size + 1, 0, none⟩ (.int .i64 0)).setCell ⟨w.heap.size + 1, 1, none⟩ (.int .i64 0)) w1.heap.size (.int .i64 (m : Int)) (.slice lo fes.length lc) 24 := two_far (two_far (two_new w1 _ _ _) (by omega)) (by omega)
  have hB := ((below_alloc (below_next (below2 (w := w) (Obj.cells #[.int .i64 (m : Int), .slice ao es.length cap] 24) (Obj.cells #[.int .i64 0, .int .i64 0] 27)) hb) (Obj.cells #[.int .i64 (m : Int), .slice lo fes.length lc] 24)).setCell (p := ⟨w.heap.size + 1, 0, none⟩) (by simp) (.int .i64 0)).setCell (p := ⟨w.heap.size + 1, 1, none⟩) (by simp) (.int .i64 0)
  have hEf := ((hEl.below (below_alloc (Below.refl _ w1) (Obj.cells #[.int .i64 (m : Int), .slice lo fes.length lc] 24))).setCell (p := ⟨w.heap.size + 1, 0, none⟩) (fun x hx => by have := hfr x hx; simp at this ⊢; omega) (.int .i64 0)).setCell (p := ⟨w.heap.size + 1, 1, none⟩) (fun x hx => by have := hfr x hx; simp at this ⊢; omega) (.int .i64 0)
  have hw1 : w.heap.size + 1 < w1.heap.size := by omega
  clear bc bf bc1 bf1 bc2 bf2 hz hEl hfr
  generalize ((w1.alloc (Obj.cells #[.int .i64 (m : Int), .slice lo fes.length lc] 24)).setCell ⟨w.heap.size + 1, 0, none⟩ (.int .i64 0)).setCell ⟨w.heap.size + 1, 1, none⟩ (.int .i64 0) = W at t4 t5 hB hEf ⊢
  clear hb HE HFS
  generalize w1.heap.size = b5 at t5 hw1 ⊢
  obtain ⟨y1, y2⟩ := cell_two t4
  obtain ⟨y3, y4⟩ := cell_two t5
  go_upto_region 6 with (first
    | (go_at_call 32; refine (bothWays_call m _ fes _ hEf (by omega) HGD.out).mono ?_; rintro r wa ⟨na, rfl, hna, bl, hnr, hbl, hbA⟩; rw [HEQ.out] at hnr; obtain ⟨y5, y6⟩ := cell_two (two_next t5 hbA))
    | (go_at_call 43; refine (farFirst_call hnr (by omega) HSY.out R HR.out).mono ?_; rintro r wb ⟨bF, far, rfl, hbF, hrow, hall, hbB⟩; obtain ⟨y7, y8⟩ := cell_two (two_next (two_next t5 hbA) hbB))
    | go_in)
  have hbw := below_next hbA hbB
  replace t4 := two_next t4 hbw
  replace t5 := two_next t5 hbw
  replace hEf := hEf.below hbw
  replace hB := below_next hB hbw
  replace hnr := hnr.below hbB
  have HA : Hid _ := hall
  have HNR : Hid _ := hnr
  have HEF : Hid _ := hEf
  have hf1000 : ∀ x, x < m → far x ≤ 1000 := fun x hx => by have := hall.lt HR.out hx; omega
  have HF1 : Hid _ := hf1000
  clear hbw hbA hbB y1 y2 y3 y4 y5 y6 y7 y8 hna hbl hall hnr hEf hf1000 hbF
  obtain ⟨y1, y2⟩ := cell_two t5
  go_wp2
  clear y1 y2
  go_loopw [2, 3, 31] (fun p q i wr => ∃ k : Nat, p = .slice none 0 0 ∧ q = .slice none 0 0 ∧ k ≤ fes.length ∧ i = .int .i64 (k : Int) ∧ (∀ (j x y : Nat), j < k → fes[j]? = some ((x : Int), (y : Int)) → far x ≠ far y) ∧ Below wb.heap.size wb wr) (fun _ _ i _ => fes.length - (numOf i).toNat)
  case atStart => exact ⟨0, rfl, rfl, Nat.zero_le _, rfl, fun j _ _ h => by omega, Below.refl _ _⟩
  case round =>
    obtain ⟨k, rfl, rfl, hk, rfl, hsf, hBr⟩ := hrel
    have HSF : Hid _ := hsf
    clear hsf
    by_cases hkl : k < fes.length
    · obtain ⟨yo, yc, ey, _, _, hcells⟩ := EdgesAt.below HEF.out hBr
      cases ey
      obtain ⟨b, off, rfl, c1, c2⟩ := hcells k hkl
      obtain ⟨x, y, hxy, hlt, hym⟩ := HFF.out.ok k _ (List.getElem?_eq_getElem hkl)
      rw [hxy] at c1 c2
      have hget : fes[k]? = some ((x : Int), (y : Int)) := by rw [List.getElem?_eq_getElem hkl, hxy]
      have hed : e x y = true := by
        rw [← HEQ.out]
        unfold bothB hasB
        exact List.any_eq_true.2 ⟨_, List.mem_of_getElem? hget, by simp⟩
      have HGT : Hid _ := hget
      have HED : Hid _ := hed
      clear hcells hxy hget hed
      have j1 : (0 : Int) ≤ (k : Int) := by omega
      have j2 : (k : Int) < (fes.length : Int) := by omega
      go_upto_region 9 with (fail)
      have t9 := two_new wr (.int .i64 (x : Int)) (.int .i64 (y : Int)) 42
      have hBx := below_alloc hBr (Obj.cells #[.int .i64 (x : Int), .int .i64 (y : Int)] 42)
      generalize wr.heap.size = b9 at t9 ⊢
      generalize wr.alloc (Obj.cells #[.int .i64 (x : Int), .int .i64 (y : Int)] 42) = wx at t9 hBx ⊢
      obtain ⟨z1, z2⟩ := cell_two t9
      clear c1 c2 hBr
      have hrx := hrow.below hBx
      have cx := hrx.cell (show x < m by omega)
      have cy := hrx.cell hym
      have i1 : (0 : Int) ≤ (x : Int) := by omega
      have i2 : (x : Int) < (m : Int) := by omega
      have i3 : (0 : Int) ≤ (y : Int) := by omega
      have i4 : (y : Int) < (m : Int) := by omega
      by_cases hfe : far x = far y
      · have hfe' : (far x : Int) = (far y : Int) := by rw [hfe]
        obtain ⟨P, p1, p2, p3, p4, p5⟩ := FarAll.ways HA.out HR.out HSY.out (show x < m by omega) hym HED.out
        have hcall := fun (w' : World) (hb : Below wx.heap.size wx w') => oddRing_call (cap := m) (NearsAt.below HNR.out (below_next hBx hb)) (by omega) (hrx.below hb) HF1.out HSY.out p3 p4 p5 (show x < m by omega) hym p1 p2 (by omega) HED.out hfe
        have HCALL : Hid _ := hcall
        have HFE : Hid _ := hfe
        clear hcall p1 p2 p3 p4 p5 hfe
        go_region
        all_goals
          have t9' := two_next t9 (Below.refl _ wx).drew
          obtain ⟨z3, z4⟩ := cell_two t9'
          clear z1 z2 cx cy
          go_wp2_with (first
            | (go_at_call 44; refine (HCALL.out _ (Below.refl _ _).drew).mono ?_; rintro r wc ⟨g, n, c, rg, rfl, hn3, hn2, hgg, hrn, hring, hbC⟩; have hBc := below_next (hBx.drew) hbC; have t4c := two_next t4 hBc; have f1 := free_two t4c 0; have f2 := free_two t4c 1; obtain ⟨s1, s2⟩ := cell_two t4c)
            | go_in)
          refine bodyPost_ret (v := .tuple #[.slice none 0 0, .slice (some ⟨g, 0, none⟩) n c, .agg #[.int .i64 0, .int .i64 0]]) ?_ rfl ⟨_, _, far, rfl, ⟨HA.out, Or.inr ⟨rfl, ⟨g, n, c, rg, rfl, hn3, hn2, ?_, ?_, hring⟩, x, y, by omega, hym, HED.out, HFE.out⟩⟩, ?_⟩
          · simp [results, Tryz.results22, go_sem, s1, s2]
          · have := hB.size; have := hBx.size; have := lt_of_block t4; simp at hgg; omega
          · have := hBx.size; have := lt_of_block t4; simp at hgg
            exact (hrn.block (Below.heap_setCell _ _ _ _ (by simp; omega))).block (Below.heap_setCell _ _ _ _ (by simp; omega))
          · exact ((below_next hB hBc).setCell (by simp) _).setCell (by simp) _
      · have hfe' : ¬ (far x : Int) = (far y : Int) := by omega
        have HFE : Hid _ := hfe
        clear hfe
        go_region
        all_goals
          go_wp2
          go_roundw
          case rel =>
            refine ⟨k + 1, rfl, rfl, by omega, by go_num, fun j x' y' hj hget => ?_, hBx.drew⟩
            by_cases c : j = k
            · subst c
              rw [HGT.out] at hget
              simp at hget
              obtain ⟨rfl, rfl⟩ : x = x' ∧ y = y' := by omega
              exact HFE.out
            · exact HSF.out j x' y' (by omega) hget
          case measure => simp [numOf]; omega
    · have hke : fes.length = k := by omega
      subst hke
      have hno : ∀ a b, a < m → b < m → e a b = true → far a ≠ far b := by
        have key : ∀ a b : Nat, hasB fes (a : Int) (b : Int) = true → far a ≠ far b := fun a b hab => by
          unfold hasB at hab
          obtain ⟨q, hq, hqq⟩ := List.any_eq_true.1 hab
          obtain ⟨i, hi⟩ := List.mem_iff_getElem?.1 hq
          obtain ⟨x, y, rfl, _, _⟩ := HFF.out.ok i q hi
          have hxy := HSF.out i x y (List.getElem?_eq_some_iff.1 hi).1 hi
          simp at hqq
          rcases hqq with ⟨h1, h2⟩ | ⟨h1, h2⟩
          · obtain ⟨rfl, rfl⟩ : x = a ∧ y = b := by omega
            exact hxy
          · obtain ⟨rfl, rfl⟩ : x = b ∧ y = a := by omega
            exact fun h => hxy h.symm
        intro a b _ _ hab
        refine key a b ?_
        have := HEQ.out
        rw [← this] at hab
        exact hab
      have HNO : Hid _ := hno
      clear hno HSF
      have hrr := hrow.below hBr
      go_wp2
      go_loopw [2, 54] (fun v i wq => ∃ k : Nat, k ≤ m ∧ i = .int .i64 (k : Int) ∧ wq.ownsRow wb.heap.size 3 1 v ((List.range k).map fun x => far x % 2).length (qv ((List.range k).map fun x => far x % 2)) ∧ Below wb.heap.size wb wq) (fun _ i _ => m - (numOf i).toNat)
      case atStart => exact ⟨0, Nat.zero_le _, rfl, by simpa [qv] using World.ownsRow_nil _ _ _ _, hBr⟩
      case round =>
        obtain ⟨k, hkm, rfl, hown, hBq⟩ := hrel
        obtain ⟨vo, vc, rfl⟩ := form_row hown
        have hlk : ((List.range k).map fun x => far x % 2).length ≤ k := by simp
        by_cases hkm' : k < m
        · have ck := (hrow.below hBq).cell hkm'
          have hmod : (far k : Int).tmod 2 = ((far k % 2 : Nat) : Int) := by rw [Int.tmod_eq_emod_of_nonneg (by omega)]; omega
          have HSU : Hid (((List.range (k + 1)).map fun x => far x % 2) = ((List.range k).map fun x => far x % 2) ++ [far k % 2]) := show ((List.range (k + 1)).map fun x => far x % 2) = ((List.range k).map fun x => far x % 2) ++ [far k % 2] by rw [List.range_succ, List.map_append]; rfl
          generalize ((List.range k).map fun x => far x % 2) = sl at hown hlk HSU ⊢
          have i1 : (0 : Int) ≤ (k : Int) := by omega
          have i2 : (k : Int) < (m : Int) := by omega
          have hsz := hBq.size
          go_wp2_with (first
            | (at_builtin; refine wpList_push2 (x := far k % 2) rfl _ _ rfl rfl rfl hown (by omega) hsz ?_; intro g1 c1 w3 hown1 hgr1 hat1)
            | go_in)
          have T1 := (alloc_turns wr (Obj.cells #[.int .i64 ((far k % 2 : Nat) : Int)] 3) _).trans (Turns.of_grown hgr1)
          have hB3 := T1.below hBq hsz (fun j hj => (hown.lt j hj.symm).1)
          go_roundw
          case rel => exact ⟨k + 1, by omega, by go_num, by rw [HSU.out]; simpa using hown1, hB3⟩
          case measure => simp [numOf]; omega
        · have hke : m = k := by omega
          subst hke
          have hle : ((List.range m).map fun x => far x % 2).length = m := by simp
          rw [hle] at hown ⊢
          have t4q := two_next t4 hBq
          obtain ⟨s1, s2⟩ := cell_two t4q
          have f1 := free_two t4q 0
          have f2 := free_two t4q 1
          clear hlk hle
          go_wp2
          refine bodyPost_ret (v := .tuple #[.slice vo m vc, .slice none 0 0, .agg #[.int .i64 0, .int .i64 0]]) ?_ rfl ⟨_, _, far, rfl, ⟨HA.out, Or.inl ⟨rfl, ?_, HNO.out⟩⟩, ?_⟩
          · simp [results, Tryz.results22, go_sem, s1, s2]
          · have hl4 := lt_of_block t4
            have hge := hB.size
            refine ownsRow_mono (ownsRow_blocks (ownsRow_blocks hown (fun b hb => Below.heap_setCell _ _ _ _ (fun hh => ?_))) (fun b hb => Below.heap_setCell _ _ _ _ (fun hh => ?_))) (by omega)
            · have := (hown.lt b hb).1
              have hh' : b = w.heap.size + 1 := hh
              omega
            · have := (hown.lt b hb).1
              have hh' : b = w.heap.size + 1 := hh
              omega
          · exact ((below_next hB hBq).setCell (by simp) _).setCell (by simp) _
end Go.Proofs.YtdnmoifbkojnlaaGreat

namespace Go.Proofs.YtdnmoifbkojnlaaGreat
/-- How many edges a node has. -/
def deg (L : List Pair) (v : Int) : Nat := (L.filter fun e => e.1 == v || e.2 == v).length
/-- The sum of f over the nodes. -/
def sumTo (f : Nat → Nat) : Nat → Nat
  | 0 => 0
  | n + 1 => sumTo f n + f n
theorem sumTo_add (f g : Nat → Nat) : ∀ n, sumTo (fun i => f i + g i) n = sumTo f n + sumTo g n
  | 0 => rfl
  | n + 1 => by simp only [sumTo]; rw [sumTo_add f g n]; omega
theorem sumTo_congr {f g : Nat → Nat} : ∀ n, (∀ i, i < n → f i = g i) → sumTo f n = sumTo g n
  | 0, _ => rfl
  | n + 1, h => by simp only [sumTo]; rw [sumTo_congr n (fun i hi => h i (by omega)), h n (by omega)]
theorem sumTo_zero : ∀ n, sumTo (fun _ => 0) n = 0
  | 0 => rfl
  | n + 1 => by simp only [sumTo]; rw [sumTo_zero n]
/-- One node alone counts. -/
theorem sumTo_one (f : Nat → Nat) (a : Nat) : ∀ n, sumTo (fun i => if i = a then f i else 0) n = if a < n then f a else 0
  | 0 => rfl
  | n + 1 => by
    simp only [sumTo]
    rw [sumTo_one f a n]
    by_cases h1 : a < n
    · rw [if_pos h1, if_neg (by omega), if_pos (by omega)]; omega
    · rw [if_neg h1]
      by_cases h2 : n = a
      · rw [if_pos h2, if_pos (by omega), h2]; omega
      · rw [if_neg h2, if_neg (by omega)]

theorem deg_cons (a b : Int) (L : List Pair) (v : Int) : deg ((a, b) :: L) v = deg L v + (if a = v ∨ b = v then 1 else 0) := by
  unfold deg
  rw [List.filter_cons]
  by_cases h : a = v ∨ b = v
  · have : (a == v || b == v) = true := by simpa using h
    simp only [this, if_true, h, List.length_cons]
  · have : (a == v || b == v) = false := by
      simp only [not_or] at h
      simp [h.1, h.2]
    simp only [this, h, if_false]
    simp

/-- f over the two nodes of an edge. -/
theorem sumTo_two (f : Nat → Nat) (m : Nat) {a b : Nat} (ha : a < m) (hb : b < m) (hne : a ≠ b) : sumTo (fun i => if (a : Int) = i ∨ (b : Int) = i then f i else 0) m = f a + f b := by
  have e : sumTo (fun i => if (a : Int) = i ∨ (b : Int) = i then f i else 0) m = sumTo (fun i => (if i = a then f i else 0) + (if i = b then f i else 0)) m := by
    apply sumTo_congr
    intro i _
    by_cases h1 : i = a
    · subst h1
      rw [if_pos (Or.inl rfl), if_pos rfl, if_neg hne]; omega
    · by_cases h2 : i = b
      · subst h2
        rw [if_pos (Or.inr rfl), if_neg h1, if_pos rfl]; omega
      · rw [if_neg (by omega), if_neg h1, if_neg h2]
  rw [e, sumTo_add, sumTo_one, sumTo_one, if_pos ha, if_pos hb]

def InR (m : Nat) (e : Pair) : Prop := (0 ≤ e.1 ∧ e.1 < m ∧ 0 ≤ e.2 ∧ e.2 < m) ∧ e.1 ≠ e.2

/-- Nodes see as many as there are edges, twice. -/
theorem sum_deg (m : Nat) : ∀ L : List Pair, (∀ e ∈ L, InR m e) → sumTo (fun v => deg L v) m = 2 * L.length
  | [], _ => by
    have : sumTo (fun v => deg [] v) m = sumTo (fun _ => 0) m := sumTo_congr m (fun i _ => rfl)
    rw [this, sumTo_zero]; rfl
  | (x, y) :: L, h => by
    obtain ⟨⟨h1, h2, h3, h4⟩, h5⟩ := h (x, y) (by simp)
    simp only at h1 h2 h3 h4 h5
    obtain ⟨a, rfl⟩ : ∃ a : Nat, x = a := ⟨x.toNat, by omega⟩
    obtain ⟨b, rfl⟩ : ∃ b : Nat, y = b := ⟨y.toNat, by omega⟩
    rw [sumTo_congr m (fun i _ => deg_cons a b L i), sumTo_add, sum_deg m L (fun e he => h e (by simp [he])), sumTo_two (fun _ => 1) m (by omega) (by omega) (by omega)]
    simp
    omega

def apart : List Pair → Prop
  | [] => True
  | e :: L => hasB L e.1 e.2 = false ∧ apart L

theorem allP_congr {m : Nat} {p q : Int → Int → Bool} (h : ∀ u v : Nat, u < v → v < m → p u v = q u v) : allP m p = allP m q := by
  unfold allP rowsTo
  rw [List.flatMap_def, List.flatMap_def]
  congr 1
  apply List.map_congr_left
  intro u _
  unfold rowTo
  congr 1
  apply List.filter_congr
  intro j hj
  simp at hj
  by_cases hu : u < j
  · rw [h u j hu hj]
  · simp [hu]

theorem hasB_allP {m : Nat} {p : Int → Int → Bool} {u v : Nat} (huv : u < v) (hv : v < m) : hasB (allP m p) u v = p u v := by
  rw [Bool.eq_iff_iff]
  unfold hasB
  rw [List.any_eq_true]
  constructor
  · rintro ⟨e, he, hb⟩
    obtain ⟨a, b, h1, h2, h3, rfl⟩ := allP_mem.1 he
    simp at hb
    have : a = u ∧ b = v := by omega
    rw [← this.1, ← this.2]; exact h3
  · intro hp
    exact ⟨_, allP_mem.2 ⟨u, v, huv, hv, hp, rfl⟩, by simp⟩

theorem allP_inR {m : Nat} {p : Int → Int → Bool} : ∀ e ∈ allP m p, InR m e := by
  intro e he
  obtain ⟨a, b, h1, h2, _, rfl⟩ := allP_mem.1 he
  refine ⟨?_, ?_⟩ <;> simp <;> omega

/-- A list of rising pairs without repeats has no edge twice. -/
theorem apart_of : ∀ L : List Pair, L.Nodup → (∀ e ∈ L, e.1 < e.2) → apart L
  | [], _, _ => trivial
  | e :: L, hn, hr => by
    have hn' := List.nodup_cons.1 hn
    refine ⟨?_, apart_of L hn'.2 (fun f hf => hr f (by simp [hf]))⟩
    have he := hr e (by simp)
    rw [Bool.eq_false_iff]
    intro h
    unfold hasB at h
    rw [List.any_eq_true] at h
    obtain ⟨f, hf, hb⟩ := h
    have hfr := hr f (by simp [hf])
    simp at hb
    have : f = e := by
      apply Prod.ext <;> omega
    exact hn'.1 (this ▸ hf)

theorem allP_apart (m : Nat) (p : Int → Int → Bool) : apart (allP m p) :=
  apart_of _ (allP_nodup m p) (fun e he => by
    obtain ⟨a, b, h1, h2, _, rfl⟩ := allP_mem.1 he
    simp
    omega)

/-- No edge of a list is twice there: so the first look finds nothing. -/
theorem chkFrom_apart {n : Int} : ∀ (es pre : List Pair), (∀ e ∈ es, (0 ≤ e.1 ∧ e.1 < n ∧ 0 ≤ e.2 ∧ e.2 < n) ∧ e.1 ≠ e.2) → (∀ e ∈ es, hasB pre e.1 e.2 = false) → apart es → chkFrom n pre es = (0, 0)
  | [], _, _, _, _ => rfl
  | (a, b) :: r, pre, h1, h2, h3 => by
    rw [chkFrom, if_pos (bad_none (h1 (a, b) (by simp)).1 (h1 (a, b) (by simp)).2 (h2 (a, b) (by simp)))]
    refine chkFrom_apart r _ (fun e he => h1 e (by simp [he])) (fun e he => ?_) h3.2
    rw [hasB_snoc, h2 e (by simp [he]), Bool.false_or, Bool.eq_false_iff]
    intro hb
    have := h3.1
    unfold hasB at this
    rw [Bool.eq_false_iff] at this
    apply this
    rw [List.any_eq_true]
    refine ⟨e, he, ?_⟩
    simp at hb ⊢
    omega

theorem chk_allP {m : Nat} {p : Int → Int → Bool} (hm : m ≤ 100) (hl : (allP m p).length ≤ 1000) : chk m (allP m p) = (0, 0) := by
  unfold chk
  rw [if_neg (by simp [many]; omega)]
  exact chkFrom_apart _ _ allP_inR (fun e _ => rfl) (allP_apart m p)

theorem chkFrom_zero {n : Int} : ∀ (es pre : List Pair), (chkFrom n pre es).1 = 0 → apart es ∧ ∀ e ∈ es, hasB pre e.1 e.2 = false
  | [], _, _ => ⟨trivial, fun e h => by cases h⟩
  | (a, b) :: r, pre, h => by
    rw [chkFrom] at h
    by_cases hb : bad n pre (a, b) = 0
    · rw [if_pos hb] at h
      obtain ⟨h1, h2⟩ := chkFrom_zero r _ h
      obtain ⟨_, _, h3⟩ := bad_zero hb
      refine ⟨⟨?_, h1⟩, fun e he => ?_⟩
      · rw [Bool.eq_false_iff]
        intro hh
        unfold hasB at hh
        rw [List.any_eq_true] at hh
        obtain ⟨f, hf, hb2⟩ := hh
        have := h2 f hf
        rw [hasB_snoc, Bool.or_eq_false_iff] at this
        have h4 := this.2
        rw [Bool.eq_false_iff] at h4
        apply h4
        simp at hb2 ⊢
        omega
      · rcases List.mem_cons.1 he with rfl | he
        · exact h3
        · have := h2 e he
          rw [hasB_snoc, Bool.or_eq_false_iff] at this
          exact this.1
    · rw [if_neg hb] at h
      exact absurd h hb

theorem chk_apart {n : Int} {es : List Pair} (h : (chk n es).1 = 0) : apart es := by
  unfold chk at h
  split at h
  · cases h
  · exact (chkFrom_zero es [] h).1

/-- Counting by a test that one place more fulfils. -/
theorem count_or (f : Nat → Bool) (a : Nat) : ∀ m, a < m → f a = false → ((List.range m).filter fun j => f j || j == a).length = ((List.range m).filter f).length + 1
  | 0, h, _ => absurd h (by omega)
  | m + 1, h, hf => by
    rw [List.range_succ, List.filter_append, List.filter_append, List.length_append, List.length_append]
    by_cases e : a = m
    · subst e
      have : (List.range a).filter (fun j => f j || j == a) = (List.range a).filter f := by
        apply List.filter_congr
        intro j hj
        simp at hj
        have : (j == a) = false := by simp; omega
        rw [this, Bool.or_false]
      rw [this]
      simp [hf]
    · rw [count_or f a m (by omega) hf]
      have : (m == a) = false := by simp; omega
      simp only [List.filter_cons, this, Bool.or_false, List.filter_nil]
      omega

theorem nearTo_length (es : List Pair) (v : Int) (m : Nat) : (nearTo es v m).length = ((List.range m).filter fun (j : Nat) => hasB es j v).length := by
  unfold nearTo
  rw [List.length_map]

/-- A node is near as many as it has edges. -/
theorem near_deg (m : Nat) : ∀ (es : List Pair), (∀ e ∈ es, InR m e) → apart es → ∀ v : Nat, v < m → (nearTo es v m).length = deg es v
  | [], _, _, v, _ => by rw [nearTo_length]; simp [hasB, deg]
  | (x, y) :: L, h, ha, v, hv => by
    obtain ⟨⟨h1, h2, h3, h4⟩, h5⟩ := h (x, y) (by simp)
    simp only at h1 h2 h3 h4 h5
    obtain ⟨a, rfl⟩ : ∃ a : Nat, x = a := ⟨x.toNat, by omega⟩
    obtain ⟨b, rfl⟩ : ∃ b : Nat, y = b := ⟨y.toNat, by omega⟩
    obtain ⟨ha1, ha2⟩ := ha
    have ih := near_deg m L (fun e he => h e (by simp [he])) ha2 v hv
    rw [nearTo_length] at ih ⊢
    rw [deg_cons, ← ih]
    have hc : ∀ j : Nat, hasB (((a : Int), (b : Int)) :: L) j v = (hasB L j v || ((decide ((a : Int) = j ∧ (b : Int) = v)) || (decide ((a : Int) = v ∧ (b : Int) = j)))) := by
      intro j
      rw [Bool.eq_iff_iff]
      simp [hasB]
      constructor
      · rintro (h | h)
        · right; omega
        · left; exact h
      · rintro (h | h)
        · right; exact h
        · left; omega
    by_cases hav : (a : Int) = v
    · have e1 : a = v := by omega
      subst e1
      rw [if_pos (Or.inl rfl)]
      have : ((List.range m).filter fun (j : Nat) => hasB (((a : Int), (b : Int)) :: L) j a) = (List.range m).filter fun (j : Nat) => hasB L j a || j == b := by
        apply List.filter_congr
        intro j _
        rw [hc j]
        congr 1
        rw [Bool.eq_iff_iff]
        simp
        omega
      rw [this, count_or (fun (j : Nat) => hasB L j a) b m (by omega) (by rw [hasB_comm]; exact ha1)]
    · by_cases hbv : (b : Int) = v
      · have e1 : b = v := by omega
        subst e1
        rw [if_pos (Or.inr rfl)]
        have : ((List.range m).filter fun (j : Nat) => hasB (((a : Int), (b : Int)) :: L) j b) = (List.range m).filter fun (j : Nat) => hasB L j b || j == a := by
          apply List.filter_congr
          intro j _
          rw [hc j]
          congr 1
          rw [Bool.eq_iff_iff]
          simp
          omega
        rw [this, count_or (fun (j : Nat) => hasB L j b) a m (by omega) ha1]
      · rw [if_neg (by omega)]
        have : ((List.range m).filter fun (j : Nat) => hasB (((a : Int), (b : Int)) :: L) j v) = (List.range m).filter fun (j : Nat) => hasB L j v := by
          apply List.filter_congr
          intro j _
          rw [hc j]
          have : ((decide ((a : Int) = j ∧ (b : Int) = v)) || (decide ((a : Int) = v ∧ (b : Int) = j))) = false := by
            simp
            omega
          rw [this, Bool.or_false]
        rw [this]
        omega

/-- The form has as many edges as the list. -/
theorem allP_length {m : Nat} {es : List Pair} (hr : ∀ e ∈ es, InR m e) (ha : apart es) : (allP m (hasB es)).length = es.length ∧ ∀ v : Nat, v < m → deg (allP m (hasB es)) v = deg es v := by
  have hd : ∀ v : Nat, v < m → deg (allP m (hasB es)) v = deg es v := by
    intro v hv
    rw [← near_deg m es hr ha v hv, ← near_deg m _ allP_inR (allP_apart m _) v hv, nearTo_length, nearTo_length]
    congr 1
    apply List.filter_congr
    intro j hj
    simp at hj
    by_cases h1 : j < v
    · exact hasB_allP h1 hv
    · by_cases h2 : v < j
      · rw [hasB_comm, hasB_allP h2 hj, hasB_comm]
      · have : j = v := by omega
        subst this
        rw [Bool.eq_iff_iff]
        constructor
        · intro h
          unfold hasB at h
          rw [List.any_eq_true] at h
          obtain ⟨e, he, hb⟩ := h
          have := (allP_inR e he).2
          simp at hb
          omega
        · intro h
          unfold hasB at h
          rw [List.any_eq_true] at h
          obtain ⟨e, he, hb⟩ := h
          have := (hr e he).2
          simp at hb
          omega
  refine ⟨?_, hd⟩
  have s1 := sum_deg m es hr
  have s2 := sum_deg m (allP m (hasB es)) allP_inR
  rw [sumTo_congr m hd, s1] at s2
  omega

end Go.Proofs.YtdnmoifbkojnlaaGreat
