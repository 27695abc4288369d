/- Of each node the list of those near it: rows that grow. -/
import Derived.Test.YtenjkhgpfmfgmaaDoorSeekW
import Derived.Test.YtenjkhgpfmfgmaaDoorCompF
import Derived.Deep.AppendLies
namespace Go.Proofs.YtenjkhgpfmfgmaaDoor
open Go.RowKit Go.Maps
attribute [local go_sem ↓] Go.wp_at_zero Go.wp_at_succ

def nbF (i : Nat) (e : Pair) : List Nat := if e.1 = (i : Int) then [e.2.toNat] else if e.2 = (i : Int) then [e.1.toNat] else []
def nbOf (es : List Pair) (i : Nat) : List Nat := es.flatMap (nbF i)
theorem nbOf_take {es : List Pair} {k x y : Nat} (h : es[k]? = some ((x : Int), (y : Int))) (i : Nat) : nbOf (es.take (k + 1)) i = nbOf (es.take k) i ++ (if x = i then [y] else if y = i then [x] else []) := by
  obtain ⟨h1, h2⟩ := List.getElem?_eq_some_iff.1 h
  unfold nbOf
  rw [List.take_succ_eq_append_getElem h1, h2, List.flatMap_append]
  congr 1
  simp only [List.flatMap_cons, List.flatMap_nil, List.append_nil, nbF]
  by_cases c1 : x = i
  · subst c1; simp
  · have : ¬ (x : Int) = (i : Int) := by omega
    rw [if_neg this, if_neg c1]
    by_cases c2 : y = i
    · subst c2; simp
    · have : ¬ (y : Int) = (i : Int) := by omega
      rw [if_neg this, if_neg c2]
/-- Block g holds N rows of numbers, each of its own. -/
structure NearL (w : World) (base g N : Nat) (vs : Nat → Value) (ls : Nat → List Nat) : Prop where
  row : RowV w g 29 N vs
  own : ∀ i, i < N → w.ownsRow base 3 1 (vs i) (ls i).length (qv (ls i))
  sep : ∀ i j b, i < N → j < N → i ≠ j → (vs i).ownBlock = some b → (vs j).ownBlock ≠ some b

theorem NearL.ne {w : World} {base g N : Nat} {vs : Nat → Value} {ls : Nat → List Nat} (h : NearL w base g N vs ls) {i : Nat} (hi : i < N) : (vs i).ownBlock ≠ some g := fun hb => by
  obtain ⟨cur, h1⟩ := own_cells (h.own i hi) hb
  obtain ⟨cur', h2, _⟩ := h.row
  rw [h1] at h2
  simp at h2
theorem NearL.below {w w' : World} {base g N : Nat} {vs : Nat → Value} {ls : Nat → List Nat} (h : NearL w base g N vs ls) (hb : Below w.heap.size w w') : NearL w' base g N vs ls :=
  ⟨h.row.block (hb.block _ h.row.lt), fun i hi => ownsRow_blocks (h.own i hi) fun b hb' => hb.block b ((h.own i hi).lt b hb').2, h.sep⟩
theorem NearL.congr {w : World} {base g N : Nat} {vs : Nat → Value} {ls ls' : Nat → List Nat} (h : NearL w base g N vs ls) (he : ∀ i, i < N → ls i = ls' i) : NearL w base g N vs ls' :=
  ⟨h.row, fun i hi => by rw [← he i hi]; exact h.own i hi, h.sep⟩
/-- One number more in row i. -/
theorem NearL.put {w w1 : World} {base g N : Nat} {vs : Nat → Value} {ls : Nat → List Nat} {o : Obj} (h : NearL w base g N vs ls) {i x g1 c1 : Nat} (hi : i < N)
    (hown : w1.ownsRow base 3 1 (.slice (some ⟨g1, 0, none⟩) ((ls i).length + 1) c1) ((ls i).length + 1) (qv (ls i) ++ [.int .i64 (x : Int)])) (hg : (w.alloc o).grownBy w1 (vs i).ownBlock) (hat : (vs i).ownBlock = some g1 ∨ w.heap.size ≤ g1) :
    NearL (w1.setCell ⟨g, i, none⟩ (.slice (some ⟨g1, 0, none⟩) ((ls i).length + 1) c1)) base g N (fun j => if j = i then .slice (some ⟨g1, 0, none⟩) ((ls i).length + 1) c1 else vs j) (fun j => if j = i then ls i ++ [x] else ls j) := by
  have T := (alloc_turns w o (fun k => some k = (vs i).ownBlock)).trans (Turns.of_grown hg)
  have hrow1 := h.row.block (w' := w1) (T.block _ h.row.lt (fun hh => h.ne hi hh.symm))
  have hg1 : g1 ≠ g := fun e => by
    rcases hat with h1 | h1
    · rw [e] at h1; exact h.ne hi h1
    · have := h.row.lt; omega
  refine ⟨(hrow1.set i _).congr (fun j _ => rfl), fun j hj => ?_, fun a b k ha hb hab hk => ?_⟩
  · by_cases e : j = i
    · subst e
      simp only
      refine ownsRow_blocks (w := w1) ?_ (fun b hb => Below.heap_setCell _ _ _ _ (fun hh => ?_))
      · simpa [qv] using hown
      · have : b = g1 := by simpa [Value.ownBlock] using hb.symm
        exact hg1 (this ▸ hh)
    · simp only [if_neg e]
      refine ownsRow_blocks (h.own j hj) (fun b hb => ?_)
      rw [Below.heap_setCell _ _ _ _ (fun hh => by rw [show b = g from hh] at hb; exact h.ne hj hb)]
      exact T.block b ((h.own j hj).lt b hb).2 (fun hh => h.sep j i b hj hi e hb hh.symm)
  · by_cases e1 : a = i
    · subst e1
      simp only [if_neg (fun h => hab h.symm : ¬ b = a)] at hk ⊢
      have : k = g1 := by simpa [Value.ownBlock] using hk.symm
      subst this
      rcases hat with h1 | h1
      · exact h.sep a b k ha hb hab h1
      · intro hh
        have := ((h.own b hb).lt k hh).2
        omega
    · simp only [if_neg e1] at hk
      by_cases e2 : b = i
      · subst e2
        simp only
        intro hh
        have : k = g1 := by simpa [Value.ownBlock] using hh.symm
        subst this
        rcases hat with h1 | h1
        · exact h.sep a b k ha hb hab hk h1
        · have := ((h.own a ha).lt k hk).2
          omega
      · simp only [if_neg e2]
        exact h.sep a b k ha hb hab hk

theorem two_setN {w : World} {b : Nat} {x y x' y' : Value} {t : TypeId} (h : Two w b x y t) : Two ((w.setCell ⟨b, 0, none⟩ x').setCell ⟨b, 1, none⟩ y') b x' y' t := by
  have hl := lt_of_block h
  have h' : w.heap[b]? = some (.cells #[x, y] t (0, 0)) := h
  show ((w.setCell ⟨b, 0, none⟩ x').setCell ⟨b, 1, none⟩ y').heap[b]? = _
  simp [World.setCell, Array.getElem?_modify, h']
theorem nbOf_len (es : List Pair) (i : Nat) : (nbOf es i).length ≤ es.length := by
  unfold nbOf
  induction es with
  | nil => simp
  | cons a l ih =>
    rw [List.flatMap_cons, List.length_append, List.length_cons]
    have : (nbF i a).length ≤ 1 := by
      unfold nbF
      split
      · simp
      · split <;> simp
    omega
theorem NearL.far {w : World} {base g N b o : Nat} {vs : Nat → Value} {ls : Nat → List Nat} {u : Value} (h : NearL w base g N vs ls) (h1 : b < base) (h2 : b ≠ g) : NearL (w.setCell ⟨b, o, none⟩ u) base g N vs ls :=
  ⟨h.row.block (Below.heap_setCell _ _ _ _ (fun e => h2 e.symm)), fun i hi => ownsRow_blocks (h.own i hi) (fun c hc => Below.heap_setCell _ _ _ _ (fun e => by have := ((h.own i hi).lt c hc).1; have e' : c = b := e; omega)), h.sep⟩
theorem NearL.mono {w : World} {base base' g N : Nat} {vs : Nat → Value} {ls : Nat → List Nat} (h : NearL w base g N vs ls) (hb : base' ≤ base) : NearL w base' g N vs ls := ⟨h.row, fun i hi => ownsRow_mono (h.own i hi) hb, h.sep⟩
theorem cell_grown {w w1 : World} {o : Obj} {row : Option Nat} {a : Addr} {v : Value} (hg : (w.alloc o).grownBy w1 row) (hc : w.cell? a = some v) (hne : row ≠ some a.block) : w1.cell? a = some v := by
  have hl := World.block_lt_of_cell? w _ hc
  rw [← hc]
  have : w1.heap[a.block]? = w.heap[a.block]? := (hg.block _ (by simp; omega) (fun h => hne h.symm)).trans (Below.heap_alloc _ _ _ hl)
  simp [World.cell?, this]

theorem row_grown {w w1 : World} {o : Obj} {row : Option Nat} {g n : Nat} {t : TypeId} {f : Nat → Value} (h : RowV w g t n f) (hg : (w.alloc o).grownBy w1 row) (hne : row ≠ some g) : RowV w1 g t n f :=
  h.block ((hg.block _ (by have := h.lt; simp; omega) (fun h => hne h.symm)).trans (Below.heap_alloc _ _ _ h.lt))


theorem nbOf_mem {N : Nat} {es : List Pair} (hg : ∀ e ∈ es, (0 ≤ e.1 ∧ e.1 < N ∧ 0 ≤ e.2 ∧ e.2 < N) ∧ e.1 ≠ e.2) {v u : Nat} (hv : v < N) : u ∈ nbOf es v ↔ Ef N es v u := by
  unfold nbOf Ef bothB hasB
  rw [List.mem_flatMap]
  constructor
  · rintro ⟨e, he, hu⟩
    have h1 := (hg e he).1
    unfold nbF at hu
    split at hu
    · rename_i hh
      simp at hu
      refine ⟨hv, by omega, List.any_eq_true.2 ⟨e, he, ?_⟩⟩
      simp; left; omega
    · split at hu
      · rename_i hh
        simp at hu
        refine ⟨hv, by omega, List.any_eq_true.2 ⟨e, he, ?_⟩⟩
        simp; right; omega
      · simp at hu
  · rintro ⟨_, _, h⟩
    obtain ⟨e, he, hh⟩ := List.any_eq_true.1 h
    have h1 := (hg e he)
    refine ⟨e, he, ?_⟩
    simp at hh
    unfold nbF
    rcases hh with hh | hh
    · rw [if_pos hh.1]; simp; omega
    · rw [if_neg (by omega), if_pos hh.2]; simp; omega
theorem nbs_of {N : Nat} {es : List Pair} (hg : ∀ e ∈ es, (0 ≤ e.1 ∧ e.1 < N ∧ 0 ≤ e.2 ∧ e.2 < N) ∧ e.1 ≠ e.2) (hl : es.length ≤ 1000) : Nbs N (nbOf es) (Ef N es) where
  mem := fun v u hv => nbOf_mem hg hv
  lt := fun a b h => ⟨h.1, h.2.1⟩
  sym := fun a b h => ⟨h.2.1, h.1, by
    have := h.2.2
    unfold bothB hasB at this ⊢
    obtain ⟨e, he, hh⟩ := List.any_eq_true.1 this
    refine List.any_eq_true.2 ⟨e, he, ?_⟩
    simp at hh ⊢
    exact hh.symm⟩
  irr := fun a h => by
    have := h.2.2
    unfold bothB hasB at this
    obtain ⟨e, he, hh⟩ := List.any_eq_true.1 this
    have := (hg e he).2
    simp at hh
    omega
  len := fun v _ => Nat.le_trans (nbOf_len es v) hl

/-- Rows that grow, out of the way of x. -/
theorem NearL.nearP {w : World} {base g N x : Nat} {vs : Nat → Value} {ls : Nat → List Nat} (h : NearL w base g N vs ls) (hx : x < base) (hg : g ≠ x) : NearP w x w.heap.size g N ls := by
  refine ⟨hg, h.row.lt, fun i hi => ?_⟩
  have ho := h.own i hi
  obtain ⟨xo, xc, hv⟩ := form_row ho
  have hc := h.row.cell hi
  rw [hv] at hc ho
  refine ⟨xo, xc, hc, fun k u hu => ?_⟩
  obtain ⟨b, e, c⟩ := qcell ho hu
  have hb := ho.lt b (by rw [e]; rfl)
  exact ⟨b, by omega, hb.2, e, c⟩
theorem NearP.pair {M : Nat → Prop} {w w' : World} {x y base g N : Nat} {ls : Nat → List Nat} (hx : NearP w x base g N ls) (hy : NearP w y base g N ls) (ht : Turns M w w') (hm : ∀ k, M k → k = x ∨ k = y ∨ base ≤ k) : NearP w' x base g N ls ∧ NearP w' y base g N ls := by
  have no : ∀ b, b ≠ x → b ≠ y → b < base → ¬ M b := fun b h1 h2 h3 hh => by
    rcases hm b hh with e | e | e
    · exact h1 e
    · exact h2 e
    · omega
  have key : ∀ i, i < N → ∃ xo xc, w'.cell? ⟨g, i, none⟩ = some (.slice xo (ls i).length xc) ∧ ∀ k u : Nat, (ls i)[k]? = some u → ∃ b, (b ≠ x ∧ b ≠ y) ∧ b < base ∧ xo = some ⟨b, 0, none⟩ ∧ w'.cell? ⟨b, k, none⟩ = some (.int .i64 (u : Int)) := fun i hi => by
    obtain ⟨xo, xc, h1, h2⟩ := hx.2.2 i hi
    obtain ⟨yo, yc, g1, g2⟩ := hy.2.2 i hi
    rw [h1] at g1
    cases g1
    refine ⟨xo, xc, cell_turns h1 ht (no g hx.1 hy.1 hx.2.1), fun k u hu => ?_⟩
    obtain ⟨b, e1, e2, e3, e4⟩ := h2 k u hu
    obtain ⟨b', f1, f2, f3, f4⟩ := g2 k u hu
    rw [e3] at f3
    cases f3
    exact ⟨b, ⟨e1, f1⟩, e2, e3, cell_turns e4 ht (no b e1 f1 e2)⟩
  refine ⟨⟨hx.1, hx.2.1, fun i hi => ?_⟩, ⟨hy.1, hy.2.1, fun i hi => ?_⟩⟩
  · obtain ⟨xo, xc, h1, h2⟩ := key i hi
    exact ⟨xo, xc, h1, fun k u hu => by
      obtain ⟨b, e1, e2, e3, e4⟩ := h2 k u hu
      exact ⟨b, e1.1, e2, e3, e4⟩⟩
  · obtain ⟨xo, xc, h1, h2⟩ := key i hi
    exact ⟨xo, xc, h1, fun k u hu => by
      obtain ⟨b, e1, e2, e3, e4⟩ := h2 k u hu
      exact ⟨b, e1.2, e2, e3, e4⟩⟩
theorem PSt.pb {w : World} {bp base g bm N : Nat} {ls : Nat → List Nat} {m : Nat → Option Nat} {be bf bb : Nat} {q : Value} {ev : Nat → Bool} {f : Nat → Option Nat} {bs : Nat → Nat} {Q : List Nat} (h : PSt w bp base g bm N ls m be bf bb q ev f bs Q) : PB w bp g bm N ls m := by
  obtain ⟨qo, qc, rfl⟩ := form_row h.own
  have hb := h.even.lt
  have := h.ge
  exact ⟨⟨_, _, _, _, _, _, _, _, _, _, _, _, h.box⟩, h.near.mono (by omega), h.mate, h.lt.2.2⟩
theorem PB.below {w w' : World} {bp g bm N : Nat} {ls : Nat → List Nat} {m : Nat → Option Nat} (h : PB w bp g bm N ls m) (hb : Below w.heap.size w w') : PB w' bp g bm N ls m := by
  obtain ⟨eo, en, ec, fo, fn, fc, bo, bn, bc, qo, qn, qc, hbox⟩ := h.box
  have ht : Turns (fun _ => False) w w' := Turns.of_below hb _
  exact ⟨⟨_, _, _, _, _, _, _, _, _, _, _, _, box_turns hbox ht (fun h => h)⟩, (h.near.turns ht (fun _ h => h.elim)).mono hb.size, h.mate.turns ht (fun h => h), h.ne⟩
end Go.Proofs.YtenjkhgpfmfgmaaDoor
