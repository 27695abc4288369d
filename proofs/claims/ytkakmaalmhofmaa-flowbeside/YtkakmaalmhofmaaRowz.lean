/- Rows of numbers that grow, boxes, lists of rows: how they lie in memory. -/
import Derived.Test.YtkakmaalmhofmaaRise
import Derived.Test.YtkakmaalmhofmaaParts
import Derived.Deep.AppendLies
import Derived.Laws.EntriesVeiled
namespace Go.Proofs.Ytkakmaalmhofmaa
open Go.RowKit Go.Maps

theorem SetN.look6 {w : World} {b N : Nat} {S : Nat → Bool} (h : SetN w b N S) {u : Nat} (hN : N ≤ 1000000) (hu : u < N) :
    (Instr.lookup 100 (.map (some b)) (.int .i64 (u : Int)) true).run Try.prog w = .ok (.tuple #[.agg #[], .bool (S u)]) w := by
  obtain ⟨D, h1, h2⟩ := h
  obtain ⟨x, ps, hrun, hx⟩ := h1.look_ok Try.lawI Try.underlying100 (Try.zero116 w) unitElem_mk (hkeyI (natI hN hu))
  obtain ⟨rfl, _⟩ := unitElem_inv hx
  rw [h2 u (natI hN hu)] at hrun
  simpa [hu] using hrun
theorem SetN.store6 {w : World} {b N : Nat} {S : Nat → Bool} (h : SetN w b N S) {u : Nat} (hN : N ≤ 1000000) (hu : u < N) :
    ∃ w', (Instr.mapUpdate 100 (.map (some b)) (.int .i64 (u : Int)) (.agg #[])).run Try.prog w = .ok () w' ∧ SetN w' b N (fun k => k == u || S k) ∧ w.mapTurned w' b := by
  obtain ⟨D, h1, h2⟩ := h
  obtain ⟨w', hrun, hown, hturn⟩ := h1.store Try.lawI Try.underlying100 (by unfold maxLen; omega) (hkeyI (natI hN hu)) unitElem_mk
  have hh : ∀ x : Int, I64 x → Maps.has (D.put (.int .i64 (u : Int)) (.agg [])) (.int .i64 x) = (decide (0 ≤ x ∧ x < N) && (x.toNat == u || S x.toNat)) := by
    intro x hx
    by_cases e : x = u
    · subst e
      rw [has_put_same h1.isMap (isKeyI _)]
      simp; omega
    · rw [has_put_other (by simpa using e), h2 x hx]
      by_cases hb : 0 ≤ x ∧ x < N
      · have : (x.toNat == u) = false := by simp; omega
        simp [this]
      · simp [hb]
  refine ⟨w', hrun, ⟨_, tight hown (fun x hx hk => ?_), hh⟩, hturn⟩
  rw [hh x hx] at hk
  simp at hk
  exact hk.1
/-- One number more at a row's end, and where it lies. -/
theorem wpList_pushA {W : World} {ops : Array Oper} {rest : List Oper} {o : Oper} {a : Act} {Q : Exit → Act → World → Prop} {base : Nat} {po : Option Addr} {pc : Nat} {l : List Nat} {x : Nat} (hgd : o.guard = none) (s y : Operand)
    (ho : o.op = .call { callee := .builtin .append, args := #[s, y], argTypes := #[30, 30] }) (hs : a.eval s = .slice po l.length pc) (hy : a.eval y = .slice (some ⟨W.heap.size, 0, none⟩) 1 1)
    (hown : W.ownsRow base 3 1 (.slice po l.length pc) l.length (qv l)) (hl : l.length ≤ 1000000) (hbase : base ≤ W.heap.size)
    (h : ∀ g c w', w'.ownsRow base 3 1 (.slice (some ⟨g, 0, none⟩) (l ++ [x]).length c) (l ++ [x]).length (qv (l ++ [x])) → (W.alloc (Obj.cells #[.int .i64 (x : Int)] 3)).grownBy w' (Value.slice po l.length pc).ownBlock → ((Value.slice po l.length pc).ownBlock = some g ∨ W.heap.size ≤ g) → wpList Try.prog ops Q rest (a.put o.dst (.slice (some ⟨g, 0, none⟩) (l ++ [x]).length c)) w') :
    wpList Try.prog ops Q (o :: rest) a (W.alloc (Obj.cells #[.int .i64 (x : Int)] 3)) := by
  obtain ⟨i3, hi3, hy0, hy1, hy2⟩ := info_parts Try.info3
  refine wpList_append_lies _ hgd s y 30 ho base 3 i3 (.int .i64 0) 1 8 Try.underlying30 hi3 hy0 hy1 hy2 rfl (by decide) _ _ _ hs (hown.alloc _) ⟨W.heap.size, 0, none⟩ 1 1 [.int .i64 (x : Int)] hy rfl ?_ ?_ (by omega) ?_ ?_ ?_ (W.heap.size + 1) (by simp) ?_
  · exact cell_one_new _ _ _
  · intro y hy; simp at hy; subst hy; rfl
  · unfold maxLen; omega
  · omega
  · simp; omega
  · intro g c w' h1 h2 h3 _
    have := h g c w' (by simpa [qv] using h1) h2 (h3.imp id (fun h => by omega))
    simpa using this
/-- Block b holds these values. -/
abbrev Box (w : World) (b : Nat) (cs : Array Value) (t : TypeId) : Prop := w.heap[b]? = some (.cells cs t (0, 0))
theorem box_cell {w : World} {b : Nat} {cs : Array Value} {t : TypeId} (h : Box w b cs t) {i : Nat} {x : Value} (hx : cs[i]? = some x) : w.cell? ⟨b, i, none⟩ = some x := by
  rw [cell_of_row w b i cs t (0, 0) h]; exact hx
theorem box_free {w : World} {b : Nat} {cs : Array Value} {t : TypeId} (h : Box w b cs t) (i : Nat) : w.frozen? ⟨b, i, none⟩ = false := by
  have h' : w.heap[b]? = some (.cells cs t (0, 0)) := h
  simp [World.frozen?, h']
theorem box_set {w : World} {b : Nat} {cs : Array Value} {t : TypeId} (h : Box w b cs t) (i : Nat) (x : Value) : Box (w.setCell ⟨b, i, none⟩ x) b (cs.setIfInBounds i x) t := by
  have hl := lt_of_block h
  have h' : w.heap[b]? = some (.cells cs t (0, 0)) := h
  show (w.setCell ⟨b, i, none⟩ x).heap[b]? = _
  simp [World.setCell, Array.getElem?_modify, h']
theorem box_turns {M : Nat → Prop} {w w' : World} {b : Nat} {cs : Array Value} {t : TypeId} (h : Box w b cs t) (ht : Turns M w w') (hm : ¬ M b) : Box w' b cs t := (ht.block b (lt_of_block h) hm).trans h
abbrev sl (b N : Nat) : Value := .slice (some ⟨b, 0, none⟩) N N
/-- Of each node those near it, out of the way of bp, below base. -/
def NearP (w : World) (bp base g N : Nat) (ls : Nat → List Nat) : Prop := g ≠ bp ∧ g < base ∧
  ∀ i, i < N → ∃ xo xc, w.cell? ⟨g, i, none⟩ = some (.slice xo (ls i).length xc) ∧ ∀ k u : Nat, (ls i)[k]? = some u → ∃ b, b ≠ bp ∧ b < base ∧ xo = some ⟨b, 0, none⟩ ∧ w.cell? ⟨b, k, none⟩ = some (.int .i64 (u : Int))
theorem NearP.turns {M : Nat → Prop} {w w' : World} {bp base g N : Nat} {ls : Nat → List Nat} (h : NearP w bp base g N ls) (ht : Turns M w w') (hm : ∀ k, M k → k = bp ∨ base ≤ k) : NearP w' bp base g N ls := by
  refine ⟨h.1, h.2.1, fun i hi => ?_⟩
  obtain ⟨xo, xc, h1, h2⟩ := h.2.2 i hi
  refine ⟨xo, xc, cell_turns h1 ht (fun hh => ?_), fun k u hu => ?_⟩
  · rcases hm _ hh with e | e
    · exact h.1 e
    · have := h.2.1; exact absurd e (by simp; omega)
  · obtain ⟨b, h3, h4, h5, h6⟩ := h2 k u hu
    refine ⟨b, h3, h4, h5, cell_turns h6 ht (fun hh => ?_)⟩
    rcases hm _ hh with e | e
    · exact h3 e
    · exact absurd e (by simp; omega)
theorem two_far {w : World} {b b' o : Nat} {x y u : Value} {t : TypeId} (h : Two w b x y t) (hne : b ≠ b') : Two (w.setCell ⟨b', o, none⟩ u) b x y t := (Below.heap_setCell _ _ _ _ hne).trans h
theorem two_turns {M : Nat → Prop} {w w' : World} {b : Nat} {x y : Value} {t : TypeId} (h : Two w b x y t) (ht : Turns M w w') (hm : ¬ M b) : Two w' b x y t := (ht.block b (lt_of_block h) hm).trans h
/-- Block g holds N rows of numbers, each of its own. -/
structure NearL (w : World) (base g N : Nat) (vs : Nat → Value) (ls : Nat → List Nat) : Prop where
  row : RowV w g 30 N vs
  own : ∀ i, i < N → w.ownsRow base 3 1 (vs i) (ls i).length (qv (ls i))
  sep : ∀ i j b, i < N → j < N → i ≠ j → (vs i).ownBlock = some b → (vs j).ownBlock ≠ some b
theorem NearL.ne {w : World} {base g N : Nat} {vs : Nat → Value} {ls : Nat → List Nat} (h : NearL w base g N vs ls) {i : Nat} (hi : i < N) : (vs i).ownBlock ≠ some g := fun hb => by
  obtain ⟨cur, h1⟩ := own_cells (h.own i hi) hb
  obtain ⟨cur', h2, _⟩ := h.row
  rw [h1] at h2
  simp at h2
theorem NearL.below {w w' : World} {base g N : Nat} {vs : Nat → Value} {ls : Nat → List Nat} (h : NearL w base g N vs ls) (hb : Below w.heap.size w w') : NearL w' base g N vs ls :=
  ⟨h.row.block (hb.block _ h.row.lt), fun i hi => ownsRow_blocks (h.own i hi) fun b hb' => hb.block b ((h.own i hi).lt b hb').2, h.sep⟩
theorem NearL.congr {w : World} {base g N : Nat} {vs : Nat → Value} {ls ls' : Nat → List Nat} (h : NearL w base g N vs ls) (he : ∀ i, i < N → ls i = ls' i) : NearL w base g N vs ls' :=
  ⟨h.row, fun i hi => by rw [← he i hi]; exact h.own i hi, h.sep⟩
/-- One number more in row i. -/
theorem NearL.put {w w1 : World} {base g N : Nat} {vs : Nat → Value} {ls : Nat → List Nat} {o : Obj} (h : NearL w base g N vs ls) {i x g1 c1 : Nat} (hi : i < N)
    (hown : w1.ownsRow base 3 1 (.slice (some ⟨g1, 0, none⟩) ((ls i).length + 1) c1) ((ls i).length + 1) (qv (ls i) ++ [.int .i64 (x : Int)])) (hg : (w.alloc o).grownBy w1 (vs i).ownBlock) (hat : (vs i).ownBlock = some g1 ∨ w.heap.size ≤ g1) :
    NearL (w1.setCell ⟨g, i, none⟩ (.slice (some ⟨g1, 0, none⟩) ((ls i).length + 1) c1)) base g N (fun j => if j = i then .slice (some ⟨g1, 0, none⟩) ((ls i).length + 1) c1 else vs j) (fun j => if j = i then ls i ++ [x] else ls j) := by
  have T := (alloc_turns w o (fun k => some k = (vs i).ownBlock)).trans (Turns.of_grown hg)
  have hrow1 := h.row.block (w' := w1) (T.block _ h.row.lt (fun hh => h.ne hi hh.symm))
  have hg1 : g1 ≠ g := fun e => by
    rcases hat with h1 | h1
    · rw [e] at h1; exact h.ne hi h1
    · have := h.row.lt; omega
  refine ⟨(hrow1.set i _).congr (fun j _ => rfl), fun j hj => ?_, fun a b k ha hb hab hk => ?_⟩
  · by_cases e : j = i
    · subst e
      simp only
      refine ownsRow_blocks (w := w1) ?_ (fun b hb => Below.heap_setCell _ _ _ _ (fun hh => ?_))
      · simpa [qv] using hown
      · have : b = g1 := by simpa [Value.ownBlock] using hb.symm
        exact hg1 (this ▸ hh)
    · simp only [if_neg e]
      refine ownsRow_blocks (h.own j hj) (fun b hb => ?_)
      rw [Below.heap_setCell _ _ _ _ (fun hh => by rw [show b = g from hh] at hb; exact h.ne hj hb)]
      exact T.block b ((h.own j hj).lt b hb).2 (fun hh => h.sep j i b hj hi e hb hh.symm)
  · by_cases e1 : a = i
    · subst e1
      simp only [if_neg (fun h => hab h.symm : ¬ b = a)] at hk ⊢
      have : k = g1 := by simpa [Value.ownBlock] using hk.symm
      subst this
      rcases hat with h1 | h1
      · exact h.sep a b k ha hb hab h1
      · intro hh
        have := ((h.own b hb).lt k hh).2
        omega
    · simp only [if_neg e1] at hk
      by_cases e2 : b = i
      · subst e2
        simp only
        intro hh
        have : k = g1 := by simpa [Value.ownBlock] using hh.symm
        subst this
        rcases hat with h1 | h1
        · exact h.sep a b k ha hb hab hk h1
        · have := ((h.own a ha).lt k hk).2
          omega
      · simp only [if_neg e2]
        exact h.sep a b k ha hb hab hk
theorem two_setN {w : World} {b : Nat} {x y x' y' : Value} {t : TypeId} (h : Two w b x y t) : Two ((w.setCell ⟨b, 0, none⟩ x').setCell ⟨b, 1, none⟩ y') b x' y' t := by
  have hl := lt_of_block h
  have h' : w.heap[b]? = some (.cells #[x, y] t (0, 0)) := h
  show ((w.setCell ⟨b, 0, none⟩ x').setCell ⟨b, 1, none⟩ y').heap[b]? = _
  simp [World.setCell, Array.getElem?_modify, h']
theorem NearL.far {w : World} {base g N b o : Nat} {vs : Nat → Value} {ls : Nat → List Nat} {u : Value} (h : NearL w base g N vs ls) (h1 : b < base) (h2 : b ≠ g) : NearL (w.setCell ⟨b, o, none⟩ u) base g N vs ls :=
  ⟨h.row.block (Below.heap_setCell _ _ _ _ (fun e => h2 e.symm)), fun i hi => ownsRow_blocks (h.own i hi) (fun c hc => Below.heap_setCell _ _ _ _ (fun e => by have := ((h.own i hi).lt c hc).1; have e' : c = b := e; omega)), h.sep⟩
theorem NearL.mono {w : World} {base base' g N : Nat} {vs : Nat → Value} {ls : Nat → List Nat} (h : NearL w base g N vs ls) (hb : base' ≤ base) : NearL w base' g N vs ls := ⟨h.row, fun i hi => ownsRow_mono (h.own i hi) hb, h.sep⟩
theorem cell_grown {w w1 : World} {o : Obj} {row : Option Nat} {a : Addr} {v : Value} (hg : (w.alloc o).grownBy w1 row) (hc : w.cell? a = some v) (hne : row ≠ some a.block) : w1.cell? a = some v := by
  have hl := World.block_lt_of_cell? w _ hc
  rw [← hc]
  have : w1.heap[a.block]? = w.heap[a.block]? := (hg.block _ (by simp; omega) (fun h => hne h.symm)).trans (Below.heap_alloc _ _ _ hl)
  simp [World.cell?, this]
theorem row_grown {w w1 : World} {o : Obj} {row : Option Nat} {g n : Nat} {t : TypeId} {f : Nat → Value} (h : RowV w g t n f) (hg : (w.alloc o).grownBy w1 row) (hne : row ≠ some g) : RowV w1 g t n f :=
  h.block ((hg.block _ (by have := h.lt; simp; omega) (fun h => hne h.symm)).trans (Below.heap_alloc _ _ _ h.lt))
/-- Rows that grow, out of the way of x. -/
theorem NearL.nearP {w : World} {base g N x : Nat} {vs : Nat → Value} {ls : Nat → List Nat} (h : NearL w base g N vs ls) (hx : x < base) (hg : g ≠ x) : NearP w x w.heap.size g N ls := by
  refine ⟨hg, h.row.lt, fun i hi => ?_⟩
  have ho := h.own i hi
  obtain ⟨xo, xc, hv⟩ := form_row ho
  have hc := h.row.cell hi
  rw [hv] at hc ho
  refine ⟨xo, xc, hc, fun k u hu => ?_⟩
  obtain ⟨b, e, c⟩ := qcell ho hu
  have hb := ho.lt b (by rw [e]; rfl)
  exact ⟨b, by omega, hb.2, e, c⟩
end Go.Proofs.Ytkakmaalmhofmaa
