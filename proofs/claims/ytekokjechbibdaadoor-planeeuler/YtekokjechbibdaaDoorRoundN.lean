/- The turns round nodes, as a map from pairs to numbers; and a table of rows of one's own. What roundBy holds in memory, and a drawn region of its: a number is put behind a row of a table. -/
import Derived.Test.YtekokjechbibdaaDoorNeedW
import Derived.Test.YtekokjechbibdaaDoorPieceM
import Derived.Test.YtekokjechbibdaaDoorLayN
namespace Go.Proofs.YtekokjechbibdaaDoor
set_option maxRecDepth 8000
open Go.RowKit Go.Maps
theorem natI64 {u : Nat} (h : u < 1000000) : I64 (u : Int) := ⟨by omega, by omega⟩
theorem Tryd.zero3 (w : World) : (zeroValue 3).run Tryd.prog w = .ok (.int .i64 0) w := by kernel_rfl
/-- Block b is a map from pairs of small numbers to numbers: what a look into it tells. -/
def TurnM (w : World) (b n : Nat) (M : Nat → Nat → Nat) : Prop :=
  ∃ D : DataW Unit, w.ownsMap Tryd.prog 49 (plainElem Tryd.prog 3) b n D ∧ ∀ u v : Nat, u < 1000 → v < 1000 → D.atKey (kl (u : Int) (v : Int)) (.lit (.int .i64 0)) = .lit (.int .i64 (M u v : Int))
theorem TurnM.block {w w' : World} {b n : Nat} {M : Nat → Nat → Nat} (h : TurnM w b n M) (hb : w'.heap[b]? = w.heap[b]?) : TurnM w' b n M := by
  obtain ⟨D, ⟨es, clock, h1, h2⟩, h3⟩ := h
  exact ⟨D, ⟨es, clock, by rw [hb]; exact h1, h2⟩, h3⟩
theorem TurnM.lt {w : World} {b n : Nat} {M : Nat → Nat → Nat} (h : TurnM w b n M) : b < w.heap.size := by
  obtain ⟨D, h1, _⟩ := h; exact h1.lt
theorem TurnM.under {w w' : World} {b n : Nat} {M : Nat → Nat → Nat} (h : TurnM w b n M) (hb : Below w.heap.size w w') : TurnM w' b n M := h.block (hb.block b h.lt)
theorem TurnM.turns {w w' : World} {b n : Nat} {M : Nat → Nat → Nat} {S : Nat → Prop} (h : TurnM w b n M) (ht : Turns S w w') (hm : ¬ S b) : TurnM w' b n M := h.block (ht.block b h.lt hm)
theorem turnM_made (w : World) : TurnM (w.alloc (.map #[] 0)) w.heap.size 0 (fun _ _ => 0) := ⟨.map [], World.ownsMap_made _ _ _ _, fun _ _ _ _ => rfl⟩
theorem TurnM.look {w : World} {b n : Nat} {M : Nat → Nat → Nat} (h : TurnM w b n M) {u v : Nat} (hu : u < 1000) (hv : v < 1000) :
    (Instr.lookup 84 (.map (some b)) (.agg #[.int .i64 (u : Int), .int .i64 (v : Int)]) false).run Tryd.prog w = .ok (.int .i64 (M u v : Int)) w := by
  obtain ⟨D, h1, h2⟩ := h
  obtain ⟨c, hrun, hat, _⟩ := h1.lookup_int Tryd.law49 Tryd.underlying84 Tryd.underlying3 (Tryd.zero3 w) (key_mk (natI64 (u := u) (by omega)) (natI64 (u := v) (by omega)))
  rw [h2 u v hu hv] at hat
  simp at hat
  rw [hat]; exact hrun
def upd2 (M : Nat → Nat → Nat) (u v c : Nat) : Nat → Nat → Nat := fun x y => if x = u ∧ y = v then c else M x y
theorem TurnM.store {w : World} {b n : Nat} {M : Nat → Nat → Nat} (h : TurnM w b n M) {u v c : Nat} (hu : u < 1000) (hv : v < 1000) (hc : c < 1000000) (hn : n < 1000000000) :
    ∃ w', (Instr.mapUpdate 84 (.map (some b)) (.agg #[.int .i64 (u : Int), .int .i64 (v : Int)]) (.int .i64 (c : Int))).run Tryd.prog w = .ok () w' ∧ TurnM w' b (n + 1) (upd2 M u v c) ∧ w.mapTurned w' b := by
  obtain ⟨D, h1, h2⟩ := h
  have ku := natI64 (u := u) (by omega)
  have kv := natI64 (u := v) (by omega)
  obtain ⟨w', hrun, hown, hturn⟩ := h1.store Tryd.law49 Tryd.underlying84 (by unfold maxLen; omega) (key_mk ku kv) (plainElem_int Tryd.underlying3 (a := (c : Int)) (natI64 (u := c) hc).wf)
  refine ⟨w', hrun, ⟨_, hown, fun x y hx hy => ?_⟩, hturn⟩
  unfold upd2
  by_cases e : x = u ∧ y = v
  · obtain ⟨rfl, rfl⟩ := e
    rw [if_pos ⟨rfl, rfl⟩]
    exact atKey_put_same h1.isMap (Tryd.law49.key (key_mk ku kv)) _ _
  · rw [if_neg e, atKey_put_other (fun hk => e (by
      have := key_inj (natI64 (u := x) (by omega)) (natI64 (u := y) (by omega)) ku kv hk
      omega)), h2 x y hx hy]
/-- A table of rows: table bt, the rows xs, of one's own and apart. -/
structure RowsW (w : World) (bt lo : Nat) (Ls : List (List Nat)) (xs : List Value) : Prop where
  hl : xs.length = Ls.length
  tab : RowV w bt 61 Ls.length (fun j => xs.getD j undef)
  own : ∀ (j : Nat) (x : Value) (l : List Nat), xs[j]? = some x → Ls[j]? = some l → w.ownsRow lo 3 1 x l.length (qv l)
  ap : ∀ (i j : Nat) (x y : Value), i ≠ j → xs[i]? = some x → xs[j]? = some y → ∀ g, x.ownBlock = some g → y.ownBlock ≠ some g
section
variable {w w' : World} {bt lo : Nat} {Ls : List (List Nat)} {xs : List Value}
theorem RowsW.row (h : RowsW w bt lo Ls xs) {j : Nat} {x : Value} (hx : xs[j]? = some x) : ∃ l, Ls[j]? = some l ∧ w.ownsRow lo 3 1 x l.length (qv l) := by
  have hj := (List.getElem?_eq_some_iff.1 hx).1
  rw [h.hl] at hj
  exact ⟨Ls[j], List.getElem?_eq_getElem hj, h.own j x _ hx (List.getElem?_eq_getElem hj)⟩
theorem RowsW.lt (h : RowsW w bt lo Ls xs) {j : Nat} {x : Value} (hx : xs[j]? = some x) {g : Nat} (hg : x.ownBlock = some g) : lo ≤ g ∧ g < w.heap.size := by
  obtain ⟨l, _, hr⟩ := h.row hx
  exact hr.lt g hg
theorem RowsW.keep (h : RowsW w bt lo Ls xs) (ht : w'.heap[bt]? = w.heap[bt]?) (hk : ∀ (j : Nat) (x : Value), xs[j]? = some x → ∀ g, x.ownBlock = some g → w'.heap[g]? = w.heap[g]?) : RowsW w' bt lo Ls xs :=
  ⟨h.hl, h.tab.block ht, fun j x l h1 h2 => ownsRow_blocks (h.own j x l h1 h2) (hk j x h1), h.ap⟩
theorem RowsW.under (h : RowsW w bt lo Ls xs) (hb : Below w.heap.size w w') : RowsW w' bt lo Ls xs := h.keep (hb.block _ h.tab.lt) (fun _ _ hx g hg => hb.block g (h.lt hx hg).2)
theorem RowsW.turns {M : Nat → Prop} (h : RowsW w bt lo Ls xs) (ht : Turns M w w') (h0 : ¬ M bt) (hm : ∀ (j : Nat) (x : Value), xs[j]? = some x → ∀ g, x.ownBlock = some g → ¬ M g) : RowsW w' bt lo Ls xs :=
  h.keep (ht.block _ h.tab.lt h0) (fun j x hx g hg => ht.block g (h.lt hx hg).2 (hm j x hx g hg))
theorem RowsW.cell (h : RowsW w bt lo Ls xs) {j : Nat} {x : Value} (hx : xs[j]? = some x) : w.cell? ⟨bt, j, none⟩ = some x := by
  have hj := (List.getElem?_eq_some_iff.1 hx).1
  have := h.tab.cell (j := j) (by rw [← h.hl]; exact hj)
  rw [this, List.getD_eq_getElem?_getD, hx]
  rfl
/-- One number more at the end of row v. -/
theorem RowsW.push (h : RowsW w bt lo Ls xs) (hbt : bt < lo) {v : Nat} {x y : Value} {l : List Nat} {u : Nat} {w6 w1 : World} (hx : xs[v]? = some x) (hl : Ls[v]? = some l) (hb : Below w.heap.size w w6) (hg : w6.grownBy w1 x.ownBlock) (hr : w1.ownsRow lo 3 1 y (l ++ [u]).length (qv (l ++ [u]))) (hy : ∀ g, y.ownBlock = some g → x.ownBlock = some g ∨ w.heap.size ≤ g) :
    RowsW (w1.setCell ⟨bt, v, none⟩ y) bt lo (Ls.set v (l ++ [u])) (xs.set v y) ∧ Turns (fun k => k = bt ∨ x.ownBlock = some k) w (w1.setCell ⟨bt, v, none⟩ y) := by
  have h6 := h.under hb
  have hvl := (List.getElem?_eq_some_iff.1 hx).1
  have hxb : ∀ g, x.ownBlock = some g → lo ≤ g ∧ g < w.heap.size := fun g hg => h.lt hx hg
  have k : ∀ b, b < w6.heap.size → x.ownBlock ≠ some b → w1.heap[b]? = w6.heap[b]? := fun b hb1 hb2 => hg.block b hb1 (fun e => hb2 e.symm)
  have htab1 : RowV w1 bt 61 Ls.length (fun j => xs.getD j undef) := h6.tab.block (k _ h6.tab.lt (fun e => by have := (hxb _ e).1; omega))
  have hset := htab1.set v y
  refine ⟨⟨by simp [h.hl], ?_, fun j z m h1 h2 => ?_, fun i j z z' hij h1 h2 g hg1 => ?_⟩, ?_⟩
  · rw [List.length_set]
    refine hset.congr fun j hj => ?_
    rw [List.getD_eq_getElem?_getD, List.getD_eq_getElem?_getD, List.getElem?_set]
    by_cases e : j = v
    · subst e; simp [hvl]
    · rw [if_neg e, if_neg (fun e' => e e'.symm)]
  · rw [List.getElem?_set] at h1 h2
    by_cases e : v = j
    · subst e
      rw [if_pos rfl, if_pos hvl] at h1
      rw [if_pos rfl, if_pos (by rw [← h.hl]; exact hvl)] at h2
      cases h1; cases h2
      exact ownsRow_setCell_below hr hbt y
    · rw [if_neg e] at h1 h2
      refine ownsRow_setCell_below ?_ hbt y
      exact ownsRow_blocks (h6.own j z m h1 h2) (fun b hb2 => k b (h6.lt h1 hb2).2 (fun e2 => h.ap v j x z e hx h1 b e2 hb2))
  · rw [List.getElem?_set] at h1 h2
    by_cases e1 : v = i
    · subst e1
      rw [if_pos rfl, if_pos hvl] at h1
      cases h1
      rw [if_neg hij] at h2
      rcases hy g hg1 with h3 | h3
      · exact h.ap v j x z' hij hx h2 g h3
      · intro e; have := (h.lt h2 e).2; omega
    · rw [if_neg e1] at h1
      by_cases e2 : v = j
      · subst e2
        rw [if_pos rfl, if_pos hvl] at h2
        cases h2
        intro e
        rcases hy g e with h3 | h3
        · exact h.ap v i x z e1 hx h1 g h3 hg1
        · have := (h.lt h1 hg1).2; omega
      · rw [if_neg e2] at h2
        exact h.ap i j z z' hij h1 h2 g hg1
  · refine (Turns.of_below hb _).trans (Turns.trans (b := w1) ?_ ?_)
    · exact ⟨hg.os, hg.tape, hg.output, hg.size, fun b hb1 hb2 => hg.block b hb1 (fun e => hb2 (Or.inr e.symm))⟩
    · exact (setCell_turns w1 bt v y).mono (fun _ _ e => Or.inl e)
end
theorem rowsW_nil {w : World} {b N lo : Nat} (h : w.heap[b]? = some (.cells (rep N (Value.slice none 0 0)) 61 (0, 0))) : RowsW w b lo (List.replicate N []) (List.replicate N (Value.slice none 0 0)) := by
  refine ⟨by simp, ?_, fun j x l h1 h2 => ?_, fun i j x y _ h1 _ g hg => ?_⟩
  · rw [List.length_replicate]
    refine (rowV_rep h).congr fun j hj => ?_
    rw [List.getD_eq_getElem?_getD, List.getElem?_replicate, if_pos hj]
    rfl
  · rw [List.getElem?_replicate] at h1 h2
    split at h1
    · rw [if_pos (by assumption)] at h2
      cases h1; cases h2
      exact ⟨rfl, Or.inl ⟨rfl, rfl⟩⟩
    · cases h1
  · rw [List.getElem?_replicate] at h1
    split at h1
    · cases h1; cases hg
    · cases h1
end Go.Proofs.YtekokjechbibdaaDoor

namespace Go.Proofs.YtekokjechbibdaaDoor
set_option maxRecDepth 8000
open Go.RowKit Go.Maps
theorem region_invInC {F : Fence} {n : Nat} {P : Program} {ops : Array Oper} {Q : Exit → Act → World → Prop} {id : Nat} {a : Act} {w : World} {J : (Nat → Bool) → Act → World → Prop} (hm : P.follows .mixedOrders = true) (hlow : lowB ops = true)
    (h0 : J (fun _ => false) a w.drew)
    (hstep : ∀ i o, ops[i]? = some o → ∀ L a' w, J L a' w → L i = false → (∀ e ∈ o.after, Region.binds .any e = true → L e.on = true) → (∀ j o', ops[j]? = some o' → L j = true → ∀ e ∈ o'.after, Region.binds .any e = true → L e.on = true) → wpOpIn F n P ops Q i (J (also L i)) a' w)
    (hend : ∀ L a' w, J L a' w → (∀ i, i < ops.size → L i = true) → Q .normal a' w) : (Code.region id ops true).wpIn F n P Q a w := by
  refine region_invIn (J := fun _ L a w => J L a w ∧ ∀ j o', ops[j]? = some o' → L j = true → ∀ e ∈ o'.after, Region.binds .any e = true → L e.on = true) hm hlow ⟨h0, fun _ _ _ h => (by cases h)⟩ (fun i o ho L a' w' hJ hL hd => ?_) (fun L a' w' hJ hall => hend L a' w' hJ.1 hall)
  refine wpOpIn_mono (fun a2 w2 h2 => ⟨h2, fun j o' hj hlj e he hb => ?_⟩) (hstep i o ho L a' w' hJ.1 hL hd hJ.2)
  by_cases e1 : j = i
  · subst e1
    rw [ho] at hj
    cases hj
    exact also_of (hd e he hb) _
  · exact also_of (hJ.2 j o' hj (also_ne hlj e1) e he hb) _
/-- What the operations of 'round[v] = append(round[v], u)' leave: told values, a new block (7), the append (8), the store (10). -/
structure SC (W : World) (V : Nat → Value) (u : Nat) (bt v : Nat) (Z : Value → World → Prop) (L : Nat → Bool) (f : Nat → Value) (w : World) : Prop where
  told : ∀ i, i ≠ 7 → i ≠ 8 → i ≠ 10 → L i = true → f i = V i
  a0 : L 8 = false → Below W.heap.size W w
  f7 : L 7 = true → L 8 = false → ∃ c, f 7 = .slice (some ⟨c, 0, none⟩) 1 1 ∧ W.heap.size ≤ c ∧ One w c (.int .i64 (u : Int)) 3
  b8 : L 8 = true → L 10 = false → Z (f 8) w
  c10 : L 10 = true → (∀ j, j < 10 → L j = true) ∧ ∃ w1, Z (f 8) w1 ∧ w = w1.setCell ⟨bt, v, none⟩ (f 8)
section
variable {W : World} {V : Nat → Value} {u bt v : Nat} {Z : Value → World → Prop} {L : Nat → Bool} {f : Nat → Value} {w w' : World}
theorem SC.open_ (h : SC W V u bt v Z L f w) {i : Nat} (hL : L i = false) (hi : i < 10) : L 10 = false := by
  cases e : L 10 with
  | false => rfl
  | true => have := (h.c10 e).1 i hi; rw [hL] at this; cases this
theorem SC.start : SC W V u bt v Z (fun _ => false) f W.drew :=
  ⟨fun _ _ _ _ h => (by cases h), fun _ => (Below.refl _ W).drew, fun h => (by cases h), fun h => (by cases h), fun h => (by cases h)⟩
/-- An operation that only reads. -/
theorem SC.put (h : SC W V u bt v Z L f w) {i : Nat} (hL : L i = false) (hi : i < 10) (h7 : i ≠ 7) (h8 : i ≠ 8) : SC W V u bt v Z (also L i) (updV f i (V i)) w := by
  have hx := h.open_ hL hi
  have ax : also L i 10 = false := by rw [also_at (by omega)]; exact hx
  refine ⟨fun j j7 j8 j10 hk => ?_, fun hk => h.a0 (by rwa [also_at (by omega)] at hk), fun hk hk8 => ?_, fun hk _ => ?_, fun hk => (by rw [ax] at hk; cases hk)⟩
  · by_cases e : j = i
    · subst e; exact updV_same _ _ _
    · rw [updV_ne _ _ e]; exact h.told j j7 j8 j10 (by rwa [also_at e] at hk)
  · rw [also_at (by omega)] at hk hk8
    rw [updV_ne _ _ (by omega)]
    exact h.f7 hk hk8
  · rw [also_at (by omega)] at hk
    rw [updV_ne _ _ (by omega)]
    exact h.b8 hk hx
theorem SC.made (h : SC W V u bt v Z L f w) (hL : L 7 = false) (h8 : L 8 = false) : SC W V u bt v Z (also L 7) (updV f 7 (.slice (some ⟨w.heap.size, 0, none⟩) 1 1)) (w.alloc (Obj.cells #[.int .i64 (u : Int)] 3)) := by
  have hx := h.open_ hL (by omega)
  have ax : also L 7 10 = false := by rw [also_at (by omega)]; exact hx
  have a8 : also L 7 8 = false := by rw [also_at (by omega)]; exact h8
  refine ⟨fun j j7 j8 j10 hk => ?_, fun _ => below_alloc (h.a0 h8) _, fun _ _ => ⟨_, updV_same _ _ _, (h.a0 h8).size, one_new _ _ _⟩, fun hk => (by rw [a8] at hk; cases hk), fun hk => (by rw [ax] at hk; cases hk)⟩
  rw [updV_ne _ _ j7]; exact h.told j j7 j8 j10 (by rwa [also_at j7] at hk)
theorem SC.app (h : SC W V u bt v Z L f w) (hL : L 8 = false) {z : Value} (hz : Z z w') : SC W V u bt v Z (also L 8) (updV f 8 z) w' := by
  have hx := h.open_ hL (by omega)
  have ax : also L 8 10 = false := by rw [also_at (by omega)]; exact hx
  have a8 : also L 8 8 = true := also_self _ _
  refine ⟨fun j j7 j8 j10 hk => ?_, fun hk => (by rw [a8] at hk; cases hk), fun _ hk => (by rw [a8] at hk; cases hk), fun _ _ => by rw [updV_same]; exact hz, fun hk => (by rw [ax] at hk; cases hk)⟩
  rw [updV_ne _ _ j8]; exact h.told j j7 j8 j10 (by rwa [also_at j8] at hk)
theorem SC.store (h : SC W V u bt v Z L f w) (hL : L 10 = false) (hall : ∀ j, j < 10 → L j = true) (x : Value) : SC W V u bt v Z (also L 10) (updV f 10 x) (w.setCell ⟨bt, v, none⟩ (f 8)) := by
  have a8 : also L 10 8 = true := also_of (hall 8 (by omega)) _
  have ax : also L 10 10 = true := also_self _ _
  refine ⟨fun j j7 j8 j10 hk => ?_, fun hk => (by rw [a8] at hk; cases hk), fun _ hk => (by rw [a8] at hk; cases hk), fun _ hk => (by rw [ax] at hk; cases hk), fun _ => ⟨fun j hj => also_of (hall j hj) _, w, ?_, ?_⟩⟩
  · rw [updV_ne _ _ j10]; exact h.told j j7 j8 j10 (by rwa [also_at j10] at hk)
  · rw [updV_ne _ _ (by omega)]; exact h.b8 (hall 8 (by omega)) hL
  · rw [updV_ne _ _ (by omega)]
end
/-- What lies in memory while the rows round node v are told. -/
structure RR (w W : World) (bm bt b13 b14 q n N v told : Nat) (M : Nat → Nat → Nat) (Ls : List (List Nat)) (xs : List Value) : Prop where
  mp : One W (bm + 1) (.map (some bm)) 84
  tm : TurnM W bm n M
  tb : One W (bt + 1) (sl bt N) 29
  rows : RowsW W bt (bt + 2) Ls xs
  v13 : One W b13 (.int .i64 (v : Int)) 3
  s14 : SBox W b14 told
  below : Below w.heap.size w W
  nb : ∀ (j : Nat) (x : Value), xs[j]? = some x → ∀ g, x.ownBlock = some g → g ≠ b13 ∧ g ≠ b14 ∧ ¬ Own3 q g
def ApR (n bm bt b13 b14 q : Nat) : Prop := n ≤ bm ∧ bm + 1 < bt ∧ bt + 1 < b13 ∧ b13 < b14 ∧ b14 < q
section
variable {w W W' : World} {bm bt b13 b14 q n N v told : Nat} {M : Nat → Nat → Nat} {Ls : List (List Nat)} {xs : List Value}
theorem RR.turns {S : Nat → Prop} (h : RR w W bm bt b13 b14 q n N v told M Ls xs) (ha : ApR w.heap.size bm bt b13 b14 q) (ht : Turns S W W') (hS : ∀ k, S k → q ≤ k) (hr : ∀ (j : Nat) (x : Value), xs[j]? = some x → ∀ g, x.ownBlock = some g → ¬ S g) : RR w W' bm bt b13 b14 q n N v told M Ls xs := by
  obtain ⟨a1, a2, a3, a4, a5⟩ := ha
  exact ⟨one_turns h.mp ht (fun e => by have := hS _ e; omega), h.tm.turns ht (fun e => by have := hS _ e; omega), one_turns h.tb ht (fun e => by have := hS _ e; omega), h.rows.turns ht (fun e => by have := hS _ e; omega) hr, one_turns h.v13 ht (fun e => by have := hS _ e; omega), box_turns h.s14 ht (fun e => by have := hS _ e; omega), ht.below h.below h.below.size (fun k e => by have := hS _ e; omega), h.nb⟩
theorem RR.under (h : RR w W bm bt b13 b14 q n N v told M Ls xs) (hb : Below W.heap.size W W') : RR w W' bm bt b13 b14 q n N v told M Ls xs :=
  have k : ∀ {b : Nat} {cs : Array Value} {t : TypeId}, Box W b cs t → Box W' b cs t := fun h => (hb.block _ (lt_of_block h)).trans h
  ⟨k h.mp, h.tm.under hb, k h.tb, h.rows.under hb, k h.v13, k h.s14, below_next h.below hb, h.nb⟩
theorem RR.tell {told' : Nat} (h : RR w W bm bt b13 b14 q n N v told M Ls xs) (ha : ApR w.heap.size bm bt b13 b14 q) (ht : Turns (fun k => k = b14) W W') (hs : SBox W' b14 told') : RR w W' bm bt b13 b14 q n N v told' M Ls xs := by
  obtain ⟨a1, a2, a3, a4, a5⟩ := ha
  exact ⟨one_turns h.mp ht (by omega), h.tm.turns ht (by omega), one_turns h.tb ht (by omega), h.rows.turns ht (by omega) (fun j x hx g hg => (h.nb j x hx g hg).2.1), one_turns h.v13 ht (by omega), hs, ht.below h.below h.below.size (fun k e => by omega), h.nb⟩
theorem RR.push (h : RR w W bm bt b13 b14 q n N v told M Ls xs) (ha : ApR w.heap.size bm bt b13 b14 q) (hq : q + 3 ≤ W.heap.size) {x y : Value} {l : List Nat} {u : Nat} {w6 w1 : World} (hx : xs[v]? = some x) (hl : Ls[v]? = some l) (hb : Below W.heap.size W w6) (hg : w6.grownBy w1 x.ownBlock) (hr : w1.ownsRow (bt + 2) 3 1 y (l ++ [u]).length (qv (l ++ [u]))) (hy : ∀ g, y.ownBlock = some g → x.ownBlock = some g ∨ W.heap.size ≤ g) :
    RR w (w1.setCell ⟨bt, v, none⟩ y) bm bt b13 b14 q n N v told M (Ls.set v (l ++ [u])) (xs.set v y) ∧ Turns (fun k => k = bt ∨ x.ownBlock = some k) W (w1.setCell ⟨bt, v, none⟩ y) := by
  obtain ⟨a1, a2, a3, a4, a5⟩ := ha
  obtain ⟨h1, ht⟩ := h.rows.push (by omega) hx hl hb hg hr hy
  have hnb := h.nb v x hx
  have hge : ∀ g, x.ownBlock = some g → bt + 2 ≤ g := fun g hg => (h.rows.lt hx hg).1
  refine ⟨⟨one_turns h.mp ht ?_, h.tm.turns ht ?_, one_turns h.tb ht ?_, h1, one_turns h.v13 ht ?_, box_turns h.s14 ht ?_, ht.below h.below h.below.size ?_, fun j z hz g hgz => ?_⟩, ht⟩
  · rintro (e | e)
    · omega
    · have := hge _ e; omega
  · rintro (e | e)
    · omega
    · have := hge _ e; omega
  · rintro (e | e)
    · omega
    · have := hge _ e; omega
  · rintro (e | e)
    · omega
    · exact (hnb _ e).1 rfl
  · rintro (e | e)
    · omega
    · exact (hnb _ e).2.1 rfl
  · rintro k (e | e)
    · omega
    · have := hge _ e; omega
  · rw [List.getElem?_set] at hz
    split at hz
    · split at hz
      · cases hz
        rcases hy g hgz with h2 | h2
        · exact hnb g h2
        · exact ⟨by omega, by omega, fun e => by have := e.2; omega⟩
      · cases hz
    · exact h.nb j z hz g hgz
end
end Go.Proofs.YtekokjechbibdaaDoor
