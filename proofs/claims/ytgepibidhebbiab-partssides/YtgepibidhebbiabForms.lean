/- Graphs in form: their edges by number; the map from edges to their numbers. -/
import Derived.Test.YtgepibidhebbiabPieces
import Derived.Test.YtgepibidhebbiabParts
namespace Go.Proofs.Ytgepibidhebbiab
open Go.RowKit Go.Maps

/-- The edges of a graph in form. -/
structure Formed (m : Nat) (es : List Pair) : Prop where
  nodup : es.Nodup
  ok : ∀ (i : Nat) (e : Pair), es[i]? = some e → ∃ x y : Nat, e = ((x : Int), (y : Int)) ∧ x < y ∧ y < m

def Ef (m : Nat) (es : List Pair) (a b : Nat) : Prop := a < m ∧ b < m ∧ bothB es a b = true
def elf (es : List Pair) (i : Nat) : Nat × Nat := ((es.getD i (0, 0)).1.toNat, (es.getD i (0, 0)).2.toNat)

theorem getD_some {es : List Pair} {i : Nat} {e : Pair} (h : es[i]? = some e) : es.getD i (0, 0) = e := by simp [List.getD, h]
theorem elf_some {es : List Pair} {i x y : Nat} (h : es[i]? = some ((x : Int), (y : Int))) : elf es i = (x, y) := by
  unfold elf; rw [getD_some h]; simp
theorem Formed.at {m : Nat} {es : List Pair} (h : Formed m es) {i : Nat} (hi : i < es.length) : ∃ x y : Nat, es[i]? = some ((x : Int), (y : Int)) ∧ x < y ∧ y < m := by
  obtain ⟨x, y, e, h1, h2⟩ := h.ok i es[i] (List.getElem?_eq_getElem hi)
  exact ⟨x, y, by rw [List.getElem?_eq_getElem hi, e], h1, h2⟩
theorem Formed.inj {m : Nat} {es : List Pair} (h : Formed m es) {i j : Nat} {e : Pair} (hi : es[i]? = some e) (hj : es[j]? = some e) : i = j := by
  obtain ⟨h1, e1⟩ := List.getElem?_eq_some_iff.1 hi
  obtain ⟨h2, e2⟩ := List.getElem?_eq_some_iff.1 hj
  have hp := List.pairwise_iff_getElem.1 h.nodup
  rcases Nat.lt_trichotomy i j with h' | h' | h'
  · exact absurd (e1.trans e2.symm) (hp i j h1 h2 h')
  · exact h'
  · exact absurd (e2.trans e1.symm) (hp j i h2 h1 h')

theorem both_iff {m : Nat} {es : List Pair} (h : Formed m es) (a b : Nat) : bothB es a b = true ↔ ∃ i : Nat, es[i]? = some (((min a b : Nat) : Int), ((max a b : Nat) : Int)) := by
  unfold bothB hasB
  rw [List.any_eq_true]
  constructor
  · rintro ⟨e, he, hb⟩
    obtain ⟨i, hi⟩ := List.mem_iff_getElem?.1 he
    obtain ⟨x, y, rfl, hxy, _⟩ := h.ok i e hi
    refine ⟨i, ?_⟩
    rw [hi]
    simp at hb
    rcases hb with ⟨e1, e2⟩ | ⟨e1, e2⟩
    · obtain rfl : x = a := by omega
      obtain rfl : y = b := by omega
      rw [Nat.min_eq_left (by omega), Nat.max_eq_right (by omega)]
    · obtain rfl : x = b := by omega
      obtain rfl : y = a := by omega
      rw [Nat.min_eq_right (by omega), Nat.max_eq_left (by omega)]
  · rintro ⟨i, hi⟩
    refine ⟨_, List.mem_of_getElem? hi, ?_⟩
    rcases Nat.le_total a b with hab | hab
    · rw [Nat.min_eq_left hab, Nat.max_eq_right hab]; simp
    · rw [Nat.min_eq_right hab, Nat.max_eq_left hab]; simp

theorem ef_gr {m : Nat} {es : List Pair} (h : Formed m es) : Gr m (Ef m es) where
  lt := fun a b h => ⟨h.1, h.2.1⟩
  symm := fun a b h => ⟨h.2.1, h.1, by have := h.2.2; unfold bothB at *; rw [hasB_comm]; exact this⟩
  irr := fun a ha => by
    obtain ⟨i, hi⟩ := (both_iff h a a).1 ha.2.2
    obtain ⟨x, y, e, h1, _⟩ := h.ok i _ hi
    simp at e
    omega
theorem ef_edges {m : Nat} {es : List Pair} (h : Formed m es) : Edges m es.length (Ef m es) (elf es) where
  ok := fun i hi => by
    obtain ⟨x, y, e, h1, h2⟩ := h.at hi
    rw [elf_some e]
    exact ⟨h1, by show x < m; omega, h2, (both_iff h x y).2 ⟨i, by rw [e, Nat.min_eq_left (by omega), Nat.max_eq_right (by omega)]⟩⟩
  all := fun a b hab hE => by
    obtain ⟨i, hi⟩ := (both_iff h a b).1 hE.2.2
    rw [Nat.min_eq_left (by omega), Nat.max_eq_right (by omega)] at hi
    exact ⟨i, (List.getElem?_eq_some_iff.1 hi).1, elf_some hi⟩
  inj := fun i j hi hj e => by
    obtain ⟨x, y, e1, _⟩ := h.at hi
    obtain ⟨x', y', e2, _⟩ := h.at hj
    rw [elf_some e1, elf_some e2] at e
    simp at e
    obtain ⟨rfl, rfl⟩ := e
    exact h.inj e1 e2
theorem inc_iff {m : Nat} {es : List Pair} (h : Formed m es) {i : Nat} (hi : i < es.length) (v u : Nat) : Inc (elf es) i v u ↔ es[i]? = some (((min u v : Nat) : Int), ((max u v : Nat) : Int)) := by
  obtain ⟨x, y, e1, hxy, _⟩ := h.at hi
  unfold Inc
  rw [elf_some e1, e1]
  simp
  omega

/-- Block b is a map from the first k edges to their numbers. -/
def NumAt (w : World) (b : Nat) (es : List Pair) (k : Nat) : Prop :=
  ∃ D : DataW Unit, w.ownsMap Try.prog 63 (plainElem Try.prog 3) b k D ∧ (∀ u v : Int, I64 u → I64 v → (Maps.has D (kl u v) = true ↔ ∃ i, i < k ∧ es[i]? = some (u, v))) ∧
    ∀ (i : Nat) (u v : Int), i < k → es[i]? = some (u, v) → D.atKey (kl u v) (.lit (.int .i64 0)) = .lit (.int .i64 (i : Int))
theorem NumAt.block {w w' : World} {b k : Nat} {es : List Pair} (h : NumAt w b es k) (hb : w'.heap[b]? = w.heap[b]?) : NumAt w' b es k := by
  obtain ⟨D, ⟨ms, clock, h1, h2⟩, h3⟩ := h
  exact ⟨D, ⟨ms, clock, by rw [hb]; exact h1, h2⟩, h3⟩
theorem NumAt.lt {w : World} {b k : Nat} {es : List Pair} (h : NumAt w b es k) : b < w.heap.size := by
  obtain ⟨D, h1, _⟩ := h; exact h1.lt
theorem NumAt.turns {w w' : World} {b k : Nat} {es : List Pair} {M : Nat → Prop} (h : NumAt w b es k) (ht : Turns M w w') (hm : ¬ M b) : NumAt w' b es k := h.block (ht.block b h.lt hm)
theorem numAt_made (w : World) (es : List Pair) : NumAt (w.alloc (.map #[] 0)) w.heap.size es 0 :=
  ⟨.map [], World.ownsMap_made _ _ _ _, fun _ _ _ _ => by simp [Maps.has], fun _ _ _ h => by omega⟩

theorem kl_key (u v : Int) : WideAt.IsKeyLit (kl u v) := trivial

theorem NumAt.store {w : World} {b k : Nat} {es : List Pair} {m : Nat} (hf : Formed m es) (h : NumAt w b es k) {u v : Int} (hk : es[k]? = some (u, v)) (hu : I64 u) (hv : I64 v) (hl : k < 1000) (hI : ∀ (i : Nat) (u v : Int), es[i]? = some (u, v) → I64 u ∧ I64 v) :
    ∃ w', (Instr.mapUpdate 100 (.map (some b)) (.agg #[.int .i64 u, .int .i64 v]) (.int .i64 (k : Int))).run Try.prog w = .ok () w' ∧ NumAt w' b es (k + 1) ∧ w.mapTurned w' b := by
  obtain ⟨D, h1, h2, h3⟩ := h
  obtain ⟨w', hrun, hown, hturn⟩ := h1.store Try.law63 Try.underlying100 (by unfold maxLen; omega) (key_mk hu hv) (plainElem_int Try.underlying3 (a := (k : Int)) (I64.wf ⟨by omega, by omega⟩))
  refine ⟨w', hrun, ⟨_, hown, fun x y hx hy => ?_, fun i x y hi he => ?_⟩, hturn⟩
  · by_cases e : x = u ∧ y = v
    · obtain ⟨rfl, rfl⟩ := e
      rw [has_put_same h1.isMap (kl_key _ _)]
      exact ⟨fun _ => ⟨k, by omega, hk⟩, fun _ => rfl⟩
    · rw [has_put_other (fun hk => e (key_inj hx hy hu hv hk)), h2 x y hx hy]
      constructor
      · rintro ⟨i, hi, he⟩; exact ⟨i, by omega, he⟩
      · rintro ⟨i, hi, he⟩
        by_cases e1 : i = k
        · subst e1; rw [hk] at he; simp at he; exact absurd ⟨he.1.symm, he.2.symm⟩ e
        · exact ⟨i, by omega, he⟩
  · by_cases e : x = u ∧ y = v
    · obtain ⟨rfl, rfl⟩ := e
      have := hf.inj he hk
      subst this
      exact atKey_put_same h1.isMap (kl_key _ _) _ _
    · have hx := hI i x y he
      rw [atKey_put_other (fun hk => e (key_inj hx.1 hx.2 hu hv hk))]
      refine h3 i x y ?_ he
      by_cases e1 : i = k
      · subst e1; rw [hk] at he; simp at he; exact absurd ⟨he.1.symm, he.2.symm⟩ e
      · omega

theorem NumAt.look {w : World} {b k : Nat} {es : List Pair} (h : NumAt w b es k) {u v : Int} (hu : I64 u) (hv : I64 v) {i : Nat} (hi : i < k) (he : es[i]? = some (u, v)) :
    (Instr.lookup 100 (.map (some b)) (.agg #[.int .i64 u, .int .i64 v]) true).run Try.prog w = .ok (.tuple #[.int .i64 (i : Int), .bool true]) w := by
  obtain ⟨D, h1, h2, h3⟩ := h
  obtain ⟨x, ps, hrun, hx⟩ := h1.look_ok Try.law63 Try.underlying100 (Try.zero3 w) (plainElem_int Try.underlying3 (I64.wf ⟨by omega, by omega⟩)) (key_mk hu hv)
  rw [h3 i u v hi he] at hx
  obtain ⟨c, rfl, hc, _⟩ := plainElem_int_inv Try.underlying3 hx
  simp at hc
  rw [(h2 u v hu hv).2 ⟨i, hi, he⟩, ← hc.1] at hrun
  exact hrun
theorem NumAt.miss {w : World} {b k : Nat} {es : List Pair} (h : NumAt w b es k) {u v : Int} (hu : I64 u) (hv : I64 v) (he : ¬ ∃ i, i < k ∧ es[i]? = some (u, v)) :
    (Instr.lookup 100 (.map (some b)) (.agg #[.int .i64 u, .int .i64 v]) true).run Try.prog w = .ok (.tuple #[.int .i64 0, .bool false]) w := by
  obtain ⟨D, h1, h2, h3⟩ := h
  obtain ⟨x, ps, hrun, hx⟩ := h1.look_ok Try.law63 Try.underlying100 (Try.zero3 w) (plainElem_int Try.underlying3 (I64.wf ⟨by omega, by omega⟩)) (key_mk hu hv)
  have hno : Maps.has D (kl u v) = false := by
    cases hh : Maps.has D (kl u v)
    · rfl
    · exact absurd ((h2 u v hu hv).1 hh) he
  rw [atKey_of_not_has hno] at hx
  obtain ⟨c, rfl, hc, _⟩ := plainElem_int_inv Try.underlying3 hx
  simp at hc
  rw [hno, ← hc.1] at hrun
  exact hrun
end Go.Proofs.Ytgepibidhebbiab
