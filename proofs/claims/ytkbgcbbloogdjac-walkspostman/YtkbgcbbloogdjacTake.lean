/- take: what can be reached is taken out, and told with how far it is. -/
import Derived.Test.YtkbgcbbloogdjacNears
import Derived.Test.YtkbgcbbloogdjacBfs
import Derived.Maps.AppendAt
namespace Go.Proofs.Ytkbgcbbloogdjac
open Go.RowKit Go.Maps
attribute [local go_sem ↓] Go.wp_at_zero Go.wp_at_succ

/-- Block b is a map from numbers below N to numbers. -/
def FarAt (w : World) (b N : Nat) (F : Nat → Option Nat) : Prop :=
  ∃ D : DataW Unit, w.ownsMap Try.prog 3 (plainElem Try.prog 3) b N D ∧ (∀ u : Int, I64 u → Maps.has D (.int .i64 u) = (decide (0 ≤ u ∧ u < N) && (F u.toNat).isSome)) ∧
    ∀ k d, k < N → F k = some d → D.atKey (.int .i64 (k : Int)) (.lit (.int .i64 0)) = .lit (.int .i64 (d : Int))

theorem FarAt.block {w w' : World} {b N : Nat} {F : Nat → Option Nat} (h : FarAt w b N F) (hb : w'.heap[b]? = w.heap[b]?) : FarAt w' b N F := by
  obtain ⟨D, ⟨es, clock, h1, h2⟩, h3⟩ := h
  exact ⟨D, ⟨es, clock, by rw [hb]; exact h1, h2⟩, h3⟩
theorem FarAt.lt {w : World} {b N : Nat} {F : Nat → Option Nat} (h : FarAt w b N F) : b < w.heap.size := by
  obtain ⟨D, h1, _⟩ := h; exact h1.lt
theorem FarAt.turns {w w' : World} {b N : Nat} {F : Nat → Option Nat} {M : Nat → Prop} (h : FarAt w b N F) (ht : Turns M w w') (hm : ¬ M b) : FarAt w' b N F := h.block (ht.block b h.lt hm)
theorem FarAt.congr {w : World} {b N : Nat} {F G : Nat → Option Nat} (h : FarAt w b N F) (he : ∀ k, k < N → F k = G k) : FarAt w b N G := by
  obtain ⟨D, h1, h2, h3⟩ := h
  refine ⟨D, h1, fun u hu => ?_, fun k d hk hd => h3 k d hk (by rw [he k hk]; exact hd)⟩
  rw [h2 u hu]
  by_cases hb : 0 ≤ u ∧ u < N
  · rw [he u.toNat (by omega)]
  · simp [hb]
theorem farAt_made (w : World) (N : Nat) : FarAt (w.alloc (.map #[] 0)) w.heap.size N (fun _ => none) :=
  ⟨.map [], (World.ownsMap_made _ _ _ _).mono (Nat.zero_le _), fun _ _ => by simp [Maps.has], fun _ _ _ h => by cases h⟩
theorem Try.zero3 (w : World) : (zeroValue 3).run Try.prog w = .ok (.int .i64 0) w := by kernel_rfl

theorem setN_del {w : World} {b N : Nat} {S : Nat → Bool} {D : DataW Unit} (h2 : ∀ u : Int, I64 u → Maps.has D (.int .i64 u) = (decide (0 ≤ u ∧ u < N) && S u.toNat)) {u : Nat} (hown : w.ownsMap Try.prog 3 unitElem b N (D.del (.int .i64 (u : Int)))) : SetN w b N (fun k => S k && k != u) := by
  refine ⟨_, hown, fun x hx => ?_⟩
  by_cases e : x = u
  · subst e
    rw [has_del_same]
    simp
  · rw [has_del_other (by simpa using e), h2 x hx]
    by_cases hb : 0 ≤ x ∧ x < N
    · have : (x.toNat != u) = true := by simp; omega
      simp [this]
    · simp [hb]

theorem Turns.after {M : Nat → Prop} {b : Nat} {w wr wr' : World} (h : Turns (fun k => k = b) w wr) (h2 : Turns M wr wr') (hm : ∀ k, M k → k = b ∨ w.heap.size ≤ k) : Turns (fun k => k = b) w wr' :=
  ⟨h2.os.trans h.os, h2.tape.trans h.tape, h2.output.trans h.output, Nat.le_trans h.size h2.size, fun i hi hn => (h2.block i (Nat.lt_of_lt_of_le hi h.size) (fun hm' => by rcases hm i hm' with e | e; exact hn e; omega)).trans (h.block i hi hn)⟩

theorem ownsRow_blocks {w w' : World} {base : Nat} {t : TypeId} {sz : Nat} {v : Value} {n : Nat} {xs : List Value} (h : w.ownsRow base t sz v n xs) (hb : ∀ b, v.ownBlock = some b → w'.heap[b]? = w.heap[b]?) : w'.ownsRow base t sz v n xs := by
  refine ⟨h.1, ?_⟩
  rcases h.2 with h2 | ⟨g, cap, cur, h1, h2, h3, h4⟩
  · exact Or.inl h2
  · exact Or.inr ⟨g, cap, cur, h1, h2, by rw [hb g (by rw [h1]; rfl)]; exact h3, h4⟩

def qv (Q : List Nat) : List Value := Q.map fun (x : Nat) => Value.int .i64 (x : Int)
def farF (Q : List Nat) (d : Nat → Nat) (k : Nat) : Option Nat := if k ∈ Q then some (d k) else none
def leftF (L : Nat → Bool) (Q : List Nat) (k : Nat) : Bool := L k && !decide (k ∈ Q)

/-- How the memory stands while take goes on. -/
structure TI (w wr : World) (bL bF N : Nat) (ao : Option Addr) (bl : Nat → Nat) (e : Nat → Nat → Bool) (L : Nat → Bool) (q : Value) (Q : List Nat) (d : Nat → Nat) : Prop where
  own : wr.ownsRow w.heap.size 3 1 q Q.length (qv Q)
  far : FarAt wr bF N (farF Q d)
  left : SetN wr bL N (leftF L Q)
  near : NearsAt wr ao N bl e
  turns : Turns (fun k => k = bL) w wr
  neF : w.heap.size ≤ bF
  neL : bL < w.heap.size
  neB : ∀ i, i < N → bl i < w.heap.size ∧ bl i ≠ bL
  neG : ∀ g, ao = some ⟨g, 0, none⟩ → g < w.heap.size ∧ g ≠ bL

theorem own_cells {w : World} {base : Nat} {t : TypeId} {sz : Nat} {v : Value} {n : Nat} {xs : List Value} (h : w.ownsRow base t sz v n xs) {g : Nat} (hv : v.ownBlock = some g) : ∃ cur, w.heap[g]? = some (.cells cur t (0, 0)) := by
  rcases h.2 with ⟨rfl, _⟩ | ⟨g', cap, cur, rfl, _, h3, _⟩
  · cases hv
  · cases hv; exact ⟨cur, h3⟩

theorem TI.step {w wr wr' : World} {bL bF N : Nat} {ao : Option Addr} {bl : Nat → Nat} {e : Nat → Nat → Bool} {L : Nat → Bool} {q : Value} {Q : List Nat} {d : Nat → Nat} {M : Nat → Prop} (h : TI w wr bL bF N ao bl e L q Q d) (ht : Turns M wr wr') (hm : ∀ k, M k → w.heap.size ≤ k ∧ k ≠ bF ∧ q.ownBlock ≠ some k) : TI w wr' bL bF N ao bl e L q Q d := by
  refine ⟨ownsRow_blocks h.own fun b hb => ?_, h.far.turns ht (fun h' => (hm _ h').2.1 rfl), h.left.turns ht (fun h' => by have := hm _ h'; have := h.neL; omega), h.near.turns ht (fun i hi h' => by have := hm _ h'; have := (h.neB i hi).1; omega) (fun g hg h' => by have := hm _ h'; have := (h.neG _ hg).1; omega), h.turns.after ht (fun k hk => Or.inr (hm k hk).1), h.neF, h.neL, h.neB, h.neG⟩
  exact ht.block b (h.own.lt b hb).2 (fun h' => (hm _ h').2.2 hb)

/-- A node more. -/
theorem TI.push {w wr w2 w3 w4 : World} {bL bF N : Nat} {ao : Option Addr} {bl : Nat → Nat} {e : Nat → Nat → Bool} {L : Nat → Bool} {q q' : Value} {Q : List Nat} {d : Nat → Nat} {y c : Nat} {o : Obj} (h : TI w wr bL bF N ao bl e L q Q d) (hy : y ∉ Q)
    (h2 : SetN w2 bL N (fun k => leftF L Q k && k != y)) (t2 : wr.mapTurned w2 bL) (h3 : FarAt w3 bF N (fun x => if x = y then some c else farF Q d x)) (t3 : w2.mapTurned w3 bF)
    (hown : w4.ownsRow w.heap.size 3 1 q' (Q.length + 1) (qv Q ++ [.int .i64 (y : Int)])) (hg : (w3.alloc o).grownBy w4 q.ownBlock) : TI w w4 bL bF N ao bl e L q' (Q ++ [y]) (fun x => if x = y then c else d x) := by
  have hs := h.turns.size
  have T2 := turned_turns t2
  have T3 := turned_turns t3
  have T4 := (alloc_turns w3 o (fun k => some k = q.ownBlock)).trans (Turns.of_grown hg)
  have hq : ∀ k, some k = q.ownBlock → w.heap.size ≤ k ∧ ∃ cur, wr.heap[k]? = some (.cells cur 3 (0, 0)) := fun k hk => ⟨(h.own.lt k hk.symm).1, own_cells h.own hk.symm⟩
  have hl3 := h3.lt
  have hl2 : bL < w3.heap.size := by have := h2.lt; have := T3.size; omega
  have hFL : bF ≠ bL := by have := h.neF; have := h.neL; omega
  -- block bF is a map in w3
  have nF : ¬ some bF = q.ownBlock := fun hk => by
    obtain ⟨_, cur, hc⟩ := hq bF hk
    obtain ⟨D, ⟨es, ck, hb, _⟩, _⟩ := h.far
    rw [hc] at hb; cases hb
  have tw : Turns (fun k => k = bL) w w4 := ((h.turns.trans T2).after T3 (fun k hk => Or.inr (by rw [hk]; exact h.neF))).after T4 (fun k hk => Or.inr (hq k hk).1)
  refine ⟨by simpa [qv] using hown, ?_, ?_, ?_, tw, h.neF, h.neL, h.neB, h.neG⟩
  · refine (h3.turns T4 nF).congr fun k hk => ?_
    unfold farF
    by_cases e1 : k = y
    · subst e1; simp
    · simp [e1]
  · refine ((h2.turns T3 (fun e => hFL e.symm)).turns T4 (fun hk => by have := (hq _ hk).1; have := h.neL; omega)).congr fun k hk => ?_
    unfold leftF
    rw [Bool.eq_iff_iff]
    simp
    constructor
    · rintro ⟨⟨h1, h2⟩, h3⟩; exact ⟨h1, h2, h3⟩
    · rintro ⟨h1, h2, h3⟩; exact ⟨⟨h1, h2⟩, h3⟩
  · have n2 := h.near.turns T2 (fun i hi => (h.neB i hi).2) (fun g hg => (h.neG _ hg).2)
    have n3 := n2.turns T3 (fun i hi e => by have := (h.neB i hi).1; have := h.neF; omega) (fun g hg e => by have := (h.neG _ hg).1; have := h.neF; omega)
    exact n3.turns T4 (fun i hi hk => by have := (h.neB i hi).1; have := (hq _ hk).1; omega) (fun g hg hk => by have := (h.neG _ hg).1; have := (hq _ hk).1; omega)

theorem ownsRow_one (w : World) (base : Nat) (x : Value) (t : TypeId) (hb : base ≤ w.heap.size) : (w.alloc (Obj.cells #[x] t)).ownsRow base t 1 (.slice (some ⟨w.heap.size, 0, none⟩) 1 1) 1 [x] :=
  ⟨rfl, Or.inr ⟨w.heap.size, 1, #[x], rfl, hb, heap_alloc_new _ _, Nat.le_refl _, by unfold maxLen; omega, rfl, rfl⟩⟩

theorem qcell {w : World} {base : Nat} {ao : Option Addr} {cap : Nat} {Q : List Nat} (h : w.ownsRow base 3 1 (.slice ao Q.length cap) Q.length (qv Q)) {k u : Nat} (hu : Q[k]? = some u) : ∃ g, ao = some ⟨g, 0, none⟩ ∧ w.cell? ⟨g, k, none⟩ = some (.int .i64 (u : Int)) := by
  have hk := (List.getElem?_eq_some_iff.1 hu).1
  rcases h.2 with ⟨_, e⟩ | ⟨g, c, cur, e, _⟩
  · omega
  · cases e
    refine ⟨g, rfl, ?_⟩
    have := h.cells (g := g) rfl k (.int .i64 (u : Int)) (by simp [qv, hu])
    rw [add_none] at this
    exact this

theorem strike_other {lf : Lit → Bool} {z y : Nat} (h : ¬ z = y) (hl : (lf (.int .i64 (z : Int)) && !(Lit.int .i64 (z : Int)).sameKey (.int .i64 (y : Int))) = false) : lf (.int .i64 (z : Int)) = false := by
  rw [sameKey_ne (fun e => h (by injection e with _ e; omega))] at hl
  simpa using hl

end Go.Proofs.Ytkbgcbbloogdjac
