/- How pipes lie in memory; twin. -/
import Derived.Test.YtkakmaalmhofmaaRowz
import Derived.Test.YtkakmaalmhofmaaFlowM
import Derived.Laws.Shifts
import Derived.Laws.BitsLemmas
namespace Go.Proofs.Ytkakmaalmhofmaa
open Go.RowKit Go.Maps
attribute [local go_sem ↓] Go.wp_at_zero Go.wp_at_succ

abbrev One (w : World) (b : Nat) (x : Value) (t : TypeId) : Prop := w.heap[b]? = some (.cells #[x] t (0, 0))
theorem one_free {w : World} {b : Nat} {x : Value} {t : TypeId} (h : One w b x t) : w.frozen? ⟨b, 0, none⟩ = false := by
  have h' : w.heap[b]? = some (.cells #[x] t (0, 0)) := h
  simp [World.frozen?, h']
theorem one_far {w : World} {b b' o : Nat} {x u : Value} {t : TypeId} (h : One w b x t) (hne : b ≠ b') : One (w.setCell ⟨b', o, none⟩ u) b x t := (Below.heap_setCell _ _ _ _ hne).trans h
theorem one_turns {M : Nat → Prop} {w w' : World} {b : Nat} {x : Value} {t : TypeId} (h : One w b x t) (ht : Turns M w w') (hm : ¬ M b) : One w' b x t := (ht.block b (lt_of_block h) hm).trans h
theorem one_new (w : World) (x : Value) (t : TypeId) : One (w.alloc (Obj.cells #[x] t)) w.heap.size x t := heap_alloc_new _ _

/-- Block b begins with a row of n values. -/
def RowC (w : World) (b : Nat) (t : TypeId) (n : Nat) (f : Nat → Value) : Prop := ∃ cur, w.heap[b]? = some (.cells cur t (0, 0)) ∧ n ≤ cur.size ∧ ∀ j, j < n → cur[j]? = some (f j)
section
variable {w w' : World} {b n : Nat} {t : TypeId} {f g : Nat → Value}
theorem RowC.block (h : RowC w b t n f) (hb : w'.heap[b]? = w.heap[b]?) : RowC w' b t n f := by
  obtain ⟨cur, h1, h2⟩ := h
  exact ⟨cur, hb.trans h1, h2⟩
theorem RowC.lt (h : RowC w b t n f) : b < w.heap.size := by
  obtain ⟨cur, h1, h2⟩ := h
  exact lt_of_block h1
theorem RowC.cell (h : RowC w b t n f) {j : Nat} (hj : j < n) : w.cell? ⟨b, j, none⟩ = some (f j) := by
  obtain ⟨cur, h1, _, h3⟩ := h
  rw [cell_of_row w b j cur t (0, 0) h1]
  exact h3 j hj
theorem RowC.free (h : RowC w b t n f) (j : Nat) : w.frozen? ⟨b, j, none⟩ = false := by
  obtain ⟨cur, h1, _, h3⟩ := h
  simp [World.frozen?, h1]
theorem RowC.set (h : RowC w b t n f) (y : Nat) (x : Value) : RowC (w.setCell ⟨b, y, none⟩ x) b t n (fun j => if j = y then x else f j) := by
  obtain ⟨cur, h1, h2, h3⟩ := h
  refine ⟨cur.setIfInBounds y x, ?_, by simp [h2], fun j hj => ?_⟩
  · have hl := lt_of_block h1
    simp [World.setCell, Array.getElem?_modify, h1]
  · by_cases e : j = y
    · subst e
      rw [Array.getElem?_setIfInBounds_self_of_lt (by omega)]
      simp
    · rw [Array.getElem?_setIfInBounds_ne (by omega), h3 j hj]
      simp [e]
theorem RowC.congr (h : RowC w b t n f) (e : ∀ j, j < n → f j = g j) : RowC w b t n g := by
  obtain ⟨cur, h1, h2, h3⟩ := h
  exact ⟨cur, h1, h2, fun j hj => by rw [h3 j hj, e j hj]⟩
theorem RowC.turns {M : Nat → Prop} (h : RowC w b t n f) (ht : Turns M w w') (hm : ¬ M b) : RowC w' b t n f := h.block (ht.block b h.lt hm)
theorem rowC_own {base cap : Nat} {xs : List Value} (h : w.ownsRow base t 1 (.slice (some ⟨b, 0, none⟩) n cap) n xs) (hx : ∀ j, j < n → xs[j]? = some (f j)) : RowC w b t n f := by
  rcases h.2 with ⟨h1, _⟩ | ⟨g, cap, cur, h1, _, h2, h5, _, h3, h4⟩
  · cases h1
  · cases h1
    refine ⟨cur, h2, by omega, fun j hj => ?_⟩
    have := hx j hj
    rw [← h4, List.getElem?_take_of_lt (by omega)] at this
    simpa using this
end

/-- Where pipes lie. -/
structure Pp where
  (bp g bt br ub N M : Nat)
  (ta ra : Option Addr)
  (tc rc : Nat)
  (ls : Nat → List Nat)
  (T : Nat → Nat)

/-- Pipes in memory: R is their room. -/
structure PS (c : Pp) (w : World) (R : Nat → Int) : Prop where
  box : Box w c.bp #[sl c.g c.N, .slice c.ta c.M c.tc, .slice c.ra c.M c.rc] 94
  near : NearP w c.br c.ub c.g c.N c.ls
  to : 0 < c.M → c.ta = some ⟨c.bt, 0, none⟩ ∧ RowC w c.bt 3 c.M (fun p => .int .i64 (c.T p : Int))
  room : 0 < c.M → c.ra = some ⟨c.br, 0, none⟩ ∧ RowC w c.br 3 c.M (fun p => .int .i64 (R p))
  ne : c.bp ≠ c.br ∧ c.bp < c.ub ∧ (0 < c.M → c.bt ≠ c.br ∧ c.bt < c.ub ∧ c.br < c.ub)

section
variable {c : Pp} {w w' : World} {R R' : Nat → Int}
theorem PS.turns {K : Nat → Prop} (h : PS c w R) (ht : Turns K w w') (hm : ∀ k, K k → c.ub ≤ k) : PS c w' R := by
  refine ⟨box_turns h.box ht (fun hh => ?_), h.near.turns ht (fun k hk => Or.inr (hm k hk)), fun h0 => ⟨(h.to h0).1, (h.to h0).2.turns ht (fun hh => ?_)⟩, fun h0 => ⟨(h.room h0).1, (h.room h0).2.turns ht (fun hh => ?_)⟩, h.ne⟩
  · have := hm _ hh; have := h.ne.2.1; omega
  · have := hm _ hh; have := (h.ne.2.2 h0).2.1; omega
  · have := hm _ hh; have := (h.ne.2.2 h0).2.2; omega
theorem PS.below (h : PS c w R) (hb : Below w.heap.size w w') : PS c w' R := h.turns (K := fun _ => False) (Turns.of_below hb _) (fun _ h => h.elim)
theorem PS.congr (h : PS c w R) (e : ∀ p, p < c.M → R p = R' p) : PS c w R' :=
  ⟨h.box, h.near, h.to, fun h0 => ⟨(h.room h0).1, (h.room h0).2.congr (fun j hj => by rw [e j hj])⟩, h.ne⟩
theorem PS.set (h : PS c w R) {p : Nat} (hp : p < c.M) (x : Int) : PS c (w.setCell ⟨c.br, p, none⟩ (.int .i64 x)) (fun q => if q = p then x else R q) := by
  have h0 : 0 < c.M := by omega
  have hn := h.ne.2.2 h0
  have T := setCell_turns w c.br p (.int .i64 x)
  refine ⟨box_turns h.box T h.ne.1, h.near.turns T (fun k hk => Or.inl hk), fun h0 => ⟨(h.to h0).1, (h.to h0).2.turns T hn.1⟩, fun h0 => ⟨(h.room h0).1, ((h.room h0).2.set p _).congr (fun j _ => ?_)⟩, h.ne⟩
  by_cases e : j = p
  · simp [e]
  · simp [e]
end

/-- How the memory stands while send goes on. -/
structure QC where
  (bf bu b4 b6 b7 b9 b10 t : Nat)
  F : Nat → Int

structure QS (c : Pp) (q : QC) (w : World) (R : Nat → Int) (fu : Nat → Nat) : Prop where
  ps : PS c w R
  far : RowV w q.bf 3 c.N (fun v => .int .i64 (q.F v))
  ful : RowV w q.bu 3 c.N (fun v => .int .i64 (fu v : Int))
  o4 : One w q.b4 (.pointer (some ⟨c.bp, 0, none⟩)) 66
  o6 : One w q.b6 (.int .i64 (q.t : Int)) 3
  o7 : One w q.b7 (sl q.bf c.N) 30
  o9 : One w q.b9 (sl q.bu c.N) 30
  o10 : One w q.b10 (.func (.func 64) #[] #[.pointer (some ⟨q.b6, 0, none⟩), .pointer (some ⟨q.b9, 0, none⟩), .pointer (some ⟨q.b4, 0, none⟩), .pointer (some ⟨q.b7, 0, none⟩), .pointer (some ⟨q.b10, 0, none⟩)]) 106
  lt : (q.bf < c.ub ∧ q.bf ≠ c.br) ∧ c.ub ≤ q.bu ∧ c.ub ≤ q.b4 ∧ c.ub ≤ q.b6 ∧ c.ub ≤ q.b7 ∧ c.ub ≤ q.b9 ∧ c.ub ≤ q.b10
  ne : q.bu ≠ q.b4 ∧ q.bu ≠ q.b6 ∧ q.bu ≠ q.b7 ∧ q.bu ≠ q.b9 ∧ q.bu ≠ q.b10

section
variable {c : Pp} {q : QC} {w w' : World} {R R' : Nat → Int} {fu fu' : Nat → Nat}
theorem QS.below (h : QS c q w R fu) (hb : Below w.heap.size w w') : QS c q w' R fu := by
  have T : Turns (fun _ => False) w w' := Turns.of_below hb _
  exact ⟨h.ps.below hb, h.far.turns T (fun h => h), h.ful.turns T (fun h => h), one_turns h.o4 T (fun h => h), one_turns h.o6 T (fun h => h), one_turns h.o7 T (fun h => h), one_turns h.o9 T (fun h => h), one_turns h.o10 T (fun h => h), h.lt, h.ne⟩
theorem QS.setRoom (h : QS c q w R fu) {p : Nat} (hp : p < c.M) (x : Int) : QS c q (w.setCell ⟨c.br, p, none⟩ (.int .i64 x)) (fun k => if k = p then x else R k) fu := by
  have hn := h.ps.ne.2.2 (by omega)
  have T := setCell_turns w c.br p (.int .i64 x)
  have l := h.lt
  exact ⟨h.ps.set hp x, h.far.turns T l.1.2, h.ful.turns T (by omega), one_turns h.o4 T (by omega), one_turns h.o6 T (by omega), one_turns h.o7 T (by omega), one_turns h.o9 T (by omega), one_turns h.o10 T (by omega), h.lt, h.ne⟩
theorem QS.setFul (h : QS c q w R fu) (v x : Nat) : QS c q (w.setCell ⟨q.bu, v, none⟩ (.int .i64 (x : Int))) R (fun k => if k = v then x else fu k) := by
  have T := setCell_turns w q.bu v (.int .i64 (x : Int))
  have l := h.lt
  have n := h.ne
  refine ⟨h.ps.turns T (fun k hk => by omega), h.far.turns T (by omega), (h.ful.set v _).congr (fun j _ => ?_), one_turns h.o4 T (by omega), one_turns h.o6 T (by omega), one_turns h.o7 T (by omega), one_turns h.o9 T (by omega), one_turns h.o10 T (by omega), h.lt, h.ne⟩
  by_cases e : j = v
  · simp [e]
  · simp [e]
theorem QS.reads (h : QS c q w R fu) (h0 : 0 < c.M) {p : Nat} (hp : p < c.M) {z : Int} (hz : R p = z) : w.cell? ⟨q.b10, 0, none⟩ = some (.func (.func 64) #[] #[.pointer (some ⟨q.b6, 0, none⟩), .pointer (some ⟨q.b9, 0, none⟩), .pointer (some ⟨q.b4, 0, none⟩), .pointer (some ⟨q.b7, 0, none⟩), .pointer (some ⟨q.b10, 0, none⟩)]) ∧ w.cell? ⟨q.b4, 0, none⟩ = some (.pointer (some ⟨c.bp, 0, none⟩)) ∧ w.cell? ⟨c.bp, 1, none⟩ = some (.slice (some ⟨c.bt, 0, none⟩) c.M c.tc) ∧ w.cell? ⟨c.bp, 2, none⟩ = some (.slice (some ⟨c.br, 0, none⟩) c.M c.rc) ∧ w.cell? ⟨c.bt, p, none⟩ = some (.int .i64 (c.T p : Int)) ∧ w.cell? ⟨c.br, p, none⟩ = some (.int .i64 z) := by
  have cb1 := box_cell h.ps.box (i := 1) rfl
  have cb2 := box_cell h.ps.box (i := 2) rfl
  rw [(h.ps.to h0).1] at cb1
  rw [(h.ps.room h0).1] at cb2
  subst hz
  exact ⟨cell_of_one h.o10, cell_of_one h.o4, cb1, cb2, (h.ps.to h0).2.cell hp, (h.ps.room h0).2.cell hp⟩
theorem QS.bump (h : QS c q w R fu) (v : Nat) : QS c q (w.setCell ⟨q.bu, v, none⟩ (.int .i64 ((fu v : Int) + 1))) R (Ytkakmaalmhofmaa.bump fu v) := by
  have h1 := h.setFul v (fu v + 1)
  have e : ((fu v + 1 : Nat) : Int) = (fu v : Int) + 1 := by omega
  rw [e] at h1
  exact h1
theorem QS.congr (h : QS c q w R fu) (e : ∀ p, p < c.M → R p = R' p) (e2 : ∀ v, v < c.N → fu v = fu' v) : QS c q w R' fu' :=
  ⟨h.ps.congr e, h.far, h.ful.congr (fun j hj => by rw [e2 j hj]), h.o4, h.o6, h.o7, h.o9, h.o10, h.lt, h.ne⟩
end

abbrev ptr (b : Nat) : Value := .pointer (some ⟨b, 0, none⟩)

def Ok (M : Nat) (R : Nat → Int) : Prop := ∀ p, p < M → 0 ≤ R p ∧ R p + R (tw p) ≤ 4000000
theorem Ok.go {M : Nat} {T : Nat → Nat} {t v : Nat} {x : Int} {R R' : Nat → Int} (h : Ok M R) (hm : Mv M T t v x R R') : Ok M R' := fun p hp => ⟨hm.pos p hp, by rw [hm.pair p hp]; exact (h p hp).2⟩
theorem Ok.le {M : Nat} {R : Nat → Int} (h : Ok M R) (hM : M % 2 = 0) {p : Nat} (hp : p < M) : 0 ≤ R p ∧ R p ≤ 4000000 := by
  have h1 := h p hp
  have h2 := h _ (tw_lt hM hp)
  omega

theorem xor_one (p : Nat) : p ^^^ 1 = tw p := by
  have h1 := Nat.xor_mod_two_eq_one (a := p) (b := 1)
  have h2 : (p ^^^ 1) / 2 = p / 2 := by rw [Nat.xor_div_two]; simp
  have h3 := Nat.div_add_mod (p ^^^ 1) 2
  have h4 := Nat.div_add_mod p 2
  have h5 := Nat.mod_two_eq_zero_or_one (p ^^^ 1)
  unfold tw
  split
  · have : (p ^^^ 1) % 2 = 1 := h1.2 (by omega)
    omega
  · have : ¬ (p ^^^ 1) % 2 = 1 := fun h => by have := h1.1 h; omega
    omega
theorem xor1 (p : Nat) (hp : p ≤ 1000000) : bits .xor .i64 (p : Int) 1 = (tw p : Int) := by
  rw [← xor_one]
  have h1 : (BitVec.ofInt 64 1).toNat = 1 := by decide
  have h2 : (BitVec.ofInt 64 (p : Int)).toNat = p := by rw [BitVec.toNat_ofInt]; omega
  have key : (BitVec.ofInt 64 (p : Int) ^^^ BitVec.ofInt 64 1).toNat = p ^^^ 1 := by
    rw [BitVec.toNat_xor, h1, h2]
  show IntKind.i64.wrap ((BitVec.ofInt 64 (p : Int) ^^^ BitVec.ofInt 64 1).toNat : Nat) = _
  rw [key, IntKind.wrap_i64]
  have : p ^^^ 1 ≤ 1000001 := by rw [xor_one]; unfold tw; split <;> omega
  omega

set_option maxHeartbeats 400000 in
theorem twin_call {p : Nat} (hp : p ≤ 1000000) (w : World) : Calls Try.prog 62 #[.int .i64 (p : Int)] w fun e w' => e = .returned (.int .i64 (tw p : Int)) ∧ w' = w := by
  have hx := xor1 p hp
  go_enter Try.func62, Try.ntmps62
  go_wp2
  go_ret
  exact ⟨rfl, rfl⟩
end Go.Proofs.Ytkakmaalmhofmaa
