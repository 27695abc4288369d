/- What the map of edges holds, and what the small functions of package graph answer: parts of the proofs of the statements on graphs. -/
import Derived.Test.YtfdlndljpmamgaaRows
import Derived.WalkKit
import Derived.WalkSpells
import Derived.WalkLawsBesides
import Derived.Maps.OwnSet
import Derived.DeepKeys4
import Derived.Deep.RegionHeld3
import Derived.Deep.DrawnRows
namespace Go.Proofs.Ytfdlndljpmamgaa
open Go.RowKit Go.Maps

def I64 (u : Int) : Prop := -9223372036854775808 ≤ u ∧ u ≤ 9223372036854775807
theorem I64.wf {u : Int} (h : I64 u) : (Lit.int .i64 u).wf = true := WalkArith.wf_i64 h
theorem I64.mk {u : Int} (h1 : -9223372036854775808 ≤ u) (h2 : u ≤ 9223372036854775807) : I64 u := ⟨h1, h2⟩

theorem Try.laidOut : laidOutB Try.prog = true := by kernel_rfl
theorem Try.law59 : Keyed Try.prog 59 := Keyed.of_law (deep_law_laid Try.laidOut (m := Try.prog.types.size + 1) (of_decide_eq_true (by kernel_rfl)) (of_decide_eq_true (by kernel_rfl)) (by kernel_rfl) (by kernel_rfl))
theorem Try.zero64 (w : World) : (zeroValue 64).run Try.prog w = .ok (.agg #[]) w := by kernel_rfl

def kl (u v : Int) : Lit := .string (keyBytes [.int .i64 u, .int .i64 v])
theorem Try.keyType59 : Try.prog.keyType 59 = true := by kernel_rfl
theorem Try.cells3 : Try.prog.cellsOf 3 = 1 := by kernel_rfl
theorem Try.tsize : ∃ m, Try.prog.types.size = m + 2 := ⟨Try.prog.types.size - 2, by
  have : 2 ≤ Try.prog.types.size := of_decide_eq_true (by kernel_rfl)
  omega⟩
theorem Try.cells59 : Try.prog.cellsOf 59 = 2 := by kernel_rfl
theorem lits_int (m : Nat) {u : Int} (hu : I64 u) : Try.prog.keyLits (m + 1) 3 [.int .i64 u] = some [.int .i64 u] := by
  simp [Program.keyLits, Try.underlying3, hu.wf]
theorem lits_pair (m : Nat) {u v : Int} (hu : I64 u) (hv : I64 v) : Try.prog.keyLits (m + 2) 59 [.int .i64 u, .int .i64 v] = some [.int .i64 u, .int .i64 v] := by
  have e : Try.prog.keyLits (m + 2) 59 [.int .i64 u, .int .i64 v] = (if [Value.int .i64 u, Value.int .i64 v].length = Try.prog.cellsOf 59 then ((List.range 2).mapM fun i => Try.prog.keyLits (m + 1) 3 (([Value.int .i64 u, Value.int .i64 v].drop (i * Try.prog.cellsOf 3)).take (Try.prog.cellsOf 3))).map List.flatten else none) := by
    rw [Program.keyLits.eq_def]
    simp only [Try.underlying59]
  rw [e, Try.cells59, Try.cells3]
  simp [show List.range 2 = [0, 1] from rfl, lits_int m hu, lits_int m hv]
theorem key_mk {u v : Int} (hu : I64 u) (hv : I64 v) : keyOf Try.prog 59 (.agg #[.int .i64 u, .int .i64 v]) = some (kl u v) := by
  have hl := lits_pair 165 hu hv
  simp [keyOf, Try.underlying59, Try.keyType59, Value.formed, kl, Value.cells, Try.cells59, hl]
theorem key_inj {u v u' v' : Int} (hu : I64 u) (hv : I64 v) (hu' : I64 u') (hv' : I64 v') (h : kl u v = kl u' v') : u = u' ∧ v = v' := by
  have a := key_mk hu hv
  rw [h] at a
  have := Try.law59.inj a (key_mk hu' hv')
  simpa using this

def SetAt (w : World) (b n : Nat) (S : Int → Int → Bool) : Prop :=
  ∃ D : DataW Unit, w.ownsMap Try.prog 59 unitElem b n D ∧ ∀ u v, I64 u → I64 v → Maps.has D (kl u v) = S u v

theorem setAt_made (w : World) : SetAt (w.alloc (.map #[] 0)) w.heap.size 0 (fun _ _ => false) :=
  ⟨.map [], World.ownsMap_made _ _ _ _, fun _ _ _ _ => rfl⟩

theorem SetAt.block {w w' : World} {b n : Nat} {S : Int → Int → Bool} (h : SetAt w b n S) (hb : w'.heap[b]? = w.heap[b]?) : SetAt w' b n S := by
  obtain ⟨D, ⟨es, clock, h1, h2⟩, h3⟩ := h
  exact ⟨D, ⟨es, clock, by rw [hb]; exact h1, h2⟩, h3⟩
theorem SetAt.lt {w : World} {b n : Nat} {S : Int → Int → Bool} (h : SetAt w b n S) : b < w.heap.size := by
  obtain ⟨D, ⟨es, clock, h1, h2⟩, h3⟩ := h
  exact (Array.getElem?_eq_some_iff.1 h1).1
theorem SetAt.below {w w' : World} {b n B : Nat} {S : Int → Int → Bool} (h : SetAt w b n S) (hb : Below B w w') (hB : b < B) : SetAt w' b n S := h.block (hb.block b hB)

theorem SetAt.look {w : World} {b n : Nat} {S : Int → Int → Bool} (h : SetAt w b n S) {u v : Int} (hu : I64 u) (hv : I64 v) :
    (Instr.lookup 62 (.map (some b)) (.agg #[.int .i64 u, .int .i64 v]) true).run Try.prog w = .ok (.tuple #[.agg #[], .bool (S u v)]) w := by
  obtain ⟨D, h1, h2⟩ := h
  obtain ⟨x, ps, hrun, hx⟩ := h1.look_ok Try.law59 Try.underlying62 (Try.zero64 w) unitElem_mk (key_mk hu hv)
  obtain ⟨rfl, _⟩ := unitElem_inv hx
  rw [h2 u v hu hv] at hrun
  exact hrun

theorem SetAt.store {w : World} {b n : Nat} {S : Int → Int → Bool} (h : SetAt w b n S) {u v : Int} (hu : I64 u) (hv : I64 v) (hn : n < maxLen) :
    ∃ w', (Instr.mapUpdate 62 (.map (some b)) (.agg #[.int .i64 u, .int .i64 v]) (.agg #[])).run Try.prog w = .ok () w' ∧ SetAt w' b (n + 1) (fun x y => (x == u && y == v) || S x y) ∧ w.mapTurned w' b := by
  obtain ⟨D, h1, h2⟩ := h
  obtain ⟨w', hrun, hown, hturn⟩ := h1.store Try.law59 Try.underlying62 hn (key_mk hu hv) unitElem_mk
  refine ⟨w', hrun, ⟨_, hown, fun x y hx hy => ?_⟩, hturn⟩
  by_cases e : x = u ∧ y = v
  · obtain ⟨rfl, rfl⟩ := e
    rw [has_put_same h1.isMap (Try.law59.key (key_mk hu hv))]
    simp
  · rw [has_put_other (fun hk => e (key_inj hx hy hu hv hk)), h2 x y hx hy]
    have : (x == u && y == v) = false := by
      by_cases e1 : x = u
      · have : ¬ y = v := fun e2 => e ⟨e1, e2⟩
        simp [this]
      · simp [e1]
    simp [this]

end Go.Proofs.Ytfdlndljpmamgaa
