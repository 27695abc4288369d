/- A graph that came in, opened: its edges lie in memory as a list. -/
import Derived.Test.YtfdlndljpmamgaaOfP
import Derived.ProofKit
import Derived.OpenShut
import Derived.ShutString
import Derived.ChangeOld
import Derived.SizedLaws
import Derived.Lib.SmallJoins
import Derived.Deep.Slices
namespace Go.Proofs.Ytfdlndljpmamgaa
open Go.ChangeShapes Go.WideShapes Go.ChangeAt Go.RowKit Go.Joins Go.Deep

theorem Try.own : ownKnob Try.prog.godebug = none := by kernel_rfl
theorem Try.cells42 : Try.prog.cellsOf 42 = 2 := by kernel_rfl
theorem Try.bytes59 : Try.prog.bytesOf 59 = 16 := by kernel_rfl

theorem I64.of_wf {n : Int} (h : (Lit.int .i64 n).wf = true) : I64 n := by
  have := bounds_i64 h
  exact ⟨this.1, this.2⟩

section
variable {H : Type} {enc : TypeId × Value → H} {W : World} {sp : Nat → Bool} {held : Bool}

set_option maxRecDepth 100000 in
/-- Two numbers that were read as an array. -/
theorem open_pair {fuel : Nat} {cs : List Value} {x : DataW H × List MemPlace} (h : DataW.trod enc Try.prog W 0 sp held fuel 59 cs = some x) :
    ∃ a b : Int, cs = [.int .i64 a, .int .i64 b] ∧ I64 a ∧ I64 b := by
  obtain ⟨xs, m, rfl, _, hlen, hxl, hx⟩ := DataW.trod_array Try.underlying59 h
  rw [Try.cells59] at hlen
  rw [Try.cells3] at hx
  match cs, hlen with
  | [c0, c1], _ =>
    have h0 := hx 0 (by omega)
    have h1 := hx 1 (by omega)
    simp at h0 h1
    rw [List.getElem?_eq_getElem (by omega)] at h0 h1
    obtain ⟨a, e0, _, wa⟩ := DataW.trod_int Try.underlying3 h0
    obtain ⟨b, e1, _, wb⟩ := DataW.trod_int Try.underlying3 h1
    simp at e0 e1
    subst e0 e1
    exact ⟨a, b, rfl, I64.of_wf wa, I64.of_wf wb⟩

set_option maxRecDepth 100000 in
/-- A graph that came in. -/
theorem open_graph {r : Reach} {b0 : Nat} {v : Value} {d : DataW H} {p : List MemPlace} (hv : Value.okWide Try.prog W r b0 42 v) (h : DataW.Trod enc Try.prog W 0 sp held 42 v d p) (hw : ∀ k ∈ d.weights Try.prog 42, k ≤ reachBytes) :
    ∃ (n : Int) (ao : Option Addr) (cap : Nat) (es : List Pair), v = .agg #[.int .i64 n, .slice ao es.length cap] ∧ I64 n ∧ es.length ≤ cap ∧ EdgesAt W (.slice ao es.length cap) es := by
  obtain ⟨c0, c1, y0, y1, m, rfl, rfl, rfl, hy0, hy1⟩ := open_agg2 Try.underlying42 (by kernel_rfl) Try.cells42 hv h
  obtain ⟨n, e0, hn, wn⟩ := DataW.trod_int Try.underlying3 hy0
  simp at e0
  subst e0
  refine ⟨n, ?_⟩
  rcases open_slice Try.underlying40 hy1 with ⟨e1, hx⟩ | ⟨a, len, cap, m', nn, D, Pl, e1, _, hlc, hcm, hm', hx, hel⟩
  · simp at e1
    subst e1
    exact ⟨none, 0, [], rfl, I64.of_wf wn, Nat.le_refl _, edgesAt_nil _⟩
  · simp at e1
    subst e1
    have hml : len ≤ m' := by rw [hm']; split <;> omega
    rw [Try.cells59] at hel
    obtain ⟨X, hX⟩ := choose_lt (α := Int × Int) (n := len) (p := fun i q => W.cell? (a.add (i * 2)) = some (.int .i64 q.1) ∧ W.cell? (a.add (i * 2 + 1)) = some (.int .i64 q.2) ∧ I64 q.1 ∧ I64 q.2) (fun i hi => by
      obtain ⟨cs, h1, h2⟩ := hel i (by omega)
      obtain ⟨x, y, rfl, ix, iy⟩ := open_pair h2
      obtain ⟨_, _, hc⟩ := World.cells?_some h1
      have q0 := hc 0 (by omega)
      have q1 := hc 1 (by omega)
      rw [Deep.add_add] at q0 q1
      exact ⟨(x, y), by simpa using q0, by simpa using q1, ix, iy⟩)
    have hlen : len ≤ 8796093022208 := by
      have := hw ((len + (m' - len)) * Try.prog.bytesOf 59) (by
        rw [hx]
        simp [DataW.weights, DataW.weightsEach, Try.underlying42, Try.underlying40])
      rw [Try.bytes59] at this
      simp only [reachBytes] at this
      omega
    have hl : ((List.range len).map X).length = len := by simp
    refine ⟨some a, cap, (List.range len).map X, by rw [hl], I64.of_wf wn, by omega, some a, cap, by rw [hl], by rw [hl]; exact hlen, ?_, ?_⟩
    · intro e he
      simp at he
      obtain ⟨i, hi, rfl⟩ := he
      exact (hX i hi).2.2
    · intro k hk
      rw [hl] at hk
      obtain ⟨g0, g1, _⟩ := hX k hk
      have hs := World.cell?_spot (hX 0 (by omega)).1
      obtain ⟨b, off, spot⟩ := a
      have hspot : spot = none := by simpa [Addr.add] using hs
      subst hspot
      refine ⟨b, off, rfl, ?_, ?_⟩
      · have e : (⟨b, off, none⟩ : Addr).add (k * 2) = ⟨b, off + k * 2, none⟩ := by unfold Addr.add; split <;> simp_all
        rw [e] at g0
        simpa using g0
      · have e : (⟨b, off, none⟩ : Addr).add (k * 2 + 1) = ⟨b, off + k * 2 + 1, none⟩ := by unfold Addr.add; split <;> simp_all [Nat.add_assoc]
        rw [e] at g1
        simpa using g1
end
end Go.Proofs.Ytfdlndljpmamgaa
