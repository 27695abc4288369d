/- A net that came in, opened: its arcs lie in memory as a list. -/
import Derived.Test.YtkakmaalmhofmaaOpens
import Derived.Test.YtkakmaalmhofmaaArcs
import Derived.Deep.Strs
namespace Go.Proofs.Ytkakmaalmhofmaa
open Go.ChangeShapes Go.WideShapes Go.ChangeAt Go.RowKit Go.Joins Go.Deep

theorem Try.cells24 : Try.prog.cellsOf 24 = 2 := by kernel_rfl
theorem Try.cells34 : Try.prog.cellsOf 34 = 3 := by kernel_rfl
theorem Try.bytes34 : Try.prog.bytesOf 34 = 24 := by kernel_rfl

section
variable {H : Type} {enc : TypeId × Value → H} {W : World} {sp : Nat → Bool} {held : Bool}

set_option maxRecDepth 100000 in
/-- An arc that was read. -/
theorem open_arc {fuel : Nat} {cs : List Value} {x : DataW H × List MemPlace} (h : DataW.trod enc Try.prog W 0 sp held fuel 34 cs = some x) :
    ∃ a b c : Int, cs = [.int .i64 a, .int .i64 b, .int .i64 c] ∧ I64 a ∧ I64 b ∧ I64 c := by
  obtain ⟨y0, y1, y2, n, _, hlen, h0, h1, h2⟩ := trod_struct3 Try.underlying34 h
  rw [Try.cells34] at hlen
  simp only [Try.cells3] at h0 h1 h2
  match cs, hlen with
  | [c0, c1, c2], _ =>
    simp at h0 h1 h2
    obtain ⟨a, e0, _, wa⟩ := DataW.trod_int Try.underlying3 h0
    obtain ⟨b, e1, _, wb⟩ := DataW.trod_int Try.underlying3 h1
    obtain ⟨c, e2, _, wc⟩ := DataW.trod_int Try.underlying3 h2
    simp at e0 e1 e2
    subst e0 e1 e2
    exact ⟨a, b, c, rfl, I64.of_wf wa, I64.of_wf wb, I64.of_wf wc⟩

set_option maxRecDepth 100000 in
/-- A net that came in. -/
theorem open_net {r : Reach} {b0 : Nat} {v : Value} {d : DataW H} {p : List MemPlace} (hv : Value.okWide Try.prog W r b0 24 v) (h : DataW.Trod enc Try.prog W 0 sp held 24 v d p) (hw : ∀ k ∈ d.weights Try.prog 24, k ≤ reachBytes) :
    ∃ (n : Int) (ao : Option Addr) (cap : Nat) (al : List Arc3), v = .agg #[.int .i64 n, .slice ao al.length cap] ∧ I64 n ∧ al.length ≤ cap ∧ ArcsAt W (.slice ao al.length cap) al := by
  obtain ⟨c0, c1, y0, y1, m, rfl, rfl, rfl, hy0, hy1⟩ := open_agg2 Try.underlying24 (by kernel_rfl) Try.cells24 hv h
  obtain ⟨n, e0, hn, wn⟩ := DataW.trod_int Try.underlying3 hy0
  simp at e0
  subst e0
  refine ⟨n, ?_⟩
  rcases open_slice Try.underlying22 hy1 with ⟨e1, hx⟩ | ⟨a, len, cap, m', nn, D, Pl, e1, _, hlc, hcm, hm', hx, hel⟩
  · simp at e1
    subst e1
    exact ⟨none, 0, [], rfl, I64.of_wf wn, Nat.le_refl _, arcsAt_nil _⟩
  · simp at e1
    subst e1
    have hml : len ≤ m' := by rw [hm']; split <;> omega
    rw [Try.cells34] at hel
    obtain ⟨X, hX⟩ := choose_lt (α := Arc3) (n := len) (p := fun i q => W.cell? (a.add (i * 3)) = some (.int .i64 q.1) ∧ W.cell? (a.add (i * 3 + 1)) = some (.int .i64 q.2.1) ∧ W.cell? (a.add (i * 3 + 2)) = some (.int .i64 q.2.2) ∧ I64 q.1 ∧ I64 q.2.1 ∧ I64 q.2.2) (fun i hi => by
      obtain ⟨cs, h1, h2⟩ := hel i (by omega)
      obtain ⟨x, y, z, rfl, ix, iy, iz⟩ := open_arc h2
      obtain ⟨_, _, hc⟩ := World.cells?_some h1
      have q0 := hc 0 (by omega)
      have q1 := hc 1 (by omega)
      have q2 := hc 2 (by omega)
      rw [Deep.add_add] at q0 q1 q2
      exact ⟨(x, y, z), by simpa using q0, by simpa using q1, by simpa using q2, ix, iy, iz⟩)
    have hlen : len ≤ 5864062014805 := by
      have := hw ((len + (m' - len)) * Try.prog.bytesOf 34) (by
        rw [hx]
        simp [DataW.weights, DataW.weightsEach, Try.underlying24, Try.underlying22])
      rw [Try.bytes34] at this
      simp only [reachBytes] at this
      omega
    have hl : ((List.range len).map X).length = len := by simp
    refine ⟨some a, cap, (List.range len).map X, by rw [hl], I64.of_wf wn, by omega, some a, cap, by rw [hl], by rw [hl]; exact hlen, ?_, ?_⟩
    · intro e he
      simp at he
      obtain ⟨i, hi, rfl⟩ := he
      exact (hX i hi).2.2.2
    · intro k hk
      rw [hl] at hk
      obtain ⟨g0, g1, g2, _⟩ := hX k hk
      have hs := World.cell?_spot (hX 0 (by omega)).1
      obtain ⟨b, off, spot⟩ := a
      have hspot : spot = none := by simpa [Addr.add] using hs
      subst hspot
      refine ⟨b, off, rfl, ?_, ?_, ?_⟩
      · rw [add_off] at g0
        simpa using g0
      · rw [add_off, ← Nat.add_assoc] at g1
        simpa using g1
      · rw [add_off, ← Nat.add_assoc] at g2
        simpa using g2
end
end Go.Proofs.Ytkakmaalmhofmaa
