/- Lists that came in, with their capacities; and a list of numbers that came in. -/
import Derived.Test.YtdalconphfgepaaDoorFitsL
namespace Go.Proofs.YtdalconphfgepaaDoor
open Go.ChangeShapes Go.WideShapes Go.ChangeAt Go.RowKit Go.Joins Go.Deep
section
variable {H : Type} {enc : TypeId × Value → H} {W : World} {sp : Nat → Bool} {held : Bool}
set_option maxRecDepth 100000 in
/-- Numbers that were read. -/
theorem open_intsC {fuel : Nat} {cs : List Value} {x : DataW H × List MemPlace} (h : DataW.trod enc Tryd.prog W 0 sp held fuel 30 cs = some x) (hw : ∀ k ∈ x.1.weights Tryd.prog 30, k ≤ reachBytes) :
    ∃ v l, cs = [v] ∧ IntsAt W v l ∧ ∃ ao cap, v = .slice ao l.length cap ∧ l.length ≤ cap := by
  rcases open_slice1 Tryd.underlying30 Tryd.cells3 h with ⟨e1, _⟩ | ⟨a, len, cap, m, nn, V, D, Pl, e1, _, hlc, hcm, hm, hx, hel⟩
  · exact ⟨_, [], e1, intsAt_nil _, none, 0, rfl, Nat.le_refl _⟩
  · have hml : len ≤ m := by rw [hm]; split <;> omega
    obtain ⟨X, hX⟩ := choose_lt (α := Int) (n := len) (p := fun i q => W.cell? (a.add i) = some (.int .i64 q) ∧ I64 q) (fun i hi => by
      obtain ⟨h1, h2⟩ := hel i (by omega)
      obtain ⟨q, e0, _, wq⟩ := DataW.trod_int Tryd.underlying3 h2
      simp at e0
      rw [e0] at h1
      exact ⟨q, h1, I64.of_wf wq⟩)
    have hlen : len ≤ 17592186044416 := by
      have := hw ((len + (m - len)) * Tryd.prog.bytesOf 3) (by
        rw [hx]
        simp [DataW.weights, Tryd.underlying30])
      rw [Tryd.bytes3] at this
      simp only [reachBytes] at this
      omega
    have hl : ((List.range len).map X).length = len := by simp
    refine ⟨_, (List.range len).map X, e1, ⟨some a, cap, by rw [hl], by rw [hl]; exact hlen, ?_, ?_⟩, some a, cap, by rw [hl], by rw [hl]; exact hlc⟩
    · intro e he
      simp at he
      obtain ⟨i, hi, rfl⟩ := he
      exact (hX i hi).2
    · intro k hk
      rw [hl] at hk
      obtain ⟨g0, _⟩ := hX k hk
      have hs := World.cell?_spot (hX 0 (by omega)).1
      obtain ⟨b, off, spot⟩ := a
      have hspot : spot = none := by simpa [Addr.add] using hs
      subst hspot
      refine ⟨b, off, rfl, ?_⟩
      have e : (⟨b, off, none⟩ : Addr).add k = ⟨b, off + k, none⟩ := by unfold Addr.add; split <;> simp_all
      rw [e] at g0
      simpa using g0

set_option maxRecDepth 100000 in
/-- Lists that came in. -/
theorem open_rowsC {r : Reach} {b0 : Nat} {v : Value} {d : DataW H} {p : List MemPlace} (hv : Value.okWide Tryd.prog W r b0 29 v) (h : DataW.Trod enc Tryd.prog W 0 sp held 29 v d p) (hw : ∀ k ∈ d.weights Tryd.prog 29, k ≤ reachBytes) :
    ∃ ls, RowsAt W v ls ∧ RowsC W v ls := by
  obtain ⟨a0, n0, c0, rfl⟩ := okWide_slice Tryd.underlying29 hv
  obtain ⟨fuel, hf⟩ := h
  have hf' : DataW.trod enc Tryd.prog W 0 sp held fuel 29 [.slice a0 n0 c0] = some (d, p) := hf
  rcases open_slice1 Tryd.underlying29 Tryd.cells30 hf' with ⟨e1, _⟩ | ⟨a, len, cap, m, nn, V, D, Pl, e1, _, hlc, hcm, hm, hx, hel⟩
  · simp at e1
    obtain ⟨rfl, rfl, rfl⟩ := e1
    exact ⟨[], ⟨none, 0, rfl, Nat.le_refl _, Nat.zero_le _, fun i hi => absurd hi (Nat.not_lt_zero _)⟩, none, 0, rfl, Nat.zero_le _, fun i hi => absurd hi (Nat.not_lt_zero _)⟩
  · simp at e1
    obtain ⟨rfl, rfl, rfl⟩ := e1
    have hml : n0 ≤ m := by rw [hm]; split <;> omega
    have hd : d = .slice ((List.range n0).map D) ((List.range (m - n0)).map fun j => D (n0 + j)) := congrArg Prod.fst hx
    obtain ⟨X, hX⟩ := choose_lt (α := List Int) (n := n0) (p := fun i l => W.cell? (a.add i) = some (V i) ∧ IntsAt W (V i) l ∧ ∃ ao cap, V i = .slice ao l.length cap ∧ l.length ≤ cap) (fun i hi => by
      obtain ⟨h1, h2⟩ := hel i (by omega)
      obtain ⟨v', l, e, hl, hl2⟩ := open_intsC h2 (fun k hk => hw k (by
        rw [hd]
        simp only [DataW.weights, Tryd.underlying29]
        refine List.mem_cons_of_mem _ (List.mem_append_left _ (weights_all (d := D i) ?_ k hk))
        exact List.mem_map.2 ⟨i, List.mem_range.2 hi, rfl⟩))
      simp at e
      subst e
      exact ⟨l, h1, hl, hl2⟩)
    have hlen : n0 ≤ 5864062014805 := by
      have := hw ((n0 + (m - n0)) * Tryd.prog.bytesOf 30) (by
        rw [hd]
        simp [DataW.weights, Tryd.underlying29])
      rw [Tryd.bytes30] at this
      simp only [reachBytes] at this
      omega
    have hl : ((List.range n0).map X).length = n0 := by simp
    have key : ∀ k, k < n0 → ∃ b off xo xc, (some a : Option Addr) = some ⟨b, off, none⟩ ∧ V k = .slice xo (X k).length xc ∧ W.cell? ⟨b, off + k, none⟩ = some (V k) ∧ (X k).length ≤ xc ∧ IntsAt W (V k) (X k) := fun k hk' => by
      obtain ⟨g0, g1, ao, xc, g2, g3⟩ := hX k hk'
      have hs := World.cell?_spot (hX 0 (by omega)).1
      obtain ⟨b, off, spot⟩ := a
      have hspot : spot = none := by simpa [Addr.add] using hs
      subst hspot
      have e : (⟨b, off, none⟩ : Addr).add k = ⟨b, off + k, none⟩ := by unfold Addr.add; split <;> simp_all
      rw [e] at g0
      exact ⟨b, off, ao, xc, rfl, g2, g0, g3, g1⟩
    have hget : ∀ k (hk : k < ((List.range n0).map X).length), ((List.range n0).map X)[k] = X k := fun k hk => by simp
    refine ⟨(List.range n0).map X, ⟨some a, c0, by rw [hl], by rw [hl]; exact hlc, by rw [hl]; exact hlen, fun k hk => ?_⟩, some a, c0, by rw [hl], by rw [hl]; exact hlen, fun k hk => ?_⟩
    · obtain ⟨b, off, xo, xc, e, _, g0, _, g1⟩ := key k (by rw [hl] at hk; exact hk)
      exact ⟨b, off, V k, e, g0, by rw [hget k hk]; exact g1⟩
    · obtain ⟨b, off, xo, xc, e, g2, g0, g3, g1⟩ := key k (by rw [hl] at hk; exact hk)
      obtain ⟨vo, vc, e2, h1, h2⟩ := ints_numF g1
      rw [g2] at e2
      cases e2
      rw [hget k hk]
      exact ⟨b, off, xo, xc, e, by rw [g0, g2], g3, h2, h1⟩
set_option maxRecDepth 100000 in
/-- A list of numbers that came in. -/
theorem open_up {r : Reach} {b0 : Nat} {v : Value} {d : DataW H} {p : List MemPlace} (hv : Value.okWide Tryd.prog W r b0 30 v) (h : DataW.Trod enc Tryd.prog W 0 sp held 30 v d p) (hw : ∀ k ∈ d.weights Tryd.prog 30, k ≤ reachBytes) :
    ∃ uo uc, ∃ u : List Int, v = .slice uo u.length uc ∧ IntsAt W (.slice uo u.length uc) u := by
  obtain ⟨a0, n0, c0, rfl⟩ := okWide_slice Tryd.underlying30 hv
  obtain ⟨fuel, hf⟩ := h
  have hf' : DataW.trod enc Tryd.prog W 0 sp held fuel 30 [.slice a0 n0 c0] = some (d, p) := hf
  obtain ⟨v', l, e, hl, ao, cap, e2, _⟩ := open_intsC hf' hw
  simp at e
  subst e
  rw [e2] at hl
  exact ⟨ao, cap, l, e2, hl⟩
end
end Go.Proofs.YtdalconphfgepaaDoor
