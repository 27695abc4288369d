/- Slices of numbers that came in, opened. -/
import Derived.Test.YtmbnaegcichoeaaCost
import Derived.ProofKit
import Derived.OpenShut
import Derived.ShutString
import Derived.ChangeOld
import Derived.SizedLaws
import Derived.Lib.SmallJoins
import Derived.Deep.Slices
import Derived.Deep.Strs
namespace Go.Proofs.Ytmbnaegcichoeaa
open Go.ChangeShapes Go.WideShapes Go.ChangeAt Go.RowKit Go.Joins Go.Deep

theorem Try.own : ownKnob Try.prog.godebug = none := by kernel_rfl
theorem Try.cells27 : Try.prog.cellsOf 27 = 1 := by kernel_rfl
theorem Try.cells3 : Try.prog.cellsOf 3 = 1 := by kernel_rfl
theorem Try.bytes27 : Try.prog.bytesOf 27 = 24 := by kernel_rfl
theorem Try.bytes3 : Try.prog.bytesOf 3 = 8 := by kernel_rfl
theorem I64.of_wf {n : Int} (h : (Lit.int .i64 n).wf = true) : I64 n := by
  have := bounds_i64 h
  exact ⟨this.1, this.2⟩
theorem weights_all {H : Type} {P : Program} {e : TypeId} : ∀ {ds : List (DataW H)} {d : DataW H}, d ∈ ds → ∀ n ∈ d.weights P e, n ∈ DataW.weightsAll P e ds
  | d0 :: ds, d, hd, n, hn => by
    simp only [DataW.weightsAll, List.mem_append]
    rcases List.mem_cons.1 hd with rfl | hd
    · exact Or.inl hn
    · exact Or.inr (weights_all hd n hn)
section
variable {H : Type} {enc : TypeId × Value → H} {W : World} {sp : Nat → Bool} {held : Bool}

set_option maxRecDepth 100000 in
/-- Numbers that were read. -/
theorem open_ints {fuel : Nat} {cs : List Value} {x : DataW H × List MemPlace} (h : DataW.trod enc Try.prog W 0 sp held fuel 27 cs = some x) (hw : ∀ k ∈ x.1.weights Try.prog 27, k ≤ reachBytes) :
    ∃ v l, cs = [v] ∧ IntsAt W v l := by
  rcases open_slice1 Try.underlying27 Try.cells3 h with ⟨e1, _⟩ | ⟨a, len, cap, m, nn, V, D, Pl, e1, _, hlc, hcm, hm, hx, hel⟩
  · exact ⟨_, [], e1, intsAt_nil _⟩
  · have hml : len ≤ m := by rw [hm]; split <;> omega
    obtain ⟨X, hX⟩ := choose_lt (α := Int) (n := len) (p := fun i q => W.cell? (a.add i) = some (.int .i64 q) ∧ I64 q) (fun i hi => by
      obtain ⟨h1, h2⟩ := hel i (by omega)
      obtain ⟨q, e0, _, wq⟩ := DataW.trod_int Try.underlying3 h2
      simp at e0
      rw [e0] at h1
      exact ⟨q, h1, I64.of_wf wq⟩)
    have hlen : len ≤ 17592186044416 := by
      have := hw ((len + (m - len)) * Try.prog.bytesOf 3) (by
        rw [hx]
        simp [DataW.weights, Try.underlying27])
      rw [Try.bytes3] at this
      simp only [reachBytes] at this
      omega
    have hl : ((List.range len).map X).length = len := by simp
    refine ⟨_, (List.range len).map X, e1, some a, cap, by rw [hl], by rw [hl]; exact ⟨hlen, hlc⟩, ?_, ?_⟩
    · intro e he
      simp at he
      obtain ⟨i, hi, rfl⟩ := he
      exact (hX i hi).2
    · intro k hk
      rw [hl] at hk
      obtain ⟨g0, _⟩ := hX k hk
      have hs := World.cell?_spot (hX 0 (by omega)).1
      obtain ⟨b, off, spot⟩ := a
      have hspot : spot = none := by simpa [Addr.add] using hs
      subst hspot
      refine ⟨b, off, rfl, ?_⟩
      have e : (⟨b, off, none⟩ : Addr).add k = ⟨b, off + k, none⟩ := by unfold Addr.add; split <;> simp_all
      rw [e] at g0
      simpa using g0

set_option maxRecDepth 100000 in
/-- Lists that came in. -/
theorem open_rows {r : Reach} {b0 : Nat} {v : Value} {d : DataW H} {p : List MemPlace} (hv : Value.okWide Try.prog W r b0 22 v) (h : DataW.Trod enc Try.prog W 0 sp held 22 v d p) (hw : ∀ k ∈ d.weights Try.prog 22, k ≤ reachBytes) :
    ∃ ls, RowsAt W v ls := by
  obtain ⟨a0, n0, c0, rfl⟩ := okWide_slice Try.underlying22 hv
  obtain ⟨fuel, hf⟩ := h
  have hf' : DataW.trod enc Try.prog W 0 sp held fuel 22 [.slice a0 n0 c0] = some (d, p) := hf
  rcases open_slice1 Try.underlying22 Try.cells27 hf' with ⟨e1, _⟩ | ⟨a, len, cap, m, nn, V, D, Pl, e1, _, hlc, hcm, hm, hx, hel⟩
  · simp at e1
    obtain ⟨rfl, rfl, rfl⟩ := e1
    exact ⟨[], none, 0, rfl, Nat.le_refl _, Nat.zero_le _, fun i hi => absurd hi (Nat.not_lt_zero _)⟩
  · simp at e1
    obtain ⟨rfl, rfl, rfl⟩ := e1
    have hml : n0 ≤ m := by rw [hm]; split <;> omega
    have hd : d = .slice ((List.range n0).map D) ((List.range (m - n0)).map fun j => D (n0 + j)) := congrArg Prod.fst hx
    obtain ⟨X, hX⟩ := choose_lt (α := List Int) (n := n0) (p := fun i l => W.cell? (a.add i) = some (V i) ∧ IntsAt W (V i) l) (fun i hi => by
      obtain ⟨h1, h2⟩ := hel i (by omega)
      obtain ⟨v', l, e, hl⟩ := open_ints h2 (fun k hk => hw k (by
        rw [hd]
        simp only [DataW.weights, Try.underlying22]
        refine List.mem_cons_of_mem _ (List.mem_append_left _ (weights_all (d := D i) ?_ k hk))
        exact List.mem_map.2 ⟨i, List.mem_range.2 hi, rfl⟩))
      simp at e
      subst e
      exact ⟨l, h1, hl⟩)
    have hlen : n0 ≤ 5864062014805 := by
      have := hw ((n0 + (m - n0)) * Try.prog.bytesOf 27) (by
        rw [hd]
        simp [DataW.weights, Try.underlying22])
      rw [Try.bytes27] at this
      simp only [reachBytes] at this
      omega
    have hl : ((List.range n0).map X).length = n0 := by simp
    refine ⟨(List.range n0).map X, some a, c0, by rw [hl], by rw [hl]; exact hlc, by rw [hl]; exact hlen, ?_⟩
    intro k hk
    have hk' : k < n0 := by rw [hl] at hk; exact hk
    obtain ⟨g0, g1⟩ := hX k hk'
    have hs := World.cell?_spot (hX 0 (by omega)).1
    obtain ⟨b, off, spot⟩ := a
    have hspot : spot = none := by simpa [Addr.add] using hs
    subst hspot
    have e : (⟨b, off, none⟩ : Addr).add k = ⟨b, off + k, none⟩ := by unfold Addr.add; split <;> simp_all
    rw [e] at g0
    exact ⟨b, off, V k, rfl, g0, by simpa using g1⟩
end
end Go.Proofs.Ytmbnaegcichoeaa
