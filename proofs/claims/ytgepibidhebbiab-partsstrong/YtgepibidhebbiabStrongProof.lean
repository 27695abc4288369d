/- Whatever number of nodes and list of arcs it is given, PartsStrong answers true and leaves the list as it was; no condition. -/
import Derived.Test.YtgepibidhebbiabStrongWalk
import Derived.Test.YtgepibidhebbiabOpens
namespace Go.Proofs.Ytgepibidhebbiab
open Go.ChangeShapes Go.WideShapes Go.ChangeAt Go.RowKit Go.Joins Go.Deep

section
variable {H : Type} {enc : TypeId × Value → H} {W : World} {sp : Nat → Bool} {held : Bool}
set_option maxRecDepth 100000 in
/-- A list of pairs that came in. -/
theorem open_edges {r : Reach} {b0 : Nat} {v : Value} {d : DataW H} {p : List MemPlace} (hv : Value.okWide Try.prog W r b0 22 v) (h : DataW.Trod enc Try.prog W 0 sp held 22 v d p) (hw : ∀ k ∈ d.weights Try.prog 22, k ≤ reachBytes) :
    ∃ (ao : Option Addr) (cap : Nat) (es : List Pair), v = .slice ao es.length cap ∧ es.length ≤ cap ∧ EdgesAt W (.slice ao es.length cap) es := by
  obtain ⟨a0, len0, cap0, rfl⟩ := okWide_slice Try.underlying22 hv
  obtain ⟨fuel, hy1⟩ := h
  rcases open_slice Try.underlying22 hy1 with ⟨e1, hx⟩ | ⟨a, len, cap, m', nn, D, Pl, e1, _, hlc, hcm, hm', hx, hel⟩
  · simp [Value.cells] at e1
    obtain ⟨rfl, rfl, rfl⟩ := e1
    exact ⟨none, 0, [], rfl, Nat.le_refl _, edgesAt_nil _⟩
  · simp [Value.cells] at e1
    obtain ⟨rfl, rfl, rfl⟩ := e1
    have hml : len0 ≤ m' := by rw [hm']; split <;> omega
    rw [Try.cells63] at hel
    obtain ⟨X, hX⟩ := choose_lt (α := Int × Int) (n := len0) (p := fun i q => W.cell? (a.add (i * 2)) = some (.int .i64 q.1) ∧ W.cell? (a.add (i * 2 + 1)) = some (.int .i64 q.2) ∧ I64 q.1 ∧ I64 q.2) (fun i hi => by
      obtain ⟨cs, h1, h2⟩ := hel i (by omega)
      obtain ⟨x, y, rfl, ix, iy⟩ := open_pair h2
      obtain ⟨_, _, hc⟩ := World.cells?_some h1
      have q0 := hc 0 (by omega)
      have q1 := hc 1 (by omega)
      rw [Deep.add_add] at q0 q1
      exact ⟨(x, y), by simpa using q0, by simpa using q1, ix, iy⟩)
    have hlen : len0 ≤ 8796093022208 := by
      have := hw ((len0 + (m' - len0)) * Try.prog.bytesOf 63) (by
        have hx' := (Prod.mk.inj hx).1
        rw [hx']
        simp [DataW.weights, Try.underlying22])
      rw [Try.bytes63] at this
      simp only [reachBytes] at this
      omega
    have hl : ((List.range len0).map X).length = len0 := by simp
    refine ⟨some a, cap0, (List.range len0).map X, by rw [hl], by omega, some a, cap0, by rw [hl], by rw [hl]; exact hlen, ?_, ?_⟩
    · intro e he
      simp at he
      obtain ⟨i, hi, rfl⟩ := he
      exact (hX i hi).2.2
    · intro k hk
      rw [hl] at hk
      obtain ⟨g0, g1, _⟩ := hX k hk
      have hs := World.cell?_spot (hX 0 (by omega)).1
      obtain ⟨b, off, spot⟩ := a
      have hspot : spot = none := by simpa [Addr.add] using hs
      subst hspot
      refine ⟨b, off, rfl, ?_, ?_⟩
      · have e : (⟨b, off, none⟩ : Addr).add (k * 2) = ⟨b, off + k * 2, none⟩ := by unfold Addr.add; split <;> simp_all
        rw [e] at g0
        simpa using g0
      · have e : (⟨b, off, none⟩ : Addr).add (k * 2 + 1) = ⟨b, off + k * 2 + 1, none⟩ := by unfold Addr.add; split <;> simp_all [Nat.add_assoc]
        rw [e] at g1
        simpa using g1
end

theorem strong_any (n : Int) (ao : Option Addr) (cap : Nat) (es : List Pair) (w : World) (hE : EdgesAt w (.slice ao es.length cap) es) :
    Calls Try.prog 6 #[.int .i64 n, .slice ao es.length cap] w fun e w' => e = .returned (.bool true) ∧ Below w.heap.size w w' := by
  obtain ⟨c, d, hA⟩ := arcs_ex n es
  by_cases hc : c = 0
  · rcases hA with ⟨_, rfl, _⟩ | ⟨⟨h1, h2, h3⟩, ⟨_, _, _, _, _, rfl, _⟩ | ⟨h4, _, _⟩⟩
    · cases hc
    · cases hc
    · obtain ⟨m, rfl⟩ : ∃ m : Nat, n = m := ⟨n.toNat, by omega⟩
      exact strongLaw_good m ao cap es w hE (by omega) h3 h4
  · exact strongLaw_bad n ao cap es w hE hA hc

set_option maxRecDepth 100000 in
theorem strong_lifted (os : Os) (started : os.Started) (H : Type) (enc : TypeId × Value → H) :
    ReturnsInHanded {} Try.checked os 6 .any (Rows.partsStrongSpec.pre6 enc Try.prog Try.f6 Rows.partsStrongRow.domain false) (Rows.partsStrongSpec.post enc Try.prog Try.f6 false true false false) := by
  refine returnsInHanded_of_change_sized (C := Try.checked) Try.own started (by kernel_rfl) Try.func6
    (ChangeSpec.witness6 (enc := enc) (C := Try.checked) false ⟨#[], #[.int .i64 0, .slice none 0 0], []⟩ 8 (by kernel_rfl) (by kernel_rfl) (by kernel_rfl) (by kernel_rfl)) ?_
  intro W base args ds gs before hval0 hW hcnd hsz0 _
  have hval : ∀ (j : Nat) t v, Try.f6.params[j]? = some t → args[j]? = some v → Value.okWide Try.prog W .any base t v := hval0
  have hsz : (DataW.weightsEach Try.prog (Try.f6.params.toList ++ Rows.partsStrongSpec.plain.varTypes Try.prog) (ds ++ gs)).all (· ≤ reachBytes) = true := hsz0
  have hW' := hW
  obtain ⟨p, q, hA0, hV, rfl, hfz, hnd⟩ := hW
  have hA : DataW.TrodAll enc Try.prog W 0 (fun _ => true) true Try.f6.params.toList args.toList ds p := hA0
  rw [Try.params6] at hA hval hsz
  obtain ⟨v0, v1, d0, d1, p0, p1, rfl, rfl, rfl, h0, h1⟩ := trodAll_two hA
  obtain ⟨rfl, rfl⟩ := trodVars_none hV
  have lt1 : ∀ x ∈ p1, x.block < W.heap.size := by obtain ⟨m, hm⟩ := h1; exact DataW.trod_lt m _ _ _ hm
  have hwt : ∀ k ∈ d1.weights Try.prog 22, k ≤ reachBytes := fun k hk => by
    have := List.all_eq_true.1 hsz k (DataW.weights_mem_each (j := 1) (t := 22) rfl rfl k hk)
    simpa using this
  obtain ⟨n, rfl, rfl, rfl, hn⟩ := open_int Try.underlying3 (hval 0 3 v0 rfl rfl) h0
  obtain ⟨ao, cap, es, rfl, hcap, hE⟩ := open_edges (hval 1 22 v1 rfl rfl) h1 hwt
  clear hA0 hval0
  refine (strong_any n ao cap es W hE).mono fun e W' ⟨he, bel⟩ => ?_
  subst he
  exact ⟨_, rfl, _, _, _, [], _, [], hW', trodAll_mk1 (shut_bool Try.underlying4 _), trodAll_mk2 (shut_int Try.underlying3 hn) (Below.trod Try.laidOut (by kernel_rfl) (of_decide_eq_true (by kernel_rfl)) h1 bel lt1), rfl, bel.frame _, fun h => by cases h⟩

/-- Whatever number of nodes and list of arcs it is given, PartsStrong answers true and leaves the list as it was. -/
theorem partsStrong_holds : Rows.PartsStrongSaid :=
  OpenClaim.holds_of_wide 6 Try.f6 rfl rfl rfl rfl rfl rfl rfl ⟨rfl, rfl, rfl, rfl, rfl⟩ rfl rfl rfl rfl rfl (by kernel_rfl) Try.func6 (by kernel_rfl)
    (of_decide_eq_true (by kernel_rfl)) (by unfold Func.isWrapper; first | (rw [if_pos (by decide +kernel)]; kernel_rfl) | (rw [if_neg (by decide +kernel)]; exact ⟨rfl, rfl⟩))
    (fun os started H enc _ => strong_lifted os started H enc)
end Go.Proofs.Ytgepibidhebbiab
