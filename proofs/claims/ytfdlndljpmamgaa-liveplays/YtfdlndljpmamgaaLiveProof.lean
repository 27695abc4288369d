/- Whatever steps it is given, LivePlays answers true and leaves them as they were; no condition. -/
import Derived.Test.YtfdlndljpmamgaaLawW
import Derived.Test.YtfdlndljpmamgaaOpens
namespace Go.Proofs.Ytfdlndljpmamgaa
open Go.ChangeShapes Go.WideShapes Go.ChangeAt Go.RowKit Go.Joins Go.Deep
theorem Try.cellsOf29 : Try.prog.cellsOf 29 = 4 := by kernel_rfl
theorem Try.cellsOf9 : Try.prog.cellsOf 9 = 1 := by kernel_rfl
theorem Try.bytes29 : Try.prog.bytesOf 29 = 48 := by kernel_rfl
instance : Inhabited Stp := ⟨⟨0, 0, .empty, .empty⟩⟩
section
variable {H : Type} {enc : TypeId × Value → H} {W : World} {sp : Nat → Bool} {held : Bool}
set_option maxRecDepth 100000 in
/-- A step that was read. -/
theorem open_step {fuel : Nat} {cs : List Value} {x : DataW H × List MemPlace} (h : DataW.trod enc Try.prog W 0 sp held fuel 29 cs = some x) :
    ∃ s : Stp, cs = [.int .i64 s.h, .int .i64 s.k, .string s.a, .string s.b] ∧ s.a.size ≤ maxLen ∧ s.b.size ≤ maxLen := by
  obtain ⟨xs, n, _, rfl, hl, hlen, hf⟩ := DataW.trod_struct Try.underlying29 h
  rw [Try.cellsOf29] at hl
  match cs, hl with
  | [c0, c1, c2, c3], _ =>
    have h0 := hf 0 _ rfl
    have h1 := hf 1 _ rfl
    have h2 := hf 2 _ rfl
    have h3 := hf 3 _ rfl
    have hx : xs.length = 4 := hlen
    rw [List.getElem?_eq_getElem (by omega)] at h0 h1 h2 h3
    simp [Try.cells3] at h0 h1
    simp [Try.cellsOf9] at h2 h3
    obtain ⟨a, e0, _, _⟩ := DataW.trod_int Try.underlying3 h0
    obtain ⟨b, e1, _, _⟩ := DataW.trod_int Try.underlying3 h1
    obtain ⟨s, e2, _, hs⟩ := DataW.trod_string Try.underlying9 h2
    obtain ⟨t, e3, _, ht⟩ := DataW.trod_string Try.underlying9 h3
    simp at e0 e1 e2 e3
    subst e0 e1 e2 e3
    exact ⟨⟨a, b, s, t⟩, rfl, hs, ht⟩
set_option maxRecDepth 100000 in
/-- Steps that came in. -/
theorem open_steps {r : Reach} {b0 : Nat} {v : Value} {d : DataW H} {p : List MemPlace} (hv : Value.okWide Try.prog W r b0 22 v) (h : DataW.Trod enc Try.prog W 0 sp held 22 v d p) (hw : ∀ k ∈ d.weights Try.prog 22, k ≤ reachBytes) :
    ∃ ss, SAt W v ss := by
  obtain ⟨a0, n0, c0, rfl⟩ := okWide_slice Try.underlying22 hv
  obtain ⟨fuel, hf⟩ := h
  have hf' : DataW.trod enc Try.prog W 0 sp held fuel 22 [.slice a0 n0 c0] = some (d, p) := hf
  rcases open_slice Try.underlying22 hf' with ⟨e1, _⟩ | ⟨a, len, cap, m, nn, D, Pl, e1, _, hlc, hcm, hm, hx, hel⟩
  · simp at e1
    obtain ⟨rfl, rfl, rfl⟩ := e1
    exact ⟨[], none, 0, rfl, Nat.zero_le _, fun i s hi => by simp at hi⟩
  · simp at e1
    obtain ⟨rfl, rfl, rfl⟩ := e1
    have hml : n0 ≤ m := by rw [hm]; split <;> omega
    rw [Try.cellsOf29] at hel
    have hd : d = .slice ((List.range n0).map D) ((List.range (m - n0)).map fun j => D (n0 + j)) := congrArg Prod.fst hx
    have hlen : n0 ≤ 8796093022208 := by
      have := hw ((n0 + (m - n0)) * Try.prog.bytesOf 29) (by
        rw [hd]
        simp [DataW.weights, Try.underlying22])
      rw [Try.bytes29] at this
      simp only [reachBytes] at this
      omega
    obtain ⟨X, hX⟩ := choose_lt (α := Stp) (n := n0) (p := fun i s => W.cell? (a.add (i * 4)) = some (.int .i64 s.h) ∧ W.cell? (a.add (i * 4 + 1)) = some (.int .i64 s.k) ∧ W.cell? (a.add (i * 4 + 2)) = some (.string s.a) ∧ W.cell? (a.add (i * 4 + 3)) = some (.string s.b) ∧ s.a.size ≤ maxLen ∧ s.b.size ≤ maxLen) (fun i hi => by
      obtain ⟨cs, h1, h2⟩ := hel i (by omega)
      obtain ⟨s, rfl, ha, hb⟩ := open_step h2
      obtain ⟨_, _, hc⟩ := World.cells?_some h1
      have q0 := hc 0 (by omega)
      have q1 := hc 1 (by omega)
      have q2 := hc 2 (by omega)
      have q3 := hc 3 (by omega)
      rw [Deep.add_add] at q0 q1 q2 q3
      exact ⟨s, by simpa using q0, by simpa using q1, by simpa using q2, by simpa using q3, ha, hb⟩)
    have hl : ((List.range n0).map X).length = n0 := by simp
    refine ⟨(List.range n0).map X, some a, c0, by rw [hl], by rw [hl]; exact hlen, fun i s hi => ?_⟩
    have hi2 : i < n0 := by
      have := (List.getElem?_eq_some_iff.1 hi).1
      rwa [hl] at this
    have hs : X i = s := by simpa [hi2] using hi
    subst hs
    obtain ⟨g0, g1, g2, g3, ha, hb⟩ := hX i hi2
    have hsp := World.cell?_spot (hX 0 (by omega)).1
    obtain ⟨b, off, spot⟩ := a
    have hspot : spot = none := by simpa [Addr.add] using hsp
    subst hspot
    have e : ∀ j, (⟨b, off, none⟩ : Addr).add j = ⟨b, off + j, none⟩ := fun j => by unfold Addr.add; split <;> simp_all
    rw [e] at g0 g1 g2 g3
    exact ⟨b, off, rfl, g0, by rw [Nat.add_assoc]; exact g1, by rw [Nat.add_assoc]; exact g2, by rw [Nat.add_assoc]; exact g3, ha, hb⟩
end
set_option maxRecDepth 100000 in
theorem live_lifted (os : Os) (started : os.Started) (H : Type) (enc : TypeId × Value → H) :
    ReturnsInHanded {} Try.checked os 3 .any (Rows.livePlaysSpec.pre6 enc Try.prog Try.f3 Rows.livePlaysRow.domain false) (Rows.livePlaysSpec.post enc Try.prog Try.f3 false true false false) := by
  refine returnsInHanded_of_change_sized (C := Try.checked) Try.own started (by kernel_rfl) Try.func3
    (ChangeSpec.witness6 (enc := enc) (C := Try.checked) false ⟨#[], #[.slice none 0 0], []⟩ 8 (by kernel_rfl) (by kernel_rfl) (by kernel_rfl) (by kernel_rfl)) ?_
  intro W base args ds gs before hval0 hW hcnd hsz0 _
  have hval : ∀ (j : Nat) t v, Try.f3.params[j]? = some t → args[j]? = some v → Value.okWide Try.prog W .any base t v := hval0
  have hsz : (DataW.weightsEach Try.prog (Try.f3.params.toList ++ Rows.livePlaysSpec.plain.varTypes Try.prog) (ds ++ gs)).all (· ≤ reachBytes) = true := hsz0
  have hW' := hW
  obtain ⟨p, q, hA0, hV, rfl, hfz, hnd⟩ := hW
  have hA : DataW.TrodAll enc Try.prog W 0 (fun _ => true) true Try.f3.params.toList args.toList ds p := hA0
  rw [Try.params3] at hA hval hsz
  obtain ⟨v0, d0, rfl, rfl, h0⟩ := trodAll_one hA
  obtain ⟨rfl, rfl⟩ := trodVars_none hV
  have lt0 : ∀ x ∈ p, x.block < W.heap.size := by obtain ⟨m, hm⟩ := h0; exact DataW.trod_lt m _ _ _ hm
  have hwt : ∀ k ∈ d0.weights Try.prog 22, k ≤ reachBytes := fun k hk => by
    have := List.all_eq_true.1 hsz k (DataW.weights_mem_each (j := 0) (t := 22) rfl rfl k hk)
    simpa using this
  obtain ⟨ss, hS⟩ := open_steps (hval 0 22 v0 rfl rfl) h0 hwt
  clear hA0 hval0
  refine (law_call hS).mono fun e W' ⟨he, bel⟩ => ?_
  subst he
  exact ⟨_, rfl, _, _, _, [], _, [], hW', trodAll_mk1 (shut_bool Try.underlying4 _), trodAll_mk1 (Below.trod Try.laidOut (by kernel_rfl) (of_decide_eq_true (by kernel_rfl)) h0 bel lt0), rfl, bel.frame _, fun h => by cases h⟩
/-- Whatever steps it is given, LivePlays answers true and leaves them as they were. -/
theorem livePlays_holds : Rows.LivePlaysSaid :=
  OpenClaim.holds_of_wide 3 Try.f3 rfl rfl rfl rfl rfl rfl rfl ⟨rfl, rfl, rfl, rfl, rfl⟩ rfl rfl rfl rfl rfl (by kernel_rfl) Try.func3 (by kernel_rfl)
    (of_decide_eq_true (by kernel_rfl)) (by unfold Func.isWrapper; first | (rw [if_pos (by decide +kernel)]; kernel_rfl) | (rw [if_neg (by decide +kernel)]; exact ⟨rfl, rfl⟩))
    (fun os started H enc _ => live_lifted os started H enc)
end Go.Proofs.Ytfdlndljpmamgaa
