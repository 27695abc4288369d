/- From the law's walk to FlowTree's row: a graph and a list of numbers that came in. -/
import Derived.Test.YtkakmaalmhofmaaOpens
import Derived.Test.YtkakmaalmhofmaaNetC
namespace Go.Proofs.Ytkakmaalmhofmaa
open Go.ChangeShapes Go.WideShapes Go.ChangeAt Go.RowKit Go.Joins Go.Deep

theorem Try.bytes3 : Try.prog.bytesOf 3 = 8 := by kernel_rfl
theorem intsAt_none (w : World) : IntsAt w (.slice none 0 0) [] := ⟨none, 0, rfl, by simp, by simp, fun k h => absurd h (by simp)⟩

/-- What the walk of FlowTree shows. -/
def TreeLaw : Prop := ∀ (n : Int) (ao no : Option Addr) (ca nc : Nat) (es : List Pair) (l : List Int) (w : World), EdgesAt w (.slice ao es.length ca) es → IntsAt w (.slice no l.length nc) l → es.length ≤ ca → l.length * 8 ≤ 140737488351232 →
    Calls Try.prog 6 #[.agg #[.int .i64 n, .slice ao es.length ca], .slice no l.length nc] w fun e w' => e = .returned (.bool true) ∧ Below w.heap.size w w'

set_option maxRecDepth 100000 in
theorem open_names {H : Type} {enc : TypeId × Value → H} {W : World} {held : Bool} {r : Reach} {b0 : Nat} {v : Value} {d : DataW H} {p : List MemPlace} (hv : Value.okWide Try.prog W r b0 30 v) (h : DataW.Trod enc Try.prog W 0 (fun _ => true) held 30 v d p) (hw : ∀ k ∈ d.weights Try.prog 30, k ≤ reachBytes) :
    ∃ (ao : Option Addr) (cap : Nat) (l : List Int), v = .slice ao l.length cap ∧ l.length * 8 ≤ 140737488351232 ∧ IntsAt W (.slice ao l.length cap) l := by
  obtain ⟨a0, len, cap, rfl⟩ := okWide_slice Try.underlying30 hv
  obtain ⟨fuel, hf⟩ := h
  rcases open_ints Try.underlying30 Try.underlying3 Try.cells3 hf with ⟨hcs, hx⟩ | ⟨x, l', c', zs, hcs, _, hl, hm, hz, hx, hcell, hwz⟩
  · simp [Value.cells] at hcs
    obtain ⟨rfl, rfl, rfl⟩ := hcs
    exact ⟨none, 0, [], rfl, by simp, intsAt_none _⟩
  · simp [Value.cells] at hcs
    obtain ⟨rfl, rfl, rfl⟩ := hcs
    have hzl : zs.length = cap := by simpa using hz
    have hlen : (zs.take len).length = len := by simp; omega
    have hb : len * 8 ≤ 140737488351232 := by
      have e : d = _ := congrArg Prod.fst hx
      have := hw (((zs.take len).length + (zs.drop len).length) * Try.prog.bytesOf 3) (by
        rw [e]
        simp [DataW.weights, Try.underlying30, lits])
      rw [Try.bytes3] at this
      simp only [reachBytes] at this
      omega
    refine ⟨some x, cap, zs.take len, by rw [hlen], by rw [hlen]; exact hb, some x, cap, by rw [hlen], by rw [hlen]; omega, ?_, ?_⟩
    · intro y hy
      exact I64.of_wf (hwz y (List.mem_of_mem_take hy))
    · intro k hk
      rw [hlen] at hk
      have h0 := hcell 0 (by omega)
      have hs := World.cell?_spot h0
      obtain ⟨b, off, spot⟩ := x
      have hspot : spot = none := by simpa [Addr.add] using hs
      subst hspot
      have hk2 := hcell k (by omega)
      rw [show (⟨b, off, none⟩ : Addr).add k = ⟨b, off + k, none⟩ from by unfold Addr.add; split <;> simp_all] at hk2
      refine ⟨b, off, rfl, ?_⟩
      rw [hk2]
      have : k < zs.length := by omega
      simp [this]

set_option maxRecDepth 100000 in
theorem tree_lifted (law : TreeLaw) (os : Os) (started : os.Started) (H : Type) (enc : TypeId × Value → H) :
    ReturnsInHanded {} Try.checked os 6 .any (Rows.flowTreeSpec.pre6 enc Try.prog Try.f6 Rows.flowTreeRow.domain false) (Rows.flowTreeSpec.post enc Try.prog Try.f6 false true false false) := by
  refine returnsInHanded_of_change_sized (C := Try.checked) Try.own started (by kernel_rfl) Try.func6
    (ChangeSpec.witness6 (enc := enc) (C := Try.checked) false ⟨#[], #[.agg #[.int .i64 0, .slice none 0 0], .slice none 0 0], []⟩ 8 (by kernel_rfl) (by kernel_rfl) (by kernel_rfl) (by kernel_rfl)) ?_
  intro W base args ds gs before hval0 hW hcnd hsz0 _
  have hval : ∀ (j : Nat) t v, Try.f6.params[j]? = some t → args[j]? = some v → Value.okWide Try.prog W .any base t v := hval0
  have hsz : (DataW.weightsEach Try.prog (Try.f6.params.toList ++ Rows.flowTreeSpec.plain.varTypes Try.prog) (ds ++ gs)).all (· ≤ reachBytes) = true := hsz0
  have hW' := hW
  obtain ⟨p, q, hA0, hV, rfl, hfz, hnd⟩ := hW
  have hA : DataW.TrodAll enc Try.prog W 0 (fun _ => true) true Try.f6.params.toList args.toList ds p := hA0
  rw [Try.params6] at hA hval hsz
  obtain ⟨v0, v1, d0, d1, p0, p1, rfl, rfl, rfl, h0, h1⟩ := trodAll_two hA
  obtain ⟨rfl, rfl⟩ := trodVars_none hV
  have lt0 : ∀ x ∈ p0, x.block < W.heap.size := by obtain ⟨m, hm⟩ := h0; exact DataW.trod_lt m _ _ _ hm
  have lt1 : ∀ x ∈ p1, x.block < W.heap.size := by obtain ⟨m, hm⟩ := h1; exact DataW.trod_lt m _ _ _ hm
  have hwt0 : ∀ k ∈ d0.weights Try.prog 40, k ≤ reachBytes := fun k hk => by
    have := List.all_eq_true.1 hsz k (DataW.weights_mem_each (j := 0) (t := 40) rfl rfl k hk)
    simpa using this
  have hwt1 : ∀ k ∈ d1.weights Try.prog 30, k ≤ reachBytes := fun k hk => by
    have := List.all_eq_true.1 hsz k (DataW.weights_mem_each (j := 1) (t := 30) rfl rfl k hk)
    simpa using this
  obtain ⟨n, ao, cap, es, rfl, hn, hcap, hE⟩ := open_graph (hval 0 40 v0 rfl rfl) h0 hwt0
  obtain ⟨no, nc, l, rfl, hlb, hI⟩ := open_names (hval 1 30 v1 rfl rfl) h1 hwt1
  clear hA0 hval0
  refine (law n ao no cap nc es l W hE hI hcap hlb).mono fun e W' ⟨he, bel⟩ => ?_
  subst he
  exact ⟨_, rfl, _, _, _, [], _, [], hW', trodAll_mk1 (shut_bool Try.underlying4 _), trodAll_mk2 (Below.trod Try.laidOut (by kernel_rfl) (of_decide_eq_true (by kernel_rfl)) h0 bel lt0) (Below.trod Try.laidOut (by kernel_rfl) (of_decide_eq_true (by kernel_rfl)) h1 bel lt1), rfl, bel.frame _, fun h => by cases h⟩

/-- Whatever graph and list of numbers it is given, FlowTree answers true and leaves them as they were, if its walk says so. -/
theorem flowTree_of (law : TreeLaw) : Rows.FlowTreeSaid :=
  OpenClaim.holds_of_wide 6 Try.f6 rfl rfl rfl rfl rfl rfl rfl ⟨rfl, rfl, rfl, rfl, rfl⟩ rfl rfl rfl rfl rfl (by kernel_rfl) Try.func6 (by kernel_rfl)
    (of_decide_eq_true (by kernel_rfl)) (by unfold Func.isWrapper; first | (rw [if_pos (by decide +kernel)]; kernel_rfl) | (rw [if_neg (by decide +kernel)]; exact ⟨rfl, rfl⟩))
    (fun os started H enc _ => tree_lifted law os started H enc)
end Go.Proofs.Ytkakmaalmhofmaa
