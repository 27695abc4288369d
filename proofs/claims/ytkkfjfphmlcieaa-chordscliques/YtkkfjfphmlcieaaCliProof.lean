/- Whatever graph it is given, ChordsCliques answers true and leaves it as it was; no condition. -/
import Derived.Test.YtkkfjfphmlcieaaCliL
import Derived.Test.YtkkfjfphmlcieaaOpens
namespace Go.Proofs.Ytkkfjfphmlcieaa
open Go.ChangeShapes Go.WideShapes Go.ChangeAt Go.RowKit Go.Joins Go.Deep

theorem cliLaw_any {w : World} {n : Int} {vo : Option Addr} {vc : Nat} {es : List Pair} (hE : EdgesAt w (.slice vo es.length vc) es) (hcap : es.length ≤ vc) :
    Calls Try.prog 4 #[.agg #[.int .i64 n, .slice vo es.length vc]] w fun e w' => e = .returned (.bool true) ∧ Below w.heap.size w w' := by
  by_cases hk : (smallF n es 24).1 = 0
  · have hk' : (chk n es).1 = 0 ∧ n ≤ 24 := by
      unfold smallF at hk
      by_cases h : (chk n es).1 ≠ 0
      · rw [if_pos h] at hk; exact absurd hk h
      · rw [if_neg h] at hk
        refine ⟨Classical.byContradiction fun h' => h h', ?_⟩
        by_cases h2 : 24 < n
        · rw [if_pos h2] at hk; cases hk
        · omega
    obtain ⟨_, h0, _⟩ := chk_good hk'.1
    obtain ⟨N, rfl⟩ := Int.eq_ofNat_of_zero_le h0
    exact cliLaw_good hE hcap hk'.1 (by have := hk'.2; omega)
  · exact cliLaw_bad hE hcap (c := (smallF n es 24).1) (d := (smallF n es 24).2) rfl hk
set_option maxRecDepth 100000 in
theorem cli_lifted (os : Os) (started : os.Started) (H : Type) (enc : TypeId × Value → H) :
    ReturnsInHanded {} Try.checked os 4 .any (Rows.chordsCliquesSpec.pre6 enc Try.prog Try.f4 Rows.chordsCliquesRow.domain false) (Rows.chordsCliquesSpec.post enc Try.prog Try.f4 false true false false) := by
  refine returnsInHanded_of_change_sized (C := Try.checked) Try.own started (by kernel_rfl) Try.func4
    (ChangeSpec.witness6 (enc := enc) (C := Try.checked) false ⟨#[], #[.agg #[.int .i64 0, .slice none 0 0]], []⟩ 8 (by kernel_rfl) (by kernel_rfl) (by kernel_rfl) (by kernel_rfl)) ?_
  intro W base args ds gs before hval0 hW hcnd hsz0 _
  have hval : ∀ (j : Nat) t v, Try.f4.params[j]? = some t → args[j]? = some v → Value.okWide Try.prog W .any base t v := hval0
  have hsz : (DataW.weightsEach Try.prog (Try.f4.params.toList ++ Rows.chordsCliquesSpec.plain.varTypes Try.prog) (ds ++ gs)).all (· ≤ reachBytes) = true := hsz0
  have hW' := hW
  obtain ⟨p, q, hA0, hV, rfl, hfz, hnd⟩ := hW
  have hA : DataW.TrodAll enc Try.prog W 0 (fun _ => true) true Try.f4.params.toList args.toList ds p := hA0
  rw [Try.params4] at hA hval hsz
  obtain ⟨v0, d0, rfl, rfl, h0⟩ := trodAll_one hA
  obtain ⟨rfl, rfl⟩ := trodVars_none hV
  have lt0 : ∀ x ∈ p, x.block < W.heap.size := by obtain ⟨m, hm⟩ := h0; exact DataW.trod_lt m _ _ _ hm
  have hwt : ∀ k ∈ d0.weights Try.prog 24, k ≤ reachBytes := fun k hk => by
    have := List.all_eq_true.1 hsz k (DataW.weights_mem_each (j := 0) (t := 24) rfl rfl k hk)
    simpa using this
  obtain ⟨n, ao, cap, es, rfl, hn, hcap, hE⟩ := open_graph (hval 0 24 v0 rfl rfl) h0 hwt
  clear hA0 hval0
  refine (cliLaw_any hE hcap).mono fun e W' ⟨he, bel⟩ => ?_
  subst he
  exact ⟨_, rfl, _, _, _, [], _, [], hW', trodAll_mk1 (shut_bool Try.underlying4 _), trodAll_mk1 (Below.trod Try.laidOut (by kernel_rfl) (of_decide_eq_true (by kernel_rfl)) h0 bel lt0), rfl, bel.frame _, fun h => by cases h⟩

/-- Whatever graph it is given, ChordsCliques answers true and leaves it as it was. -/
theorem chordsCliques_holds : Rows.ChordsCliquesSaid :=
  OpenClaim.holds_of_wide 4 Try.f4 rfl rfl rfl rfl rfl rfl rfl ⟨rfl, rfl, rfl, rfl, rfl⟩ rfl rfl rfl rfl rfl (by kernel_rfl) Try.func4 (by kernel_rfl)
    (of_decide_eq_true (by kernel_rfl)) (by unfold Func.isWrapper; first | (rw [if_pos (by decide +kernel)]; kernel_rfl) | (rw [if_neg (by decide +kernel)]; exact ⟨rfl, rfl⟩))
    (fun os started H enc _ => cli_lifted os started H enc)
end Go.Proofs.Ytkkfjfphmlcieaa
