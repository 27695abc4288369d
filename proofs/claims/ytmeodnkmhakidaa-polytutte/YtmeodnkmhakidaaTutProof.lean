/- Whatever graph it is given, PolyTutte answers true and leaves it as it was; no condition. -/
import Derived.Test.YtmeodnkmhakidaaTutL
import Derived.Test.YtmeodnkmhakidaaBegun
import Derived.Test.YtmeodnkmhakidaaOpens
namespace Go.Proofs.Ytmeodnkmhakidaa
open Go.ChangeShapes Go.WideShapes Go.ChangeAt Go.RowKit Go.Joins Go.Deep

theorem tutteLaw_any {w : World} {n : Int} {vo : Option Addr} {vc : Nat} {es : List Pair} (hE : EdgesAt w (.slice vo es.length vc) es) (hcap : es.length ≤ vc) :
    Calls Try.prog 3 #[.agg #[.int .i64 n, .slice vo es.length vc]] w fun e w' => e = .returned (.bool true) ∧ Below w.heap.size w w' := by
  refine tutte_law hE hcap (fun A v c _ hE2 => ?_) (fun A => begun_call)
  refine (tutte_call (n := n) hE2).mono ?_
  rintro e w' ⟨hT, hB⟩
  refine ⟨?_, hB⟩
  rcases hT with ⟨h0, rfl⟩ | ⟨h0, N, es2, bt, h1, h2, h3, h4, h5, rfl, h6⟩
  · exact ⟨_, rfl, Or.inl ⟨h0, rfl⟩⟩
  · refine ⟨_, by rw [h0], Or.inr ⟨h0, N, es2, h1, h2, h3, tut_rows h6 h3 h4 h5⟩⟩
set_option maxRecDepth 100000 in
theorem tutte_lifted (os : Os) (started : os.Started) (H : Type) (enc : TypeId × Value → H) :
    ReturnsInHanded {} Try.checked os 3 .any (Rows.polyTutteSpec.pre6 enc Try.prog Try.f3 Rows.polyTutteRow.domain false) (Rows.polyTutteSpec.post enc Try.prog Try.f3 false true false false) := by
  refine returnsInHanded_of_change_sized (C := Try.checked) Try.own started (by kernel_rfl) Try.func3
    (ChangeSpec.witness6 (enc := enc) (C := Try.checked) false ⟨#[], #[.agg #[.int .i64 0, .slice none 0 0]], []⟩ 8 (by kernel_rfl) (by kernel_rfl) (by kernel_rfl) (by kernel_rfl)) ?_
  intro W base args ds gs before hval0 hW hcnd hsz0 _
  have hval : ∀ (j : Nat) t v, Try.f3.params[j]? = some t → args[j]? = some v → Value.okWide Try.prog W .any base t v := hval0
  have hsz : (DataW.weightsEach Try.prog (Try.f3.params.toList ++ Rows.polyTutteSpec.plain.varTypes Try.prog) (ds ++ gs)).all (· ≤ reachBytes) = true := hsz0
  have hW' := hW
  obtain ⟨p, q, hA0, hV, rfl, hfz, hnd⟩ := hW
  have hA : DataW.TrodAll enc Try.prog W 0 (fun _ => true) true Try.f3.params.toList args.toList ds p := hA0
  rw [Try.params3] at hA hval hsz
  obtain ⟨v0, d0, rfl, rfl, h0⟩ := trodAll_one hA
  obtain ⟨rfl, rfl⟩ := trodVars_none hV
  have lt0 : ∀ x ∈ p, x.block < W.heap.size := by obtain ⟨m, hm⟩ := h0; exact DataW.trod_lt m _ _ _ hm
  have hwt : ∀ k ∈ d0.weights Try.prog 24, k ≤ reachBytes := fun k hk => by
    have := List.all_eq_true.1 hsz k (DataW.weights_mem_each (j := 0) (t := 24) rfl rfl k hk)
    simpa using this
  obtain ⟨n, ao, cap, es, rfl, hn, hcap, hE⟩ := open_graph (hval 0 24 v0 rfl rfl) h0 hwt
  clear hA0 hval0
  refine (tutteLaw_any hE hcap).mono fun e W' ⟨he, bel⟩ => ?_
  subst he
  exact ⟨_, rfl, _, _, _, [], _, [], hW', trodAll_mk1 (shut_bool Try.underlying4 _), trodAll_mk1 (Below.trod Try.laidOut (by kernel_rfl) (of_decide_eq_true (by kernel_rfl)) h0 bel lt0), rfl, bel.frame _, fun h => by cases h⟩

/-- Whatever graph it is given, PolyTutte answers true and leaves it as it was. -/
theorem polyTutte_holds : Rows.PolyTutteSaid :=
  OpenClaim.holds_of_wide 3 Try.f3 rfl rfl rfl rfl rfl rfl rfl ⟨rfl, rfl, rfl, rfl, rfl⟩ rfl rfl rfl rfl rfl (by kernel_rfl) Try.func3 (by kernel_rfl)
    (of_decide_eq_true (by kernel_rfl)) (by unfold Func.isWrapper; first | (rw [if_pos (by decide +kernel)]; kernel_rfl) | (rw [if_neg (by decide +kernel)]; exact ⟨rfl, rfl⟩))
    (fun os started H enc _ => tutte_lifted os started H enc)
end Go.Proofs.Ytmeodnkmhakidaa
