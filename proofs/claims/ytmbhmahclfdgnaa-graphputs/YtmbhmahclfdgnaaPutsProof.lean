/- Whatever two graphs it is given, GraphPuts answers true and leaves them as they were; no condition. -/
import Derived.Test.YtmbhmahclfdgnaaPutsWalk
import Derived.Test.YtmbhmahclfdgnaaOpens
namespace Go.Proofs.Ytmbhmahclfdgnaa
open Go.ChangeShapes Go.WideShapes Go.ChangeAt Go.RowKit Go.Joins Go.Deep

theorem puts_any (n m : Int) (ao bo : Option Addr) (ca cb : Nat) (es fs : List Pair) (w : World) (hE : EdgesAt w (.slice ao es.length ca) es) (hF : EdgesAt w (.slice bo fs.length cb) fs) (hca : es.length ≤ ca) (hcb : fs.length ≤ cb) :
    Calls Try.prog 5 #[.agg #[.int .i64 n, .slice ao es.length ca], .agg #[.int .i64 m, .slice bo fs.length cb]] w fun e w' => e = .returned (.bool true) ∧ Below w.heap.size w w' := by
  by_cases h1 : (chk n es).1 = 0
  · by_cases h2 : (chk m fs).1 = 0
    · obtain ⟨k1, g1, g2, g3, g4⟩ := chk_good h1
      obtain ⟨k2, l1, l2, l3, l4⟩ := chk_good h2
      obtain ⟨ma, rfl⟩ : ∃ a : Nat, n = a := ⟨n.toNat, by omega⟩
      obtain ⟨mb, rfl⟩ : ∃ a : Nat, m = a := ⟨m.toNat, by omega⟩
      have hc : (chk2 ma es mb fs).1 = 0 := by unfold chk2; rw [if_pos h1]; exact h2
      refine puts_walk ma mb ao bo ca cb es fs w hE hF hca hcb k1 k2 (Or.inl ⟨rfl, rfl, rfl⟩) (A := buildS (ma + mb) (joinP ma es fs)) (B := buildS (ma * mb) (prodP mb es fs)) ?_ ?_ (Or.inr ⟨rfl, rfl, ma, mb, rfl, rfl, by omega, by omega, g3, l3, g4, l4, rfl, rfl⟩)
      · unfold joinS; rw [if_pos hc]; simp
      · unfold prodS; rw [if_pos hc]; simp
    · have e2 : chk2 n es m fs = chk m fs := by unfold chk2; rw [if_pos h1]
      have k1 := (chk_good h1).1
      refine puts_walk n m ao bo ca cb es fs w hE hF hca hcb k1 (c2 := (chk m fs).1) (d2 := (chk m fs).2) rfl (Or.inl ⟨rfl, rfl, rfl⟩) (A := ⟨0, [], (chk m fs).1, (chk m fs).2⟩) (B := ⟨0, [], (chk m fs).1, (chk m fs).2⟩) ?_ ?_ (Or.inl ⟨h2, rfl, rfl⟩)
      · unfold joinS; rw [e2, if_neg h2]
      · unfold prodS; rw [e2, if_neg h2]
  · have e2 : chk2 n es m fs = chk n es := by unfold chk2; rw [if_neg h1]
    refine puts_walk n m ao bo ca cb es fs w hE hF hca hcb (c1 := (chk n es).1) (d1 := (chk n es).2) (c2 := (chk m fs).1) (d2 := (chk m fs).2) rfl rfl (Or.inr ⟨h1, rfl, rfl⟩) (A := ⟨0, [], (chk n es).1, (chk n es).2⟩) (B := ⟨0, [], (chk n es).1, (chk n es).2⟩) ?_ ?_ (Or.inl ⟨h1, rfl, rfl⟩)
    · unfold joinS; rw [e2, if_neg h1]
    · unfold prodS; rw [e2, if_neg h1]

set_option maxRecDepth 100000 in
theorem puts_lifted (os : Os) (started : os.Started) (H : Type) (enc : TypeId × Value → H) :
    ReturnsInHanded {} Try.checked os 5 .any (Rows.graphPutsSpec.pre6 enc Try.prog Try.f5 Rows.graphPutsRow.domain false) (Rows.graphPutsSpec.post enc Try.prog Try.f5 false true false false) := by
  refine returnsInHanded_of_change_sized (C := Try.checked) Try.own started (by kernel_rfl) Try.func5
    (ChangeSpec.witness6 (enc := enc) (C := Try.checked) false ⟨#[], #[.agg #[.int .i64 0, .slice none 0 0], .agg #[.int .i64 0, .slice none 0 0]], []⟩ 8 (by kernel_rfl) (by kernel_rfl) (by kernel_rfl) (by kernel_rfl)) ?_
  intro W base args ds gs before hval0 hW hcnd hsz0 _
  have hval : ∀ (j : Nat) t v, Try.f5.params[j]? = some t → args[j]? = some v → Value.okWide Try.prog W .any base t v := hval0
  have hsz : (DataW.weightsEach Try.prog (Try.f5.params.toList ++ Rows.graphPutsSpec.plain.varTypes Try.prog) (ds ++ gs)).all (· ≤ reachBytes) = true := hsz0
  have hW' := hW
  obtain ⟨p, q, hA0, hV, rfl, hfz, hnd⟩ := hW
  have hA : DataW.TrodAll enc Try.prog W 0 (fun _ => true) true Try.f5.params.toList args.toList ds p := hA0
  rw [Try.params5] at hA hval hsz
  obtain ⟨v0, v1, d0, d1, p0, p1, rfl, rfl, rfl, h0, h1⟩ := trodAll_two hA
  obtain ⟨rfl, rfl⟩ := trodVars_none hV
  have lt0 : ∀ x ∈ p0, x.block < W.heap.size := by obtain ⟨m, hm⟩ := h0; exact DataW.trod_lt m _ _ _ hm
  have lt1 : ∀ x ∈ p1, x.block < W.heap.size := by obtain ⟨m, hm⟩ := h1; exact DataW.trod_lt m _ _ _ hm
  have hwt0 : ∀ k ∈ d0.weights Try.prog 24, k ≤ reachBytes := fun k hk => by
    have := List.all_eq_true.1 hsz k (DataW.weights_mem_each (j := 0) (t := 24) rfl rfl k hk)
    simpa using this
  have hwt1 : ∀ k ∈ d1.weights Try.prog 24, k ≤ reachBytes := fun k hk => by
    have := List.all_eq_true.1 hsz k (DataW.weights_mem_each (j := 1) (t := 24) rfl rfl k hk)
    simpa using this
  obtain ⟨n, ao, cap, es, rfl, hn, hcap, hE⟩ := open_graph (hval 0 24 v0 rfl rfl) h0 hwt0
  obtain ⟨m, bo, cap', fs, rfl, hm, hcap', hF⟩ := open_graph (hval 1 24 v1 rfl rfl) h1 hwt1
  clear hA0 hval0
  refine (puts_any n m ao bo cap cap' es fs W hE hF hcap hcap').mono fun e W' ⟨he, bel⟩ => ?_
  subst he
  exact ⟨_, rfl, _, _, _, [], _, [], hW', trodAll_mk1 (shut_bool Try.underlying4 _), trodAll_mk2 (Below.trod Try.laidOut (by kernel_rfl) (of_decide_eq_true (by kernel_rfl)) h0 bel lt0) (Below.trod Try.laidOut (by kernel_rfl) (of_decide_eq_true (by kernel_rfl)) h1 bel lt1), rfl, bel.frame _, fun h => by cases h⟩

/-- Whatever two graphs it is given, GraphPuts answers true and leaves them as they were. -/
theorem graphPuts_holds : Rows.GraphPutsSaid :=
  OpenClaim.holds_of_wide 5 Try.f5 rfl rfl rfl rfl rfl rfl rfl ⟨rfl, rfl, rfl, rfl, rfl⟩ rfl rfl rfl rfl rfl (by kernel_rfl) Try.func5 (by kernel_rfl)
    (of_decide_eq_true (by kernel_rfl)) (by unfold Func.isWrapper; first | (rw [if_pos (by decide +kernel)]; kernel_rfl) | (rw [if_neg (by decide +kernel)]; exact ⟨rfl, rfl⟩))
    (fun os started H enc _ => puts_lifted os started H enc)
end Go.Proofs.Ytmbhmahclfdgnaa
