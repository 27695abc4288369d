/- Whatever graph it is given, GraphLaws answers true and leaves it as it was; no condition. -/
import Derived.Test.YtfhajacihpmcnaaLawsWalk
import Derived.Test.YtfhajacihpmcnaaOpens
namespace Go.Proofs.Ytfhajacihpmcnaa
open Go.ChangeShapes Go.WideShapes Go.ChangeAt Go.RowKit Go.Joins Go.Deep

set_option maxHeartbeats 1000000 in
theorem laws_fault (n : Int) (ao : Option Addr) (cap : Nat) (es : List Pair) (w : World) (hE : EdgesAt w (.slice ao es.length cap) es) (hc : (chk n es).1 ≠ 0) :
    Calls Try.prog 6 #[.agg #[.int .i64 n, .slice ao es.length cap]] w fun e w' => e = .returned (.bool true) ∧ Below w.heap.size w w' := by
  have hF : formS n es = ⟨0, [], (chk n es).1, (chk n es).2⟩ := by unfold formS; rw [if_neg hc]
  have hc1 : ((chk n es).1 != 0) = true := by simpa using hc
  have HE : Hid _ := hE
  have H1 : Hid _ := hF
  clear hE hF
  go_enter Try.func6, Try.ntmps6
  go_wp2_with (first | (go_at_call 11; refine (begun_true _).mono ?_; rintro e w1 ⟨rfl, hb1⟩; have tg1 := two_next (two_new w _ _ _) hb1; have hB1 := below_next (below_alloc (Below.refl _ _) _) hb1; obtain ⟨a1, a2, a3, a4, a5, a6⟩ := k2 tg1) | (go_at_call 9; refine (form_as ?_ H1.out).mono ?_; exact EdgesAt.below HE.out hB1; rintro e w2 ⟨hb2, lo, lc, rfl, hEl, _⟩; have hB2 := below_next hB1 hb2))
  go_ret
  exact ⟨rfl, below_next hB2 (below2 _ _)⟩

theorem pairs_all (m : Nat) (p : Int → Int → Bool) : (allP m p).length + (allP m (fun a b => !p a b)).length = m * (m - 1) / 2 := by
  have h := rowsTo_both m p m (Nat.le_refl _)
  unfold allP
  have e : 2 * m * m = 2 * (m * m) := Nat.mul_assoc 2 m m
  have e2 : m * (m - 1) = m * m - m := by rw [Nat.mul_sub, Nat.mul_one]
  have h3 : m ≤ m * m := by
    cases m with
    | zero => omega
    | succ k => exact Nat.le_mul_of_pos_left _ (by omega)
  rw [e2]
  omega

theorem laws_any (n : Int) (ao : Option Addr) (cap : Nat) (es : List Pair) (w : World) (hE : EdgesAt w (.slice ao es.length cap) es) :
    Calls Try.prog 6 #[.agg #[.int .i64 n, .slice ao es.length cap]] w fun e w' => e = .returned (.bool true) ∧ Below w.heap.size w w' := by
  by_cases hc0 : (chk n es).1 = 0
  · obtain ⟨hck, hn0, hn1, hl, hgood⟩ := chk_good hc0
    obtain ⟨m, rfl⟩ : ∃ m : Nat, n = m := ⟨n.toNat, by omega⟩
    have hm : m ≤ 100 := by omega
    have hap := chk_apart hc0
    have hr : ∀ e ∈ es, InR m e := hgood
    obtain ⟨hlen, hdeg⟩ := allP_length hr hap
    have hF := formS_good hc0
    have eA : complS m es = buildS m (fun u v => !hasB es u v) := by unfold complS; rw [if_pos hc0]; simp
    have eB : lineS m es = buildS (allP m (hasB es)).length (lineP (allP m (hasB es))) := by unfold lineS; rw [if_pos hc0]; simp
    have hL1 : (allP m (hasB es)).length ≤ 1000 := by omega
    have hs : sumTo (fun v => (nearTo es v m).length) m = 2 * es.length := by
      rw [sumTo_congr m (fun v hv => near_deg m es hr hap v hv)]
      exact sum_deg m es hr
    refine laws_good m ao cap es w hE hm hl (L := allP m (hasB es)) (K := allP m (fun u v => !hasB es u v)) hF eA ?_ eB ?_ hs hc0
    · by_cases hk : (allP m (fun u v => !hasB es u v)).length ≤ 1000
      · right
        refine ⟨buildS_ok hm hk, ?_, ?_, hk, hL1⟩
        · have hcK := chk_allP hm hk
          unfold complS
          rw [if_pos (by rw [hcK]), Int.toNat_natCast]
          have e : allP m (fun u v => !hasB (allP m (fun u v => !hasB es u v)) u v) = allP m (hasB es) := by
            apply allP_congr
            intro u v huv hv
            rw [hasB_allP huv hv, Bool.not_not]
          rw [buildS_ok hm (by rw [e]; exact hL1), e]
        · have h2 := pairs_all m (hasB es)
          rw [half_cast, ← h2]
          simp
          omega
      · left
        rw [buildS_many (Or.inr (by omega))]
        decide
    · by_cases hk : 100 < (allP m (hasB es)).length ∨ 1000 < (allP (allP m (hasB es)).length (lineP (allP m (hasB es)))).length
      · left
        rw [buildS_many hk]
        decide
      · right
        rw [buildS_ok (by omega) (by omega)]
        refine ⟨rfl, by rw [hlen], ?_⟩
        rw [line_meets, ← sum_pairs m _ allP_inR (allP_apart m _)]
        apply sumTo_congr
        intro v hv
        rw [hdeg v hv, near_deg m es hr hap v hv]
  · exact laws_fault n ao cap es w hE hc0

set_option maxRecDepth 100000 in
theorem laws_lifted (os : Os) (started : os.Started) (H : Type) (enc : TypeId × Value → H) :
    ReturnsInHanded {} Try.checked os 6 .any (Rows.graphLawsSpec.pre6 enc Try.prog Try.f6 Rows.graphLawsRow.domain false) (Rows.graphLawsSpec.post enc Try.prog Try.f6 false true false false) := by
  refine returnsInHanded_of_change_sized (C := Try.checked) Try.own started (by kernel_rfl) Try.func6
    (ChangeSpec.witness6 (enc := enc) (C := Try.checked) false ⟨#[], #[.agg #[.int .i64 0, .slice none 0 0]], []⟩ 8 (by kernel_rfl) (by kernel_rfl) (by kernel_rfl) (by kernel_rfl)) ?_
  intro W base args ds gs before hval0 hW hcnd hsz0 _
  have hval : ∀ (j : Nat) t v, Try.f6.params[j]? = some t → args[j]? = some v → Value.okWide Try.prog W .any base t v := hval0
  have hsz : (DataW.weightsEach Try.prog (Try.f6.params.toList ++ Rows.graphLawsSpec.plain.varTypes Try.prog) (ds ++ gs)).all (· ≤ reachBytes) = true := hsz0
  have hW' := hW
  obtain ⟨p, q, hA0, hV, rfl, hfz, hnd⟩ := hW
  have hA : DataW.TrodAll enc Try.prog W 0 (fun _ => true) true Try.f6.params.toList args.toList ds p := hA0
  rw [Try.params6] at hA hval hsz
  obtain ⟨v0, d0, rfl, rfl, h0⟩ := trodAll_one hA
  obtain ⟨rfl, rfl⟩ := trodVars_none hV
  have lt0 : ∀ x ∈ p, x.block < W.heap.size := by obtain ⟨m, hm⟩ := h0; exact DataW.trod_lt m _ _ _ hm
  have hwt0 : ∀ k ∈ d0.weights Try.prog 24, k ≤ reachBytes := fun k hk => by
    have := List.all_eq_true.1 hsz k (DataW.weights_mem_each (j := 0) (t := 24) rfl rfl k hk)
    simpa using this
  obtain ⟨n, ao, cap, es, rfl, hn, hcap, hE⟩ := open_graph (hval 0 24 v0 rfl rfl) h0 hwt0
  clear hA0 hval0
  refine (laws_any n ao cap es W hE).mono fun e W' ⟨he, bel⟩ => ?_
  subst he
  exact ⟨_, rfl, _, _, _, [], _, [], hW', trodAll_mk1 (shut_bool Try.underlying4 _), trodAll_mk1 (Below.trod Try.laidOut (by kernel_rfl) (of_decide_eq_true (by kernel_rfl)) h0 bel lt0), rfl, bel.frame _, fun h => by cases h⟩

/-- Whatever graph it is given, GraphLaws answers true and leaves it as it was. -/
theorem graphLaws_holds : Rows.GraphLawsSaid :=
  OpenClaim.holds_of_wide 6 Try.f6 rfl rfl rfl rfl rfl rfl rfl ⟨rfl, rfl, rfl, rfl, rfl⟩ rfl rfl rfl rfl rfl (by kernel_rfl) Try.func6 (by kernel_rfl)
    (of_decide_eq_true (by kernel_rfl)) (by unfold Func.isWrapper; first | (rw [if_pos (by decide +kernel)]; kernel_rfl) | (rw [if_neg (by decide +kernel)]; exact ⟨rfl, rfl⟩))
    (fun os started H enc _ => laws_lifted os started H enc)
end Go.Proofs.Ytfhajacihpmcnaa
