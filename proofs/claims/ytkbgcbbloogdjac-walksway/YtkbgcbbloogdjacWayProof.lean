/- Whatever graph and two numbers it is given, WalksWay answers true and leaves them as they were; no condition. -/
import Derived.Test.YtkbgcbbloogdjacWayLaw
import Derived.Test.YtkbgcbbloogdjacOpens
namespace Go.Proofs.Ytkbgcbbloogdjac
open Go.ChangeShapes Go.WideShapes Go.ChangeAt Go.RowKit Go.Joins Go.Deep

theorem way_range (m : Nat) (x y : Int) (hx : I64 x) (hy : I64 y) (es : List Pair) (hc : (chk m es).1 = 0) {K : Nat} {z : Int} (hK : [x, y][K]? = some z) (hbad : z < 0 ∨ (m : Int) ≤ z) (hgood : ∀ (j : Nat) (u : Int), j < K → [x, y][j]? = some u → 0 ≤ u ∧ u < m) (w' : World) (o : Option Addr) (c : Nat) (h : EdgesAt w' (.slice o es.length c) es) :
    Calls Try.prog 17 #[.agg #[.int .i64 (m : Int), .slice o es.length c], .int .i64 x, .int .i64 y] w' fun r w'' => ∃ lv fc fd, r = .returned (.tuple #[lv, .agg #[.int .i64 fc, .int .i64 fd]]) ∧ WayIs m es x y w'' w'.heap.size 3 K lv fc fd ∧ Below w'.heap.size w' w'' := by
  refine (way_fault (m : Int) x y (.slice o es.length c) w' (c := 3) (d := (K : Int)) (by omega) (fun W o2 hb ho => ?_)).mono ?_
  · have h1 := open_range m o c es (.slice (some ⟨o2, 0, none⟩) 2 2) [x, y] (W.alloc (Obj.cells #[.int .i64 x, .int .i64 y] 3)) (h.below (below_alloc hb _)) (by rw [← ho]; exact intsAt_two W x y hx hy) (by simp) hc hK hbad hgood
    refine h1.mono ?_
    rintro r w2 ⟨h2, h3⟩
    exact ⟨h2, by simpa using h3⟩
  · rintro r w2 ⟨h2, h3⟩
    exact ⟨_, _, _, h2, Or.inl ⟨by omega, rfl, rfl, rfl⟩, h3⟩

theorem wayLaw_any (n x y : Int) (hx : I64 x) (hy : I64 y) (ao : Option Addr) (cap : Nat) (es : List Pair) (w : World) (hE : EdgesAt w (.slice ao es.length cap) es) (hcap : es.length ≤ cap) :
    Calls Try.prog 4 #[.agg #[.int .i64 n, .slice ao es.length cap], .int .i64 x, .int .i64 y] w fun e w' => e = .returned (.bool true) ∧ Below w.heap.size w w' := by
  by_cases hc0 : (chk n es).1 = 0
  · obtain ⟨hck, hn0, _⟩ := chk_good hc0
    obtain ⟨m, rfl⟩ : ∃ m : Nat, n = m := ⟨n.toNat, by omega⟩
    by_cases hbx : x < 0 ∨ (m : Int) ≤ x
    · exact wayLaw_ok m x y hx hy ao cap es w hE hcap hck (nc := 3) (nd := ((0 : Nat) : Int)) (Or.inr ⟨0, x, rfl, hbx, fun j u hj _ => by omega, rfl, rfl⟩) (way_range m x y hx hy es hc0 (K := 0) rfl hbx (fun j u hj _ => by omega))
    · have hfirst : ∀ (j : Nat) (u : Int), j < 1 → [x, y][j]? = some u → 0 ≤ u ∧ u < (m : Int) := fun j u hj hu => by
        have : j = 0 := by omega
        subst this
        simp at hu
        omega
      by_cases hby : y < 0 ∨ (m : Int) ≤ y
      · exact wayLaw_ok m x y hx hy ao cap es w hE hcap hck (nc := 3) (nd := ((1 : Nat) : Int)) (Or.inr ⟨1, y, rfl, hby, hfirst, rfl, rfl⟩) (way_range m x y hx hy es hc0 (K := 1) rfl hby hfirst)
      · obtain ⟨x', rfl⟩ : ∃ x' : Nat, x = x' := ⟨x.toNat, by omega⟩
        obtain ⟨y', rfl⟩ : ∃ y' : Nat, y = y' := ⟨y.toNat, by omega⟩
        have hxm : x' < m := by omega
        have hym : y' < m := by omega
        refine wayLaw_ok m x' y' hx hy ao cap es w hE hcap hck (nc := 0) (nd := 0) (Or.inl ⟨fun z hz => ?_, rfl, rfl⟩) (fun w' o c h => ?_)
        · simp at hz
          omega
        · refine (way_ok m o c es w' h hc0 hxm hym).mono ?_
          rintro r w2 ⟨o2, hd, hb, ⟨h1, h2⟩ | ⟨D, S, pv, h1, h2, h3, h4⟩⟩
          · exact ⟨_, _, _, h2, Or.inr ⟨rfl, x', y', rfl, rfl, hxm, hym, o2, hd, Or.inl ⟨h1, rfl, rfl, rfl⟩⟩, hb⟩
          · exact ⟨_, _, _, h3, Or.inr ⟨rfl, x', y', rfl, rfl, hxm, hym, o2, hd, Or.inr ⟨D, S, h1, h2, rfl, rfl, h4⟩⟩, hb⟩
  · exact wayLaw_bad n x y ao cap es w hE hcap (c := (chk n es).1) (d := (chk n es).2) (by cases chk n es; rfl) hc0

set_option maxRecDepth 100000 in
theorem way_lifted (os : Os) (started : os.Started) (H : Type) (enc : TypeId × Value → H) :
    ReturnsInHanded {} Try.checked os 4 .any (Rows.walksWaySpec.pre6 enc Try.prog Try.f4 Rows.walksWayRow.domain false) (Rows.walksWaySpec.post enc Try.prog Try.f4 false true false false) := by
  refine returnsInHanded_of_change_sized (C := Try.checked) Try.own started (by kernel_rfl) Try.func4
    (ChangeSpec.witness6 (enc := enc) (C := Try.checked) false ⟨#[], #[.agg #[.int .i64 0, .slice none 0 0], .int .i64 0, .int .i64 0], []⟩ 8 (by kernel_rfl) (by kernel_rfl) (by kernel_rfl) (by kernel_rfl)) ?_
  intro W base args ds gs before hval0 hW hcnd hsz0 _
  have hval : ∀ (j : Nat) t v, Try.f4.params[j]? = some t → args[j]? = some v → Value.okWide Try.prog W .any base t v := hval0
  have hsz : (DataW.weightsEach Try.prog (Try.f4.params.toList ++ Rows.walksWaySpec.plain.varTypes Try.prog) (ds ++ gs)).all (· ≤ reachBytes) = true := hsz0
  have hW' := hW
  obtain ⟨p, q, hA0, hV, rfl, hfz, hnd⟩ := hW
  have hA : DataW.TrodAll enc Try.prog W 0 (fun _ => true) true Try.f4.params.toList args.toList ds p := hA0
  rw [Try.params4] at hA hval hsz
  obtain ⟨v0, v1, v2, d0, d1, d2, p0, p1, p2, rfl, rfl, rfl, h0, h1, h2⟩ := trodAll_three hA
  obtain ⟨rfl, rfl⟩ := trodVars_none hV
  have lt0 : ∀ x ∈ p0, x.block < W.heap.size := by obtain ⟨m, hm⟩ := h0; exact DataW.trod_lt m _ _ _ hm
  have hwt : ∀ k ∈ d0.weights Try.prog 24, k ≤ reachBytes := fun k hk => by
    have := List.all_eq_true.1 hsz k (DataW.weights_mem_each (j := 0) (t := 24) rfl rfl k hk)
    simpa using this
  obtain ⟨n, ao, cap, es, rfl, hn, hcap, hE⟩ := open_graph (hval 0 24 v0 rfl rfl) h0 hwt
  obtain ⟨x, rfl, rfl, rfl, wx⟩ := open_int Try.underlying3 (hval 1 3 v1 rfl rfl) h1
  obtain ⟨y, rfl, rfl, rfl, wy⟩ := open_int Try.underlying3 (hval 2 3 v2 rfl rfl) h2
  clear hA0 hval0
  refine (wayLaw_any n x y (I64.of_wf wx) (I64.of_wf wy) ao cap es W hE hcap).mono fun e W' ⟨he, bel⟩ => ?_
  subst he
  exact ⟨_, rfl, _, _, _, [], _, [], hW', trodAll_mk1 (shut_bool Try.underlying4 _), trodAll_mk3 (Below.trod Try.laidOut (by kernel_rfl) (of_decide_eq_true (by kernel_rfl)) h0 bel lt0) (shut_int Try.underlying3 wx) (shut_int Try.underlying3 wy), rfl, bel.frame _, fun h => by cases h⟩

/-- Whatever graph and two numbers it is given, WalksWay answers true and leaves them as they were. -/
theorem walksWay_holds : Rows.WalksWaySaid :=
  OpenClaim.holds_of_wide_leaving 4 Try.f4 rfl rfl rfl rfl rfl rfl rfl ⟨rfl, rfl, rfl, rfl, rfl⟩ rfl rfl rfl rfl rfl (by kernel_rfl) Try.func4 (by kernel_rfl)
    (of_decide_eq_true (by kernel_rfl)) (by unfold Func.isWrapper; first | (rw [if_pos (by decide +kernel)]; kernel_rfl) | (rw [if_neg (by decide +kernel)]; exact ⟨rfl, rfl⟩))
    (fun os started H enc _ => leaving_of_handed (way_lifted os started H enc))
end Go.Proofs.Ytkbgcbbloogdjac
