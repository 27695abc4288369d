/- Whatever graph and list of names it is given, GraphMakes answers true and leaves them as they were; no condition. -/
import Derived.Test.YtfhajacihpmcnaaMakesWalk
import Derived.Test.YtfhajacihpmcnaaOpens
namespace Go.Proofs.Ytfhajacihpmcnaa
open Go.ChangeShapes Go.WideShapes Go.ChangeAt Go.RowKit Go.Joins Go.Deep

theorem nodup_lenI : ∀ (l m : List Int), l.Nodup → (∀ e ∈ l, e ∈ m) → l.length ≤ m.length
  | [], _, _, _ => Nat.zero_le _
  | a :: l, m, hn, hs => by
    have hn' := List.nodup_cons.1 hn
    have ha := hs a (by simp)
    have h := nodup_lenI l (m.erase a) hn'.2 (fun e he => (List.mem_erase_of_ne (fun (h : e = a) => hn'.1 (h ▸ he))).2 (hs e (by simp [he])))
    rw [List.length_erase_of_mem ha] at h
    have : 0 < m.length := List.length_pos_of_mem ha
    simp
    omega

theorem nmFrom_good {n : Int} : ∀ (l pre : List Int), pre.Nodup → (nmFrom n pre l).1 = 0 → nmFrom n pre l = (0, 0) ∧ (∀ x ∈ l, isN n x = true) ∧ (pre ++ l).Nodup
  | [], pre, hp, _ => ⟨rfl, (fun x h => by cases h), by simpa using hp⟩
  | x :: r, pre, hp, h => by
    rw [nmFrom] at h ⊢
    by_cases hb : badN n pre x = 0
    · rw [if_pos hb] at h ⊢
      obtain ⟨h1, h2⟩ := badN_zero hb
      have hx : x ∉ pre := by simpa using h2
      have hp' : (pre ++ [x]).Nodup := by
        rw [List.nodup_append]
        refine ⟨hp, by simp, fun a ha b hb e => ?_⟩
        simp at hb
        subst hb
        exact hx (e ▸ ha)
      obtain ⟨g1, g2, g3⟩ := nmFrom_good r _ hp' h
      refine ⟨g1, fun y hy => ?_, by simpa using g3⟩
      rcases List.mem_cons.1 hy with rfl | hy
      · exact h1
      · exact g2 y hy
    · rw [if_neg hb] at h
      exact absurd h hb

theorem nm_good {m : Nat} {l : List Int} (h : (nmFrom m [] l).1 = 0) : nmFrom m [] l = (0, 0) ∧ (∀ x ∈ l, 0 ≤ x ∧ x < m) ∧ l.length ≤ m := by
  obtain ⟨h1, h2, h3⟩ := nmFrom_good l [] List.nodup_nil h
  refine ⟨h1, fun x hx => isN_in (h2 x hx), ?_⟩
  have := nodup_lenI l ((List.range m).map fun (j : Nat) => (j : Int)) (by simpa using h3) (fun x hx => by
    have := isN_in (h2 x hx)
    simp
    exact ⟨x.toNat, by omega, by omega⟩)
  simpa using this

theorem makes_any (n : Int) (ao no : Option Addr) (ca nc : Nat) (es : List Pair) (l : List Int) (w : World) (hE : EdgesAt w (.slice ao es.length ca) es) (hI : IntsAt w (.slice no l.length nc) l) (hca : es.length ≤ ca) (hlb : l.length * 8 ≤ 140737488351232) :
    Calls Try.prog 4 #[.agg #[.int .i64 n, .slice ao es.length ca], .slice no l.length nc] w fun e w' => e = .returned (.bool true) ∧ Below w.heap.size w w' := by
  by_cases hc0 : (chk n es).1 = 0
  · obtain ⟨hck, hn0, hn1, hl, hgood⟩ := chk_good hc0
    obtain ⟨m, rfl⟩ : ∃ m : Nat, n = m := ⟨n.toNat, by omega⟩
    have eA : complS m es = buildS m (fun u v => !hasB es u v) := by unfold complS; rw [if_pos hc0]; simp
    have eB : lineS m es = buildS (allP m (hasB es)).length (lineP (allP m (hasB es))) := by unfold lineS; rw [if_pos hc0]; simp
    by_cases hf0 : (nmFrom m [] l).1 = 0
    · obtain ⟨g1, g2, g3⟩ := nm_good hf0
      exact makes_walk m ao no ca nc es l w hE hI hca hlb (Or.inr ⟨rfl, rfl, m, rfl, by omega, hl, hgood, rfl, rfl, Or.inl ⟨hf0, by omega, g2, g1, rfl⟩⟩) hck eA eB (by unfold indS; rw [if_pos hc0, if_pos hf0])
    · exact makes_walk m ao no ca nc es l w hE hI hca hlb (Or.inr ⟨rfl, rfl, m, rfl, by omega, hl, hgood, rfl, rfl, Or.inr ⟨hf0, rfl⟩⟩) hck eA eB (by unfold indS; rw [if_pos hc0, if_neg hf0])
  · exact makes_walk n ao no ca nc es l w hE hI hca hlb (c := (chk n es).1) (d := (chk n es).2) (A := ⟨0, [], (chk n es).1, (chk n es).2⟩) (B := ⟨0, [], (chk n es).1, (chk n es).2⟩) (C := ⟨0, [], (chk n es).1, (chk n es).2⟩) (Or.inl ⟨hc0, rfl, rfl, rfl⟩) (by cases chk n es; rfl) (by unfold complS; rw [if_neg hc0]) (by unfold lineS; rw [if_neg hc0]) (by unfold indS; rw [if_neg hc0])

theorem Try.bytes3 : Try.prog.bytesOf 3 = 8 := by kernel_rfl

/-- Names that came in. -/
theorem open_names {H : Type} {enc : TypeId × Value → H} {W : World} {held : Bool} {r : Reach} {b0 : Nat} {v : Value} {d : DataW H} {p : List MemPlace} (hv : Value.okWide Try.prog W r b0 31 v) (h : DataW.Trod enc Try.prog W 0 (fun _ => true) held 31 v d p) (hw : ∀ k ∈ d.weights Try.prog 31, k ≤ reachBytes) :
    ∃ (ao : Option Addr) (cap : Nat) (l : List Int), v = .slice ao l.length cap ∧ l.length * 8 ≤ 140737488351232 ∧ IntsAt W (.slice ao l.length cap) l := by
  obtain ⟨a0, len, cap, rfl⟩ := okWide_slice Try.underlying31 hv
  obtain ⟨fuel, hf⟩ := h
  rcases open_ints Try.underlying31 Try.underlying3 Try.cells3 hf with ⟨hcs, hx⟩ | ⟨x, l', c', zs, hcs, _, hl, hm, hz, hx, hcell, hwz⟩
  · simp [Value.cells] at hcs
    obtain ⟨rfl, rfl, rfl⟩ := hcs
    exact ⟨none, 0, [], rfl, by simp, intsAt_nil _⟩
  · simp [Value.cells] at hcs
    obtain ⟨rfl, rfl, rfl⟩ := hcs
    have hzl : zs.length = cap := by simpa using hz
    have hlen : (zs.take len).length = len := by simp; omega
    have hb : len * 8 ≤ 140737488351232 := by
      have e : d = _ := congrArg Prod.fst hx
      have := hw (((zs.take len).length + (zs.drop len).length) * Try.prog.bytesOf 3) (by
        rw [e]
        simp [DataW.weights, Try.underlying31, lits])
      rw [Try.bytes3] at this
      simp only [reachBytes] at this
      omega
    refine ⟨some x, cap, zs.take len, by rw [hlen], by rw [hlen]; exact hb, some x, cap, by rw [hlen], by rw [hlen]; omega, ?_, ?_⟩
    · intro y hy
      exact I64.of_wf (hwz y (List.mem_of_mem_take hy))
    · intro k hk
      rw [hlen] at hk
      have h0 := hcell 0 (by omega)
      have hs := World.cell?_spot h0
      obtain ⟨b, off, spot⟩ := x
      have hspot : spot = none := by simpa [Addr.add] using hs
      subst hspot
      have hk2 := hcell k (by omega)
      rw [show (⟨b, off, none⟩ : Addr).add k = ⟨b, off + k, none⟩ from by unfold Addr.add; split <;> simp_all] at hk2
      refine ⟨b, off, rfl, ?_⟩
      rw [hk2]
      have : k < zs.length := by omega
      simp [this]

set_option maxRecDepth 100000 in
theorem makes_lifted (os : Os) (started : os.Started) (H : Type) (enc : TypeId × Value → H) :
    ReturnsInHanded {} Try.checked os 4 .any (Rows.graphMakesSpec.pre6 enc Try.prog Try.f4 Rows.graphMakesRow.domain false) (Rows.graphMakesSpec.post enc Try.prog Try.f4 false true false false) := by
  refine returnsInHanded_of_change_sized (C := Try.checked) Try.own started (by kernel_rfl) Try.func4
    (ChangeSpec.witness6 (enc := enc) (C := Try.checked) false ⟨#[], #[.agg #[.int .i64 0, .slice none 0 0], .slice none 0 0], []⟩ 8 (by kernel_rfl) (by kernel_rfl) (by kernel_rfl) (by kernel_rfl)) ?_
  intro W base args ds gs before hval0 hW hcnd hsz0 _
  have hval : ∀ (j : Nat) t v, Try.f4.params[j]? = some t → args[j]? = some v → Value.okWide Try.prog W .any base t v := hval0
  have hsz : (DataW.weightsEach Try.prog (Try.f4.params.toList ++ Rows.graphMakesSpec.plain.varTypes Try.prog) (ds ++ gs)).all (· ≤ reachBytes) = true := hsz0
  have hW' := hW
  obtain ⟨p, q, hA0, hV, rfl, hfz, hnd⟩ := hW
  have hA : DataW.TrodAll enc Try.prog W 0 (fun _ => true) true Try.f4.params.toList args.toList ds p := hA0
  rw [Try.params4] at hA hval hsz
  obtain ⟨v0, v1, d0, d1, p0, p1, rfl, rfl, rfl, h0, h1⟩ := trodAll_two hA
  obtain ⟨rfl, rfl⟩ := trodVars_none hV
  have lt0 : ∀ x ∈ p0, x.block < W.heap.size := by obtain ⟨m, hm⟩ := h0; exact DataW.trod_lt m _ _ _ hm
  have lt1 : ∀ x ∈ p1, x.block < W.heap.size := by obtain ⟨m, hm⟩ := h1; exact DataW.trod_lt m _ _ _ hm
  have hwt0 : ∀ k ∈ d0.weights Try.prog 24, k ≤ reachBytes := fun k hk => by
    have := List.all_eq_true.1 hsz k (DataW.weights_mem_each (j := 0) (t := 24) rfl rfl k hk)
    simpa using this
  have hwt1 : ∀ k ∈ d1.weights Try.prog 31, k ≤ reachBytes := fun k hk => by
    have := List.all_eq_true.1 hsz k (DataW.weights_mem_each (j := 1) (t := 31) rfl rfl k hk)
    simpa using this
  obtain ⟨n, ao, cap, es, rfl, hn, hcap, hE⟩ := open_graph (hval 0 24 v0 rfl rfl) h0 hwt0
  obtain ⟨no, nc, l, rfl, hlb, hI⟩ := open_names (hval 1 31 v1 rfl rfl) h1 hwt1
  clear hA0 hval0
  refine (makes_any n ao no cap nc es l W hE hI hcap hlb).mono fun e W' ⟨he, bel⟩ => ?_
  subst he
  exact ⟨_, rfl, _, _, _, [], _, [], hW', trodAll_mk1 (shut_bool Try.underlying4 _), trodAll_mk2 (Below.trod Try.laidOut (by kernel_rfl) (of_decide_eq_true (by kernel_rfl)) h0 bel lt0) (Below.trod Try.laidOut (by kernel_rfl) (of_decide_eq_true (by kernel_rfl)) h1 bel lt1), rfl, bel.frame _, fun h => by cases h⟩

/-- Whatever graph and list of names it is given, GraphMakes answers true and leaves them as they were. -/
theorem graphMakes_holds : Rows.GraphMakesSaid :=
  OpenClaim.holds_of_wide 4 Try.f4 rfl rfl rfl rfl rfl rfl rfl ⟨rfl, rfl, rfl, rfl, rfl⟩ rfl rfl rfl rfl rfl (by kernel_rfl) Try.func4 (by kernel_rfl)
    (of_decide_eq_true (by kernel_rfl)) (by unfold Func.isWrapper; first | (rw [if_pos (by decide +kernel)]; kernel_rfl) | (rw [if_neg (by decide +kernel)]; exact ⟨rfl, rfl⟩))
    (fun os started H enc _ => makes_lifted os started H enc)
end Go.Proofs.Ytfhajacihpmcnaa
