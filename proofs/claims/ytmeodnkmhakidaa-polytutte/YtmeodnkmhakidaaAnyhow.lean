/- A region that draws its order, by what each operation keeps. -/
import Derived.Test.YtmeodnkmhakidaaKitC
namespace Go.Proofs.Ytmeodnkmhakidaa
open Go.RowKit Go.Maps

section
variable {P : Program} {ops : Array Oper} {Q : Exit → Act → World → Prop}
/-- Each operation waits for earlier ones alone, as far as it must. -/
def lowB (ops : Array Oper) : Bool := (List.range ops.size).all fun i => ((ops[i]?).map fun o => o.after.all fun e => decide (e.on < i) || !Region.binds .any e).getD true
theorem low_of {ops : Array Oper} (h : lowB ops = true) {i : Nat} {o : Oper} (hi : ops[i]? = some o) : ∀ e ∈ o.after, Region.binds .any e = true → e.on < i := fun e he hb => by
  have hlt : i < ops.size := (Array.getElem?_eq_some_iff.1 hi).1
  have := List.all_eq_true.1 h i (List.mem_range.2 hlt)
  simp only [hi, Option.map_some, Option.getD_some, Array.all_eq_true_iff_forall_mem] at this
  have := this e he
  rw [hb] at this
  simpa using this
theorem getD_false {listed : Array Bool} {i : Nat} : listed.getD i true = false ↔ i < listed.size ∧ listed.getD i false = false := by
  by_cases h : i < listed.size <;> simp [Array.getD, h]
theorem ready_none {listed : Array Bool} (hlow : lowB ops = true) (hs : listed.size = ops.size) (h : Region.ready .any ops listed = []) : ∀ i, i < ops.size → listed.getD i false = true := by
  intro i
  induction i using Nat.strongRecOn with
  | _ i ih =>
    intro hi
    have ho : ops[i]? = some ops[i] := by simp [hi]
    cases hl : listed.getD i false with
    | true => rfl
    | false =>
      have : i ∈ Region.ready .any ops listed := mem_ready.2 ⟨getD_false.2 ⟨by omega, hl⟩, _, ho, fun e he hb => by
        have h1 := low_of hlow ho e he hb
        exact ih e.on h1 (by omega)⟩
      rw [h] at this; cases this
theorem count_set {l : List Bool} : ∀ {i : Nat}, l[i]? = some false → (l.set i true).count false + 1 = l.count false := by
  induction l with
  | nil => intro i h; simp at h
  | cons x l ih =>
    intro i h
    cases i with
    | zero => simp at h; subst h; simp
    | succ i =>
      simp at h
      have := ih (i := i) (by simpa using h)
      cases x <;> simp_all <;> omega
theorem wpAny_inv {I : Array Bool → Act → World → Prop} (hlow : lowB ops = true)
    (hstep : ∀ listed a w i, listed.size = ops.size → I listed a w → i ∈ Region.ready .any ops listed → wpOp P ops Q i (I (listed.setIfInBounds i true)) a w)
    (hend : ∀ listed a w, I listed a w → (∀ i, i < ops.size → listed.getD i false = true) → Q .normal a w) :
    ∀ fuel listed a w, listed.size = ops.size → listed.toList.count false ≤ fuel → I listed a w → wpAny P .any ops Q fuel listed a w
  | 0, listed, a, w, hs, hc, hI => by
    have hr : Region.ready .any ops listed = [] := by
      refine List.eq_nil_iff_forall_not_mem.2 fun i hi => ?_
      obtain ⟨h1, h2⟩ := getD_false.1 (mem_ready.1 hi).1
      have h3 : false ∈ listed.toList := by
        rw [Array.getD, dif_pos h1] at h2
        have h2' : listed[i] = false := h2
        rw [← h2']; simp
      have := List.count_pos_iff.2 h3
      omega
    exact ⟨hr, hend _ _ _ hI (ready_none hlow hs hr)⟩
  | fuel + 1, listed, a, w, hs, hc, hI => by
    refine ⟨fun hr => hend _ _ _ hI (ready_none hlow hs hr), fun i hi => ?_⟩
    refine wpOp_mono (fun a' w' h' => ?_) (hstep listed a w i hs hI hi)
    refine wpAny_inv hlow hstep hend fuel _ a' w' (by simpa using hs) ?_ h'
    obtain ⟨h1, h2⟩ := getD_false.1 (mem_ready.1 hi).1
    have h3 : listed.toList[i]? = some false := by
      rw [Array.getD, dif_pos h1] at h2
      have h2' : listed[i] = false := h2
      simp [h1, h2']
    have := count_set h3
    rw [Array.toList_setIfInBounds]
    omega
/-- What has been done, and i. -/
def also (L : Nat → Bool) (i : Nat) : Nat → Bool := fun j => j == i || L j
theorem also_self (L : Nat → Bool) (i : Nat) : also L i i = true := by simp [also]
theorem also_of {L : Nat → Bool} {j : Nat} (h : L j = true) (i : Nat) : also L i j = true := by simp [also, h]
theorem also_ne {L : Nat → Bool} {i j : Nat} (h : also L i j = true) (hne : j ≠ i) : L j = true := by simpa [also, hne] using h
/-- A region that draws: what holds at its start and is kept by each operation, whatever has been done, holds at its end. -/
theorem region_inv {id : Nat} {a : Act} {w : World} {J : (Nat → Bool) → Act → World → Prop} (hm : P.follows .mixedOrders = true) (hlow : lowB ops = true)
    (h0 : J (fun _ => false) a w.drew)
    (hstep : ∀ i o, ops[i]? = some o → ∀ L a w, J L a w → L i = false → (∀ e ∈ o.after, Region.binds .any e = true → L e.on = true) → wpOp P ops Q i (J (also L i)) a w)
    (hend : ∀ L a w, J L a w → (∀ i, i < ops.size → L i = true) → Q .normal a w) : (Code.region id ops true).wp P Q a w := by
  refine wp_region_any hm (wpAny_inv (I := fun listed a w => J (fun i => listed.getD i false) a w) hlow (fun listed a w i hs hJ hi => ?_) (fun listed a w hJ hall => hend _ a w hJ hall) _ _ _ _ (by simp) ?_ ?_)
  · obtain ⟨h1, o, ho, hall⟩ := mem_ready.1 hi
    obtain ⟨h2, h3⟩ := getD_false.1 h1
    refine wpOp_mono (fun a' w' h' => ?_) (hstep i o ho _ a w hJ h3 hall)
    have e : (fun j => (listed.setIfInBounds i true).getD j false) = also (fun j => listed.getD j false) i := by
      funext j
      unfold also
      by_cases hj : j = i
      · subst hj; simp [Array.getD, h2]
      · have : (j == i) = false := by simp [hj]
        rw [this, Bool.false_or]
        simp only [Array.getD, Array.size_setIfInBounds]
        by_cases h : j < listed.size
        · simp only [h, dif_pos]
          exact Array.getElem_setIfInBounds_ne h (fun e => hj e.symm)
        · simp [h]
    rw [e]; exact h'
  · refine Nat.le_trans (List.count_le_length) (by simp)
  · have e : (fun i => (Array.replicate ops.size false).getD i false) = fun _ => false := by
      funext j
      simp [Array.getD]
    rw [e]; exact h0
theorem wpOp_value {i : Nat} {o : Oper} {a : Act} {w w' : World} {v : Value} {K : Act → World → Prop} (hi : ops[i]? = some o) (hw : Region.wanted o (yielded ops a.tmps) = true)
    (hr : (execOp a.eval o).run P w = .ok (.value v) w') (h : K (a.put o.dst v) w') : wpOp P ops Q i K a w := by
  unfold wpOp
  simp only [hi, hw, if_true, Oper.wp, hr, Oper.upon]
  exact .inl h
theorem wpOp_skip {i : Nat} {o : Oper} {a : Act} {w w' : World} {K : Act → World → Prop} (hi : ops[i]? = some o) (hw : Region.wanted o (yielded ops a.tmps) = true)
    (hr : (execOp a.eval o).run P w = .ok .skip w') (h : K (a.put o.dst undef) w') : wpOp P ops Q i K a w := by
  unfold wpOp
  simp only [hi, hw, if_true, Oper.wp, hr, Oper.upon]
  exact .inl h
theorem wpOp_call {i : Nat} {o : Oper} {a : Act} {w w' : World} {f : FuncId} {args : Array Value} {K : Act → World → Prop} (hi : ops[i]? = some o) (hw : Region.wanted o (yielded ops a.tmps) = true)
    (hr : (execOp a.eval o).run P w = .ok (.enter f args) w') (h : Calls P f args w' fun e w'' => ∃ v, e = .returned v ∧ K (a.put o.dst v) w'') : wpOp P ops Q i K a w := by
  unfold wpOp
  simp only [hi, hw, if_true, Oper.wp, hr, Oper.upon]
  refine .inl (h.mono ?_)
  rintro e w'' ⟨v, rfl, hk⟩
  exact hk
end
end Go.Proofs.Ytmeodnkmhakidaa
