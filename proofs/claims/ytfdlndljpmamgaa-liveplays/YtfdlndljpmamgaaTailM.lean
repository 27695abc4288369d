/- A region that draws its order, whose own operations only read, and whose callees leave what is below: one walk, in the text's order. A region that draws its order, by what each operation keeps. A region that draws its order: operations that only read, in any order, and behind them all operations that come one after the other. The same, where an operation waits for those ahead of it by way of others. -/
import Derived.BigQuiet
import Derived.Shelf.SlSortCmp.QuietGrown
import Derived.Test.YtfdlndljpmamgaaKitC
namespace Go.Proofs.Ytfdlndljpmamgaa
open Go.RowKit Go.Maps
abbrev GrB := GrownBy
/-- w after some draws, with some blocks behind it. -/
def growD (w : World) (p : GrB) : World := { w with heap := w.heap ++ p.os, drawn := p.n }
theorem growD_below (w : World) (p : GrB) : Below w.heap.size w (growD w p) :=
  ⟨rfl, rfl, rfl, by simp [growD], fun k hk => by simp [growD, Array.getElem?_append_left hk]⟩
theorem growD_of {w w' : World} (h : Below w.heap.size w w') : ∃ p : GrB, w' = growD w p := by
  refine ⟨⟨w'.drawn, w'.heap.extract w.heap.size w'.heap.size⟩, ?_⟩
  have hh : w'.heap = w.heap ++ w'.heap.extract w.heap.size w'.heap.size := by
    refine Array.ext_getElem? fun k => ?_
    by_cases hk : k < w.heap.size
    · rw [Array.getElem?_append_left hk, h.block k hk]
    · rw [Array.getElem?_append_right (by omega), Array.getElem?_extract]
      by_cases hk2 : k < w'.heap.size
      · rw [if_pos (by have := h.size; omega)]
        congr 1
        omega
      · rw [if_neg (by have := h.size; omega), Array.getElem?_eq_none (by omega)]
  obtain ⟨h1, h2, h3, h4, h5⟩ := w'
  have e1 := h.os
  have e2 := h.tape
  have e3 := h.output
  simp only at hh e1 e2 e3
  simp only [growD, World.mk.injEq]
  exact ⟨hh, e2, trivial, e1, e3⟩
theorem wp_region_below {P : Program} {id : Nat} {Q : Exit → Act → World → Prop} {a : Act} {w : World} {l : List Oper} (hm : P.follows .mixedOrders = true) (hB : Region.lexB .any l.toArray = true)
    (h : wpQuiet P l.toArray (fun w' => ∃ p : GrB, w' = growD w p) (fun a' => ∀ w', (∃ p : GrB, w' = growD w p) → Q .normal a' w') l a) : (Code.region id l.toArray true).wp P Q a w :=
  wp_region_quiet (C := fun w' => ∃ p : GrB, w' = growD w p) hm hB (growD_of ((Below.refl _ w).drew)) (by simpa using h)
theorem Calls.belowQ {P : Program} {f : FuncId} {args : Array Value} {w : World} {p : GrB} {v : Value} (h : ∀ W, Below w.heap.size w W → Calls P f args W fun e w' => e = .returned v ∧ Below W.heap.size W w') : Calls P f args (growD w p) fun e w'' => e = .returned v ∧ ∃ p' : GrB, w'' = growD w p' :=
  (h _ (growD_below w p)).mono fun _ _ ⟨he, hb⟩ => ⟨he, growD_of (below_next (growD_below w p) hb)⟩
theorem cell_growD {w : World} {a : Addr} {v : Value} (h : w.cell? a = some v) (p : GrB) : (growD w p).cell? a = some v := by
  rw [(growD_below w p).cell (World.block_lt_of_cell? w _ h)]; exact h
end Go.Proofs.Ytfdlndljpmamgaa

namespace Go.Proofs.Ytfdlndljpmamgaa
open Go.RowKit Go.Maps

section
variable {P : Program} {ops : Array Oper} {Q : Exit → Act → World → Prop}
/-- Each operation waits for earlier ones alone, as far as it must. -/
def lowB (ops : Array Oper) : Bool := (List.range ops.size).all fun i => ((ops[i]?).map fun o => o.after.all fun e => decide (e.on < i) || !Region.binds .any e).getD true
theorem low_of {ops : Array Oper} (h : lowB ops = true) {i : Nat} {o : Oper} (hi : ops[i]? = some o) : ∀ e ∈ o.after, Region.binds .any e = true → e.on < i := fun e he hb => by
  have hlt : i < ops.size := (Array.getElem?_eq_some_iff.1 hi).1
  have := List.all_eq_true.1 h i (List.mem_range.2 hlt)
  simp only [hi, Option.map_some, Option.getD_some, Array.all_eq_true_iff_forall_mem] at this
  have := this e he
  rw [hb] at this
  simpa using this
theorem getD_false {listed : Array Bool} {i : Nat} : listed.getD i true = false ↔ i < listed.size ∧ listed.getD i false = false := by
  by_cases h : i < listed.size <;> simp [Array.getD, h]
theorem ready_none {listed : Array Bool} (hlow : lowB ops = true) (hs : listed.size = ops.size) (h : Region.ready .any ops listed = []) : ∀ i, i < ops.size → listed.getD i false = true := by
  intro i
  induction i using Nat.strongRecOn with
  | _ i ih =>
    intro hi
    have ho : ops[i]? = some ops[i] := by simp [hi]
    cases hl : listed.getD i false with
    | true => rfl
    | false =>
      have : i ∈ Region.ready .any ops listed := mem_ready.2 ⟨getD_false.2 ⟨by omega, hl⟩, _, ho, fun e he hb => by
        have h1 := low_of hlow ho e he hb
        exact ih e.on h1 (by omega)⟩
      rw [h] at this; cases this
theorem count_set {l : List Bool} : ∀ {i : Nat}, l[i]? = some false → (l.set i true).count false + 1 = l.count false := by
  induction l with
  | nil => intro i h; simp at h
  | cons x l ih =>
    intro i h
    cases i with
    | zero => simp at h; subst h; simp
    | succ i =>
      simp at h
      have := ih (i := i) (by simpa using h)
      cases x <;> simp_all <;> omega
theorem wpAny_inv {I : Array Bool → Act → World → Prop} (hlow : lowB ops = true)
    (hstep : ∀ listed a w i, listed.size = ops.size → I listed a w → i ∈ Region.ready .any ops listed → wpOp P ops Q i (I (listed.setIfInBounds i true)) a w)
    (hend : ∀ listed a w, I listed a w → (∀ i, i < ops.size → listed.getD i false = true) → Q .normal a w) :
    ∀ fuel listed a w, listed.size = ops.size → listed.toList.count false ≤ fuel → I listed a w → wpAny P .any ops Q fuel listed a w
  | 0, listed, a, w, hs, hc, hI => by
    have hr : Region.ready .any ops listed = [] := by
      refine List.eq_nil_iff_forall_not_mem.2 fun i hi => ?_
      obtain ⟨h1, h2⟩ := getD_false.1 (mem_ready.1 hi).1
      have h3 : false ∈ listed.toList := by
        rw [Array.getD, dif_pos h1] at h2
        have h2' : listed[i] = false := h2
        rw [← h2']; simp
      have := List.count_pos_iff.2 h3
      omega
    exact ⟨hr, hend _ _ _ hI (ready_none hlow hs hr)⟩
  | fuel + 1, listed, a, w, hs, hc, hI => by
    refine ⟨fun hr => hend _ _ _ hI (ready_none hlow hs hr), fun i hi => ?_⟩
    refine wpOp_mono (fun a' w' h' => ?_) (hstep listed a w i hs hI hi)
    refine wpAny_inv hlow hstep hend fuel _ a' w' (by simpa using hs) ?_ h'
    obtain ⟨h1, h2⟩ := getD_false.1 (mem_ready.1 hi).1
    have h3 : listed.toList[i]? = some false := by
      rw [Array.getD, dif_pos h1] at h2
      have h2' : listed[i] = false := h2
      simp [h1, h2']
    have := count_set h3
    rw [Array.toList_setIfInBounds]
    omega
/-- What has been done, and i. -/
def also (L : Nat → Bool) (i : Nat) : Nat → Bool := fun j => j == i || L j
theorem also_self (L : Nat → Bool) (i : Nat) : also L i i = true := by simp [also]
theorem also_of {L : Nat → Bool} {j : Nat} (h : L j = true) (i : Nat) : also L i j = true := by simp [also, h]
theorem also_ne {L : Nat → Bool} {i j : Nat} (h : also L i j = true) (hne : j ≠ i) : L j = true := by simpa [also, hne] using h
/-- A region that draws: what holds at its start and is kept by each operation, whatever has been done, holds at its end. -/
theorem region_inv {id : Nat} {a : Act} {w : World} {J : (Nat → Bool) → Act → World → Prop} (hm : P.follows .mixedOrders = true) (hlow : lowB ops = true)
    (h0 : J (fun _ => false) a w.drew)
    (hstep : ∀ i o, ops[i]? = some o → ∀ L a w, J L a w → L i = false → (∀ e ∈ o.after, Region.binds .any e = true → L e.on = true) → wpOp P ops Q i (J (also L i)) a w)
    (hend : ∀ L a w, J L a w → (∀ i, i < ops.size → L i = true) → Q .normal a w) : (Code.region id ops true).wp P Q a w := by
  refine wp_region_any hm (wpAny_inv (I := fun listed a w => J (fun i => listed.getD i false) a w) hlow (fun listed a w i hs hJ hi => ?_) (fun listed a w hJ hall => hend _ a w hJ hall) _ _ _ _ (by simp) ?_ ?_)
  · obtain ⟨h1, o, ho, hall⟩ := mem_ready.1 hi
    obtain ⟨h2, h3⟩ := getD_false.1 h1
    refine wpOp_mono (fun a' w' h' => ?_) (hstep i o ho _ a w hJ h3 hall)
    have e : (fun j => (listed.setIfInBounds i true).getD j false) = also (fun j => listed.getD j false) i := by
      funext j
      unfold also
      by_cases hj : j = i
      · subst hj; simp [Array.getD, h2]
      · have : (j == i) = false := by simp [hj]
        rw [this, Bool.false_or]
        simp only [Array.getD, Array.size_setIfInBounds]
        by_cases h : j < listed.size
        · simp only [h, dif_pos]
          exact Array.getElem_setIfInBounds_ne h (fun e => hj e.symm)
        · simp [h]
    rw [e]; exact h'
  · refine Nat.le_trans (List.count_le_length) (by simp)
  · have e : (fun i => (Array.replicate ops.size false).getD i false) = fun _ => false := by
      funext j
      simp [Array.getD]
    rw [e]; exact h0
theorem wpOp_value {i : Nat} {o : Oper} {a : Act} {w w' : World} {v : Value} {K : Act → World → Prop} (hi : ops[i]? = some o) (hw : Region.wanted o (yielded ops a.tmps) = true)
    (hr : (execOp a.eval o).run P w = .ok (.value v) w') (h : K (a.put o.dst v) w') : wpOp P ops Q i K a w := by
  unfold wpOp
  simp only [hi, hw, if_true, Oper.wp, hr, Oper.upon]
  exact .inl h
theorem wpOp_skip {i : Nat} {o : Oper} {a : Act} {w w' : World} {K : Act → World → Prop} (hi : ops[i]? = some o) (hw : Region.wanted o (yielded ops a.tmps) = true)
    (hr : (execOp a.eval o).run P w = .ok .skip w') (h : K (a.put o.dst undef) w') : wpOp P ops Q i K a w := by
  unfold wpOp
  simp only [hi, hw, if_true, Oper.wp, hr, Oper.upon]
  exact .inl h
theorem wpOp_call {i : Nat} {o : Oper} {a : Act} {w w' : World} {f : FuncId} {args : Array Value} {K : Act → World → Prop} (hi : ops[i]? = some o) (hw : Region.wanted o (yielded ops a.tmps) = true)
    (hr : (execOp a.eval o).run P w = .ok (.enter f args) w') (h : Calls P f args w' fun e w'' => ∃ v, e = .returned v ∧ K (a.put o.dst v) w'') : wpOp P ops Q i K a w := by
  unfold wpOp
  simp only [hi, hw, if_true, Oper.wp, hr, Oper.upon]
  refine .inl (h.mono ?_)
  rintro e w'' ⟨v, rfl, hk⟩
  exact hk
end
end Go.Proofs.Ytfdlndljpmamgaa

namespace Go.Proofs.Ytfdlndljpmamgaa
open Go.RowKit Go.Maps
section
variable {P : Program} {Q : Exit → Act → World → Prop}
/-- No guards; each operation from k on waits for all ahead of it; none waits for a later one. -/
def tailB (l : List Oper) (k : Nat) : Bool := l.all (fun o => o.guard.isNone) && lowB l.toArray && (List.range l.length).all fun j => decide (j < k) || ((l[j]?).map fun o => (List.range j).all fun i => o.after.any fun e => decide (e.on = i) && Region.binds .any e).getD true
theorem tail_guard {l : List Oper} {k j : Nat} {o : Oper} (h : tailB l k = true) (hj : l[j]? = some o) : o.guard = none := by
  simp only [tailB, Bool.and_eq_true] at h
  have := List.all_eq_true.1 h.1.1 o (List.mem_of_getElem? hj)
  simpa using this
theorem tail_waits {l : List Oper} {k j i : Nat} {o : Oper} (h : tailB l k = true) (hj : l[j]? = some o) (hk : k ≤ j) (hi : i < j) : ∃ e ∈ o.after, e.on = i ∧ Region.binds .any e = true := by
  simp only [tailB, Bool.and_eq_true] at h
  have := List.all_eq_true.1 h.2 j (List.mem_range.2 (List.getElem?_eq_some_iff.1 hj).1)
  simp only [hj, Option.map_some, Option.getD_some, Bool.or_eq_true, decide_eq_true_eq] at this
  rcases this with h1 | h1
  · omega
  · have := List.all_eq_true.1 h1 i (List.mem_range.2 hi)
    obtain ⟨e, he, h2⟩ := Array.any_eq_true'.1 this
    simp only [Bool.and_eq_true, decide_eq_true_eq] at h2
    exact ⟨e, he, h2.1, h2.2⟩
theorem tail_low {l : List Oper} {k : Nat} (h : tailB l k = true) : lowB l.toArray = true := by
  simp only [tailB, Bool.and_eq_true] at h
  exact h.1.2
theorem wanted_none {o : Oper} (h : o.guard = none) (f : Nat → Option Bool) : Region.wanted o f = true := by simp [Region.wanted, h]
/-- The operations that come one after the other. -/
theorem wpAny_post {l : List Oper} {k0 : Nat} (ht : tailB l k0 = true) : ∀ (fuel k : Nat) (listed : Array Bool) (a : Act) (w : World), k0 ≤ k → k ≤ l.length → l.length - k ≤ fuel → listed.size = l.length → (∀ i, i < l.length → listed.getD i false = decide (i < k)) →
    wpList P l.toArray Q (l.drop k) a w → wpAny P .any l.toArray Q fuel listed a w := by
  intro fuel
  induction fuel with
  | zero =>
    intro k listed a w hk0 hk hf hs hl h
    have e : k = l.length := by omega
    subst e
    rw [List.drop_length] at h
    refine ⟨?_, h⟩
    refine List.eq_nil_iff_forall_not_mem.2 fun i hi => ?_
    obtain ⟨h1, o, ho, _⟩ := mem_ready.1 hi
    obtain ⟨h2, h3⟩ := getD_false.1 h1
    rw [hl i (by omega)] at h3
    have := of_decide_eq_false h3
    omega
  | succ fuel ih =>
    intro k listed a w hk0 hk hf hs hl h
    by_cases e : k = l.length
    · subst e
      rw [List.drop_length] at h
      refine ⟨fun _ => h, fun i hi => ?_⟩
      obtain ⟨h1, o, ho, _⟩ := mem_ready.1 hi
      obtain ⟨h2, h3⟩ := getD_false.1 h1
      rw [hl i (by omega)] at h3
      have := of_decide_eq_false h3
      omega
    · have hkl : k < l.length := by omega
      have hk? : l[k]? = some l[k] := List.getElem?_eq_getElem hkl
      have hkr : k ∈ Region.ready .any l.toArray listed := mem_ready.2 ⟨getD_false.2 ⟨by omega, by rw [hl k hkl]; simp⟩, l[k], by simp [hkl], fun e he hb => by
        have := low_of (tail_low ht) (i := k) (by simp [hkl]) e he hb
        rw [hl e.on (by omega)]; simpa using this⟩
      refine ⟨fun h0 => (by rw [h0] at hkr; cases hkr), fun i hi => ?_⟩
      have hik : i = k := by
        obtain ⟨h1, o, ho, hall⟩ := mem_ready.1 hi
        obtain ⟨h2, h3⟩ := getD_false.1 h1
        rw [hl i (by omega)] at h3
        have h4 := of_decide_eq_false h3
        rcases Nat.lt_or_ge k i with h5 | h5
        · obtain ⟨e, he, e1, e2⟩ := tail_waits ht (j := i) (o := o) (by simpa using ho) (by omega) h5
          have := hall e he e2
          rw [e1, hl k hkl] at this
          simp at this
        · omega
      subst hik
      rw [List.drop_eq_getElem_cons hkl] at h
      unfold wpList at h
      unfold wpOp
      have hko : l.toArray[i]? = some l[i] := by simp [hkl]
      simp only [hko]
      have hw := wanted_none (tail_guard ht hk?) (yielded l.toArray a.tmps)
      rw [if_pos hw] at h ⊢
      have key : ∀ a' w', wpList P l.toArray Q (l.drop (i + 1)) a' w' → wpAny P .any l.toArray Q fuel (listed.setIfInBounds i true) a' w' := fun a' w' h' =>
        ih (i + 1) _ a' w' (by omega) (by omega) (by omega) (by simpa using hs) (fun j hj => by
          simp only [Array.getD, Array.size_setIfInBounds, hs, hj, dif_pos]
          by_cases hji : j = i
          · subst hji
            simp
          · have hx := hl j hj
            simp only [Array.getD, hs, hj, dif_pos] at hx
            have hy : (listed.setIfInBounds i true)[j]'(by simp [hs, hj]) = listed[j]'(by omega) := Array.getElem_setIfInBounds_ne (by omega) (fun e => hji e.symm)
            refine Eq.trans hy (hx.trans ?_)
            rw [decide_eq_decide]; omega) h'
      rcases h with h | h
      · exact Or.inl (Oper.wp_mono key h)
      · exact Or.inr h
theorem wpAny_pre {l : List Oper} {k : Nat} {C : World → Prop} (ht : tailB l k = true) (hk : k ≤ l.length) : ∀ (f : Nat) (listed1 : Array Bool) (a : Act) (w : World), listed1.size = k → C w →
    wpAnyQ P .any (l.take k).toArray C (fun a' => ∀ w', C w' → wpList P l.toArray Q (l.drop k) a' w') f listed1 a →
    wpAny P .any l.toArray Q (f + (l.length - k)) (listed1 ++ Array.replicate (l.length - k) false) a w := by
  have hlow : lowB (l.take k).toArray = true := by
    have h := tail_low ht
    unfold lowB at h ⊢
    rw [List.all_eq_true] at h ⊢
    intro i hi
    have hi' : i < k := by
      have := List.mem_range.1 hi
      simp at this; omega
    have := h i (List.mem_range.2 (by simp; omega))
    simpa [List.getElem?_take, hi'] using this
  have hall : ∀ (listed1 : Array Bool), listed1.size = k → Region.ready .any (l.take k).toArray listed1 = [] → ∀ i, i < k → listed1.getD i false = true := fun listed1 hs h i hi =>
    ready_none hlow (by simp [hs]; omega) h i (by simp; omega)
  have hget : ∀ (listed1 : Array Bool), listed1.size = k → ∀ i d, (listed1 ++ Array.replicate (l.length - k) false).getD i d = if i < k then listed1.getD i d else if i < l.length then false else d := fun listed1 hs i d => by
    simp only [Array.getD_eq_getD_getElem?]
    by_cases hi : i < k
    · rw [if_pos hi, Array.getElem?_append_left (by omega)]
    · rw [if_neg hi, Array.getElem?_append_right (by omega), Array.getElem?_replicate]
      by_cases h2 : i < l.length
      · rw [if_pos h2, if_pos (by omega)]; rfl
      · rw [if_neg h2, if_neg (by omega)]; rfl
  have hend : ∀ (f : Nat) (listed1 : Array Bool) (a : Act) (w : World), listed1.size = k → C w → Region.ready .any (l.take k).toArray listed1 = [] → (∀ w', C w' → wpList P l.toArray Q (l.drop k) a w') → wpAny P .any l.toArray Q (f + (l.length - k)) (listed1 ++ Array.replicate (l.length - k) false) a w := fun f listed1 a w hs hw h0 h =>
    wpAny_post ht _ k _ a w (Nat.le_refl _) hk (by omega) (by simp [hs]; omega) (fun i hi => by
      rw [hget listed1 hs]
      by_cases h2 : i < k
      · rw [if_pos h2, hall listed1 hs h0 i h2]; simp [h2]
      · rw [if_neg h2, if_pos hi]; simp [h2]) (h w hw)
  intro f
  induction f with
  | zero => intro listed1 a w hs hw h; exact hend 0 listed1 a w hs hw h.1 h.2
  | succ f ih =>
    intro listed1 a w hs hw h
    by_cases h0 : Region.ready .any (l.take k).toArray listed1 = []
    · exact hend (f + 1) listed1 a w hs hw h0 (h.1 h0)
    · obtain ⟨i0, hi0⟩ := List.exists_mem_of_ne_nil _ h0
      have hsub : ∀ j, j ∈ Region.ready .any l.toArray (listed1 ++ Array.replicate (l.length - k) false) → j ∈ Region.ready .any (l.take k).toArray listed1 := by
        intro j hj
        obtain ⟨h1, o, ho, hq⟩ := mem_ready.1 hj
        have hjl : j < l.length := by simpa using (Array.getElem?_eq_some_iff.1 ho).1
        have hjk : j < k := by
          rcases Nat.lt_or_ge j k with h2 | h2
          · exact h2
          · obtain ⟨h3, o', ho', _⟩ := mem_ready.1 hi0
            have hi0k : i0 < k := by
              have := (Array.getElem?_eq_some_iff.1 ho').1
              simp at this; omega
            obtain ⟨e, he, e1, e2⟩ := tail_waits ht (j := j) (o := o) (by simpa using ho) h2 (i := i0) (by omega)
            have := hq e he e2
            rw [e1, hget listed1 hs, if_pos hi0k] at this
            rw [(getD_false.1 h3).2] at this
            cases this
        refine mem_ready.2 ⟨?_, o, ?_, fun e he hb => ?_⟩
        · rw [hget listed1 hs, if_pos hjk] at h1; exact h1
        · have : l[j]? = some o := by simpa using ho
          simp [hjk, this]
        · have h3 := hq e he hb
          have h4 := low_of (tail_low ht) ho e he hb
          rw [hget listed1 hs, if_pos (by omega)] at h3
          exact h3
      have hsup : i0 ∈ Region.ready .any l.toArray (listed1 ++ Array.replicate (l.length - k) false) := by
        obtain ⟨h1, o, ho, hq⟩ := mem_ready.1 hi0
        have hik : i0 < k := by
          have := (Array.getElem?_eq_some_iff.1 ho).1
          simp at this; omega
        refine mem_ready.2 ⟨by rw [hget listed1 hs, if_pos hik]; exact h1, o, ?_, fun e he hb => ?_⟩
        · simpa [List.getElem?_take, hik] using ho
        · have h4 := low_of hlow ho e he hb
          rw [hget listed1 hs, if_pos (by omega)]
          exact hq e he hb
      rw [show f + 1 + (l.length - k) = f + (l.length - k) + 1 by omega]
      refine ⟨fun he => (by rw [he] at hsup; cases hsup), fun i hi => ?_⟩
      have hi1 := hsub i hi
      have hq := h.2 i hi1
      obtain ⟨_, o, ho, _⟩ := mem_ready.1 hi1
      have hik : i < k := by
        have := (Array.getElem?_eq_some_iff.1 ho).1
        simp at this; omega
      have hol : l[i]? = some o := by simpa [List.getElem?_take, hik] using ho
      unfold qOp at hq
      simp only [ho] at hq
      unfold wpOp
      simp only [show l.toArray[i]? = some o by simpa using hol]
      rw [if_pos (wanted_none (tail_guard ht hol) _)] at hq ⊢
      refine Or.inl (Oper.wp_of_quiet hw (fun a' w' hw' h' => ?_) hq)
      have := ih (listed1.setIfInBounds i true) a' w' (by simpa using hs) hw' h'
      have e : (listed1 ++ Array.replicate (l.length - k) false).setIfInBounds i true = listed1.setIfInBounds i true ++ Array.replicate (l.length - k) false := by
        rw [Array.setIfInBounds_append_left (by omega)]
      rw [e]; exact this
theorem wp_region_tail (k : Nat) {id : Nat} {a : Act} {w : World} {l : List Oper} (hm : P.follows .mixedOrders = true) (hB : Region.lexB .any (l.take k).toArray = true) (ht : tailB l k = true) (hk : k ≤ l.length)
    (h : wpQuiet P (l.take k).toArray (fun w' => ∃ p : GrB, w' = growD w p) (fun a' => ∀ w', (∃ p : GrB, w' = growD w p) → wpList P l.toArray Q (l.drop k) a' w') (l.take k) a) : (Code.region id l.toArray true).wp P Q a w := by
  simp only [Region.lexB, Bool.and_eq_true] at hB
  refine wp_region_any hm ?_
  have h1 := wpAnyQ_lex (C := fun w' => ∃ p : GrB, w' = growD w p) (md := .any) hB.1 (l.take k) 0 (Array.replicate (l.take k).toArray.size false) a (by simp) (by simpa using hB.2) h
  have hlk : (l.take k).length = k := by rw [List.length_take]; omega
  have hsz : (l.take k).toArray.size = k := by rw [List.size_toArray]; exact hlk
  rw [hsz] at h1
  have := wpAny_pre (Q := Q) (C := fun w' => ∃ p : GrB, w' = growD w p) ht hk (l.take k).length (Array.replicate k false) a w.drew (by simp) (growD_of ((Below.refl _ w).drew)) h1
  rw [hlk, show k + (l.length - k) = l.length by omega] at this
  have e : Array.replicate k false ++ Array.replicate (l.length - k) false = Array.replicate l.toArray.size false := by
    rw [Array.replicate_append_replicate]
    congr 1
    simp; omega
  rw [e] at this
  simpa using this
end
end Go.Proofs.Ytfdlndljpmamgaa

namespace Go.Proofs.Ytfdlndljpmamgaa
open Go.RowKit Go.Maps
section
variable {P : Program} {Q : Exit → Act → World → Prop}
/-- Operation j waits for operation i, by way of others or not. -/
def reachB (l : List Oper) : Nat → Nat → Nat → Bool
  | 0, _, _ => false
  | f + 1, j, i => ((l[j]?).map fun o => o.after.any fun e => Region.binds .any e && (decide (e.on = i) || reachB l f e.on i)).getD false
/-- No guards; each operation from k on waits for all ahead of it; none waits for a later one. -/
def tailT (l : List Oper) (k : Nat) : Bool := l.all (fun o => o.guard.isNone) && lowB l.toArray && (List.range l.length).all fun j => decide (j < k) || (List.range j).all fun i => reachB l l.length j i
theorem tailT_guard {l : List Oper} {k j : Nat} {o : Oper} (h : tailT l k = true) (hj : l[j]? = some o) : o.guard = none := by
  simp only [tailT, Bool.and_eq_true] at h
  have := List.all_eq_true.1 h.1.1 o (List.mem_of_getElem? hj)
  simpa using this
theorem tailT_waits {l : List Oper} {k j i : Nat} (h : tailT l k = true) (hj : j < l.length) (hk : k ≤ j) (hi : i < j) : reachB l l.length j i = true := by
  simp only [tailT, Bool.and_eq_true] at h
  have := List.all_eq_true.1 h.2 j (List.mem_range.2 hj)
  simp only [Bool.or_eq_true, decide_eq_true_eq] at this
  rcases this with h1 | h1
  · omega
  · exact List.all_eq_true.1 h1 i (List.mem_range.2 hi)
theorem reach_done {l : List Oper} {listed : Nat → Bool} (hdc : ∀ p o, l[p]? = some o → listed p = true → ∀ e ∈ o.after, Region.binds .any e = true → listed e.on = true) : ∀ (f j i : Nat) (o : Oper), l[j]? = some o → (∀ e ∈ o.after, Region.binds .any e = true → listed e.on = true) → reachB l f j i = true → listed i = true
  | 0, _, _, _, _, _, h => by simp [reachB] at h
  | f + 1, j, i, o, hj, ho, h => by
    simp only [reachB, hj, Option.map_some, Option.getD_some] at h
    obtain ⟨e, he, h2⟩ := Array.any_eq_true'.1 h
    simp only [Bool.and_eq_true, Bool.or_eq_true, decide_eq_true_eq] at h2
    obtain ⟨hb, h3⟩ := h2
    rcases h3 with h3 | h3
    · rw [← h3]; exact ho e he hb
    · cases f with
      | zero => simp [reachB] at h3
      | succ f =>
        cases hl : l[e.on]? with
        | none => simp [reachB, hl] at h3
        | some o' => exact reach_done hdc (f + 1) e.on i o' hl (hdc e.on o' hl (ho e he hb)) h3
theorem tailT_low {l : List Oper} {k : Nat} (h : tailT l k = true) : lowB l.toArray = true := by
  simp only [tailT, Bool.and_eq_true] at h
  exact h.1.2
/-- The operations that come one after the other. -/
theorem wpAny_postT {l : List Oper} {k0 : Nat} (ht : tailT l k0 = true) : ∀ (fuel k : Nat) (listed : Array Bool) (a : Act) (w : World), k0 ≤ k → k ≤ l.length → l.length - k ≤ fuel → listed.size = l.length → (∀ i, i < l.length → listed.getD i false = decide (i < k)) →
    wpList P l.toArray Q (l.drop k) a w → wpAny P .any l.toArray Q fuel listed a w := by
  intro fuel
  induction fuel with
  | zero =>
    intro k listed a w hk0 hk hf hs hl h
    have e : k = l.length := by omega
    subst e
    rw [List.drop_length] at h
    refine ⟨?_, h⟩
    refine List.eq_nil_iff_forall_not_mem.2 fun i hi => ?_
    obtain ⟨h1, o, ho, _⟩ := mem_ready.1 hi
    obtain ⟨h2, h3⟩ := getD_false.1 h1
    rw [hl i (by omega)] at h3
    have := of_decide_eq_false h3
    omega
  | succ fuel ih =>
    intro k listed a w hk0 hk hf hs hl h
    by_cases e : k = l.length
    · subst e
      rw [List.drop_length] at h
      refine ⟨fun _ => h, fun i hi => ?_⟩
      obtain ⟨h1, o, ho, _⟩ := mem_ready.1 hi
      obtain ⟨h2, h3⟩ := getD_false.1 h1
      rw [hl i (by omega)] at h3
      have := of_decide_eq_false h3
      omega
    · have hkl : k < l.length := by omega
      have hk? : l[k]? = some l[k] := List.getElem?_eq_getElem hkl
      have hkr : k ∈ Region.ready .any l.toArray listed := mem_ready.2 ⟨getD_false.2 ⟨by omega, by rw [hl k hkl]; simp⟩, l[k], by simp [hkl], fun e he hb => by
        have := low_of (tailT_low ht) (i := k) (by simp [hkl]) e he hb
        rw [hl e.on (by omega)]; simpa using this⟩
      refine ⟨fun h0 => (by rw [h0] at hkr; cases hkr), fun i hi => ?_⟩
      have hik : i = k := by
        obtain ⟨h1, o, ho, hall⟩ := mem_ready.1 hi
        obtain ⟨h2, h3⟩ := getD_false.1 h1
        rw [hl i (by omega)] at h3
        have h4 := of_decide_eq_false h3
        rcases Nat.lt_or_ge k i with h5 | h5
        · have hil : i < l.length := by omega
          have hr := tailT_waits ht hil (by omega) h5
          have := reach_done (listed := fun p => decide (p < k)) (fun p o' hp hp2 e he hb => by
            have hp3 : l.toArray[p]? = some o' := by simpa using hp
            have := low_of (tailT_low ht) hp3 e he hb
            have := of_decide_eq_true hp2
            simp; omega) l.length i k o (by simpa using ho) (fun e he hb => by
            have h6 := hall e he hb
            have h7 := low_of (tailT_low ht) ho e he hb
            rw [hl e.on (by omega)] at h6
            exact h6) hr
          simp at this
        · omega
      subst hik
      rw [List.drop_eq_getElem_cons hkl] at h
      unfold wpList at h
      unfold wpOp
      have hko : l.toArray[i]? = some l[i] := by simp [hkl]
      simp only [hko]
      have hw := wanted_none (tailT_guard ht hk?) (yielded l.toArray a.tmps)
      rw [if_pos hw] at h ⊢
      have key : ∀ a' w', wpList P l.toArray Q (l.drop (i + 1)) a' w' → wpAny P .any l.toArray Q fuel (listed.setIfInBounds i true) a' w' := fun a' w' h' =>
        ih (i + 1) _ a' w' (by omega) (by omega) (by omega) (by simpa using hs) (fun j hj => by
          simp only [Array.getD, Array.size_setIfInBounds, hs, hj, dif_pos]
          by_cases hji : j = i
          · subst hji
            simp
          · have hx := hl j hj
            simp only [Array.getD, hs, hj, dif_pos] at hx
            have hy : (listed.setIfInBounds i true)[j]'(by simp [hs, hj]) = listed[j]'(by omega) := Array.getElem_setIfInBounds_ne (by omega) (fun e => hji e.symm)
            refine Eq.trans hy (hx.trans ?_)
            rw [decide_eq_decide]; omega) h'
      rcases h with h | h
      · exact Or.inl (Oper.wp_mono key h)
      · exact Or.inr h
theorem wpAny_preT {l : List Oper} {k : Nat} {C : World → Prop} (ht : tailT l k = true) (hk : k ≤ l.length) : ∀ (f : Nat) (listed1 : Array Bool) (a : Act) (w : World), listed1.size = k → (∀ p o, (l.take k)[p]? = some o → listed1.getD p false = true → ∀ e ∈ o.after, Region.binds .any e = true → listed1.getD e.on false = true) → C w →
    wpAnyQ P .any (l.take k).toArray C (fun a' => ∀ w', C w' → wpList P l.toArray Q (l.drop k) a' w') f listed1 a →
    wpAny P .any l.toArray Q (f + (l.length - k)) (listed1 ++ Array.replicate (l.length - k) false) a w := by
  have hlow : lowB (l.take k).toArray = true := by
    have h := tailT_low ht
    unfold lowB at h ⊢
    rw [List.all_eq_true] at h ⊢
    intro i hi
    have hi' : i < k := by
      have := List.mem_range.1 hi
      simp at this; omega
    have := h i (List.mem_range.2 (by simp; omega))
    simpa [List.getElem?_take, hi'] using this
  have hall : ∀ (listed1 : Array Bool), listed1.size = k → Region.ready .any (l.take k).toArray listed1 = [] → ∀ i, i < k → listed1.getD i false = true := fun listed1 hs h i hi =>
    ready_none hlow (by simp [hs]; omega) h i (by simp; omega)
  have hget : ∀ (listed1 : Array Bool), listed1.size = k → ∀ i d, (listed1 ++ Array.replicate (l.length - k) false).getD i d = if i < k then listed1.getD i d else if i < l.length then false else d := fun listed1 hs i d => by
    simp only [Array.getD_eq_getD_getElem?]
    by_cases hi : i < k
    · rw [if_pos hi, Array.getElem?_append_left (by omega)]
    · rw [if_neg hi, Array.getElem?_append_right (by omega), Array.getElem?_replicate]
      by_cases h2 : i < l.length
      · rw [if_pos h2, if_pos (by omega)]; rfl
      · rw [if_neg h2, if_neg (by omega)]; rfl
  have hend : ∀ (f : Nat) (listed1 : Array Bool) (a : Act) (w : World), listed1.size = k → C w → Region.ready .any (l.take k).toArray listed1 = [] → (∀ w', C w' → wpList P l.toArray Q (l.drop k) a w') → wpAny P .any l.toArray Q (f + (l.length - k)) (listed1 ++ Array.replicate (l.length - k) false) a w := fun f listed1 a w hs hw h0 h =>
    wpAny_postT ht _ k _ a w (Nat.le_refl _) hk (by omega) (by simp [hs]; omega) (fun i hi => by
      rw [hget listed1 hs]
      by_cases h2 : i < k
      · rw [if_pos h2, hall listed1 hs h0 i h2]; simp [h2]
      · rw [if_neg h2, if_pos hi]; simp [h2]) (h w hw)
  intro f
  induction f with
  | zero => intro listed1 a w hs _ hw h; exact hend 0 listed1 a w hs hw h.1 h.2
  | succ f ih =>
    intro listed1 a w hs hdc hw h
    by_cases h0 : Region.ready .any (l.take k).toArray listed1 = []
    · exact hend (f + 1) listed1 a w hs hw h0 (h.1 h0)
    · obtain ⟨i0, hi0⟩ := List.exists_mem_of_ne_nil _ h0
      have hsub : ∀ j, j ∈ Region.ready .any l.toArray (listed1 ++ Array.replicate (l.length - k) false) → j ∈ Region.ready .any (l.take k).toArray listed1 := by
        intro j hj
        obtain ⟨h1, o, ho, hq⟩ := mem_ready.1 hj
        have hjl : j < l.length := by simpa using (Array.getElem?_eq_some_iff.1 ho).1
        have hjk : j < k := by
          rcases Nat.lt_or_ge j k with h2 | h2
          · exact h2
          · obtain ⟨h3, o', ho', _⟩ := mem_ready.1 hi0
            have hi0k : i0 < k := by
              have := (Array.getElem?_eq_some_iff.1 ho').1
              simp at this; omega
            have hr := tailT_waits ht hjl h2 (i := i0) (by omega)
            have := reach_done (listed := fun p => decide (p < k) && listed1.getD p false) (fun p o' hp hp2 e he hb => by
              obtain ⟨hp3, hp4⟩ := Bool.and_eq_true_iff.1 hp2
              have hp3 := of_decide_eq_true hp3
              have hpa : l.toArray[p]? = some o' := by simpa using hp
              have hlo := low_of (tailT_low ht) hpa e he hb
              have := hdc p o' (by rw [List.getElem?_take, if_pos hp3]; exact hp) hp4 e he hb
              simp only [this, Bool.and_true, decide_eq_true_eq]; omega) l.length j i0 o (by simpa using ho) (fun e he hb => by
              have h6 := hq e he hb
              have h7 := low_of (tailT_low ht) ho e he hb
              rw [hget listed1 hs] at h6
              by_cases h8 : e.on < k
              · rw [if_pos h8] at h6
                simp [h8, h6]
              · rw [if_neg h8, if_pos (by omega)] at h6; cases h6) hr
            have := (Bool.and_eq_true_iff.1 this).2
            rw [(getD_false.1 h3).2] at this
            cases this
        refine mem_ready.2 ⟨?_, o, ?_, fun e he hb => ?_⟩
        · rw [hget listed1 hs, if_pos hjk] at h1; exact h1
        · have : l[j]? = some o := by simpa using ho
          simp [hjk, this]
        · have h3 := hq e he hb
          have h4 := low_of (tailT_low ht) ho e he hb
          rw [hget listed1 hs, if_pos (by omega)] at h3
          exact h3
      have hsup : i0 ∈ Region.ready .any l.toArray (listed1 ++ Array.replicate (l.length - k) false) := by
        obtain ⟨h1, o, ho, hq⟩ := mem_ready.1 hi0
        have hik : i0 < k := by
          have := (Array.getElem?_eq_some_iff.1 ho).1
          simp at this; omega
        refine mem_ready.2 ⟨by rw [hget listed1 hs, if_pos hik]; exact h1, o, ?_, fun e he hb => ?_⟩
        · simpa [List.getElem?_take, hik] using ho
        · have h4 := low_of hlow ho e he hb
          rw [hget listed1 hs, if_pos (by omega)]
          exact hq e he hb
      rw [show f + 1 + (l.length - k) = f + (l.length - k) + 1 by omega]
      refine ⟨fun he => (by rw [he] at hsup; cases hsup), fun i hi => ?_⟩
      have hi1 := hsub i hi
      have hq := h.2 i hi1
      obtain ⟨_, o, ho, _⟩ := mem_ready.1 hi1
      have hik : i < k := by
        have := (Array.getElem?_eq_some_iff.1 ho).1
        simp at this; omega
      have hol : l[i]? = some o := by simpa [List.getElem?_take, hik] using ho
      unfold qOp at hq
      simp only [ho] at hq
      unfold wpOp
      simp only [show l.toArray[i]? = some o by simpa using hol]
      rw [if_pos (wanted_none (tailT_guard ht hol) _)] at hq ⊢
      refine Or.inl (Oper.wp_of_quiet hw (fun a' w' hw' h' => ?_) hq)
      have := ih (listed1.setIfInBounds i true) a' w' (by simpa using hs) (fun p o' hp hp2 e he hb => by
        have gset : ∀ q, (listed1.setIfInBounds i true).getD q false = (decide (q = i) || listed1.getD q false) := fun q => by
          simp only [Array.getD_eq_getD_getElem?, Array.getElem?_setIfInBounds]
          by_cases hq : i = q
          · subst hq; simp [hs, hik]
          · rw [if_neg hq]; simp [show ¬ q = i from fun e => hq e.symm]
        rw [gset] at hp2 ⊢
        rcases Bool.or_eq_true_iff.1 hp2 with h9 | h9
        · have := of_decide_eq_true h9
          subst this
          obtain ⟨_, o2, ho2, hq2⟩ := mem_ready.1 hi1
          have : o2 = o' := by
            have h10 : (l.take k)[p]? = some o2 := by simpa using ho2
            rw [hp] at h10; cases h10; rfl
          subst this
          simp [hq2 e he hb]
        · simp [hdc p o' hp h9 e he hb]) hw' h'
      have e : (listed1 ++ Array.replicate (l.length - k) false).setIfInBounds i true = listed1.setIfInBounds i true ++ Array.replicate (l.length - k) false := by
        rw [Array.setIfInBounds_append_left (by omega)]
      rw [e]; exact this
theorem wp_region_tailT (k : Nat) {id : Nat} {a : Act} {w : World} {l : List Oper} (hm : P.follows .mixedOrders = true) (hB : Region.lexB .any (l.take k).toArray = true) (ht : tailT l k = true) (hk : k ≤ l.length)
    (h : wpQuiet P (l.take k).toArray (fun w' => ∃ p : GrB, w' = growD w p) (fun a' => ∀ w', (∃ p : GrB, w' = growD w p) → wpList P l.toArray Q (l.drop k) a' w') (l.take k) a) : (Code.region id l.toArray true).wp P Q a w := by
  simp only [Region.lexB, Bool.and_eq_true] at hB
  refine wp_region_any hm ?_
  have h1 := wpAnyQ_lex (C := fun w' => ∃ p : GrB, w' = growD w p) (md := .any) hB.1 (l.take k) 0 (Array.replicate (l.take k).toArray.size false) a (by simp) (by simpa using hB.2) h
  have hlk : (l.take k).length = k := by rw [List.length_take]; omega
  have hsz : (l.take k).toArray.size = k := by rw [List.size_toArray]; exact hlk
  rw [hsz] at h1
  have := wpAny_preT (Q := Q) (C := fun w' => ∃ p : GrB, w' = growD w p) ht hk (l.take k).length (Array.replicate k false) a w.drew (by simp) (fun p o _ hp => by rw [Array.getD_eq_getD_getElem?, Array.getElem?_replicate] at hp; split at hp <;> cases hp) (growD_of ((Below.refl _ w).drew)) h1
  rw [hlk, show k + (l.length - k) = l.length by omega] at this
  have e : Array.replicate k false ++ Array.replicate (l.length - k) false = Array.replicate l.toArray.size false := by
    rw [Array.replicate_append_replicate]
    congr 1
    simp; omega
  rw [e] at this
  simpa using this
end
end Go.Proofs.Ytfdlndljpmamgaa
