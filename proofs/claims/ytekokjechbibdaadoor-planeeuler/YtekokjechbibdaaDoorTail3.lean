/- The same, where operations ahead of the tail may be guarded. -/
import Derived.Test.YtekokjechbibdaaDoorTail2
namespace Go.Proofs.YtekokjechbibdaaDoor
open Go.RowKit Go.Maps
section
variable {P : Program} {Q : Exit → Act → World → Prop}
/-- Guards speak of what is ahead of k, and none behind it is guarded; each operation from k on waits for all ahead of it; none waits for a later one. -/
def tailG (l : List Oper) (k : Nat) : Bool := ((List.range l.length).all fun i => ((l[i]?).map fun o => match o.guard with | none => true | some g => decide (i < k) && decide (g.1 < k)).getD true) && lowB l.toArray && (List.range l.length).all fun j => decide (j < k) || (List.range j).all fun i => reachB l l.length j i
theorem tailG_wanted {l : List Oper} {k j : Nat} {o : Oper} (h : tailG l k = true) (hj : l[j]? = some o) (tmps : Array Value) : Region.wanted o (yielded (l.take k).toArray tmps) = Region.wanted o (yielded l.toArray tmps) := by
  simp only [tailG, Bool.and_eq_true] at h
  have := List.all_eq_true.1 h.1.1 j (List.mem_range.2 (List.getElem?_eq_some_iff.1 hj).1)
  simp only [hj, Option.map_some, Option.getD_some] at this
  unfold Region.wanted
  cases hg : o.guard with
  | none => rfl
  | some g =>
    rw [hg] at this
    simp only [Bool.and_eq_true, decide_eq_true_eq] at this
    have e : yielded (l.take k).toArray tmps g.1 = yielded l.toArray tmps g.1 := by
      unfold yielded
      simp [this.2]
    obtain ⟨g1, g2⟩ := g
    simp only at e ⊢
    rw [e]
theorem tailG_post {l : List Oper} {k j : Nat} {o : Oper} (h : tailG l k = true) (hj : l[j]? = some o) (hk : k ≤ j) : o.guard = none := by
  simp only [tailG, Bool.and_eq_true] at h
  have := List.all_eq_true.1 h.1.1 j (List.mem_range.2 (List.getElem?_eq_some_iff.1 hj).1)
  simp only [hj, Option.map_some, Option.getD_some] at this
  cases hg : o.guard with
  | none => rfl
  | some g =>
    rw [hg] at this
    simp only [Bool.and_eq_true, decide_eq_true_eq] at this
    omega
theorem tailG_waits {l : List Oper} {k j i : Nat} (h : tailG l k = true) (hj : j < l.length) (hk : k ≤ j) (hi : i < j) : reachB l l.length j i = true := by
  simp only [tailG, Bool.and_eq_true] at h
  have := List.all_eq_true.1 h.2 j (List.mem_range.2 hj)
  simp only [Bool.or_eq_true, decide_eq_true_eq] at this
  rcases this with h1 | h1
  · omega
  · exact List.all_eq_true.1 h1 i (List.mem_range.2 hi)
theorem tailG_low {l : List Oper} {k : Nat} (h : tailG l k = true) : lowB l.toArray = true := by
  simp only [tailG, Bool.and_eq_true] at h
  exact h.1.2
/-- The operations that come one after the other. -/
theorem wpAny_postG {l : List Oper} {k0 : Nat} (ht : tailG l k0 = true) : ∀ (fuel k : Nat) (listed : Array Bool) (a : Act) (w : World), k0 ≤ k → k ≤ l.length → l.length - k ≤ fuel → listed.size = l.length → (∀ i, i < l.length → listed.getD i false = decide (i < k)) →
    wpList P l.toArray Q (l.drop k) a w → wpAny P .any l.toArray Q fuel listed a w := by
  intro fuel
  induction fuel with
  | zero =>
    intro k listed a w hk0 hk hf hs hl h
    have e : k = l.length := by omega
    subst e
    rw [List.drop_length] at h
    refine ⟨?_, h⟩
    refine List.eq_nil_iff_forall_not_mem.2 fun i hi => ?_
    obtain ⟨h1, o, ho, _⟩ := mem_ready.1 hi
    obtain ⟨h2, h3⟩ := getD_false.1 h1
    rw [hl i (by omega)] at h3
    have := of_decide_eq_false h3
    omega
  | succ fuel ih =>
    intro k listed a w hk0 hk hf hs hl h
    by_cases e : k = l.length
    · subst e
      rw [List.drop_length] at h
      refine ⟨fun _ => h, fun i hi => ?_⟩
      obtain ⟨h1, o, ho, _⟩ := mem_ready.1 hi
      obtain ⟨h2, h3⟩ := getD_false.1 h1
      rw [hl i (by omega)] at h3
      have := of_decide_eq_false h3
      omega
    · have hkl : k < l.length := by omega
      have hk? : l[k]? = some l[k] := List.getElem?_eq_getElem hkl
      have hkr : k ∈ Region.ready .any l.toArray listed := mem_ready.2 ⟨getD_false.2 ⟨by omega, by rw [hl k hkl]; simp⟩, l[k], by simp [hkl], fun e he hb => by
        have := low_of (tailG_low ht) (i := k) (by simp [hkl]) e he hb
        rw [hl e.on (by omega)]; simpa using this⟩
      refine ⟨fun h0 => (by rw [h0] at hkr; cases hkr), fun i hi => ?_⟩
      have hik : i = k := by
        obtain ⟨h1, o, ho, hall⟩ := mem_ready.1 hi
        obtain ⟨h2, h3⟩ := getD_false.1 h1
        rw [hl i (by omega)] at h3
        have h4 := of_decide_eq_false h3
        rcases Nat.lt_or_ge k i with h5 | h5
        · have hil : i < l.length := by omega
          have hr := tailG_waits ht hil (by omega) h5
          have := reach_done (listed := fun p => decide (p < k)) (fun p o' hp hp2 e he hb => by
            have hp3 : l.toArray[p]? = some o' := by simpa using hp
            have := low_of (tailG_low ht) hp3 e he hb
            have := of_decide_eq_true hp2
            simp; omega) l.length i k o (by simpa using ho) (fun e he hb => by
            have h6 := hall e he hb
            have h7 := low_of (tailG_low ht) ho e he hb
            rw [hl e.on (by omega)] at h6
            exact h6) hr
          simp at this
        · omega
      subst hik
      rw [List.drop_eq_getElem_cons hkl] at h
      unfold wpList at h
      unfold wpOp
      have hko : l.toArray[i]? = some l[i] := by simp [hkl]
      simp only [hko]
      have hw := wanted_none (tailG_post ht hk? (by omega)) (yielded l.toArray a.tmps)
      rw [if_pos hw] at h ⊢
      have key : ∀ a' w', wpList P l.toArray Q (l.drop (i + 1)) a' w' → wpAny P .any l.toArray Q fuel (listed.setIfInBounds i true) a' w' := fun a' w' h' =>
        ih (i + 1) _ a' w' (by omega) (by omega) (by omega) (by simpa using hs) (fun j hj => by
          simp only [Array.getD, Array.size_setIfInBounds, hs, hj, dif_pos]
          by_cases hji : j = i
          · subst hji
            simp
          · have hx := hl j hj
            simp only [Array.getD, hs, hj, dif_pos] at hx
            have hy : (listed.setIfInBounds i true)[j]'(by simp [hs, hj]) = listed[j]'(by omega) := Array.getElem_setIfInBounds_ne (by omega) (fun e => hji e.symm)
            refine Eq.trans hy (hx.trans ?_)
            rw [decide_eq_decide]; omega) h'
      rcases h with h | h
      · exact Or.inl (Oper.wp_mono key h)
      · exact Or.inr h
theorem wpAny_preG {l : List Oper} {k : Nat} {C : World → Prop} (ht : tailG l k = true) (hk : k ≤ l.length) : ∀ (f : Nat) (listed1 : Array Bool) (a : Act) (w : World), listed1.size = k → (∀ p o, (l.take k)[p]? = some o → listed1.getD p false = true → ∀ e ∈ o.after, Region.binds .any e = true → listed1.getD e.on false = true) → C w →
    wpAnyQ P .any (l.take k).toArray C (fun a' => ∀ w', C w' → wpList P l.toArray Q (l.drop k) a' w') f listed1 a →
    wpAny P .any l.toArray Q (f + (l.length - k)) (listed1 ++ Array.replicate (l.length - k) false) a w := by
  have hlow : lowB (l.take k).toArray = true := by
    have h := tailG_low ht
    unfold lowB at h ⊢
    rw [List.all_eq_true] at h ⊢
    intro i hi
    have hi' : i < k := by
      have := List.mem_range.1 hi
      simp at this; omega
    have := h i (List.mem_range.2 (by simp; omega))
    simpa [List.getElem?_take, hi'] using this
  have hall : ∀ (listed1 : Array Bool), listed1.size = k → Region.ready .any (l.take k).toArray listed1 = [] → ∀ i, i < k → listed1.getD i false = true := fun listed1 hs h i hi =>
    ready_none hlow (by simp [hs]; omega) h i (by simp; omega)
  have hget : ∀ (listed1 : Array Bool), listed1.size = k → ∀ i d, (listed1 ++ Array.replicate (l.length - k) false).getD i d = if i < k then listed1.getD i d else if i < l.length then false else d := fun listed1 hs i d => by
    simp only [Array.getD_eq_getD_getElem?]
    by_cases hi : i < k
    · rw [if_pos hi, Array.getElem?_append_left (by omega)]
    · rw [if_neg hi, Array.getElem?_append_right (by omega), Array.getElem?_replicate]
      by_cases h2 : i < l.length
      · rw [if_pos h2, if_pos (by omega)]; rfl
      · rw [if_neg h2, if_neg (by omega)]; rfl
  have hend : ∀ (f : Nat) (listed1 : Array Bool) (a : Act) (w : World), listed1.size = k → C w → Region.ready .any (l.take k).toArray listed1 = [] → (∀ w', C w' → wpList P l.toArray Q (l.drop k) a w') → wpAny P .any l.toArray Q (f + (l.length - k)) (listed1 ++ Array.replicate (l.length - k) false) a w := fun f listed1 a w hs hw h0 h =>
    wpAny_postG ht _ k _ a w (Nat.le_refl _) hk (by omega) (by simp [hs]; omega) (fun i hi => by
      rw [hget listed1 hs]
      by_cases h2 : i < k
      · rw [if_pos h2, hall listed1 hs h0 i h2]; simp [h2]
      · rw [if_neg h2, if_pos hi]; simp [h2]) (h w hw)
  intro f
  induction f with
  | zero => intro listed1 a w hs _ hw h; exact hend 0 listed1 a w hs hw h.1 h.2
  | succ f ih =>
    intro listed1 a w hs hdc hw h
    by_cases h0 : Region.ready .any (l.take k).toArray listed1 = []
    · exact hend (f + 1) listed1 a w hs hw h0 (h.1 h0)
    · obtain ⟨i0, hi0⟩ := List.exists_mem_of_ne_nil _ h0
      have hsub : ∀ j, j ∈ Region.ready .any l.toArray (listed1 ++ Array.replicate (l.length - k) false) → j ∈ Region.ready .any (l.take k).toArray listed1 := by
        intro j hj
        obtain ⟨h1, o, ho, hq⟩ := mem_ready.1 hj
        have hjl : j < l.length := by simpa using (Array.getElem?_eq_some_iff.1 ho).1
        have hjk : j < k := by
          rcases Nat.lt_or_ge j k with h2 | h2
          · exact h2
          · obtain ⟨h3, o', ho', _⟩ := mem_ready.1 hi0
            have hi0k : i0 < k := by
              have := (Array.getElem?_eq_some_iff.1 ho').1
              simp at this; omega
            have hr := tailG_waits ht hjl h2 (i := i0) (by omega)
            have := reach_done (listed := fun p => decide (p < k) && listed1.getD p false) (fun p o' hp hp2 e he hb => by
              obtain ⟨hp3, hp4⟩ := Bool.and_eq_true_iff.1 hp2
              have hp3 := of_decide_eq_true hp3
              have hpa : l.toArray[p]? = some o' := by simpa using hp
              have hlo := low_of (tailG_low ht) hpa e he hb
              have := hdc p o' (by rw [List.getElem?_take, if_pos hp3]; exact hp) hp4 e he hb
              simp only [this, Bool.and_true, decide_eq_true_eq]; omega) l.length j i0 o (by simpa using ho) (fun e he hb => by
              have h6 := hq e he hb
              have h7 := low_of (tailG_low ht) ho e he hb
              rw [hget listed1 hs] at h6
              by_cases h8 : e.on < k
              · rw [if_pos h8] at h6
                simp [h8, h6]
              · rw [if_neg h8, if_pos (by omega)] at h6; cases h6) hr
            have := (Bool.and_eq_true_iff.1 this).2
            rw [(getD_false.1 h3).2] at this
            cases this
        refine mem_ready.2 ⟨?_, o, ?_, fun e he hb => ?_⟩
        · rw [hget listed1 hs, if_pos hjk] at h1; exact h1
        · have : l[j]? = some o := by simpa using ho
          simp [hjk, this]
        · have h3 := hq e he hb
          have h4 := low_of (tailG_low ht) ho e he hb
          rw [hget listed1 hs, if_pos (by omega)] at h3
          exact h3
      have hsup : i0 ∈ Region.ready .any l.toArray (listed1 ++ Array.replicate (l.length - k) false) := by
        obtain ⟨h1, o, ho, hq⟩ := mem_ready.1 hi0
        have hik : i0 < k := by
          have := (Array.getElem?_eq_some_iff.1 ho).1
          simp at this; omega
        refine mem_ready.2 ⟨by rw [hget listed1 hs, if_pos hik]; exact h1, o, ?_, fun e he hb => ?_⟩
        · simpa [List.getElem?_take, hik] using ho
        · have h4 := low_of hlow ho e he hb
          rw [hget listed1 hs, if_pos (by omega)]
          exact hq e he hb
      rw [show f + 1 + (l.length - k) = f + (l.length - k) + 1 by omega]
      refine ⟨fun he => (by rw [he] at hsup; cases hsup), fun i hi => ?_⟩
      have hi1 := hsub i hi
      have hq := h.2 i hi1
      obtain ⟨_, o, ho, _⟩ := mem_ready.1 hi1
      have hik : i < k := by
        have := (Array.getElem?_eq_some_iff.1 ho).1
        simp at this; omega
      have hol : l[i]? = some o := by simpa [List.getElem?_take, hik] using ho
      unfold qOp at hq
      simp only [ho] at hq
      unfold wpOp
      simp only [show l.toArray[i]? = some o by simpa using hol]
      rw [tailG_wanted ht hol] at hq
      have key : ∀ a' w', C w' → wpAnyQ P .any (l.take k).toArray C (fun a' => ∀ w', C w' → wpList P l.toArray Q (l.drop k) a' w') f (listed1.setIfInBounds i true) a' → wpAny P .any l.toArray Q (f + (l.length - k)) ((listed1 ++ Array.replicate (l.length - k) false).setIfInBounds i true) a' w' := by
        intro a' w' hw' h'
        have := ih (listed1.setIfInBounds i true) a' w' (by simpa using hs) (fun p o' hp hp2 e he hb => by
          have gset : ∀ q, (listed1.setIfInBounds i true).getD q false = (decide (q = i) || listed1.getD q false) := fun q => by
            simp only [Array.getD_eq_getD_getElem?, Array.getElem?_setIfInBounds]
            by_cases hq : i = q
            · subst hq; simp [hs, hik]
            · rw [if_neg hq]; simp [show ¬ q = i from fun e => hq e.symm]
          rw [gset] at hp2 ⊢
          rcases Bool.or_eq_true_iff.1 hp2 with h9 | h9
          · have := of_decide_eq_true h9
            subst this
            obtain ⟨_, o2, ho2, hq2⟩ := mem_ready.1 hi1
            have : o2 = o' := by
              have h10 : (l.take k)[p]? = some o2 := by simpa using ho2
              rw [hp] at h10; cases h10; rfl
            subst this
            simp [hq2 e he hb]
          · simp [hdc p o' hp h9 e he hb]) hw' h'
        have e : (listed1 ++ Array.replicate (l.length - k) false).setIfInBounds i true = listed1.setIfInBounds i true ++ Array.replicate (l.length - k) false := by
          rw [Array.setIfInBounds_append_left (by omega)]
        rw [e]; exact this
      by_cases hwt : Region.wanted o (yielded l.toArray a.tmps) = true
      · rw [if_pos hwt] at hq ⊢
        exact Or.inl (Oper.wp_of_quiet hw (fun a' w' hw' h' => key a' w' hw' h') hq)
      · rw [if_neg hwt] at hq ⊢
        exact key _ _ hw hq
theorem wp_region_tailG (k : Nat) {id : Nat} {a : Act} {w : World} {l : List Oper} (hm : P.follows .mixedOrders = true) (hB : Region.lexB .any (l.take k).toArray = true) (ht : tailG l k = true) (hk : k ≤ l.length)
    (h : wpQuiet P (l.take k).toArray (fun w' => ∃ p : GrB, w' = growD w p) (fun a' => ∀ w', (∃ p : GrB, w' = growD w p) → wpList P l.toArray Q (l.drop k) a' w') (l.take k) a) : (Code.region id l.toArray true).wp P Q a w := by
  simp only [Region.lexB, Bool.and_eq_true] at hB
  refine wp_region_any hm ?_
  have h1 := wpAnyQ_lex (C := fun w' => ∃ p : GrB, w' = growD w p) (md := .any) hB.1 (l.take k) 0 (Array.replicate (l.take k).toArray.size false) a (by simp) (by simpa using hB.2) h
  have hlk : (l.take k).length = k := by rw [List.length_take]; omega
  have hsz : (l.take k).toArray.size = k := by rw [List.size_toArray]; exact hlk
  rw [hsz] at h1
  have := wpAny_preG (Q := Q) (C := fun w' => ∃ p : GrB, w' = growD w p) ht hk (l.take k).length (Array.replicate k false) a w.drew (by simp) (fun p o _ hp => by rw [Array.getD_eq_getD_getElem?, Array.getElem?_replicate] at hp; split at hp <;> cases hp) (growD_of ((Below.refl _ w).drew)) h1
  rw [hlk, show k + (l.length - k) = l.length by omega] at this
  have e : Array.replicate k false ++ Array.replicate (l.length - k) false = Array.replicate l.toArray.size false := by
    rw [Array.replicate_append_replicate]
    congr 1
    simp; omega
  rw [e] at this
  simpa using this
end
end Go.Proofs.YtekokjechbibdaaDoor
