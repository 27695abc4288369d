/- A region that draws its order, by an invariant over what its operations have left; no frame is written out. -/
import Derived.Test.YtfdlndljpmamgaaTailM
namespace Go.Proofs.Ytfdlndljpmamgaa
open Go.RowKit Go.Maps
def updV (f : Nat → Value) (i : Nat) (x : Value) : Nat → Value := fun j => if j = i then x else f j
theorem updV_same (f : Nat → Value) (i : Nat) (x : Value) : updV f i x i = x := by simp [updV]
theorem updV_ne (f : Nat → Value) {i j : Nat} (x : Value) (h : j ≠ i) : updV f i x j = f j := by simp [updV, h]
theorem updV_self (f : Nat → Value) (i : Nat) : updV f i (f i) = f := by
  funext j
  unfold updV
  split
  · next h => rw [h]
  · rfl
theorem also_at {L : Nat → Bool} {i j : Nat} (h : j ≠ i) : also L i j = L j := by simp [also, h]
theorem also_le (k : Nat) : also (fun j => decide (j < k)) k = fun j => decide (j < k + 1) := by
  funext j
  unfold also
  by_cases h : j = k
  · subst h; simp
  · have : (j == k) = false := by simp [h]
    rw [this, Bool.false_or, decide_eq_decide]
    omega
/-- The operations leave their values in slots below n, each in one of its own. -/
def dstB (l : List Oper) (n : Nat) : Bool := (List.range l.length).all fun i => match (l[i]?).bind (·.dst) with
  | none => true
  | some d => decide (d < n) && (List.range l.length).all fun j => decide (j = i) || (match (l[j]?).bind (·.dst) with | none => true | some e => decide (e ≠ d))
def notDst (l : List Oper) (s : Nat) : Bool := l.all fun o => match o.dst with | none => true | some d => decide (d ≠ s)
section
variable {l : List Oper} {a0 a : Act} {L : Nat → Bool} {xs : Nat → Value}
theorem dstB_lt {n i d : Nat} {o : Oper} (h : dstB l n = true) (hi : l[i]? = some o) (hd : o.dst = some d) : d < n := by
  have := List.all_eq_true.1 h i (List.mem_range.2 (List.getElem?_eq_some_iff.1 hi).1)
  simp only [hi, Option.bind_some, hd, Bool.and_eq_true, decide_eq_true_eq] at this
  exact this.1
theorem dstB_ne {n i j d : Nat} {o o' : Oper} (h : dstB l n = true) (hi : l[i]? = some o) (hd : o.dst = some d) (hj : l[j]? = some o') (hd' : o'.dst = some d) : j = i := by
  have := List.all_eq_true.1 h i (List.mem_range.2 (List.getElem?_eq_some_iff.1 hi).1)
  simp only [hi, Option.bind_some, hd, Bool.and_eq_true, decide_eq_true_eq] at this
  have := List.all_eq_true.1 this.2 j (List.mem_range.2 (List.getElem?_eq_some_iff.1 hj).1)
  simpa [hj, hd'] using this
/-- What the operations that were done have left, and nothing else has changed. -/
structure Ext (l : List Oper) (a0 : Act) (L : Nat → Bool) (xs : Nat → Value) (a : Act) : Prop where
  size : a.tmps.size = a0.tmps.size
  defers : a.defers = a0.defers
  rd : ∀ i o d, l[i]? = some o → o.dst = some d → L i = true → a.tmps.getD d undef = xs i
  old : ∀ s, (∀ i o, l[i]? = some o → o.dst = some s → L i = false) → a.tmps.getD s undef = a0.tmps.getD s undef
theorem Ext.start : Ext l a0 (fun _ => false) xs a0 := ⟨rfl, rfl, fun _ _ _ _ _ h => (by cases h), fun _ _ => rfl⟩
theorem getD_put (t : Array Value) (d s : Nat) (x : Value) (hd : d < t.size) : (t.setIfInBounds d x).getD s undef = if s = d then x else t.getD s undef := by
  simp only [Array.getD_eq_getD_getElem?, Array.getElem?_setIfInBounds]
  by_cases h : d = s
  · subst h; simp [hd]
  · rw [if_neg h, if_neg fun e => h e.symm]
theorem Ext.put (h : Ext l a0 L xs a) (hB : dstB l a0.tmps.size = true) {i : Nat} {o : Oper} (hi : l[i]? = some o) (x : Value) (hL : L i = false) : Ext l a0 (also L i) (updV xs i x) (a.put o.dst x) := by
  cases hd : o.dst with
  | none =>
    refine ⟨h.size, h.defers, fun j o' d hj hd' hl => ?_, fun s hs => h.old s fun j o' hj hd' => ?_⟩
    · have : j ≠ i := fun e => by subst e; rw [hi] at hj; cases hj; rw [hd] at hd'; cases hd'
      rw [also_at this] at hl
      rw [updV_ne _ _ this]
      exact h.rd j o' d hj hd' hl
    · have : j ≠ i := fun e => by subst e; rw [hi] at hj; cases hj; rw [hd] at hd'; cases hd'
      rw [← also_at (L := L) this]
      exact hs j o' hj hd'
  | some d =>
    have hdl : d < a.tmps.size := by rw [h.size]; exact dstB_lt hB hi hd
    have hsl : ∀ s, (a.put (some d) x).tmps.getD s undef = if s = d then x else a.tmps.getD s undef := fun s => getD_put a.tmps d s x hdl
    refine ⟨by simpa [Act.put] using h.size, h.defers, fun j o' d' hj hd' hl => ?_, fun s hs => ?_⟩
    · rw [hsl]
      by_cases e : d' = d
      · subst e
        have e2 := dstB_ne hB hi hd hj hd'
        subst e2
        rw [if_pos rfl, updV_same]
      · rw [if_neg e]
        have : j ≠ i := fun e2 => by subst e2; rw [hi] at hj; cases hj; rw [hd] at hd'; cases hd'; exact e rfl
        rw [also_at this] at hl
        rw [updV_ne _ _ this]
        exact h.rd j o' d' hj hd' hl
    · have hne : s ≠ d := fun e => by
        subst e
        have := hs i o hi hd
        rw [also_self] at this
        cases this
      rw [hsl, if_neg hne]
      refine h.old s fun j o' hj hd' => ?_
      have := hs j o' hj hd'
      by_cases e : j = i
      · subst e; exact hL
      · rwa [also_at e] at this
theorem Ext.out (h : Ext l a0 L xs a) {s : Nat} (hs : notDst l s = true) : a.tmps.getD s undef = a0.tmps.getD s undef := h.old s fun i o hi hd => by
  have := List.all_eq_true.1 hs o (List.mem_of_getElem? hi)
  simp [hd] at this
def puts : List Oper → Nat → (Nat → Value) → Act → Act
  | [], _, _, a => a
  | o :: l, i, xs, a => puts l (i + 1) xs (a.put o.dst (xs i))
theorem Ext.along (hB : dstB l a0.tmps.size = true) : ∀ (n k : Nat) (a : Act), l.length - k = n → k ≤ l.length → Ext l a0 (fun j => decide (j < k)) xs a → Ext l a0 (fun j => decide (j < l.length)) xs (puts (l.drop k) k xs a)
  | 0, k, a, hn, hk, h => by
    have : k = l.length := by omega
    subst this
    rw [List.drop_length]
    exact h
  | n + 1, k, a, hn, hk, h => by
    have hkl : k < l.length := by omega
    rw [List.drop_eq_getElem_cons hkl]
    refine Ext.along hB n (k + 1) _ (by omega) (by omega) ?_
    have := h.put hB (List.getElem?_eq_getElem hkl) (xs k) (by simp)
    rw [also_le, updV_self] at this
    exact this
theorem Ext.uniq {a' : Act} {M : Nat → Bool} (h : Ext l a0 L xs a) (h' : Ext l a0 M xs a') (hL : ∀ i, i < l.length → L i = true) (hM : ∀ i, i < l.length → M i = true) : a = a' := by
  have hlt : ∀ {i : Nat} {o : Oper}, l[i]? = some o → i < l.length := fun hi => (List.getElem?_eq_some_iff.1 hi).1
  have ht : a.tmps = a'.tmps := by
    refine Array.ext (by rw [h.size, h'.size]) fun s h1 h2 => ?_
    have key : a.tmps.getD s undef = a'.tmps.getD s undef := by
      by_cases hs : ∃ (i : Nat) (o : Oper), l[i]? = some o ∧ o.dst = some s
      · obtain ⟨i, o, hi, hd⟩ := hs
        rw [h.rd i o s hi hd (hL i (hlt hi)), h'.rd i o s hi hd (hM i (hlt hi))]
      · have : ∀ (M : Nat → Bool) (i : Nat) (o : Oper), l[i]? = some o → o.dst = some s → M i = false := fun _ i o hi hd => absurd ⟨i, o, hi, hd⟩ hs
        rw [h.old s (this _), h'.old s (this _)]
    simpa [Array.getD, h1, h2] using key
  have hd : a.defers = a'.defers := by rw [h.defers, h'.defers]
  cases a; cases a'; simp only at ht hd; subst ht; subst hd; rfl
theorem region_ext {P : Program} {Q : Exit → Act → World → Prop} {id : Nat} {w : World} {J : (Nat → Bool) → (Nat → Value) → World → Prop} (hm : P.follows .mixedOrders = true) (hlow : lowB l.toArray = true) (hdst : dstB l a0.tmps.size = true)
    (h0 : J (fun _ => false) (fun _ => undef) w.drew)
    (hstep : ∀ i o, l[i]? = some o → ∀ L xs a w, J L xs w → L i = false → (∀ e ∈ o.after, Region.binds .any e = true → L e.on = true) → (∀ j o', l[j]? = some o' → L j = true → ∀ e ∈ o'.after, Region.binds .any e = true → L e.on = true) → Ext l a0 L xs a → wpOp P l.toArray Q i (fun a' w' => ∃ x, a' = a.put o.dst x ∧ J (also L i) (updV xs i x) w') a w)
    (hend : ∀ L xs w', J L xs w' → (∀ i, i < l.length → L i = true) → Q .normal (puts l 0 xs a0) w') : (Code.region id l.toArray true).wp P Q a0 w := by
  refine region_inv (J := fun L a w => (∃ xs, Ext l a0 L xs a ∧ J L xs w) ∧ ∀ j o', l[j]? = some o' → L j = true → ∀ e ∈ o'.after, Region.binds .any e = true → L e.on = true) hm hlow ⟨⟨_, Ext.start, h0⟩, fun _ _ _ h => (by cases h)⟩ (fun i o ho L a' w' hJ hL hd => ?_) (fun L a' w' hJ hall => ?_)
  · obtain ⟨⟨xs, hE, hJ1⟩, hJ2⟩ := hJ
    have ho' : l[i]? = some o := by simpa using ho
    refine wpOp_mono (fun a2 w2 h2 => ?_) (hstep i o ho' L xs a' w' hJ1 hL hd hJ2 hE)
    obtain ⟨x, rfl, hJ3⟩ := h2
    refine ⟨⟨_, hE.put hdst ho' x hL, hJ3⟩, fun j o' hj hlj e he hb => ?_⟩
    by_cases e1 : j = i
    · subst e1
      rw [ho'] at hj
      cases hj
      exact also_of (hd e he hb) _
    · exact also_of (hJ2 j o' hj (also_ne hlj e1) e he hb) _
  · obtain ⟨⟨xs, hE, hJ1⟩, _⟩ := hJ
    have hall' : ∀ i, i < l.length → L i = true := fun i hi => hall i (by simpa using hi)
    have hP := Ext.along (xs := xs) hdst l.length 0 a0 (by omega) (by omega) ⟨rfl, rfl, fun _ _ _ _ _ h => (by simp at h), fun _ _ => rfl⟩
    rw [List.drop_zero] at hP
    rw [hE.uniq hP hall' (fun i hi => by simpa using hi)]
    exact hend L xs w' hJ1 hall'
/-- Values that are told; nothing that was there is changed. -/
structure ST (W : World) (V : Nat → Value → World → Prop) (L : Nat → Bool) (xs : Nat → Value) (w : World) : Prop where
  told : ∀ i, L i = true → V i (xs i) w
  bel : Below W.heap.size W w
theorem ST.start {W : World} {V : Nat → Value → World → Prop} : ST W V (fun _ => false) xs W.drew := ⟨fun _ h => (by cases h), (Below.refl _ W).drew⟩
theorem ST.put {W w w' : World} {V : Nat → Value → World → Prop} (hV : ∀ i x w w', V i x w → Below w.heap.size w w' → V i x w') (h : ST W V L xs w) {i : Nat} {x : Value} (hb : Below w.heap.size w w') (hx : V i x w') : ST W V (also L i) (updV xs i x) w' := by
  refine ⟨fun j hj => ?_, below_next h.bel hb⟩
  by_cases e : j = i
  · subst e; rw [updV_same]; exact hx
  · rw [updV_ne _ _ e]; exact hV j _ _ _ (h.told j (by rwa [also_at e] at hj)) hb
end
end Go.Proofs.Ytfdlndljpmamgaa
