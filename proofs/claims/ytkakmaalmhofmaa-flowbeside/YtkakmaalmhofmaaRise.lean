/- rising: the keys of a map in their order. pieces: what hangs together. -/
import Derived.Test.YtkakmaalmhofmaaTake
namespace Go.Proofs.Ytkakmaalmhofmaa
open Go.RowKit Go.Maps Go.Sort

/-- The numbers below N that S tells, as a list, rising. -/
def listN (N : Nat) (S : Nat → Bool) : List Nat := (List.range N).filter S

theorem Try.info30 : (Try.prog.info? 30).map (fun i => (i.zero, i.size, i.bytes)) = some (some (.slice none 0 0), 1, 24) := by kernel_rfl

/- mathematics -/
theorem St.back {N : Nat} {e : Nat → Nat → Bool} {L : Nat → Bool} (hs : ∀ a b, a < N → b < N → e a b = true → e b a = true) {a b : Nat} (h : Star (St N e L) a b) (ha : a < N) (hL : L a = true) : Star (St N e L) b a ∧ b < N ∧ L b = true :=
  Star.ind (P := fun b => Star (St N e L) b a ∧ b < N ∧ L b = true) ⟨.refl _, ha, hL⟩ (fun _ _ _ h1 ih => ⟨Star.head ⟨ih.2.1, hs _ _ ih.2.1 h1.1 h1.2.1, ih.2.2⟩ ih.1, h1.1, h1.2.2⟩) h

def leftTo (L : Nat → Bool) (R : Nat → Nat → Bool) (k x : Nat) : Bool := L x && !((List.range k).any fun u => L u && R u x)
theorem leftTo_iff {L : Nat → Bool} {R : Nat → Nat → Bool} {k x : Nat} : leftTo L R k x = true ↔ L x = true ∧ ∀ u, u < k → L u = true → R u x = false := by
  simp [leftTo]
theorem leftTo_self (L : Nat → Bool) (R : Nat → Nat → Bool) (k : Nat) : leftTo L R k k = firstB L R k := by
  rw [Bool.eq_iff_iff, leftTo_iff, firstB_iff]

section
variable {N : Nat} {e : Nat → Nat → Bool} {L : Nat → Bool} {R : Nat → Nat → Bool}

theorem first_class (hs : ∀ a b, a < N → b < N → e a b = true → e b a = true) (hR : ∀ v x, R v x = true ↔ Star (St N e L) v x) {k : Nat} (hk : k < N) (hf : firstB L R k = true) (x : Nat) : Star (St N e (leftTo L R k)) k x ↔ R k x = true := by
  rw [hR]
  have hf' := firstB_iff.1 hf
  constructor
  · exact Star.mono fun a b h => ⟨h.1, h.2.1, (leftTo_iff.1 h.2.2).1⟩
  · intro h
    refine (Star.within (P := fun y => Star (St N e L) k y) (f := St N e (leftTo L R k)) (fun a b ha hab => ⟨ha.step hab, hab.1, hab.2.1, leftTo_iff.2 ⟨hab.2.2, fun u hu hl => ?_⟩⟩) h (.refl _)).2
    cases hub : R u b
    · rfl
    · have h1 := (hR u b).1 hub
      have h2 := (St.back hs (ha.step hab) hk hf'.1).1
      have := (hR u k).2 (h1.trans h2)
      rw [hf'.2 u hu hl] at this
      cases this

theorem leftTo_first {k : Nat} (hf : firstB L R k = true) (x : Nat) : leftTo L R (k + 1) x = (leftTo L R k x && !R k x) := by
  have hf' := firstB_iff.1 hf
  unfold leftTo
  rw [List.range_succ, List.any_append]
  simp only [List.any_cons, List.any_nil, hf'.1, Bool.true_and, Bool.or_false, Bool.not_or, Bool.and_assoc]
theorem leftTo_rest {k : Nat} (hR : ∀ v x, R v x = true ↔ Star (St N e L) v x) (hf : firstB L R k = false) (x : Nat) : leftTo L R (k + 1) x = leftTo L R k x := by
  rw [Bool.eq_iff_iff, leftTo_iff, leftTo_iff]
  constructor
  · rintro ⟨h1, h2⟩; exact ⟨h1, fun u hu => h2 u (by omega)⟩
  · rintro ⟨h1, h2⟩
    refine ⟨h1, fun u hu hl => ?_⟩
    by_cases e1 : u = k
    · subst e1
      cases hx : R u x
      · rfl
      · exfalso
        have : firstB L R u = true := by
          rw [firstB_iff]
          refine ⟨hl, fun y hy hly => ?_⟩
          cases hyu : R y u
          · rfl
          · have := (hR y x).2 (((hR y u).1 hyu).trans ((hR u x).1 hx))
            rw [h2 y hy hly] at this
            cases this
        rw [hf] at this
        cases this
    · exact h2 u (by omega) hl
end

/-- A slice of slices of numbers, all of its own. -/
def ListsAt (w : World) (base : Nat) (v : Value) (ls : List (List Nat)) : Prop :=
  ∃ vs : List Value, vs.length = ls.length ∧ w.ownsRow base 30 1 v ls.length vs ∧ ∀ (i : Nat) (x : Value) (l : List Nat), vs[i]? = some x → ls[i]? = some l → w.ownsRow base 3 1 x l.length (qv l)

theorem listsAt_nil (w : World) (base : Nat) : ListsAt w base (.slice none 0 0) [] := ⟨[], rfl, World.ownsRow_nil _ _ _ _, fun i x l h => by simp at h⟩
theorem ListsAt.form {w : World} {base : Nat} {v : Value} {ls : List (List Nat)} (h : ListsAt w base v ls) : ∃ ao cap, v = .slice ao ls.length cap := by
  obtain ⟨vs, _, h2, _⟩ := h
  exact form_row h2
theorem ListsAt.turns {M : Nat → Prop} {w w' : World} {base : Nat} {v : Value} {ls : List (List Nat)} (h : ListsAt w base v ls) (ht : Turns M w w') (hm : ∀ k, M k → k < base ∨ ∃ es c, w.heap[k]? = some (.map es c)) : ListsAt w' base v ls := by
  obtain ⟨vs, h1, h2, h3⟩ := h
  have key : ∀ {t : TypeId} {x : Value} {n : Nat} {xs : List Value}, w.ownsRow base t 1 x n xs → w'.ownsRow base t 1 x n xs := by
    intro t x n xs ho
    refine ownsRow_blocks ho fun b hb => ht.block b (ho.lt b hb).2 fun hmb => ?_
    rcases hm b hmb with h' | ⟨es, c, h'⟩
    · have := (ho.lt b hb).1; omega
    · obtain ⟨cur, hc⟩ := own_cells ho hb
      rw [hc] at h'; cases h'
  exact ⟨vs, h1, key h2, fun i x l hx hl => key (h3 i x l hx hl)⟩
theorem ListsAt.push {w w1 : World} {base : Nat} {v v' : Value} {ls : List (List Nat)} {x : Value} {l : List Nat} {o : Obj} (hx : w.ownsRow base 3 1 x l.length (qv l)) {vs : List Value} (hvs : vs.length = ls.length) (hrow : w.ownsRow base 30 1 v ls.length vs)
    (hel : ∀ (i : Nat) (x : Value) (l : List Nat), vs[i]? = some x → ls[i]? = some l → w.ownsRow base 3 1 x l.length (qv l)) (hown : w1.ownsRow base 30 1 v' (ls.length + 1) (vs ++ [x])) (hg : (w.alloc o).grownBy w1 v.ownBlock) : ListsAt w1 base v' (ls ++ [l]) := by
  have T := (alloc_turns w o (fun k => some k = v.ownBlock)).trans (Turns.of_grown hg)
  have key : ∀ {x : Value} {n : Nat} {xs : List Value}, w.ownsRow base 3 1 x n xs → w1.ownsRow base 3 1 x n xs := by
    intro x n xs ho
    refine ownsRow_blocks ho fun b hb => T.block b (ho.lt b hb).2 fun hmb => ?_
    obtain ⟨c1, h1⟩ := own_cells ho hb
    obtain ⟨c2, h2⟩ := own_cells hrow hmb.symm
    rw [h1] at h2; simp at h2
  refine ⟨vs ++ [x], by simp [hvs], by simpa using hown, fun i y m hy hm => ?_⟩
  by_cases hi : i < ls.length
  · rw [List.getElem?_append_left (by omega)] at hy hm
    exact key (hel i y m hy hm)
  · rw [List.getElem?_append_right (by omega)] at hy hm
    by_cases h0 : i - ls.length = 0
    · rw [hvs, h0] at hy; rw [h0] at hm
      simp at hy hm
      subst hy; subst hm
      exact key hx
    · rw [List.getElem?_eq_none (by simp; omega)] at hm; cases hm

theorem piecesTo_le (n : Nat) (L : Nat → Bool) (R : Nat → Nat → Bool) (k : Nat) : (piecesTo n L R k).length ≤ k := by
  unfold piecesTo
  rw [List.length_map]
  exact Nat.le_trans (List.length_filter_le _ _) (by simp)
end Go.Proofs.Ytkakmaalmhofmaa
