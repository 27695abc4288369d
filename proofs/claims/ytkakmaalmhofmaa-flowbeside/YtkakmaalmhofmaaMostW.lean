/- Most: a flow, and a side that shows that no more can go. -/
import Derived.Test.YtkakmaalmhofmaaPipes
import Derived.Test.YtkakmaalmhofmaaSend
namespace Go.Proofs.Ytkakmaalmhofmaa
open Go.RowKit Go.Maps
attribute [local go_sem ↓] Go.wp_at_zero Go.wp_at_succ

/-- One number more at a row's end, and where it lies. -/
theorem wpList_pushZ {W : World} {ops : Array Oper} {rest : List Oper} {o : Oper} {a : Act} {Q : Exit → Act → World → Prop} {base : Nat} {po : Option Addr} {n pc : Nat} {l : List Value} {x : Int} (hgd : o.guard = none) (s y : Operand)
    (ho : o.op = .call { callee := .builtin .append, args := #[s, y], argTypes := #[30, 30] }) (hs : a.eval s = .slice po n pc) (hy : a.eval y = .slice (some ⟨W.heap.size, 0, none⟩) 1 1)
    (hown : W.ownsRow base 3 1 (.slice po n pc) n l) (hl : n ≤ 1000000) (hbase : base ≤ W.heap.size)
    (h : ∀ g c w', w'.ownsRow base 3 1 (.slice (some ⟨g, 0, none⟩) (n + 1) c) (n + 1) (l ++ [.int .i64 x]) → (W.alloc (Obj.cells #[.int .i64 x] 3)).grownBy w' (Value.slice po n pc).ownBlock → ((Value.slice po n pc).ownBlock = some g ∨ W.heap.size ≤ g) → wpList Try.prog ops Q rest (a.put o.dst (.slice (some ⟨g, 0, none⟩) (n + 1) c)) w') :
    wpList Try.prog ops Q (o :: rest) a (W.alloc (Obj.cells #[.int .i64 x] 3)) := by
  obtain ⟨i3, hi3, hy0, hy1, hy2⟩ := info_parts Try.info3
  refine wpList_append_lies _ hgd s y 30 ho base 3 i3 (.int .i64 0) 1 8 Try.underlying30 hi3 hy0 hy1 hy2 rfl (by decide) _ _ _ hs (hown.alloc _) ⟨W.heap.size, 0, none⟩ 1 1 [.int .i64 x] hy rfl ?_ ?_ (by omega) ?_ ?_ ?_ (W.heap.size + 1) (by simp) ?_
  · exact cell_one_new _ _ _
  · intro y hy; simp at hy; subst hy; rfl
  · unfold maxLen; omega
  · omega
  · simp; omega
  · intro g c w' h1 h2 h3 _
    exact h g c w' h1 h2 (h3.imp id (fun h => by omega))

theorem ends_ok {n s t : Nat} (hs : s < n) (ht : t < n) (hst : s ≠ t) : endsF (n : Int) (s : Int) (t : Int) = (0, 0) := endsF_eq (by omega)

theorem below_turn {a w w' : World} {B b : Nat} (h : Below B a w) (ht : Turns (fun k => k = b) w w') (hB : B ≤ w.heap.size) (hb : B ≤ b) : Below B a w' := ht.below h hB (fun k e => by omega)

def fromA (al : List Arc3) (a : Nat) : Nat := (al.getD a (0, 0, 0)).1.toNat
def toA (al : List Arc3) (a : Nat) : Nat := (al.getD a (0, 0, 0)).2.1.toNat
def capA (al : List Arc3) (a : Nat) : Int := (al.getD a (0, 0, 0)).2.2

theorem ite_swap (s u : Nat) (x : Int) : (if s = u then x else 0) = (if u = s then x else 0) := by
  by_cases h : s = u
  · rw [if_pos h, if_pos h.symm]
  · rw [if_neg h, if_neg (fun e => h e.symm)]

/-- What Most tells of a net. -/
structure FlowIs (n : Nat) (al : List Arc3) (s t : Nat) (x : Int) (fl : List Int) (S : Nat → Bool) : Prop where
  len : fl.length = al.length
  ends : S s = true ∧ S t = false
  fit : ∀ a, a < al.length → 0 ≤ fl.getD a 0 ∧ fl.getD a 0 ≤ capA al a
  bal : ∀ u, sumN (fun a => (if fromA al a = u then fl.getD a 0 else 0) - (if toA al a = u then fl.getD a 0 else 0)) al.length = (if u = s then x else 0) - (if u = t then x else 0)
  cut : x = sumN (fun a => if S (fromA al a) = true then (if S (toA al a) = true then 0 else capA al a) else 0) al.length

theorem pr_getD {α β : Type} (f g : α → β) {l : List α} {k : Nat} (d : β) (e : α) (h : k < l.length) : (pr f g l).getD (2 * k) d = f (l.getD k e) ∧ (pr f g l).getD (2 * k + 1) d = g (l.getD k e) := by
  obtain ⟨h1, h2⟩ := pr_get f g l k
  simp [List.getD, h1, h2, List.getElem?_eq_getElem h]
theorem tsA_get {al : List Arc3} {a : Nat} (h : a < al.length) : (tsA al).getD (2 * a) 0 = toA al a ∧ (tsA al).getD (2 * a + 1) 0 = fromA al a := pr_getD _ _ 0 (0, 0, 0) h
theorem rsA_get {al : List Arc3} {a : Nat} (h : a < al.length) : (rsA al).getD (2 * a) 0 = capA al a ∧ (rsA al).getD (2 * a + 1) 0 = 0 := pr_getD _ _ 0 (0, 0, 0) h

theorem goodA_cap {n : Int} {al : List Arc3} (hg : ∀ a ∈ al, goodA n a = true) {a : Nat} (h : a < al.length) : 0 ≤ capA al a ∧ capA al a ≤ 1000000 := by
  have h1 := hg al[a] (List.getElem_mem h)
  simp [goodA, isV] at h1
  have e : al.getD a (0, 0, 0) = al[a] := getD_lt h
  unfold capA
  rw [e]
  exact h1.2
theorem rsA_ok {n : Int} {al : List Arc3} (hg : ∀ a ∈ al, goodA n a = true) : Ok (2 * al.length) (fun p => (rsA al).getD p 0) := fun p hp => by
  obtain ⟨a, rfl | rfl⟩ : ∃ a, p = 2 * a ∨ p = 2 * a + 1 := ⟨p / 2, by omega⟩
  · have ha : a < al.length := by omega
    have h1 := goodA_cap hg ha
    rw [tw_even]
    show 0 ≤ (rsA al).getD (2 * a) 0 ∧ (rsA al).getD (2 * a) 0 + (rsA al).getD (2 * a + 1) 0 ≤ 4000000
    rw [(rsA_get ha).1, (rsA_get ha).2]
    omega
  · have ha : a < al.length := by omega
    have h1 := goodA_cap hg ha
    rw [tw_odd]
    show 0 ≤ (rsA al).getD (2 * a + 1) 0 ∧ (rsA al).getD (2 * a + 1) 0 + (rsA al).getD (2 * a) 0 ≤ 4000000
    rw [(rsA_get ha).1, (rsA_get ha).2]
    omega

theorem flowIs_of {n s t : Nat} {al : List Arc3} {x : Int} {R' F : Nat → Int} (hg : ∀ a ∈ al, goodA n a = true) (hm : Mv (2 * al.length) (fun p => (tsA al).getD p 0) t s x (fun p => (rsA al).getD p 0) R') (hf : Far n (2 * al.length) (fun p => (tsA al).getD p 0) R' s F) (ht : F t = -1) :
    FlowIs n al s t x ((List.range al.length).map fun a => R' (2 * a + 1)) (fun v => decide (F v ≠ -1)) := by
  have hfl : ∀ a, a < al.length → ((List.range al.length).map fun a => R' (2 * a + 1)).getD a 0 = R' (2 * a + 1) := fun a ha => by
    simp [List.getD, ha]
  refine ⟨by simp, ⟨by have := hf.src; simp; omega, by simp [ht]⟩, fun a ha => ?_, fun u => ?_, ?_⟩
  · rw [hfl a ha]
    have h1 := hm.pos (2 * a + 1) (by omega)
    have h2 := hm.pos (2 * a) (by omega)
    have h3 := hm.pair (2 * a) (by omega)
    rw [tw_even] at h3
    have e := rsA_get ha
    have h3' : R' (2 * a) + R' (2 * a + 1) = (rsA al).getD (2 * a) 0 + (rsA al).getD (2 * a + 1) 0 := h3
    rw [e.1, e.2] at h3'
    omega
  · have h1 := hm.net (fun y => y == u)
    unfold outR at h1
    rw [sumN_two, sumN_two] at h1
    have e : sumN (fun a => (if fromA al a = u then ((List.range al.length).map fun a => R' (2 * a + 1)).getD a 0 else 0) - (if toA al a = u then ((List.range al.length).map fun a => R' (2 * a + 1)).getD a 0 else 0)) al.length = sumN (fun a => ((if (((tsA al).getD (tw (2 * a)) 0) == u) = true then (rsA al).getD (2 * a) 0 else 0) + (if (((tsA al).getD (tw (2 * a + 1)) 0) == u) = true then (rsA al).getD (2 * a + 1) 0 else 0)) - ((if (((tsA al).getD (tw (2 * a)) 0) == u) = true then R' (2 * a) else 0) + (if (((tsA al).getD (tw (2 * a + 1)) 0) == u) = true then R' (2 * a + 1) else 0))) al.length := by
      refine sumN_congr (fun a ha => ?_)
      have h3 := hm.pair (2 * a) (by omega)
      rw [tw_even] at h3
      have h3' : R' (2 * a) + R' (2 * a + 1) = (rsA al).getD (2 * a) 0 + (rsA al).getD (2 * a + 1) 0 := h3
      have et := tsA_get ha
      have er := rsA_get ha
      rw [hfl a ha, tw_even, tw_odd, et.1, et.2, er.1, er.2]
      rw [er.1, er.2] at h3'
      simp only [beq_iff_eq]
      split <;> split <;> omega
    rw [e, sumN_sub]
    simp only [beq_iff_eq] at h1 ⊢
    have e1 : (if s = u then x else 0) = (if u = s then x else 0) := ite_swap s u x
    have e2 : (if t = u then x else 0) = (if u = t then x else 0) := ite_swap t u x
    rw [e1, e2] at h1
    omega
  · have h1 := hm.cut (S := fun v => decide (F v ≠ -1)) (by have := hf.src; simp; omega) (by simp [ht]) (fun p hp h1 h2 => by
      have hp0 := hm.pos p hp
      by_cases e : R' p = 0
      · exact e
      · exfalso
        have h3 : F ((tsA al).getD (tw p) 0) ≠ -1 := by simpa using h1
        have h4 : F ((tsA al).getD p 0) = -1 := by simpa using h2
        have htw := tw_lt (M := 2 * al.length) (by omega) hp
        have hN : ∀ q, q < 2 * al.length → (tsA al).getD q 0 < n := fun q hq => by
          obtain ⟨a, rfl | rfl⟩ : ∃ a, q = 2 * a ∨ q = 2 * a + 1 := ⟨q / 2, by omega⟩
          · have ha : a < al.length := by omega
            rw [(tsA_get ha).1]
            have h5 := hg al[a] (List.getElem_mem ha)
            simp [goodA, isN] at h5
            unfold toA
            rw [getD_lt ha]
            omega
          · have ha : a < al.length := by omega
            rw [(tsA_get ha).2]
            have h5 := hg al[a] (List.getElem_mem ha)
            simp [goodA, isN] at h5
            unfold fromA
            rw [getD_lt ha]
            omega
        have h5 := hf.low _ (hN _ htw)
        have h6 := hf.closed p hp (by show 0 ≤ F ((tsA al).getD (tw p) 0); omega) (by omega)
        have h6' : 0 ≤ F ((tsA al).getD p 0) := h6
        omega)
    rw [h1]
    refine sumN_congr (fun a ha => ?_)
    have et := tsA_get ha
    have er := rsA_get ha
    rw [et.1, et.2, er.1, er.2]
    split <;> split <;> rfl
end Go.Proofs.Ytkakmaalmhofmaa
