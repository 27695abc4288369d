/- The least of the widths of all orders is the one that Least tells. -/
import Derived.Test.YtdalconphfgepaaDoorFillN
namespace Go.Proofs.YtdalconphfgepaaDoor
/-- The width of an order, as a list. -/
def wdL (near : List Nat) (N : Nat) (L : List Nat) : Int := wideO near (fun i => L.getD i 0) (goneF fun i => L.getD i 0) N
theorem ord_of_list {N : Nat} {L : List Nat} (hl : L.length = N) (hnd : L.Nodup) (hlt : ∀ x ∈ L, x < N) : OrdO N (fun i => L.getD i 0) (goneF fun i => L.getD i 0) := by
  have hg : ∀ i (h : i < L.length), L.getD i 0 = L[i] := fun i h => by simp [List.getD_eq_getElem?_getD, List.getElem?_eq_getElem h]
  refine ⟨fun i hi => ?_, fun i j hij hj => ?_, fun i x _ => goneF_bit _ x i⟩
  · show L.getD i 0 < N
    rw [hg i (by omega)]
    exact hlt _ (List.getElem_mem _)
  · show L.getD i 0 ≠ L.getD j 0
    rw [hg i (by omega), hg j (by omega)]
    exact List.pairwise_iff_getElem.1 hnd i j (by omega) (by omega) hij
theorem max_cong {f g : Nat → Nat} : ∀ (l : List Nat), (∀ i ∈ l, f i = g i) → l.foldr (fun i m => max m ((f i : Nat) : Int)) (-1) = l.foldr (fun i m => max m ((g i : Nat) : Int)) (-1)
  | [], _ => rfl
  | a :: l, h => by
    rw [List.foldr_cons, List.foldr_cons, max_cong l (fun i hi => h i (by simp [hi])), h a (by simp)]
section
variable {near : List Nat} {N : Nat} (hl : near.length = N) (hn : ∀ s ∈ near, s < 2 ^ 128) (hN : N ≤ 12) (hbit : ∀ u x, (at' near u).testBit x = true → x < N)
include hl hn hN hbit
theorem gone_left {i : Nat} (hi : i ≤ N) : goneF (fun i => (ordL near N).getD i 0) i = leftF near (setOf (List.range N)) (N - i) := Nat.eq_of_testBit_eq fun x => by
  have h := ordL_ord hl hn hN hbit
  rw [Bool.eq_iff_iff, goneF_bit]
  exact (h.gone i x hi).symm
omit hl hn hN hbit in
theorem full_left {o : Nat → Nat} (h : OrdO N o (goneF o)) : goneF o N = setOf (List.range N) := Nat.eq_of_testBit_eq fun x => by
  rw [Bool.eq_iff_iff, goneF_bit, bit_setOf, decide_eq_true_eq, List.mem_range]
  constructor
  · rintro ⟨j, hj, e⟩
    rw [← e]; exact h.lt j hj
  · exact fun hx => h.onto hx
theorem ordL_wd : wdL near N (ordL near N) = (lastL near (setOf (List.range N))).1 := by
  have h := width_max hl hn hN hbit N 0 (by omega)
  have e0 : leftF near (setOf (List.range N)) 0 = setOf (List.range N) := leftF.eq_1 _ _
  rw [e0] at h
  refine Eq.trans ?_ h.symm
  unfold wdL wideO
  refine max_cong _ (fun i hi => ?_)
  unfold ledO
  rw [gone_left hl hn hN hbit (by have := List.mem_range.1 hi; omega)]
theorem ordL_ext : Ext1 N [] (ordL near N) := by
  have h := ordL_ord hl hn hN hbit
  have hlen : (ordL near N).length = N := by simp [ordL]
  have hg : ∀ i (h : i < (ordL near N).length), (ordL near N).getD i 0 = (ordL near N)[i] := fun i h => by simp [List.getD_eq_getElem?_getD, List.getElem?_eq_getElem h]
  refine ⟨by simpa using hlen, ?_, fun x hx => ?_⟩
  · rw [List.nil_append]
    unfold List.Nodup
    rw [List.pairwise_iff_getElem]
    intro i j hi hj hij
    rw [← hg i hi, ← hg j hj]
    exact h.inj i j hij (by omega)
  · rw [List.nil_append] at hx
    obtain ⟨i, hi, rfl⟩ := List.getElem_of_mem hx
    rw [← hg i hi]
    exact h.lt i (by omega)
/-- What is left in the box when all orders have been tried. -/
theorem best_is {z : Int} (h1 : ∀ M, Ext1 N [] M → z ≤ wdL near N ([] ++ M)) (h2 : z = (N : Int) - 1 ∨ ∃ M, Ext1 N [] M ∧ z = wdL near N ([] ++ M)) : z = (lastL near (setOf (List.range N))).1 := by
  have hle : z ≤ (lastL near (setOf (List.range N))).1 := by
    have := h1 _ (ordL_ext hl hn hN hbit)
    rw [List.nil_append, ordL_wd hl hn hN hbit] at this
    exact this
  refine Int.le_antisymm hle ?_
  rcases h2 with e | ⟨M, hM, e⟩
  · rw [e]
    exact (last_spec hl hn (by omega) hbit _ (setOf (List.range N)) rfl (set_lt N hN) (fun x hx => by
      rw [bit_setOf, decide_eq_true_eq, List.mem_range] at hx
      exact hx)).1
  · rw [e, List.nil_append]
    have hM' : M.length = N ∧ M.Nodup ∧ ∀ x ∈ M, x < N := hM
    have ho := ord_of_list hM'.1 hM'.2.1 hM'.2.2
    have := order_least hl hn hN hbit ho N (Nat.le_refl _)
    rw [full_left ho] at this
    exact this
end
end Go.Proofs.YtdalconphfgepaaDoor
