/- A range over a map from pairs of numbers to how often they were told. -/
import Derived.Test.YtmeodnkmhakidaaCntM
namespace Go.Proofs.Ytmeodnkmhakidaa
set_option maxRecDepth 8000
open Go.RowKit Go.Maps
/-- A range that is under way: V are the pairs that were met. -/
def RanC (w : World) (b r n : Nat) (F : Cts) (V : Nat × Nat → Prop) (cnt : Nat) : Prop := ∃ (D : DataW Unit) (left : Lit → Bool), w.ranges Try.prog 38 (plainElem Try.prog 3) b r n D left cnt ∧ CntF D F ∧ ∀ k, F k ≠ none → (left (kq k) = false ↔ V k)
theorem RanC.map {w : World} {b r n cnt : Nat} {F : Cts} {V : Nat × Nat → Prop} (h : RanC w b r n F V cnt) : CntM w b n F := by
  obtain ⟨D, left, h1, h2, _⟩ := h
  exact ⟨D, h1.owns, h2⟩
theorem RanC.kept {w w' : World} {b r n cnt : Nat} {F : Cts} {V : Nat × Nat → Prop} {row : Option Nat} (h : RanC w b r n F V cnt) (hg : w.grownBy w' row) (h1 : some b ≠ row) (h2 : some r ≠ row) : RanC w' b r n F V cnt := by
  obtain ⟨D, left, h3, h4⟩ := h
  exact ⟨D, left, h3.kept hg h1 h2, h4⟩
theorem RanC.left_eq {w : World} {b r n cnt : Nat} {F : Cts} {V : Nat × Nat → Prop} (h : RanC w b r n F V cnt) : w.rangeLeft b r = cnt := by
  obtain ⟨D, left, h1, _⟩ := h
  exact h1.left_eq
theorem RanC.congr {w : World} {b r n cnt : Nat} {F : Cts} {V V' : Nat × Nat → Prop} (h : RanC w b r n F V cnt) (e : ∀ k, V k ↔ V' k) : RanC w b r n F V' cnt := by
  obtain ⟨D, left, h1, h2, h3⟩ := h
  exact ⟨D, left, h1, h2, fun k hk => (h3 k hk).trans (e k)⟩
section
variable {w : World} {ops : Array Oper} {rest : List Oper} {o : Oper} {a : Act} {Q : Exit → Act → World → Prop}
theorem wpList_range_C (hg : o.guard = none) (m : Operand) (hop : o.op = Op.range 42 m) {b n : Nat} {F : Cts} (hm : a.eval m = .map (some b)) (h : CntM w b n F)
    (hK : ∀ w' cnt, cnt ≤ n → RanC w' b w.heap.size n F (fun _ => False) cnt → w.grownBy w' none → w'.heap.size = w.heap.size + 1 → wpList Try.prog ops Q rest (a.put o.dst (.pointer (some ⟨w.heap.size, 0, none⟩))) w') :
    wpList Try.prog ops Q (o :: rest) a w := by
  obtain ⟨D, h1, h2⟩ := h
  exact wpList_range_own w hg m 42 hop 38 3 Try.law38 Try.underlying42 (plainElem Try.prog 3) b n D hm h1 fun w' r1 r2 r3 => hK w' _ h1.size_le ⟨D, _, r1, h2, fun s hs => by
    rw [(h2.1 s (h2.2.1 s hs)).1]
    cases hF : F s with
    | none => exact absurd hF hs
    | some p => simp⟩ r2 r3
theorem wpList_next_C (hg : o.guard = none) (it : Operand) (hop : o.op = Op.next it false) {b r n cnt : Nat} {F : Cts} {V : Nat × Nat → Prop} (hit : a.eval it = .pointer (some ⟨r, 0, none⟩)) (h : RanC w b r n F V cnt)
    (hDone : (∀ s, F s ≠ none → V s) → wpList Try.prog ops Q rest (a.put o.dst (.tuple #[.bool false])) w)
    (hMore : ∀ (k : Nat × Nat) (c : Nat) (w' : World) (cnt' : Nat), KOk k → F k = some c → ¬ V k → RanC w' b r n F (fun t => V t ∨ t = k) cnt' → cnt' < cnt → w.grownBy w' (some r) → w'.heap.size = w.heap.size →
      (Instr.entry (.pointer (some ⟨r, 0, none⟩))).run Try.prog w' = .ok (.tuple #[kv k, .int .i64 (c : Int)]) w' → wpList Try.prog ops Q rest (a.put o.dst (.tuple #[.bool true, kv k, .int .i64 (c : Int)])) w') :
    wpList Try.prog ops Q (o :: rest) a w := by
  obtain ⟨D, left, h1, h2, h3⟩ := h
  refine wpList_next_ranges (α := Value) (β := Int) w hg it hop 38 Try.law38 (plainElem Try.prog 3) id (fun c => .int .i64 c) (fun key _ _ => ⟨key, rfl⟩) (fun v y hv => by
    obtain ⟨c, rfl, _⟩ := plainElem_int_inv Try.underlying3 hv
    exact ⟨c, rfl⟩) b r n D left cnt hit h1 (fun _ hl => hDone fun s hs => (h3 s hs).1 (hl _)) ?_
  intro x c l y w' cnt' hkey hlk hv hat hrg hlt hgr hsz hen
  obtain ⟨k, hF, rfl⟩ := h2.2.2 l (has_true_of_atKey hat)
  have hk := h2.2.1 k hF
  have hx : x = kv k := Try.law38.inj hkey (key_kv hk)
  subst hx
  obtain ⟨p, hp⟩ : ∃ p, F k = some p := by
    cases e : F k with
    | none => exact absurd e hF
    | some p => exact ⟨p, rfl⟩
  have hd := hat (.lit (.int .i64 0))
  rw [(h2.1 k hk).2, hp, Option.getD_some] at hd
  obtain ⟨c', e1, e2, _⟩ := plainElem_int_inv Try.underlying3 hv
  simp only [Value.int.injEq, true_and] at e1
  subst e1
  rw [e2] at hd
  simp only [DataW.lit.injEq, Lit.int.injEq, true_and] at hd
  subst hd
  simp only [id] at hkey hen ⊢
  refine hMore k p w' cnt' hk hp (fun hV => ?_) ⟨D, _, hrg, h2, fun t ht => ?_⟩ hlt hgr hsz hen
  · rw [(h3 k hF).2 hV] at hlk
    cases hlk
  · by_cases e : t = k
    · subst e
      have hk' : (kq t).sameKey (kq t) = true := WideAt.sameKey_self (Try.law38.key (key_kv hk))
      simp [hk']
    · have hne : kq t ≠ kq k := fun h => e (kq_inj (h2.2.1 t ht) hk h)
      rw [sameKey_ne hne]
      simp only [Bool.not_false, Bool.and_true]
      rw [h3 t ht]
      simp [e]
end
end Go.Proofs.Ytmeodnkmhakidaa
