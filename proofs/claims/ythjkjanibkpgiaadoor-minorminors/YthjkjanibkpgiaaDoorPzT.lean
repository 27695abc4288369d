/- Edges of numbers. -/
import Derived.Test.YthjkjanibkpgiaaDoorKitC
import Derived.Test.YthjkjanibkpgiaaDoorTalMM
namespace Go.Proofs.YthjkjanibkpgiaaDoor
set_option maxRecDepth 8000
open Go.RowKit Go.Maps
abbrev E2 := Nat × Nat
def pzT (es : List E2) : List Pair := es.map fun e => ((e.1 : Int), (e.2 : Int))
theorem pzT_nat {N : Nat} : ∀ {es : List Pair}, (∀ e ∈ es, (0 ≤ e.1 ∧ e.1 < N ∧ 0 ≤ e.2 ∧ e.2 < N) ∧ e.1 ≠ e.2) → ∃ es' : List E2, es = pzT es' ∧ (∀ e ∈ es', e.1 < N ∧ e.2 < N)
  | [], _ => ⟨[], rfl, fun _ h => by cases h⟩
  | e :: es, h => by
    obtain ⟨es', h1, h2⟩ := pzT_nat (es := es) (fun e he => h e (by simp [he]))
    have he := (h e (by simp)).1
    refine ⟨(e.1.toNat, e.2.toNat) :: es', ?_, fun d hd => ?_⟩
    · rw [h1]
      show e :: pzT es' = ((e.1.toNat : Int), (e.2.toNat : Int)) :: pzT es'
      congr 1
      exact Prod.ext (by simp only; omega) (by simp only; omega)
    · rcases List.mem_cons.1 hd with rfl | hd
      · exact ⟨by simp only; omega, by simp only; omega⟩
      · exact h2 d hd
theorem pzT_inj : ∀ {a b : List E2}, pzT a = pzT b → a = b
  | [], [], _ => rfl
  | [], _ :: _, h => by cases h
  | _ :: _, [], h => by cases h
  | (a1, a2) :: a, (b1, b2) :: b, h => by
    have h' : (((a1 : Nat) : Int), ((a2 : Nat) : Int)) :: pzT a = (((b1 : Nat) : Int), ((b2 : Nat) : Int)) :: pzT b := h
    injection h' with h1 h2
    injection h1 with h3 h4
    rw [pzT_inj h2, show a1 = b1 by omega, show a2 = b2 by omega]
theorem hasB_adj (es : List E2) (a b : Nat) : hasB (pzT es) (a : Int) (b : Int) = adjE es a b := by
  unfold hasB pzT adjE
  rw [List.any_map]
  congr 1
  funext e
  have q : ∀ x y : Nat, (((x : Int)) == (y : Int)) = (x == y) := fun x y => by
    rw [Bool.eq_iff_iff, beq_iff_eq, beq_iff_eq]; omega
  simp only [Function.comp, q]
theorem store_two' {w : World} {b : Nat} {x y : Value} {t : TypeId} (h : Two w b x y t) (x' y' : Value) : w.cell? ⟨b, 0, none⟩ = some x ∧ w.frozen? ⟨b, 0, none⟩ = false ∧ (w.setCell ⟨b, 0, none⟩ x').cell? ⟨b, 1, none⟩ = some y ∧ (w.setCell ⟨b, 0, none⟩ x').frozen? ⟨b, 1, none⟩ = false ∧ ((w.setCell ⟨b, 0, none⟩ x').setCell ⟨b, 1, none⟩ y').cell? ⟨b, 0, none⟩ = some x' ∧ ((w.setCell ⟨b, 0, none⟩ x').setCell ⟨b, 1, none⟩ y').cell? ⟨b, 1, none⟩ = some y' := by
  have h1 : Two (w.setCell ⟨b, 0, none⟩ x') b x' y t := box_set (cs := #[x, y]) h 0 x'
  exact ⟨(cell_two h).1, box_free (cs := #[x, y]) h 0, (cell_two h1).2, box_free (cs := #[x', y]) h1 1, (cell_two (two_setN h)).1, (cell_two (two_setN h)).2⟩
theorem one_alloc' {w : World} {b : Nat} {x : Value} {t : TypeId} (h : One w b x t) (o : Obj) : One (w.alloc o) b x t := (Below.heap_alloc _ _ _ (lt_of_block h)).trans h
end Go.Proofs.YthjkjanibkpgiaaDoor
