/- What plan.walk's literal does is one thing alone; and what it does to the doubled path of three nodes. -/
import Derived.Test.YtkbgcbbloogdjacTourWalk
namespace Go.Proofs.Ytkbgcbbloogdjac

theorem goN_det {N : Nat} : ∀ {n v u : Nat} {P P1 : Nat → Nat → Int} {A1 : List Nat}, GoN N n v u P P1 A1 → ∀ {k : Nat} {P2 : Nat → Nat → Int} {A2 : List Nat}, GoN N k v u P P2 A2 → P1 = P2 ∧ A1 = A2
  | 0, _, _, _, _, _, h, k, _, _, h' => by
    obtain ⟨rfl, rfl, rfl⟩ := h
    cases k with
    | zero => obtain ⟨_, rfl, rfl⟩ := h'; exact ⟨rfl, rfl⟩
    | succ k =>
      rcases h' with ⟨_, rfl, rfl⟩ | ⟨h1, _⟩ | ⟨h1, _⟩
      · exact ⟨rfl, rfl⟩
      · omega
      · omega
  | n + 1, _, _, _, _, _, h, k, _, _, h' => by
    rcases h with ⟨rfl, rfl, rfl⟩ | ⟨h1, h2, h3⟩ | ⟨h1, h2, Q, B1, B2, h3, h4, rfl⟩
    · cases k with
      | zero => obtain ⟨_, rfl, rfl⟩ := h'; exact ⟨rfl, rfl⟩
      | succ k =>
        rcases h' with ⟨_, rfl, rfl⟩ | ⟨g1, _⟩ | ⟨g1, _⟩
        · exact ⟨rfl, rfl⟩
        · omega
        · omega
    · cases k with
      | zero => obtain ⟨e, _⟩ := h'; omega
      | succ k =>
        rcases h' with ⟨e, _⟩ | ⟨_, _, g3⟩ | ⟨_, g2, _⟩
        · omega
        · exact goN_det h3 g3
        · exact absurd g2 h2
    · cases k with
      | zero => obtain ⟨e, _⟩ := h'; omega
      | succ k =>
        rcases h' with ⟨e, _⟩ | ⟨_, g2, _⟩ | ⟨_, _, Q', C1, C2, g3, g4, rfl⟩
        · omega
        · exact absurd h2 g2
        · obtain ⟨rfl, rfl⟩ := goN_det h3 g3
          obtain ⟨rfl, rfl⟩ := goN_det h4 g4
          exact ⟨rfl, rfl⟩
theorem goOn_det {N v u : Nat} {P P1 P2 : Nat → Nat → Int} {A1 A2 : List Nat} (h : GoOn N v u P P1 A1) (h' : GoOn N v u P P2 A2) : P1 = P2 ∧ A1 = A2 := by
  obtain ⟨n, h⟩ := h
  obtain ⟨k, h'⟩ := h'
  exact goN_det h h'

/-- The path of three nodes, each edge twice. -/
def path3 (a b : Nat) : Int := if (a = 0 ∧ b = 1) ∨ (a = 1 ∧ b = 0) ∨ (a = 1 ∧ b = 2) ∨ (a = 2 ∧ b = 1) then 2 else 0
theorem go_path3 : ∃ P', GoOn 3 0 0 path3 P' [0, 1, 2, 1] := by
  have d0 : GoOn 3 0 0 (addP (addP path3 1 0 (-1)) 0 1 (-1)) (addP (addP path3 1 0 (-1)) 0 1 (-1)) [] := .next (by omega) (by decide) (.next (by omega) (by decide) (.next (by omega) (by decide) (.done _ _)))
  have d1 : GoOn 3 1 0 (addP (addP (addP (addP path3 1 0 (-1)) 0 1 (-1)) 2 1 (-1)) 1 2 (-1)) (addP (addP (addP (addP path3 1 0 (-1)) 0 1 (-1)) 2 1 (-1)) 1 2 (-1)) [] := .next (by omega) (by decide) (.next (by omega) (by decide) (.next (by omega) (by decide) (.done _ _)))
  have d2 : GoOn 3 2 0 (addP (addP (addP path3 1 0 (-1)) 0 1 (-1)) 2 1 (-1)) (addP (addP (addP (addP path3 1 0 (-1)) 0 1 (-1)) 2 1 (-1)) 1 2 (-1)) (([] ++ [1]) ++ []) := .next (by omega) (by decide) (.take (by omega) (by decide) d1 (.next (by omega) (by decide) (.next (by omega) (by decide) (.done _ _))))
  have d3 : GoOn 3 1 0 (addP path3 1 0 (-1)) (addP (addP (addP (addP path3 1 0 (-1)) 0 1 (-1)) 2 1 (-1)) 1 2 (-1)) (([] ++ [0]) ++ (((([] ++ [1]) ++ []) ++ [2]) ++ [])) := .take (by omega) (by decide) d0 (.next (by omega) (by decide) (.next (by omega) (by decide) (.take (by omega) (by decide) d2 (.next (by omega) (by decide) (.done _ _)))))
  have d4 := GoOn.next (N := 3) (v := 0) (u := 0) (P := path3) (by omega) (by decide) (GoOn.take (by omega) (by decide) d3 (.next (by omega) (by decide) (.next (by omega) (by decide) (.done _ _))))
  exact ⟨_, by simpa using d4⟩
end Go.Proofs.Ytkbgcbbloogdjac
