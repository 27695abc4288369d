/- Points that are copied. -/
import Derived.Test.YtnboonhlffkimaaGreatDoorPtW
import Derived.Test.YtnboonhlffkimaaGreatDoorRegM
namespace Go.Proofs.YtnboonhlffkimaaGreatDoor
set_option maxRecDepth 8000
open Go.RowKit Go.Maps
theorem exec_append {a : Act} {o : Oper} {w w' : World} {s x : Operand} {t : TypeId} {v y r : Value} (ho : o.op = .call { callee := .builtin .append, args := #[s, x], argTypes := #[t, t] }) (hs : a.eval s = v) (hx : a.eval x = y) (hr : (Builtin.append_ #[t, t] o.type #[v, y]).run Tryz.prog w = .ok r w') : (execOp a.eval o).run Tryz.prog w = .ok (.value r) w' := by
  unfold execOp
  simp only [ho, resolve, invoke, builtin, Sem.run_bind, Sem.run_pure, Result.andThen_ok, List.map_toArray, List.map_cons, List.map_nil, hs, hx, hr]
theorem Tryz.info32 : (Tryz.prog.info? 32).map (fun i => (i.zero, i.size, i.bytes)) = some (some (.agg #[.int .i64 0, .int .i64 0]), 2, 16) := by kernel_rfl
theorem run_copyP {W : World} {ty : TypeId} {ao : Option Addr} {n ac : Nat} {P : Nat → Pt} (hP : PF W ao n P) (hn : n ≤ 8796093022208) :
    ∃ po pc w', (Builtin.append_ #[25, 25] ty #[.slice none 0 0, .slice ao n ac]).run Tryz.prog W = .ok (.slice po n pc) w' ∧ PF w' po n P ∧ n ≤ pc ∧ Below W.heap.size W w' := by
  obtain ⟨i3, hi3, hy0, hy1, hy2⟩ := info_parts Tryz.info32
  by_cases h0 : n = 0
  · subst h0
    refine ⟨none, 0, W, ?_, fun j hj => by omega, Nat.le_refl _, Below.refl _ _⟩
    cases ao with
    | none => simp [go_sem, Builtin.append_]
    | some x => simp [go_sem, Builtin.append_]
  · obtain ⟨b1, off1, rfl, _⟩ := hP 0 (by omega)
    obtain ⟨L, hL⟩ : ∃ L : List Pair, L = (List.range n).map P := ⟨_, rfl⟩
    have hLl : L.length = n := by rw [hL]; simp
    have hLk : ∀ k (h : k < L.length), L[k] = P k := fun k h => by simp [hL]
    obtain ⟨v', w', hr, h1, h2, _⟩ := run_append_own (P := Tryz.prog) W W.heap.size 25 ty 32 i3 (.agg #[.int .i64 0, .int .i64 0]) 2 16 Tryz.underlying25 hi3 hy0 hy1 hy2 rfl (by decide) (.slice none 0 0) 0 [] (World.ownsRow_nil _ _ _ _) ⟨b1, off1, none⟩ n ac (flat L) (by rw [flat_length, hLl]) (fun j u hj => by
        obtain ⟨k, hk, ⟨rfl, rfl⟩ | ⟨rfl, rfl⟩⟩ := flat_inv L j u hj
        · obtain ⟨b, off, e, c0, _⟩ := hP k (by omega)
          cases e
          rw [show (⟨b1, off1, none⟩ : Addr).add (k * 2) = ⟨b1, off1 + k * 2, none⟩ from by unfold Addr.add; split <;> simp_all, hLk]
          exact c0
        · obtain ⟨b, off, e, _, c1⟩ := hP k (by omega)
          cases e
          rw [show (⟨b1, off1, none⟩ : Addr).add (k * 2 + 1) = ⟨b1, off1 + k * 2 + 1, none⟩ from by unfold Addr.add; split <;> simp_all [Nat.add_assoc], hLk]
          exact c1) (flat_one L) (by unfold maxLen; omega) (by omega) (Nat.le_refl _)
    simp only [Nat.zero_add, List.nil_append] at h1
    have hB : Below W.heap.size W w' := (Below.refl _ _).grown h2 (Nat.le_refl _) (fun k hk => by cases hk)
    rcases h1.2 with ⟨_, e0⟩ | ⟨g, cap, cur, rfl, _, _, hle, _⟩
    · omega
    · refine ⟨some ⟨g, 0, none⟩, cap, w', hr, fun j hj => ⟨g, 0, rfl, ?_, ?_⟩, hle, hB⟩
      · have := h1.cells (g := g) rfl (j * 2) (.int .i64 (P j).1) (by
          have := (flat_get L j (by omega)).1
          rw [hLk] at this
          exact this)
        rw [add_none] at this
        simpa using this
      · have := h1.cells (g := g) rfl (j * 2 + 1) (.int .i64 (P j).2) (by
          have := (flat_get L j (by omega)).2
          rw [hLk] at this
          exact this)
        rw [add_none] at this
        simpa [Nat.add_assoc] using this
end Go.Proofs.YtnboonhlffkimaaGreatDoor
