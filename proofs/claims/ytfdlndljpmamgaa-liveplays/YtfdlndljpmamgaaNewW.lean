/- A new house; a copy of a list of texts. -/
import Derived.Test.YtfdlndljpmamgaaUndoW
namespace Go.Proofs.Ytfdlndljpmamgaa
set_option maxRecDepth 8000
open Go.RowKit Go.Maps
attribute [local go_sem ↓] Go.wp_at_zero Go.wp_at_succ
set_option maxHeartbeats 2000000 in
theorem new_call (w : World) : Calls Try.prog 5 #[] w fun e w' => ∃ p : Hp, e = .returned (ptr p.b) ∧ Hse w' p [] (fun _ _ => false) [] 0 ∧ (∀ x, p.mine x → w.heap.size ≤ x) ∧ Below w.heap.size w w' := by
  have hmm := @run_makeMap Try.prog
  go_enter Try.func5, Try.ntmps5
  go_wp2
  go_ret
  have e1 : (w.alloc (Obj.map #[] 0)).heap.size = w.heap.size + 1 := by simp
  have e2 : ((w.alloc (Obj.map #[] 0)).alloc (Obj.map #[] 0)).heap.size = w.heap.size + 2 := by simp
  have e3 : (((w.alloc (Obj.map #[] 0)).alloc (Obj.map #[] 0)).alloc (Obj.cells fresh5 78)).heap.size = w.heap.size + 3 := by simp
  have m1 := numM_made w
  have m2 := edM_made (w.alloc (Obj.map #[] 0))
  have b3 : Box (((w.alloc (Obj.map #[] 0)).alloc (Obj.map #[] 0)).alloc (Obj.cells fresh5 78)) (w.heap.size + 2) fresh5 78 := by rw [← e2]; exact heap_alloc_new _ _
  have b4 : Box ((((w.alloc (Obj.map #[] 0)).alloc (Obj.map #[] 0)).alloc (Obj.cells fresh5 78)).alloc (Obj.cells #[.slice none 0 0, .map (some w.heap.size), .map (some (w.heap.size + 1)), .slice none 0 0, ptr (w.heap.size + 2)] 81)) (w.heap.size + 3) #[.slice none 0 0, .map (some w.heap.size), .map (some (w.heap.size + 1)), .slice none 0 0, ptr (w.heap.size + 2)] 81 := by rw [← e3]; exact heap_alloc_new _ _
  refine ⟨⟨w.heap.size + 3, w.heap.size, w.heap.size + 1, w.heap.size + 2, .slice none 0 0, .slice none 0 0, .slice none 0 0⟩, rfl, ⟨⟨b4, World.ownsRow_nil _ _ _ _, ?_, ?_, by show w.heap.size ≠ w.heap.size + 1; omega, [], World.ownsRow_nil _ _ _ _, fun i c h => by simp at h⟩, Or.inl ⟨rfl, one_alloc b3 _⟩⟩, ?_, ?_⟩
  · have h1 := (m1.congr (G := nmOf []) fun s => by simp [nmOf])
    exact h1.block (by rw [Below.heap_alloc _ _ _ (by simp; omega), Below.heap_alloc _ _ _ (by simp; omega), Below.heap_alloc _ _ _ (by simp)])
  · rw [e1] at m2
    exact m2.block (by rw [Below.heap_alloc _ _ _ (by simp), Below.heap_alloc _ _ _ (by simp)])
  · intro x hx
    rcases hx with h | h | h | h | h | h | h
    · have h : x = w.heap.size + 3 := h; omega
    · have h : x = w.heap.size := h; omega
    · have h : x = w.heap.size + 1 := h; omega
    · have h : x = w.heap.size + 2 := h; omega
    · cases h
    · cases h
    · cases h
  · exact below_alloc (below_alloc (below_alloc (below_alloc (Below.refl _ w) _) _) _) _
theorem run_appendE (w : World) (g n c : Nat) (x : Option Addr) (c2 : Nat) (ty : TypeId) (hn : n ≤ c) : (Builtin.append_ #[43, 43] ty #[.slice (some ⟨g, 0, none⟩) n c, .slice x 0 c2]).run Try.prog w = .ok (.slice (some ⟨g, 0, none⟩) n c) w := by
  cases x <;> simp [Builtin.append_, go_sem, hn]
set_option maxHeartbeats 1000000 in
/-- A row of texts, copied. -/
theorem cloneS_call {w : World} {v : Value} {L : List ByteArray} (h : w.ownsRow 0 9 1 v L.length (sv L)) (hL : L.length ≤ 1000) :
    Calls Try.prog 45 #[v] w fun e w' => ∃ v', e = .returned v' ∧ w'.ownsRow w.heap.size 9 1 v' L.length (sv L) ∧ Below w.heap.size w w' := by
  obtain ⟨i3, hi3, hy0, hy1, hy2⟩ := info_parts Try.info9
  rcases h.2 with ⟨rfl, h0⟩ | ⟨g, pc, cur, rfl, _, hg, hnc, hm, hsz, htk⟩
  · have h1 : L = [] := List.length_eq_zero_iff.1 h0
    subst h1
    have hnil : ∀ w : World, (binOp .eql 43 (.slice none 0 0) (.slice none 0 0)).run Try.prog w = .ok (.bool true) w := fun _ => by kernel_rfl
    go_enter Try.func45, Try.ntmps45
    go_wp2
    go_ret
    exact ⟨_, rfl, World.ownsRow_nil _ _ _ _, Below.refl _ _⟩
  · have hB := below_alloc (Below.refl _ w) (Obj.cells #[] 9)
    have ho : (w.alloc (Obj.cells #[] 9)).ownsRow w.heap.size 9 1 (.slice (some ⟨w.heap.size, 0, none⟩) 0 0) 0 [] := ⟨rfl, Or.inr ⟨w.heap.size, 0, #[], rfl, Nat.le_refl _, heap_alloc_new _ _, Nat.le_refl _, by unfold maxLen; omega, rfl, rfl⟩⟩
    have HO := hid ho
    have hnil : ∀ (m : Nat) (w : World), (binOp .eql 43 (.slice (some ⟨g, 0, none⟩) m pc) (.slice none 0 0)).run Try.prog w = .ok (.bool false) w := fun _ _ => by kernel_rfl
    have hq : ∀ j u, (sv L)[j]? = some u → (w.alloc (Obj.cells #[] 9)).cell? ((⟨g, 0, none⟩ : Addr).add j) = some u := fun j u hj => by
      have h1 := h.cells (g := g) rfl j u hj
      rw [add_none] at h1
      rw [add_none]
      exact (hB.cell (World.block_lt_of_cell? w _ h1)).trans h1
    have HQ : Hid (∀ j u, (sv L)[j]? = some u → (w.alloc (Obj.cells #[] 9)).cell? ((⟨g, 0, none⟩ : Addr).add j) = some u) := hq
    have HL : Hid ((sv L).length = L.length * 1) := (by rw [Nat.mul_one, List.length_map] : (sv L).length = L.length * 1)
    have H1 : Hid (∀ u ∈ sv L, u.oneCell' = true) := fun u hu => by
      obtain ⟨y, _, rfl⟩ := List.mem_map.1 hu
      rfl
    clear ho hq
    by_cases h0 : L.length = 0
    · have h1 : L = [] := List.length_eq_zero_iff.1 h0
      subst h1
      have HR : Hid (∀ ty, (Builtin.append_ #[43, 43] ty #[.slice (some ⟨w.heap.size, 0, none⟩) 0 0, .slice (some ⟨g, 0, none⟩) 0 pc]).run Try.prog (w.alloc (Obj.cells #[] 9)) = .ok (.slice (some ⟨w.heap.size, 0, none⟩) 0 0) (w.alloc (Obj.cells #[] 9))) := fun ty => run_appendE _ _ 0 0 _ _ ty (Nat.le_refl _)
      clear hg htk
      go_enter Try.func45, Try.ntmps45
      go_wp2_with (first | (at_builtin; refine Lib.wpList_append_run _ rfl _ _ _ _ rfl _ _ rfl rfl _ _ (HR.out _) ?_) | go_in)
      go_ret
      exact ⟨_, rfl, HO.out, hB⟩
    · have hl : 0 < L.length := by omega
      clear hg htk h
      go_enter Try.func45, Try.ntmps45
      go_wp2_with (first | (at_builtin; refine wpList_append_lies _ rfl _ _ 43 rfl w.heap.size 9 i3 (.string ByteArray.empty) 1 16 Try.underlying43 hi3 hy0 hy1 hy2 rfl (by decide) _ _ _ rfl HO.out ⟨g, 0, none⟩ L.length pc (sv L) rfl HL.out HQ.out H1.out hl (by unfold maxLen; omega) (by omega) (by simp) (w.heap.size + 1) (by simp) ?_; intro g1 c1 w1 hown1 hgr1 hat1 _) | go_in)
      have hown2 : w1.ownsRow w.heap.size 9 1 (.slice (some ⟨g1, 0, none⟩) L.length c1) L.length (sv L) := by simpa using hown1
      have hB1 : Below w.heap.size w w1 := Turns.below hB (Turns.of_grown hgr1) hB.size (fun x hx => by
        have hx' : some x = some w.heap.size := hx
        have : x = w.heap.size := by simpa using hx'
        omega)
      clear hown1 hgr1 hat1
      go_ret
      exact ⟨_, rfl, hown2, hB1⟩
end Go.Proofs.Ytfdlndljpmamgaa
