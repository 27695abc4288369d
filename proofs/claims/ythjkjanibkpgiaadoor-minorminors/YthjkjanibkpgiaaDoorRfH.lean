/- R.Has2; lists that are copied and made longer. -/
import Derived.Test.YthjkjanibkpgiaaDoorPzT
import Derived.Test.YthjkjanibkpgiaaDoorRowsP
namespace Go.Proofs.YthjkjanibkpgiaaDoor
set_option maxRecDepth 8000
open Go.RowKit Go.Maps
attribute [local go_sem ↓] Go.wp_at_zero Go.wp_at_succ
theorem NumF.below {w w' : World} {vo : Option Addr} {n : Nat} {f : Nat → Int} (h : NumF w vo n f) (hb : Below w.heap.size w w') : NumF w' vo n f := fun j hj => by
  obtain ⟨b, off, e, hc⟩ := h j hj
  exact ⟨b, off, e, (hb.cell (World.block_lt_of_cell? w _ hc)).trans hc⟩
theorem wpList_copyNilG {W : World} {ops : Array Oper} {rest : List Oper} {o : Oper} {a : Act} {Q : Exit → Act → World → Prop} {vo : Option Addr} {vc : Nat} {L : List Nat} (hgd : Region.wanted o (yielded ops a.tmps) = true) (s y : Operand)
    (ho : o.op = .call { callee := .builtin .append, args := #[s, y], argTypes := #[39, 39] }) (hs : a.eval s = .slice none 0 0) (hy : a.eval y = .slice vo L.length vc)
    (hL : NumF W vo L.length (fun i => (L.getD i 0 : Int))) (hl : L.length ≤ 1000)
    (h : ∀ po pc w', w'.ownsRow W.heap.size 3 1 (.slice po L.length pc) L.length (qv L) → Below W.heap.size W w' → wpList Tryd.prog ops Q rest (a.put o.dst (.slice po L.length pc)) w') :
    wpList Tryd.prog ops Q (o :: rest) a W := by
  obtain ⟨i3, hi3, hy0, hy1, hy2⟩ := info_parts Tryd.info3
  by_cases hl0 : L = []
  · subst hl0
    have hk := h none 0 W (World.ownsRow_nil _ _ _ _) (Below.refl _ _)
    obtain ⟨dst, op, type, pos, after, guard⟩ := o
    simp only at ho hk
    subst ho
    refine wpList_step fun K hK => ?_
    rw [if_pos hgd]
    have hk' := hK _ _ hk
    clear hk
    unfold Oper.wp
    obtain ⟨ρ, hρ⟩ : ∃ ρ, ρ = a.eval := ⟨_, rfl⟩
    rw [← hρ] at hs hy ⊢
    cases vo with
    | none =>
      simp [go_sem, hs, hy]
      exact hk'
    | some x =>
      simp [go_sem, hs, hy]
      exact hk'
  · have hpos : 0 < L.length := List.length_pos_iff.2 hl0
    obtain ⟨b1, off1, rfl, _⟩ := hL 0 hpos
    refine wpList_step fun K hK => ?_
    rw [if_pos hgd]
    refine wp_append_own _ s y 39 ho W.heap.size 3 i3 (.int .i64 0) 1 8 Tryd.underlying39 hi3 hy0 hy1 hy2 rfl (by decide) (.slice none 0 0) 0 [] hs (World.ownsRow_nil _ _ _ _) ⟨b1, off1, none⟩ L.length vc (qv L) hy (by simp [qv]) ?n1 ?n2 ?n3 ?n4 (Nat.le_refl _) ?_
    case n1 =>
      intro j u hj
      have hjl : j < L.length := by
        by_cases h : j < L.length
        · exact h
        · rw [List.getElem?_eq_none (by simp [qv]; omega)] at hj; cases hj
      obtain ⟨b, off, e, c⟩ := hL j hjl
      cases e
      have : u = .int .i64 (L.getD j 0 : Int) := by
        unfold qv at hj
        rw [List.getElem?_map, List.getElem?_eq_getElem hjl] at hj
        simp at hj
        rw [← hj]
        simp [List.getD_eq_getElem?_getD, List.getElem?_eq_getElem hjl]
      rw [this, show (⟨b1, off1, none⟩ : Addr).add j = ⟨b1, off1 + j, none⟩ from by unfold Addr.add; split <;> simp_all]
      exact c
    case n2 => intro u hu; unfold qv at hu; simp at hu; obtain ⟨x, _, rfl⟩ := hu; rfl
    case n3 => unfold maxLen; omega
    case n4 => omega
    intro v w' h1 h2 _
    simp only [Nat.zero_add, List.nil_append] at h1
    obtain ⟨po, pc, rfl⟩ := form_row h1
    refine hK _ _ (h po pc w' h1 ⟨h2.os, h2.tape, h2.output, h2.size, fun k hk => h2.block k hk (by simp [Value.ownBlock])⟩)
theorem wpList_pushG {W : World} {ops : Array Oper} {rest : List Oper} {o : Oper} {a : Act} {Q : Exit → Act → World → Prop} {base : Nat} {po : Option Addr} {pc : Nat} {l : List Nat} {x : Nat} (hgd : Region.wanted o (yielded ops a.tmps) = true) (s y : Operand)
    (ho : o.op = .call { callee := .builtin .append, args := #[s, y], argTypes := #[39, 39] }) (hs : a.eval s = .slice po l.length pc) (hy : a.eval y = .slice (some ⟨W.heap.size, 0, none⟩) 1 1)
    (hown : W.ownsRow base 3 1 (.slice po l.length pc) l.length (qv l)) (hl : l.length ≤ 1000000) (hbase : base ≤ W.heap.size)
    (h : ∀ g c w', w'.ownsRow base 3 1 (.slice (some ⟨g, 0, none⟩) (l ++ [x]).length c) (l ++ [x]).length (qv (l ++ [x])) → (W.alloc (Obj.cells #[.int .i64 (x : Int)] 3)).grownBy w' (Value.slice po l.length pc).ownBlock → wpList Tryd.prog ops Q rest (a.put o.dst (.slice (some ⟨g, 0, none⟩) (l ++ [x]).length c)) w') :
    wpList Tryd.prog ops Q (o :: rest) a (W.alloc (Obj.cells #[.int .i64 (x : Int)] 3)) := by
  obtain ⟨i3, hi3, hy0, hy1, hy2⟩ := info_parts Tryd.info3
  refine wpList_step fun K hK => ?_
  rw [if_pos hgd]
  refine wp_append_own _ s y 39 ho base 3 i3 (.int .i64 0) 1 8 Tryd.underlying39 hi3 hy0 hy1 hy2 rfl (by decide) _ _ _ hs (hown.alloc _) ⟨W.heap.size, 0, none⟩ 1 1 [.int .i64 (x : Int)] hy rfl ?_ ?_ ?_ ?_ ?_ ?_
  · intro j u hj
    have hj0 : j = 0 := by
      have := (List.getElem?_eq_some_iff.1 hj).1
      simp at this; exact this
    subst hj0
    simp at hj
    subst hj
    rw [add_none]
    exact one_cell W _ 3
  · intro y hy; simp at hy; subst hy; rfl
  · unfold maxLen; omega
  · omega
  · simp; omega
  · intro v w' h1 h2 _
    have hll : (l ++ [x]).length = l.length + 1 := by simp
    have e : qv l ++ [.int .i64 (x : Int)] = qv (l ++ [x]) := by simp [qv]
    rw [e, ← hll] at h1
    rcases h1.2 with ⟨_, e0⟩ | ⟨g, cap, cur, rfl, _⟩
    · omega
    · exact hK _ _ (h g cap w' h1 h2)
theorem num_own {W : World} {base g c : Nat} {L : List Nat} (h : W.ownsRow base 3 1 (.slice (some ⟨g, 0, none⟩) L.length c) L.length (qv L)) : NumF W (some ⟨g, 0, none⟩) L.length (fun i => (L.getD i 0 : Int)) := fun j hj => ⟨g, 0, rfl, by
  have hu : L[j]? = some (L.getD j 0) := by rw [List.getD_eq_getElem?_getD, List.getElem?_eq_getElem hj]; rfl
  obtain ⟨b, e, c⟩ := numsAt_own h j _ hu
  cases e
  rw [Nat.zero_add]; exact c⟩
set_option maxHeartbeats 600000 in
theorem rank_call {w : World} {vo : Option Addr} {n vc : Nat} {f : Nat → Int} (h : NumF w vo n f) (hn : n ≤ 100000) (x : Int) :
    Calls Tryd.prog 46 #[.slice vo n vc, .int .i64 x] w fun e w' => (∃ m : Nat, e = .returned (.int .i64 (m : Int)) ∧ m ≤ n ∧ (∀ j, j < m → f j ≠ x) ∧ (m < n → f m = x)) ∧ w' = w := by
  have H : Hid (NumF w vo n f) := h
  clear h
  go_enter Tryd.func46, Tryd.ntmps46
  go_wp2
  go_loopw [4, 5] (fun _ i wr => ∃ k : Nat, k ≤ n ∧ i = .int .i64 (k : Int) ∧ (∀ j, j < k → f j ≠ x) ∧ wr = w) (fun _ i _ => n - (numOf i).toNat)
  case atStart => exact ⟨0, Nat.zero_le _, rfl, fun j hj => by omega, rfl⟩
  case round =>
    obtain ⟨k, hk, rfl, hne, hwr⟩ := hrel
    have hwr' := hwr.symm
    clear hwr
    subst hwr'
    have HNE : Hid (∀ j, j < k → f j ≠ x) := hne
    clear hne
    by_cases hlt : k < n
    · obtain ⟨b, off, rfl, ck⟩ := H.out k hlt
      have i1 : (0 : Int) ≤ (k : Int) := by omega
      have i2 : (k : Int) < (n : Int) := by omega
      by_cases he : f k = x
      · have k1 : (f k == x) = true := by rw [beq_iff_eq]; exact he
        have HE : Hid (f k = x) := he
        clear he
        go_wp2
        go_ret
        exact ⟨⟨k, rfl, hk, HNE.out, fun _ => HE.out⟩, rfl⟩
      · have k1 : (f k == x) = false := by rw [beq_eq_false_iff_ne]; exact he
        have HE : Hid (f k ≠ x) := he
        clear he
        go_wp2
        go_roundw
        case rel => exact ⟨k + 1, by omega, by go_num, fun j hj => by
          by_cases e : j = k
          · subst e; exact HE.out
          · exact HNE.out j (by omega), trivial⟩
        case measure => simp [numOf]; omega
    · have i2 : ¬ (k : Int) < (n : Int) := by omega
      have hkn : k = n := by omega
      subst hkn
      go_wp2
      go_ret
      exact ⟨⟨k, rfl, Nat.le_refl _, HNE.out, fun h => by omega⟩, rfl⟩
def inB (n : Nat) (f : Nat → Int) (x : Int) : Bool := (List.range n).any fun j => f j == x
set_option maxHeartbeats 600000 in
theorem has2_call {w : World} {vo : Option Addr} {n vc : Nat} {f : Nat → Int} (h : NumF w vo n f) (hn : n ≤ 100000) (x : Int) :
    Calls Tryd.prog 31 #[.slice vo n vc, .int .i64 x] w fun e w' => e = .returned (.bool (inB n f x)) ∧ w' = w := by
  have C53 : Hid _ := rank_call (vc := vc) h hn x
  clear h
  go_enter Tryd.func31, Tryd.ntmps31
  go_wp2_with (first | (go_at_call 46; refine Calls.mono C53.out ?_; rintro e w' ⟨⟨m, rfl, hm, h1, h2⟩, rfl⟩) | go_in)
  go_ret
  refine ⟨?_, rfl⟩
  have key : decide (m < n) = inB n f x := by
    by_cases hlt : m < n
    · rw [show inB n f x = true from List.any_eq_true.2 ⟨m, List.mem_range.2 hlt, by rw [beq_iff_eq]; exact h2 hlt⟩]
      simpa using hlt
    · rw [show inB n f x = false from List.any_eq_false.2 fun j hj => by simpa using h1 j (by have := List.mem_range.1 hj; omega)]
      simpa using hlt
  rw [← key]
  rfl
end Go.Proofs.YthjkjanibkpgiaaDoor
