/- R.Has2; lists that are copied and made longer. The document's own rings: R.rings, one node behind the other. -/
import Derived.Test.YtmeodnkmhakidaaDoorRgC
import Derived.Test.YtmeodnkmhakidaaDoorRowsP
namespace Go.Proofs.YtmeodnkmhakidaaDoor
set_option maxRecDepth 8000
open Go.RowKit Go.Maps
attribute [local go_sem ↓] Go.wp_at_zero Go.wp_at_succ
theorem NumF.below {w w' : World} {vo : Option Addr} {n : Nat} {f : Nat → Int} (h : NumF w vo n f) (hb : Below w.heap.size w w') : NumF w' vo n f := fun j hj => by
  obtain ⟨b, off, e, hc⟩ := h j hj
  exact ⟨b, off, e, (hb.cell (World.block_lt_of_cell? w _ hc)).trans hc⟩
theorem wpList_copyNilG {W : World} {ops : Array Oper} {rest : List Oper} {o : Oper} {a : Act} {Q : Exit → Act → World → Prop} {vo : Option Addr} {vc : Nat} {L : List Nat} (hgd : Region.wanted o (yielded ops a.tmps) = true) (s y : Operand)
    (ho : o.op = .call { callee := .builtin .append, args := #[s, y], argTypes := #[29, 29] }) (hs : a.eval s = .slice none 0 0) (hy : a.eval y = .slice vo L.length vc)
    (hL : NumF W vo L.length (fun i => (L.getD i 0 : Int))) (hl : L.length ≤ 1000)
    (h : ∀ po pc w', w'.ownsRow W.heap.size 3 1 (.slice po L.length pc) L.length (qv L) → Below W.heap.size W w' → wpList Tryd.prog ops Q rest (a.put o.dst (.slice po L.length pc)) w') :
    wpList Tryd.prog ops Q (o :: rest) a W := by
  obtain ⟨i3, hi3, hy0, hy1, hy2⟩ := info_parts Tryd.info3
  by_cases hl0 : L = []
  · subst hl0
    have hk := h none 0 W (World.ownsRow_nil _ _ _ _) (Below.refl _ _)
    obtain ⟨dst, op, type, pos, after, guard⟩ := o
    simp only at ho hk
    subst ho
    refine wpList_step fun K hK => ?_
    rw [if_pos hgd]
    have hk' := hK _ _ hk
    clear hk
    unfold Oper.wp
    obtain ⟨ρ, hρ⟩ : ∃ ρ, ρ = a.eval := ⟨_, rfl⟩
    rw [← hρ] at hs hy ⊢
    cases vo with
    | none =>
      simp [go_sem, hs, hy]
      exact hk'
    | some x =>
      simp [go_sem, hs, hy]
      exact hk'
  · have hpos : 0 < L.length := List.length_pos_iff.2 hl0
    obtain ⟨b1, off1, rfl, _⟩ := hL 0 hpos
    refine wpList_step fun K hK => ?_
    rw [if_pos hgd]
    refine wp_append_own _ s y 29 ho W.heap.size 3 i3 (.int .i64 0) 1 8 Tryd.underlying29 hi3 hy0 hy1 hy2 rfl (by decide) (.slice none 0 0) 0 [] hs (World.ownsRow_nil _ _ _ _) ⟨b1, off1, none⟩ L.length vc (qv L) hy (by simp [qv]) ?n1 ?n2 ?n3 ?n4 (Nat.le_refl _) ?_
    case n1 =>
      intro j u hj
      have hjl : j < L.length := by
        by_cases h : j < L.length
        · exact h
        · rw [List.getElem?_eq_none (by simp [qv]; omega)] at hj; cases hj
      obtain ⟨b, off, e, c⟩ := hL j hjl
      cases e
      have : u = .int .i64 (L.getD j 0 : Int) := by
        unfold qv at hj
        rw [List.getElem?_map, List.getElem?_eq_getElem hjl] at hj
        simp at hj
        rw [← hj]
        simp [List.getD_eq_getElem?_getD, List.getElem?_eq_getElem hjl]
      rw [this, show (⟨b1, off1, none⟩ : Addr).add j = ⟨b1, off1 + j, none⟩ from by unfold Addr.add; split <;> simp_all]
      exact c
    case n2 => intro u hu; unfold qv at hu; simp at hu; obtain ⟨x, _, rfl⟩ := hu; rfl
    case n3 => unfold maxLen; omega
    case n4 => omega
    intro v w' h1 h2 _
    simp only [Nat.zero_add, List.nil_append] at h1
    obtain ⟨po, pc, rfl⟩ := form_row h1
    refine hK _ _ (h po pc w' h1 ⟨h2.os, h2.tape, h2.output, h2.size, fun k hk => h2.block k hk (by simp [Value.ownBlock])⟩)
theorem wpList_pushG {W : World} {ops : Array Oper} {rest : List Oper} {o : Oper} {a : Act} {Q : Exit → Act → World → Prop} {base : Nat} {po : Option Addr} {pc : Nat} {l : List Nat} {x : Nat} (hgd : Region.wanted o (yielded ops a.tmps) = true) (s y : Operand)
    (ho : o.op = .call { callee := .builtin .append, args := #[s, y], argTypes := #[29, 29] }) (hs : a.eval s = .slice po l.length pc) (hy : a.eval y = .slice (some ⟨W.heap.size, 0, none⟩) 1 1)
    (hown : W.ownsRow base 3 1 (.slice po l.length pc) l.length (qv l)) (hl : l.length ≤ 1000000) (hbase : base ≤ W.heap.size)
    (h : ∀ g c w', w'.ownsRow base 3 1 (.slice (some ⟨g, 0, none⟩) (l ++ [x]).length c) (l ++ [x]).length (qv (l ++ [x])) → (W.alloc (Obj.cells #[.int .i64 (x : Int)] 3)).grownBy w' (Value.slice po l.length pc).ownBlock → wpList Tryd.prog ops Q rest (a.put o.dst (.slice (some ⟨g, 0, none⟩) (l ++ [x]).length c)) w') :
    wpList Tryd.prog ops Q (o :: rest) a (W.alloc (Obj.cells #[.int .i64 (x : Int)] 3)) := by
  obtain ⟨i3, hi3, hy0, hy1, hy2⟩ := info_parts Tryd.info3
  refine wpList_step fun K hK => ?_
  rw [if_pos hgd]
  refine wp_append_own _ s y 29 ho base 3 i3 (.int .i64 0) 1 8 Tryd.underlying29 hi3 hy0 hy1 hy2 rfl (by decide) _ _ _ hs (hown.alloc _) ⟨W.heap.size, 0, none⟩ 1 1 [.int .i64 (x : Int)] hy rfl ?_ ?_ ?_ ?_ ?_ ?_
  · intro j u hj
    have hj0 : j = 0 := by
      have := (List.getElem?_eq_some_iff.1 hj).1
      simp at this; exact this
    subst hj0
    simp at hj
    subst hj
    rw [add_none]
    exact one_cell W _ 3
  · intro y hy; simp at hy; subst hy; rfl
  · unfold maxLen; omega
  · omega
  · simp; omega
  · intro v w' h1 h2 _
    have hll : (l ++ [x]).length = l.length + 1 := by simp
    have e : qv l ++ [.int .i64 (x : Int)] = qv (l ++ [x]) := by simp [qv]
    rw [e, ← hll] at h1
    rcases h1.2 with ⟨_, e0⟩ | ⟨g, cap, cur, rfl, _⟩
    · omega
    · exact hK _ _ (h g cap w' h1 h2)
theorem num_own {W : World} {base g c : Nat} {L : List Nat} (h : W.ownsRow base 3 1 (.slice (some ⟨g, 0, none⟩) L.length c) L.length (qv L)) : NumF W (some ⟨g, 0, none⟩) L.length (fun i => (L.getD i 0 : Int)) := fun j hj => ⟨g, 0, rfl, by
  have hu : L[j]? = some (L.getD j 0) := by rw [List.getD_eq_getElem?_getD, List.getElem?_eq_getElem hj]; rfl
  obtain ⟨b, e, c⟩ := numsAt_own h j _ hu
  cases e
  rw [Nat.zero_add]; exact c⟩
set_option maxHeartbeats 600000 in
theorem rank_call {w : World} {vo : Option Addr} {n vc : Nat} {f : Nat → Int} (h : NumF w vo n f) (hn : n ≤ 100000) (x : Int) :
    Calls Tryd.prog 53 #[.slice vo n vc, .int .i64 x] w fun e w' => (∃ m : Nat, e = .returned (.int .i64 (m : Int)) ∧ m ≤ n ∧ (∀ j, j < m → f j ≠ x) ∧ (m < n → f m = x)) ∧ w' = w := by
  have H : Hid (NumF w vo n f) := h
  clear h
  go_enter Tryd.func53, Tryd.ntmps53
  go_wp2
  go_loopw [4, 5] (fun _ i wr => ∃ k : Nat, k ≤ n ∧ i = .int .i64 (k : Int) ∧ (∀ j, j < k → f j ≠ x) ∧ wr = w) (fun _ i _ => n - (numOf i).toNat)
  case atStart => exact ⟨0, Nat.zero_le _, rfl, fun j hj => by omega, rfl⟩
  case round =>
    obtain ⟨k, hk, rfl, hne, hwr⟩ := hrel
    have hwr' := hwr.symm
    clear hwr
    subst hwr'
    have HNE : Hid (∀ j, j < k → f j ≠ x) := hne
    clear hne
    by_cases hlt : k < n
    · obtain ⟨b, off, rfl, ck⟩ := H.out k hlt
      have i1 : (0 : Int) ≤ (k : Int) := by omega
      have i2 : (k : Int) < (n : Int) := by omega
      by_cases he : f k = x
      · have k1 : (f k == x) = true := by rw [beq_iff_eq]; exact he
        have HE : Hid (f k = x) := he
        clear he
        go_wp2
        go_ret
        exact ⟨⟨k, rfl, hk, HNE.out, fun _ => HE.out⟩, rfl⟩
      · have k1 : (f k == x) = false := by rw [beq_eq_false_iff_ne]; exact he
        have HE : Hid (f k ≠ x) := he
        clear he
        go_wp2
        go_roundw
        case rel => exact ⟨k + 1, by omega, by go_num, fun j hj => by
          by_cases e : j = k
          · subst e; exact HE.out
          · exact HNE.out j (by omega), trivial⟩
        case measure => simp [numOf]; omega
    · have i2 : ¬ (k : Int) < (n : Int) := by omega
      have hkn : k = n := by omega
      subst hkn
      go_wp2
      go_ret
      exact ⟨⟨k, rfl, Nat.le_refl _, HNE.out, fun h => by omega⟩, rfl⟩
def inB (n : Nat) (f : Nat → Int) (x : Int) : Bool := (List.range n).any fun j => f j == x
set_option maxHeartbeats 600000 in
theorem has2_call {w : World} {vo : Option Addr} {n vc : Nat} {f : Nat → Int} (h : NumF w vo n f) (hn : n ≤ 100000) (x : Int) :
    Calls Tryd.prog 44 #[.slice vo n vc, .int .i64 x] w fun e w' => e = .returned (.bool (inB n f x)) ∧ w' = w := by
  have C53 : Hid _ := rank_call (vc := vc) h hn x
  clear h
  go_enter Tryd.func44, Tryd.ntmps44
  go_wp2_with (first | (go_at_call 53; refine Calls.mono C53.out ?_; rintro e w' ⟨⟨m, rfl, hm, h1, h2⟩, rfl⟩) | go_in)
  go_ret
  refine ⟨?_, rfl⟩
  have key : decide (m < n) = inB n f x := by
    by_cases hlt : m < n
    · rw [show inB n f x = true from List.any_eq_true.2 ⟨m, List.mem_range.2 hlt, by rw [beq_iff_eq]; exact h2 hlt⟩]
      simpa using hlt
    · rw [show inB n f x = false from List.any_eq_false.2 fun j hj => by simpa using h1 j (by have := List.mem_range.1 hj; omega)]
      simpa using hlt
  rw [← key]
  rfl
end Go.Proofs.YtmeodnkmhakidaaDoor

namespace Go.Proofs.YtmeodnkmhakidaaDoor
set_option maxRecDepth 8000
open Go.RowKit Go.Maps
attribute [local go_sem ↓] Go.wp_at_zero Go.wp_at_succ
theorem wpList_copyNilH {W : World} {ops : Array Oper} {rest : List Oper} {o : Oper} {a : Act} {Q : Exit → Act → World → Prop} {vo : Option Addr} {vc n : Nat} {L : List Nat} (hn : n = L.length) (hgd : Region.wanted o (yielded ops a.tmps) = true) (s y : Operand)
    (ho : o.op = .call { callee := .builtin .append, args := #[s, y], argTypes := #[29, 29] }) (hs : a.eval s = .slice none 0 0) (hy : a.eval y = .slice vo n vc)
    (hL : NumF W vo L.length (fun i => (L.getD i 0 : Int))) (hl : L.length ≤ 1000)
    (h : ∀ po pc w', w'.ownsRow W.heap.size 3 1 (.slice po n pc) n (qv L) → Below W.heap.size W w' → wpList Tryd.prog ops Q rest (a.put o.dst (.slice po n pc)) w') :
    wpList Tryd.prog ops Q (o :: rest) a W := by
  subst hn
  exact wpList_copyNilG hgd s y ho hs hy hL hl h
theorem wpList_pushH {W : World} {ops : Array Oper} {rest : List Oper} {o : Oper} {a : Act} {Q : Exit → Act → World → Prop} {base n : Nat} {po : Option Addr} {pc : Nat} {l : List Nat} {x : Nat} (hn : n = l.length) (hgd : Region.wanted o (yielded ops a.tmps) = true) (s y : Operand)
    (ho : o.op = .call { callee := .builtin .append, args := #[s, y], argTypes := #[29, 29] }) (hs : a.eval s = .slice po n pc) (hy : a.eval y = .slice (some ⟨W.heap.size, 0, none⟩) 1 1)
    (hown : W.ownsRow base 3 1 (.slice po n pc) n (qv l)) (hl : n ≤ 1000) (hbase : base ≤ W.heap.size)
    (h : ∀ g c w', w'.ownsRow base 3 1 (.slice (some ⟨g, 0, none⟩) (l ++ [x]).length c) (l ++ [x]).length (qv (l ++ [x])) → (W.alloc (Obj.cells #[.int .i64 (x : Int)] 3)).grownBy w' (Value.slice po n pc).ownBlock → wpList Tryd.prog ops Q rest (a.put o.dst (.slice (some ⟨g, 0, none⟩) (n + 1) c)) w') :
    wpList Tryd.prog ops Q (o :: rest) a (W.alloc (Obj.cells #[.int .i64 (x : Int)] 3)) := by
  subst hn
  refine wpList_pushG hgd s y ho hs hy hown (by omega) hbase fun g c w' h1 h2 => ?_
  have e : (l ++ [x]).length = l.length + 1 := by simp
  have := h g c w' h1 h2
  rw [e]
  exact this
theorem ns_le {f : Nat → Nat} {k : Nat} : ∀ {n : Nat}, k ≤ n → ns k f ≤ ns n f
  | 0, h => by obtain rfl : k = 0 := by omega
               exact Nat.le_refl _
  | n + 1, h => by
    by_cases e : k = n + 1
    · subst e; exact Nat.le_refl _
    · rw [ns]; exact Nat.le_trans (ns_le (by omega)) (Nat.le_add_right _ _)
def lef (l : List Nat) : Nat → Bool := fun u => !(l.contains u)
theorem lef_push (l : List Nat) (u : Nat) : lef (l ++ [u]) = outB (lef l) u := by
  funext z
  unfold lef outB
  by_cases h : z = u
  · subst h; simp
  · by_cases hm : z ∈ l <;> simp [h, hm]
theorem inB_mem (l : List Nat) (x : Nat) : inB l.length (fun i => (l.getD i 0 : Int)) (x : Int) = l.contains x := by
  rw [Bool.eq_iff_iff]
  unfold inB
  rw [List.any_eq_true, List.contains_iff_mem]
  constructor
  · rintro ⟨j, hj, e⟩
    have hj' := List.mem_range.1 hj
    rw [beq_iff_eq] at e
    simp only [List.getD_eq_getElem?_getD, List.getElem?_eq_getElem hj'] at e
    have e' : l[j] = x := by simp at e; omega
    rw [← e']
    exact List.getElem_mem _
  · intro h
    obtain ⟨j, hj, rfl⟩ := List.getElem_of_mem h
    exact ⟨j, List.mem_range.2 hj, by rw [beq_iff_eq]; simp only [List.getD_eq_getElem?_getD, List.getElem?_eq_getElem hj]; rfl⟩
set_option maxHeartbeats 16000000 in
theorem ringsR_call {go : Option Addr} {gc N : Nat} {pz : Int → Int → Bool} (hN : N ≤ 12) : ∀ (c : Nat) (l : List Nat) (u : Nat) (w : World) (vo : Option Addr) (vc : Nat),
    (l ++ [u]).length + c = N → NumF w vo (l ++ [u]).length (fun i => ((l ++ [u]).getD i 0 : Int)) → GridAt w (.slice go N gc) N pz → u < N → 0 ∈ l ++ [u] → crd N (lef (l ++ [u])) = c →
    Calls Tryd.prog 29 #[.slice go N gc, .slice vo (l ++ [u]).length vc] w fun e w' => e = .returned (.int .i64 (rC N (fun (i j : Nat) => pz i j) c u (lef (l ++ [u])) : Int)) ∧ Below w.heap.size w w' := by
  obtain ⟨p, hp⟩ : ∃ p : Nat → Nat → Bool, p = fun (i j : Nat) => pz i j := ⟨_, rfl⟩
  have HP : Hid (∀ i j : Nat, pz i j = p i j) := fun i j => by rw [hp]
  rw [← hp]
  clear hp
  intro c
  induction c with
  | zero =>
    intro l u w vo vc hlen hL hG hu h0 hcr
    have hgr : ∀ i : Nat, i < N → ∃ g b, go = some ⟨g, 0, none⟩ ∧ w.cell? ⟨g, i, none⟩ = some (.slice (some ⟨b, 0, none⟩) N N) ∧ ∀ j : Nat, j < N → w.cell? ⟨b, j, none⟩ = some (.bool (pz i j)) := by
      obtain ⟨ao, cap, e, h⟩ := hG
      cases e
      exact h
    obtain ⟨g, gb, rfl, cg, cgr⟩ := hgr u hu
    have c00 := cgr 0 (by omega)
    rw [show ((0 : Nat) : Int) = 0 from rfl] at c00
    obtain ⟨q, hq⟩ : ∃ q, q = pz u 0 := ⟨_, rfl⟩
    rw [← hq] at c00
    obtain ⟨b, off, rfl, cl⟩ := hL l.length (by simp)
    have e1 : (l ++ [u]).getD l.length 0 = u := by simp [List.getD_eq_getElem?_getD]
    simp only [e1] at cl
    have hll : (l ++ [u]).length = l.length + 1 := by simp
    rw [hll] at hlen ⊢
    have HR : Hid (rC N p 0 u (lef (l ++ [u])) = if q = true then 1 else 0) := by
      show rC N p 0 u (lef (l ++ [u])) = _
      rw [rC, hq, ← HP.out]
      rfl
    obtain ⟨m, hm⟩ : ∃ m, m = l.length := ⟨_, rfl⟩
    rw [← hm] at cl hlen ⊢
    have hlen' : N = m + 1 := by omega
    subst hlen'
    have k1 : (((m : Int) + 1) == ((m : Int) + 1)) = true := by simp
    have i0 : (0 : Int) ≤ (u : Int) := by omega
    have i1 : (u : Int) < ((m + 1 : Nat) : Int) := by omega
    clear hL hG hgr cgr hcr h0 hq hm hll e1 hlen
    cases q with
    | true =>
      go_enter Tryd.func29, Tryd.ntmps29
      go_wp2
      go_ret
      exact ⟨by rw [HR.out]; rfl, Below.refl _ _⟩
    | false =>
      go_enter Tryd.func29, Tryd.ntmps29
      go_wp2
      go_ret
      exact ⟨by rw [HR.out]; rfl, Below.refl _ _⟩
  | succ c ih =>
    intro l u w vo vc hlen hL hG hu h0 hcr
    have hgr : ∀ i : Nat, i < N → ∃ g b, go = some ⟨g, 0, none⟩ ∧ w.cell? ⟨g, i, none⟩ = some (.slice (some ⟨b, 0, none⟩) N N) ∧ ∀ j : Nat, j < N → w.cell? ⟨b, j, none⟩ = some (.bool (pz i j)) := by
      obtain ⟨ao, cap, e, h⟩ := hG
      cases e
      exact h
    obtain ⟨g, gb, rfl, cg, cgr⟩ := hgr u hu
    obtain ⟨b, off, rfl, cl⟩ := hL l.length (by simp)
    have e1 : (l ++ [u]).getD l.length 0 = u := by simp [List.getD_eq_getElem?_getD]
    simp only [e1] at cl
    obtain ⟨l1, hl1⟩ : ∃ l1, l1 = l ++ [u] := ⟨_, rfl⟩
    have hll : l1.length = l.length + 1 := by rw [hl1]; simp
    rw [← hl1] at hlen hL h0 hcr ⊢
    obtain ⟨m, hm⟩ : ∃ m, m = l.length := ⟨_, rfl⟩
    rw [← hm] at hll cl
    have C44 : Hid (∀ (A : World) (x : Nat), Below w.heap.size w A → Calls Tryd.prog 44 #[.slice (some ⟨b, off, none⟩) (m + 1) vc, .int .i64 (x : Int)] A fun e w' => e = .returned (.bool (l1.contains x)) ∧ A = w') := fun A x hA => by
      have h := has2_call (vc := vc) (hL.below hA) (by omega) (x : Int)
      rw [inB_mem, hll] at h
      exact h.mono fun e w' ⟨h1, h2⟩ => ⟨h1, h2.symm⟩
    have C29 : Hid (∀ (A : World) (x po pc), Below w.heap.size w A → x < N → l1.contains x = false → NumF A po (l1 ++ [x]).length (fun i => ((l1 ++ [x]).getD i 0 : Int)) → Calls Tryd.prog 29 #[.slice (some ⟨g, 0, none⟩) N gc, .slice po (l1 ++ [x]).length pc] A fun e w' => e = .returned (.int .i64 (rC N p c x (outB (lef l1) x) : Int)) ∧ Below A.heap.size A w') := fun A x po pc hA hx hc hnum => by
      have hlx : lef l1 x = true := by unfold lef; rw [hc]; rfl
      have h := ih l1 x A po pc (by simp; omega) hnum (hG.below hA) hx (by simp [h0]) (by
        rw [lef_push]
        have := crd_out hx hlx
        omega)
      rw [lef_push] at h
      exact h
    have hle : ∀ k, k ≤ N → ns k (fun x => if lef l1 x = true ∧ p u x = true then rC N p c x (outB (lef l1) x) else 0) ≤ 479001600 := fun k hk => by
      have h1 : ns k (fun x => if lef l1 x = true ∧ p u x = true then rC N p c x (outB (lef l1) x) else 0) ≤ rC N p (c + 1) u (lef l1) := by
        rw [rC]
        exact ns_le hk
      exact Nat.le_trans h1 (Nat.le_trans (rC_le _ _ _ hcr) (Nat.le_trans (fac_le (show c + 1 ≤ 12 by omega)) (by decide)))
    obtain ⟨F, hF⟩ : ∃ F : Nat → Nat, F = fun x => if lef l1 x = true ∧ p u x = true then rC N p c x (outB (lef l1) x) else 0 := ⟨_, rfl⟩
    rw [← hF] at hle
    have hF0 : ns 1 F = 0 := by
      show 0 + F 0 = 0
      rw [hF]
      have : lef l1 0 = false := by unfold lef; simp [h0]
      simp [this]
    have HR : Hid (rC N p (c + 1) u (lef l1) = ns N F) := by
      show rC N p (c + 1) u (lef l1) = _
      rw [rC, hF]
    have HF : Hid ((∀ k, k ≤ N → ns k F ≤ 479001600) ∧ ns 1 F = 0 ∧ (∀ x, F x = if lef l1 x = true ∧ p u x = true then rC N p c x (outB (lef l1) x) else 0)) := ⟨hle, hF0, fun x => by rw [hF]⟩
    have HL : Hid (NumF w (some ⟨b, off, none⟩) l1.length (fun i => (l1.getD i 0 : Int)) ∧ l1.length = m + 1) := ⟨hL, hll⟩
    have HCG : Hid (∀ A, Below w.heap.size w A → A.cell? ⟨g, u, none⟩ = some (.slice (some ⟨gb, 0, none⟩) N N) ∧ ∀ j : Nat, j < N → A.cell? ⟨gb, j, none⟩ = some (.bool (p u j))) := fun A hA => ⟨(hA.cell (World.block_lt_of_cell? w _ cg)).trans cg, fun j hj => by rw [← HP.out]; exact (hA.cell (World.block_lt_of_cell? w _ (cgr j hj))).trans (cgr j hj)⟩
    have hmN : m + 1 < N := by omega
    have k1 : (((m : Int) + 1) == (N : Int)) = false := by simp; omega
    have i0 : (0 : Int) ≤ (u : Int) := by omega
    have i1 : (u : Int) < (N : Int) := by omega
    rw [hll]
    clear hL hG hgr cgr cg hcr h0 hm e1 hlen hle hF0 hF ih hl1 hll
    go_enter Tryd.func29, Tryd.ntmps29
    go_upto_region 8 with (fail)
    clear cl
    go_loopw [6, 7] (fun s6 s7 wz => ∃ (k n : Nat), k ≤ N ∧ n ≤ 479001600 ∧ s7 = .int .i64 (k : Int) ∧ s6 = .int .i64 (n : Int) ∧ Hid (n = ns k F ∧ Below w.heap.size w wz)) (fun _ s7 _ => N - (numOf s7).toNat)
    case atStart => exact ⟨1, 0, by omega, by omega, rfl, rfl, HF.out.2.1.symm, Below.refl _ _⟩
    case round =>
      obtain ⟨k, n, hk, hn, rfl, rfl, hJ⟩ := hrel
      by_cases hkN : k < N
      · have k2 : decide ((k : Int) < (N : Int)) = true := by simp; omega
        have j0 : (0 : Int) ≤ (k : Int) := by omega
        have j1 : (k : Int) < (N : Int) := by omega
        obtain ⟨c1, c2⟩ := HCG.out wr hJ.out.2
        have c3 := c2 k hkN
        obtain ⟨q, hq⟩ : ∃ q, q = p u k := ⟨_, rfl⟩
        rw [← hq] at c3
        obtain ⟨t, ht⟩ : ∃ t, t = l1.contains k := ⟨_, rfl⟩
        have D44 : Hid (Calls Tryd.prog 44 #[.slice (some ⟨b, off, none⟩) (m + 1) vc, .int .i64 (k : Int)] wr fun e w' => e = .returned (.bool t) ∧ wr = w') := by
          rw [ht]; exact C44.out wr k hJ.out.2
        clear c2
        cases q with
        | false =>
          have HN : Hid (n = ns (k + 1) F) := by
            show n = ns k F + F k
            rw [HF.out.2.2, if_neg (fun h => by rw [← hq] at h; cases h.2), hJ.out.1]; rfl
          clear hq ht
          go_wp2
          go_roundw
          case rel => exact ⟨k + 1, n, by omega, hn, by go_num, rfl, HN.out, hJ.out.2⟩
          case measure => simp [numOf]; omega
        | true =>
          cases t with
          | true =>
            have HN : Hid (n = ns (k + 1) F) := by
              show n = ns k F + F k
              rw [HF.out.2.2, if_neg (fun h => by have h1 := h.1; unfold lef at h1; rw [← ht] at h1; cases h1), hJ.out.1]; rfl
            clear hq ht
            go_wp2_with (first | (go_at_call 44; refine Calls.mono D44.out ?_; rintro e W2 ⟨rfl, rfl⟩) | fail)
            go_roundw
            case rel => exact ⟨k + 1, n, by omega, hn, by go_num, rfl, HN.out, hJ.out.2⟩
            case measure => simp [numOf]; omega
          | false =>
            obtain ⟨r, hr⟩ : ∃ r, r = rC N p c k (outB (lef l1) k) := ⟨_, rfl⟩
            have hsum : n + r = ns (k + 1) F := by
              show _ = ns k F + F k
              rw [HF.out.2.2, if_pos ⟨by unfold lef; rw [← ht]; rfl, hq.symm⟩, hJ.out.1, hr]
            have hnr : n + r ≤ 479001600 := by rw [hsum]; exact HF.out.1 _ (by omega)
            have HN : Hid (n + r = ns (k + 1) F) := hsum
            have D29 : Hid (∀ A po pc, Below w.heap.size w A → NumF A po (l1 ++ [k]).length (fun i => ((l1 ++ [k]).getD i 0 : Int)) → Calls Tryd.prog 29 #[.slice (some ⟨g, 0, none⟩) N gc, .slice po (m + 1 + 1) pc] A fun e w' => e = .returned (.int .i64 (r : Int)) ∧ Below A.heap.size A w') := fun A po pc hA hnum => by
              have h := C29.out A k po pc hA hkN ht.symm hnum
              rw [← hr, show (l1 ++ [k]).length = m + 1 + 1 by rw [List.length_append, HL.out.2]; rfl] at h
              exact h
            have b1 : -9223372036854775808 ≤ (n : Int) + (r : Int) := by omega
            have b2 : (n : Int) + (r : Int) < 9223372036854775808 := by omega
            have HW : Hid (Below w.heap.size w wr) := hJ.out.2
            clear hq ht hr hsum hJ
            go_upto_region 11 with (first | (go_at_call 44; refine Calls.mono D44.out ?_; rintro e W2 ⟨rfl, rfl⟩) | fail)
            clear D44 c1 c3
            go_wp2_with (first
              | (at_builtin; (have hh := hR1; clear hh); refine wpList_pushH (x := k) HL.out.2.symm rfl _ _ rfl rfl rfl hR1.out.1 (by omega) hR1.out.2.2 ?_; intro g3 c3 W3 h3 h4; have hR2 : Hid _ := h3; have hR3 : Hid (Below w.heap.size w W3) := (below_alloc (below_next HW.out hR1.out.2.1) _).grown h4 (by have := HW.out.size; have := hR1.out.2.2; simp; omega) (fun q hq => Nat.le_trans HW.out.size (hR1.out.1.lt q hq).1); clear h3 h4)
              | (at_builtin; refine wpList_copyNilH HL.out.2.symm rfl _ _ rfl rfl rfl (HL.out.1.below HW.out) (by have := HL.out.2; omega) ?_; intro po pc W2 h1 h2; have hR1 : Hid (W2.ownsRow wr.heap.size 3 1 (.slice po (m + 1) pc) (m + 1) (qv l1) ∧ Below wr.heap.size wr W2 ∧ wr.heap.size ≤ W2.heap.size) := ⟨h1, h2, h2.size⟩; clear h1 h2)
              | (go_at_call 29; refine Calls.mono (D29.out _ _ _ hR3.out (num_own hR2.out)) ?_; rintro e W4 ⟨rfl, h5⟩; have hR4 : Hid (Below w.heap.size w W4) := below_next hR3.out h5; clear h5)
              | fail)
            go_roundw
            case rel => exact ⟨k + 1, n + r, by omega, by omega, by go_num, by go_num, HN.out, hR4.out⟩
            case measure => simp [numOf]; omega
      · obtain rfl : k = N := by omega
        have k2 : decide ((k : Int) < (k : Int)) = false := by simp
        go_wp2
        go_ret
        exact ⟨by rw [HR.out, ← hJ.out.1]; rfl, hJ.out.2⟩
/-- R.Rings. -/
def ringR (N : Nat) (p : Nat → Nat → Bool) : Nat := if N < 3 then 0 else rC N p (N - 1) 0 (lef [0]) / 2
set_option maxHeartbeats 4000000 in
theorem ringsRef_call {w : World} {go : Option Addr} {gc N : Nat} {pz : Int → Int → Bool} (hN : N ≤ 12) (hG : GridAt w (.slice go N gc) N pz) :
    Calls Tryd.prog 15 #[.slice go N gc] w fun e w' => e = .returned (.int .i64 (ringR N (fun (i j : Nat) => pz i j) : Int)) ∧ Below w.heap.size w w' := by
  obtain ⟨p, hp⟩ : ∃ p : Nat → Nat → Bool, p = fun (i j : Nat) => pz i j := ⟨_, rfl⟩
  have HR : Hid (ringR N p = if N < 3 then 0 else rC N p (N - 1) 0 (lef [0]) / 2) := rfl
  have C29 : Hid (3 ≤ N → Calls Tryd.prog 29 #[.slice go N gc, .slice (some ⟨w.heap.size, 0, none⟩) 1 1] (w.alloc (Obj.cells #[.int .i64 0] 3)) fun e w' => e = .returned (.int .i64 (rC N p (N - 1) 0 (lef [0]) : Int)) ∧ Below w.heap.size w w') := fun h3 => by
    have hc : crd N (lef ([] ++ [0])) = N - 1 := by
      rw [lef_push]
      have h1 := crd_out (n := N) (v := 0) (s := lef []) (by omega) rfl
      have h2 : crd N (lef []) = N := crd_all fun _ _ => rfl
      omega
    have hB := below_alloc (Below.refl _ w) (Obj.cells #[.int .i64 0] 3)
    have h := ringsR_call (go := go) (gc := gc) (pz := pz) hN (N - 1) [] 0 (w.alloc (Obj.cells #[.int .i64 0] 3)) (some ⟨w.heap.size, 0, none⟩) 1 (by simp; omega) (fun j hj => ⟨w.heap.size, 0, rfl, by
      have hj0 : j = 0 := by simp at hj; exact hj
      subst hj0
      exact one_cell w _ 3⟩) (hG.below hB) (by omega) (by simp) hc
    rw [← hp] at h
    exact h.mono fun e w' ⟨h1, h2⟩ => ⟨h1, below_next hB h2⟩
  rw [← hp]
  clear hG hp
  by_cases h3 : N < 3
  · have k1 : decide ((N : Int) < 3) = true := by simp; omega
    go_enter Tryd.func15, Tryd.ntmps15
    go_wp2
    go_ret
    exact ⟨by rw [HR.out, if_pos h3]; rfl, Below.refl _ w⟩
  · have k1 : decide ((N : Int) < 3) = false := by simp; omega
    have D29 : Hid _ := C29.out (by omega)
    obtain ⟨r, hr⟩ : ∃ r, r = rC N p (N - 1) 0 (lef [0]) := ⟨_, rfl⟩
    have hr2 : r ≤ 479001600 := by
      have h1 := crd_out (n := N) (v := 0) (s := lef []) (by omega) rfl
      have h2 : crd N (lef []) = N := crd_all fun _ _ => rfl
      rw [← lef_push] at h1
      rw [hr]
      exact Nat.le_trans (rC_le _ _ _ (by show crd N (lef ([] ++ [0])) = _; omega)) (Nat.le_trans (fac_le (show N - 1 ≤ 12 by omega)) (by decide))
    rw [if_neg h3, ← hr] at HR
    rw [← hr] at D29
    clear C29 hr
    go_enter Tryd.func15, Tryd.ntmps15
    go_wp2_with (first | (go_at_call 29; refine Calls.mono D29.out ?_; rintro e V2 ⟨rfl, g1⟩; have HG : Hid _ := g1; clear g1) | fail)
    go_ret
    exact ⟨by rw [HR.out]; rfl, HG.out⟩
theorem rC_congr {N : Nat} {p q : Nat → Nat → Bool} (h : ∀ x y, x < N → y < N → p x y = q x y) (h0 : 0 < N) : ∀ (c v : Nat) (s t : Nat → Bool), v < N → (∀ x, x < N → s x = t x) → rC N p c v s = rC N q c v t
  | 0, v, s, t, hv, _ => by rw [rC, rC, h v 0 hv h0]
  | c + 1, v, s, t, hv, hs => by
    rw [rC, rC]
    refine ns_congr fun u hu => ?_
    rw [hs u hu, h v u hv hu, rC_congr h h0 c u (outB s u) (outB t u) hu fun x hx => by unfold outB; rw [hs x hx]]
/-- The rings, told by both. -/
theorem ringN_ringR {es : List (Nat × Nat)} {N : Nat} {p : Nat → Nat → Bool} (h : ∀ x y, x < N → y < N → p x y = adjE es x y) : ringN N es = ringR N p := by
  unfold ringN ringR
  by_cases h3 : N < 3
  · rw [if_pos h3, if_pos h3]
  · rw [if_neg h3, if_neg h3, rC_congr (p := p) (q := adjE es) h (by omega) (N - 1) 0 (lef [0]) (outB (2 ^ N - 1).testBit 0) (by omega) fun x hx => ?_]
    unfold lef outB
    rw [Nat.testBit_two_pow_sub_one]
    by_cases e : x = 0
    · subst e; simp
    · simp [e, hx]
end Go.Proofs.YtmeodnkmhakidaaDoor
