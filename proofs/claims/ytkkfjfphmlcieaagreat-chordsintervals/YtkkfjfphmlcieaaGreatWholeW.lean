/- wholeCliques. -/
import Derived.Test.YtkkfjfphmlcieaaGreatGrowAB
import Derived.Test.YtkkfjfphmlcieaaGreatSortL
namespace Go.Proofs.YtkkfjfphmlcieaaGreat
set_option maxRecDepth 100000
open Go.RowKit Go.Maps
attribute [local go_sem ↓] Go.wp_at_zero Go.wp_at_succ
/-- All cliques that are part of no other one, each once, in the order of lists. -/
def CliEnd (N : Nat) (adj : Nat → Nat → Bool) (base : Nat) (r : Ending) (w' : World) : Prop :=
  ∃ (v : Value) (Ls L : List (List Nat)), r = .returned v ∧ ListsAt w' base v Ls ∧ Ls.Perm L ∧ Ls.Pairwise (fun a b => ¬ cmpL b a < 0) ∧ Lsts N L (MaxC N adj)
def A28 (h f : Nat → Value) : Act := { tmps := #[h 0, h 1, h 2, h 3, h 4, h 5, h 6, h 7, h 8, h 9, h 10, f 0, f 1, f 2, f 3, f 4, f 5, h 17, h 18, h 19], defers := [] }
def V28 (ao : Option Addr) (cap N : Nat) (gr : Value) (c1 c2 : Nat) : Nat → Value
  | 0 => gr
  | 1 => .slice ao N cap
  | 2 => .int .i64 (N : Int)
  | 3 => .map (some c1)
  | 4 => .map (some c2)
  | 5 => .tuple #[]
  | _ => undef
theorem V28_3 {ao : Option Addr} {cap N : Nat} {gr : Value} {c1 c1' c2 j : Nat} (h : j ≠ 3) : V28 ao cap N gr c1 c2 j = V28 ao cap N gr c1' c2 j := by
  unfold V28
  split <;> first | rfl | exact absurd rfl h
theorem V28_4 {ao : Option Addr} {cap N : Nat} {gr : Value} {c1 c2 c2' j : Nat} (h : j ≠ 4) : V28 ao cap N gr c1 c2 j = V28 ao cap N gr c1 c2' j := by
  unfold V28
  split <;> first | rfl | exact absurd rfl h
structure S28 (W0 : World) (N : Nat) (Post : World → Prop) (c1 c2 : Nat) (L : Nat → Bool) (w : World) : Prop where
  d5 : L 5 = true → L 0 = true ∧ L 3 = true ∧ L 4 = true
  d3 : L 3 = true → L 2 = true
  d2 : L 2 = true → L 1 = true
  pre : L 5 = false → Below W0.heap.size W0 w
  one : L 5 = false → L 3 = true → SetN w c1 N (fun _ => true) ∧ W0.heap.size ≤ c1
  two : L 5 = false → L 4 = true → SetN w c2 N (fun _ => false) ∧ W0.heap.size ≤ c2
  ne : L 5 = false → L 3 = true → L 4 = true → c1 ≠ c2
  post : L 5 = true → Post w
theorem S28.n5 {W0 : World} {N : Nat} {Post : World → Prop} {c1 c2 : Nat} {L : Nat → Bool} {w : World} (h : S28 W0 N Post c1 c2 L w) {i : Nat} (hL : L i = false) (hi : i < 5) : L 5 = false := by
  cases e : L 5 with
  | false => rfl
  | true =>
    obtain ⟨h0, h3, h4⟩ := h.d5 e
    have h2 := h.d3 h3
    have h1 := h.d2 h2
    match i, hi with
    | 0, _ => rw [h0] at hL; cases hL
    | 1, _ => rw [h1] at hL; cases hL
    | 2, _ => rw [h2] at hL; cases hL
    | 3, _ => rw [h3] at hL; cases hL
    | 4, _ => rw [h4] at hL; cases hL
    | k + 5, hk => omega
def greedy (adj : Nat → Nat → Bool) : Nat → List Nat
  | 0 => []
  | i + 1 => if (greedy adj i).all (adj i) then i :: greedy adj i else greedy adj i
theorem greedy_facts {adj : Nat → Nat → Bool} (hs : ∀ x y, adj x y = adj y x) : ∀ n, (∀ x, x ∈ greedy adj n → x < n) ∧ (∀ x y, x ∈ greedy adj n → y ∈ greedy adj n → x ≠ y → adj x y = true) ∧ ∀ x, x < n → x ∉ greedy adj n → ∃ y, y ∈ greedy adj n ∧ adj x y = false
  | 0 => ⟨fun x h => by simp [greedy] at h, fun x y h => by simp [greedy] at h, fun x h => by omega⟩
  | n + 1 => by
    obtain ⟨h1, h2, h3⟩ := greedy_facts hs n
    unfold greedy
    by_cases hc : (greedy adj n).all (adj n) = true
    · rw [if_pos hc]
      rw [List.all_eq_true] at hc
      refine ⟨fun x hx => ?_, fun x y hx hy hn => ?_, fun x hx hm => ?_⟩
      · rcases List.mem_cons.1 hx with rfl | h
        · omega
        · have := h1 x h; omega
      · rcases List.mem_cons.1 hx with rfl | h <;> rcases List.mem_cons.1 hy with rfl | h'
        · exact absurd rfl hn
        · exact hc y h'
        · rw [hs]; exact hc x h
        · exact h2 x y h h' hn
      · rw [List.mem_cons, not_or] at hm
        obtain ⟨y, hy, e⟩ := h3 x (by omega) hm.2
        exact ⟨y, List.mem_cons_of_mem _ hy, e⟩
    · rw [if_neg hc]
      refine ⟨fun x hx => by have := h1 x hx; omega, h2, fun x hx hm => ?_⟩
      by_cases e : x = n
      · subst e
        rw [List.all_eq_true] at hc
        refine Classical.byContradiction fun hno => hc fun y hy => ?_
        cases ey : adj x y with
        | true => rfl
        | false => exact absurd ⟨y, hy, ey⟩ hno
      · exact h3 x (by omega) hm
theorem some_maxC {N : Nat} {adj : Nat → Nat → Bool} (hs : ∀ x y, adj x y = adj y x) : ∃ K, MaxC N adj K := by
  obtain ⟨h1, h2, h3⟩ := greedy_facts hs N
  refine ⟨fun x => decide (x ∈ greedy adj N), fun x y _ _ hx hy hn => h2 x y (of_decide_eq_true hx) (of_decide_eq_true hy) hn, fun z hz hk => ?_⟩
  obtain ⟨y, hy, e⟩ := h3 z hz (of_decide_eq_false hk)
  exact ⟨y, h1 y hy, decide_eq_true hy, e⟩
theorem lsN_length (N : Nat) (K : Nat → Bool) : (lsN N K).length ≤ N := by
  have := List.length_filter_le K (List.range N)
  rw [List.length_range] at this
  exact this
theorem ListsAt.lower {w : World} {base base' : Nat} {v : Value} {ls : List (List Nat)} (h : ListsAt w base v ls) (hb : base' ≤ base) : ListsAt w base' v ls := by
  obtain ⟨vs, h1, h2, h3⟩ := h
  exact ⟨vs, h1, ownsRow_mono h2 hb, fun i x l hx hl => ownsRow_mono (h3 i x l hx hl) hb⟩
theorem ListsAt.own {w : World} {base : Nat} {v : Value} {ls : List (List Nat)} (h : ListsAt w base v ls) {b : Nat} (hb : v.ownBlock = some b) : base ≤ b := by
  obtain ⟨vs, h1, h2, h3⟩ := h
  exact (h2.lt b hb).1
theorem fit_start {N : Nat} {adj : Nat → Nat → Bool} (K : Nat → Bool) : Fit N adj (fun _ => false) (fun _ => true) K ↔ MaxC N adj K := ⟨fun h => h.1, fun h => ⟨h, fun _ _ h => (by cases h), fun _ _ _ => Or.inr rfl⟩⟩
set_option maxHeartbeats 8000000 in
theorem whole_call {w : World} {ao : Option Addr} {cap N : Nat} {bl : Nat → Nat} {adj : Nat → Nat → Bool} (hnear : NearsAt w ao N bl adj) (hN : N ≤ 24) (hN0 : 0 < N) (hs : ∀ x y, adj x y = adj y x) (hi : ∀ x, adj x x = false) :
    Calls Tryz.prog 41 #[.slice ao N cap] w fun r w' => CliEnd N adj w.heap.size r w' ∧ Below w.heap.size w w' := by
  have hmm := @run_makeMap Tryz.prog
  have HNR : Hid (NearsAt w ao N bl adj) := hnear
  have HS : Hid (∀ x y, adj x y = adj y x) := hs
  have HI : Hid (∀ x, adj x x = false) := hi
  have hN6 : N ≤ 1000000 := by omega
  have h45 : ∀ args w', (callFunc 63 args).run Tryz.prog w' = .ok (.enter 63 args) w' := enters_of Tryz.func63 (by kernel_rfl) rfl
  have k0 : ((N : Int) == 0) = false := by rw [beq_eq_false_iff_ne]; omega
  clear hnear hs hi
  go_enter Tryz.func41, Tryz.ntmps41
  go_upto_region 7 with (fail)
  obtain ⟨W0, hW0⟩ : ∃ W0, W0 = (((((w.alloc (Obj.cells #[Value.slice ao N cap] 61)).alloc (Obj.cells #[Value.slice none 0 0] 52)).alloc (Obj.map #[] 0)).alloc (Obj.cells #[Value.map (some (w.heap.size + 1 + 1))] 71)).alloc (Obj.cells #[Value.func (Fn.func 63) #[] (capsG (w.heap.size + 1) (w.heap.size + 1 + 1 + 1) w.heap.size (w.heap.size + 1 + 1 + 1 + 1))] 93)) := ⟨_, rfl⟩
  have hgm : GrM W0 (w.heap.size + 5) (w.heap.size + 1) (w.heap.size + 1 + 1 + 1) w.heap.size (w.heap.size + 1 + 1 + 1 + 1) (w.heap.size + 1 + 1) ao cap N bl adj (.slice none 0 0) [] (fun _ => false) ∧ Below w.heap.size w W0 := by
    rw [hW0]
    have B1 := below_alloc (Below.refl _ w) (Obj.cells #[Value.slice ao N cap] 61)
    have s1 := World.size_alloc w (Obj.cells #[Value.slice ao N cap] 61)
    have o1 := one_new w (Value.slice ao N cap) 61
    generalize w.alloc (Obj.cells #[Value.slice ao N cap] 61) = W1 at B1 s1 o1 ⊢
    have B2 := below_alloc (Below.refl _ W1) (Obj.cells #[Value.slice none 0 0] 52)
    have s2 := World.size_alloc W1 (Obj.cells #[Value.slice none 0 0] 52)
    have o2 := one_new W1 (Value.slice none 0 0) 52
    generalize W1.alloc (Obj.cells #[Value.slice none 0 0] 52) = W2 at B2 s2 o2 ⊢
    have B3 := below_alloc (Below.refl _ W2) (Obj.map #[] 0)
    have s3 := World.size_alloc W2 (Obj.map #[] 0)
    have o3 := setN_made W2 N
    generalize W2.alloc (Obj.map #[] 0) = W3 at B3 s3 o3 ⊢
    have B4 := below_alloc (Below.refl _ W3) (Obj.cells #[Value.map (some (w.heap.size + 1 + 1))] 71)
    have s4 := World.size_alloc W3 (Obj.cells #[Value.map (some (w.heap.size + 1 + 1))] 71)
    have o4 := one_new W3 (Value.map (some (w.heap.size + 1 + 1))) 71
    generalize W3.alloc (Obj.cells #[Value.map (some (w.heap.size + 1 + 1))] 71) = W4 at B4 s4 o4 ⊢
    have B5 := below_alloc (Below.refl _ W4) (Obj.cells #[Value.func (Fn.func 63) #[] (capsG (w.heap.size + 1) (w.heap.size + 1 + 1 + 1) w.heap.size (w.heap.size + 1 + 1 + 1 + 1))] 93)
    have s5 := World.size_alloc W4 (Obj.cells #[Value.func (Fn.func 63) #[] (capsG (w.heap.size + 1) (w.heap.size + 1 + 1 + 1) w.heap.size (w.heap.size + 1 + 1 + 1 + 1))] 93)
    have o5 := one_new W4 (Value.func (Fn.func 63) #[] (capsG (w.heap.size + 1) (w.heap.size + 1 + 1 + 1) w.heap.size (w.heap.size + 1 + 1 + 1 + 1))) 93
    generalize W4.alloc (Obj.cells #[Value.func (Fn.func 63) #[] (capsG (w.heap.size + 1) (w.heap.size + 1 + 1 + 1) w.heap.size (w.heap.size + 1 + 1 + 1 + 1))] 93) = W5 at B5 s5 o5 ⊢
    have e2 : W1.heap.size = w.heap.size + 1 := s1
    have e3 : W2.heap.size = w.heap.size + 1 + 1 := by rw [s2, e2]
    have e4 : W3.heap.size = w.heap.size + 1 + 1 + 1 := by rw [s3, e3]
    have e5 : W4.heap.size = w.heap.size + 1 + 1 + 1 + 1 := by rw [s4, e4]
    rw [e2] at o2
    rw [e3] at o3
    rw [e4] at o4
    rw [e5] at o5
    have B15 := below_next (below_next (below_next B2 B3) B4) B5
    have B25 := below_next (below_next B3 B4) B5
    have B35 := below_next B4 B5
    have hgn : ∀ g, ao = some ⟨g, 0, none⟩ → g < w.heap.size := fun g e => by
      obtain ⟨g', e', c⟩ := HNR.out.row 0 hN0
      rw [e] at e'
      cases e'
      exact World.block_lt_of_cell? _ _ c
    have hbl : ∀ i, i < N → bl i < w.heap.size := fun i hi => (HNR.out.sets i hi).lt
    refine ⟨⟨(B25.block _ (by omega)).trans o2, listsAt_nil _ _, (B5.block _ (by omega)).trans o4, o3.below B35 (by omega), (B15.block _ (by omega)).trans o1, o5, HNR.out.below (below_next B1 B15), ?_, ?_, by omega⟩, below_next B1 B15⟩
    · exact ⟨by omega, by omega, by omega, by omega, by omega, fun i hi => by have := hbl i hi; omega, fun g e => by have := hgn g e; omega⟩
    · exact ⟨by omega, by omega, by omega, fun g e => by have := hgn g e; omega, fun i hi => by have := hbl i hi; omega⟩
  have hW0' := hW0.symm
  simp only [capsG] at hW0'
  simp only [hW0']
  clear hW0 hW0'
  obtain ⟨base, hbase⟩ : ∃ b, b = w.heap.size + 5 := ⟨_, rfl⟩
  obtain ⟨bf, hbf⟩ : ∃ b, b = w.heap.size + 1 := ⟨_, rfl⟩
  obtain ⟨bg, hbg⟩ : ∃ b, b = w.heap.size + 1 + 1 + 1 + 1 := ⟨_, rfl⟩
  obtain ⟨bc, hbc⟩ : ∃ b, b = w.heap.size + 1 + 1 + 1 := ⟨_, rfl⟩
  obtain ⟨bC, hbC⟩ : ∃ b, b = w.heap.size + 1 + 1 := ⟨_, rfl⟩
  obtain ⟨bn, hbn⟩ : ∃ b, b = w.heap.size := ⟨_, rfl⟩
  have HB0 : Hid (Below w.heap.size w W0) := hgm.2
  have hgm1 := hgm.1
  have HLO : Hid (w.heap.size ≤ bf ∧ w.heap.size ≤ bC ∧ w.heap.size ≤ base) := by
    show w.heap.size ≤ bf ∧ w.heap.size ≤ bC ∧ w.heap.size ≤ base
    omega
  clear hgm
  rw [← hbase, ← hbg, ← hbc, ← hbC, ← hbf] at hgm1
  rw [← hbg, ← hbc, ← hbf]
  rw [← hbn] at hgm1 ⊢
  clear hbase hbf hbg hbc hbC hbn
  have HGM : Hid (GrM W0 base bf bc bn bg bC ao cap N bl adj (.slice none 0 0) [] (fun _ => false)) := hgm1
  have HGR : Hid (∀ (W : World) (bP bX : Nat), Below W0.heap.size W0 W → SetN W bP N (fun _ => true) → SetN W bX N (fun _ => false) → W0.heap.size ≤ bP → W0.heap.size ≤ bX → bP ≠ bX → Calls Tryz.prog 63 #[.map (some bP), .map (some bX), ptr bf, ptr bc, ptr bn, ptr bg] W fun r w' => r = .returned (.tuple #[]) ∧ ∃ (fv' : Value) (L : List (List Nat)), GrM w' base bf bc bn bg bC ao cap N bl adj fv' L (fun _ => false) ∧ Lsts N L (MaxC N adj) ∧ Below w.heap.size w w') := fun W bP bX hb hP hX gP gX hne => by
    have hsz := HGM.out.size
    refine (grow_call hN HS.out HI.out _ W bP bX (fun _ => true) (fun _ => false) (fun _ => false) (.slice none 0 0) [] rfl ⟨HGM.out.next hb, hP, hX, Nat.le_trans hsz gP, Nat.le_trans hsz gX, hne, Hand.start, by simp, fun l h => by simp at h, fun l h => by simp at h⟩).mono ?_
    rintro r w' ⟨rfl, fv', L, h1, h2, h3, h4⟩
    refine ⟨rfl, fv', L, by simpa using h1, h2.congr fit_start, ?_⟩
    have hbW := below_next HB0.out hb
    refine Turns.below hbW h3 hbW.size (fun k hM => ?_)
    obtain ⟨l1, l2, l3⟩ := HLO.out
    have hs0 := HB0.out.size
    rcases hM with h | h | h | h | h
    · omega
    · omega
    · omega
    · omega
    · cases h
  have cg : W0.cell? ⟨bg, 0, none⟩ = some (.func (.func 63) #[] #[ptr bf, ptr bc, ptr bn, ptr bg]) := box_cell hgm1.boxg rfl
  have cn : W0.cell? ⟨bn, 0, none⟩ = some (.slice ao N cap) := box_cell hgm1.boxn rfl
  have HCG : Hid (∀ W, Below W0.heap.size W0 W → W.cell? ⟨bg, 0, none⟩ = some (.func (.func 63) #[] #[ptr bf, ptr bc, ptr bn, ptr bg])) := fun W hW => box_cell ((hW.block _ (lt_of_block HGM.out.boxg)).trans HGM.out.boxg) rfl
  have cg1 := all_alloc cg
  have cn1 := all_alloc cn
  clear hgm1
  go_cut [] from 11 to 16 (fun wc => ∃ (fv' : Value) (L : List (List Nat)), GrM wc base bf bc bn bg bC ao cap N bl adj fv' L (fun _ => false) ∧ Lsts N L (MaxC N adj) ∧ Below w.heap.size w wc)
  case first =>
    refine region_invG (J := fun a0 => FJ2 (A28 (fun s => a0.tmps.getD s undef)) (V28 ao cap N (.func (.func 63) #[] #[ptr bf, ptr bc, ptr bn, ptr bg])) (S28 W0.drew N (fun w' => ∃ (fv' : Value) (L : List (List Nat)), GrM w' base bf bc bn bg bC ao cap N bl adj fv' L (fun _ => false) ∧ Lsts N L (MaxC N adj) ∧ Below w.heap.size w w'))) (by kernel_rfl) (by kernel_rfl) ?_ ?_ ?_
    · exact ⟨0, 0, fun _ => undef, rfl, fun j hj => Bool.noConfusion hj, fun h => Bool.noConfusion h, fun h => Bool.noConfusion h, fun h => Bool.noConfusion h, fun _ => Below.refl _ _, fun _ h => Bool.noConfusion h, fun _ h => Bool.noConfusion h, fun _ h => Bool.noConfusion h, fun h => Bool.noConfusion h⟩
    · intro i o hi M a' w1 hJ hLi hd
      obtain ⟨c1, c2, f, rfl, hf, hws⟩ := hJ
      match i, hi with
      | 0, hi =>
        cases hi
        have h5 := hws.n5 hLi (by omega)
        have cgx := HCG.out w1 (below_next (drewN_below W0 1) (hws.pre h5))
        refine fj2_quiet rfl rfl (fun x => rfl) hf ⟨fun h => ?_, fun h => ?_, fun h => ?_, fun _ => hws.pre h5, fun _ h => ?_, fun _ h => ?_, fun _ h h' => ?_, fun h => ?_⟩ ?_
        · rw [also_atG (by omega), h5] at h; cases h
        · rw [also_atG (by omega)] at h; exact also_of (hws.d3 h) _
        · rw [also_atG (by omega)] at h; exact also_of (hws.d2 h) _
        · rw [also_atG (by omega)] at h; exact hws.one h5 h
        · rw [also_atG (by omega)] at h; exact hws.two h5 h
        · rw [also_atG (by omega)] at h h'; exact hws.ne h5 h h'
        · rw [also_atG (by omega), h5] at h; cases h
        · simp [go_sem, A28, V28, Act.eval, cgx]
      | 1, hi =>
        cases hi
        have h5 := hws.n5 hLi (by omega)
        have cnx : w1.cell? ⟨bn, 0, none⟩ = some (.slice ao N cap) := ((below_next (drewN_below W0 1) (hws.pre h5)).cell (World.block_lt_of_cell? _ _ cn)).trans cn
        refine fj2_quiet rfl rfl (fun x => rfl) hf ⟨fun h => ?_, fun h => ?_, fun h => ?_, fun _ => hws.pre h5, fun _ h => ?_, fun _ h => ?_, fun _ h h' => ?_, fun h => ?_⟩ ?_
        · rw [also_atG (by omega), h5] at h; cases h
        · rw [also_atG (by omega)] at h; exact also_of (hws.d3 h) _
        · rw [also_atG (by omega)] at h; exact also_of (hws.d2 h) _
        · rw [also_atG (by omega)] at h; exact hws.one h5 h
        · rw [also_atG (by omega)] at h; exact hws.two h5 h
        · rw [also_atG (by omega)] at h h'; exact hws.ne h5 h h'
        · rw [also_atG (by omega), h5] at h; cases h
        · simp [go_sem, A28, V28, Act.eval, cnx]
      | 2, hi =>
        cases hi
        have d1 : f 1 = V28 ao cap N (.func (.func 63) #[] #[ptr bf, ptr bc, ptr bn, ptr bg]) c1 c2 1 := hf 1 (hd ⟨1, .data⟩ (by simp) rfl)
        have h5 := hws.n5 hLi (by omega)
        refine fj2_quiet rfl rfl (fun x => rfl) hf ⟨fun h => ?_, fun h => ?_, fun h => ?_, fun _ => hws.pre h5, fun _ h => ?_, fun _ h => ?_, fun _ h h' => ?_, fun h => ?_⟩ ?_
        · rw [also_atG (by omega), h5] at h; cases h
        · rw [also_atG (by omega)] at h; exact also_of (hws.d3 h) _
        · exact also_of (hd ⟨1, .data⟩ (by simp) rfl) _
        · rw [also_atG (by omega)] at h; exact hws.one h5 h
        · rw [also_atG (by omega)] at h; exact hws.two h5 h
        · rw [also_atG (by omega)] at h h'; exact hws.ne h5 h h'
        · rw [also_atG (by omega), h5] at h; cases h
        · simp [go_sem, A28, V28, Act.eval, d1]
      | 3, hi =>
        cases hi
        have d2 : f 2 = V28 ao cap N (.func (.func 63) #[] #[ptr bf, ptr bc, ptr bn, ptr bg]) c1 c2 2 := hf 2 (hd ⟨2, .data⟩ (by simp) rfl)
        have m2 := hd ⟨2, .data⟩ (by simp) rfl
        have h5 := hws.n5 hLi (by omega)
        have hb := hws.pre h5
        refine wpOp_call (f := 50) (args := #[.int .i64 (N : Int)]) rfl rfl (w' := w1) ?_ ?_
        · simp [go_sem, A28, V28, Act.eval, d2]
        · refine (all_call N w1 hN6).mono ?_
          rintro e w2 ⟨b, rfl, hbge, hSb, hB2⟩
          refine ⟨_, rfl, b, c2, updG f 3 (.map (some b)), rfl, fun j hj => ?_, ⟨fun h => ?_, fun _ => also_of m2 _, fun h => ?_, fun _ => below_next hb hB2, fun _ _ => ⟨hSb, Nat.le_trans hb.size hbge⟩, fun _ h => ?_, fun _ _ h => ?_, fun h => ?_⟩⟩
          · by_cases ej : j = 3
            · subst ej; rfl
            · have e1 : updG f 3 (.map (some b)) j = f j := if_neg ej
              rw [e1, hf j (also_ne hj ej)]
              exact V28_3 ej
          · rw [also_atG (by omega), h5] at h; cases h
          · rw [also_atG (by omega)] at h; exact also_of (hws.d2 h) _
          · rw [also_atG (by omega)] at h
            have := hws.two h5 h
            exact ⟨this.1.below hB2 this.1.lt, this.2⟩
          · rw [also_atG (by omega)] at h
            have := (hws.two h5 h).1.lt
            omega
          · rw [also_atG (by omega), h5] at h; cases h
      | 4, hi =>
        cases hi
        have h5 := hws.n5 hLi (by omega)
        have hb := hws.pre h5
        have hmk := hmm 71 w1
        refine wpOp_value rfl rfl (v := .map (some w1.heap.size)) (w' := w1.alloc (.map #[] 0)) ?_ ⟨c1, w1.heap.size, updG f 4 (.map (some w1.heap.size)), rfl, fun j hj => ?_, ⟨fun h => ?_, fun h => ?_, fun h => ?_, fun _ => below_alloc hb _, fun _ h => ?_, fun _ _ => ⟨setN_made w1 N, hb.size⟩, fun _ h _ => ?_, fun h => ?_⟩⟩
        · simp [go_sem, A28, hmk]
        · by_cases ej : j = 4
          · subst ej; rfl
          · have e1 : updG f 4 (.map (some w1.heap.size)) j = f j := if_neg ej
            rw [e1, hf j (also_ne hj ej)]
            exact V28_4 ej
        · rw [also_atG (by omega), h5] at h; cases h
        · rw [also_atG (by omega)] at h; exact also_of (hws.d3 h) _
        · rw [also_atG (by omega)] at h; exact also_of (hws.d2 h) _
        · rw [also_atG (by omega)] at h
          have := hws.one h5 h
          exact ⟨this.1.below (below_alloc (Below.refl _ w1) _) this.1.lt, this.2⟩
        · rw [also_atG (by omega)] at h
          have := (hws.one h5 h).1.lt
          omega
        · rw [also_atG (by omega), h5] at h; cases h
      | 5, hi =>
        cases hi
        have d0 : f 0 = V28 ao cap N (.func (.func 63) #[] #[ptr bf, ptr bc, ptr bn, ptr bg]) c1 c2 0 := hf 0 (hd ⟨0, .data⟩ (by simp) rfl)
        have m0 := hd ⟨0, .data⟩ (by simp) rfl
        have d3 : f 3 = V28 ao cap N (.func (.func 63) #[] #[ptr bf, ptr bc, ptr bn, ptr bg]) c1 c2 3 := hf 3 (hd ⟨3, .data⟩ (by simp) rfl)
        have m3 := hd ⟨3, .data⟩ (by simp) rfl
        have d4 : f 4 = V28 ao cap N (.func (.func 63) #[] #[ptr bf, ptr bc, ptr bn, ptr bg]) c1 c2 4 := hf 4 (hd ⟨4, .data⟩ (by simp) rfl)
        have m4 := hd ⟨4, .data⟩ (by simp) rfl
        have hb := hws.pre hLi
        obtain ⟨s1, g1⟩ := hws.one hLi m3
        obtain ⟨s2, g2⟩ := hws.two hLi m4
        have hne := hws.ne hLi m3 m4
        refine wpOp_call (f := 63) (args := #[.map (some c1), .map (some c2), ptr bf, ptr bc, ptr bn, ptr bg]) rfl rfl (w' := w1) ?_ ?_
        · simp [go_sem, A28, V28, Act.eval, d0, d3, d4, h45]
        · refine (HGR.out w1 c1 c2 (below_next (drewN_below W0 1) hb) s1 s2 g1 g2 hne).mono ?_
          rintro r' w2 ⟨rfl, hend⟩
          refine ⟨_, rfl, c1, c2, updG f 5 (.tuple #[]), rfl, fun j hj => ?_, ⟨fun _ => ⟨also_of m0 _, also_of m3 _, also_of m4 _⟩, fun h => ?_, fun h => ?_, fun h => ?_, fun h => ?_, fun h => ?_, fun h => ?_, fun _ => hend⟩⟩
          · exact (updG_told (V := V28 ao cap N (.func (.func 63) #[] #[ptr bf, ptr bc, ptr bn, ptr bg]) c1 c2) (i := 5) hf) j hj
          · rw [also_atG (by omega)] at h; exact also_of (hws.d3 h) _
          · rw [also_atG (by omega)] at h; exact also_of (hws.d2 h) _
          · rw [also_self] at h; cases h
          · rw [also_self] at h; cases h
          · rw [also_self] at h; cases h
          · rw [also_self] at h; cases h
      | k + 6, hi => cases hi
    · intro M a' w8 hJ hall
      obtain ⟨c1', c2', f9, rfl, hf9, hws⟩ := hJ
      have hend := hws.post (hall 5 (by simp))
      clear hf9 hws
      simp only [A28]
      go_wp2
      go_meet
      case rel => exact hend
  case rest =>
    obtain ⟨fv, L, hgm, hL, hbw⟩ := hcut
    obtain ⟨so, sc, rfl⟩ := hgm.lists.form
    have HLI : Hid (ListsAt wc base (.slice so L.length sc) L) := hgm.lists
    have HBF : Hid (One wc bf (.slice so L.length sc) 52) := hgm.boxf
    have HLT : Hid (bf < base) := hgm.lo.1
    have hpos : 0 < L.length := by
      obtain ⟨K, hK⟩ := some_maxC (N := N) HS.out
      exact List.length_pos_of_mem ((hL.2 (lsN N K)).2 ⟨K, hK, rfl⟩)
    have H49 : Hid (Calls Tryz.prog 67 #[.slice so L.length sc, .func (.func 68) #[] #[]] wc fun e w' => e = .returned (.tuple #[]) ∧ ∃ ls', ls'.Perm L ∧ ls'.Pairwise (fun a b => ¬ cmpL b a < 0) ∧ ListsAt w' base (.slice so L.length sc) ls' ∧ Turns (fun k => some k = (Value.slice so L.length sc).ownBlock) wc w') := by
      refine sortL_call HLI.out (fun l hl => ?_) ?_ hpos
      · obtain ⟨K, _, rfl⟩ := (hL.2 l).1 hl
        have := lsN_length N K
        omega
      · have := many_lists hN hL.1 (fun l hl => by
          obtain ⟨K, _, e⟩ := (hL.2 l).1 hl
          exact ⟨K, e⟩)
        omega
    have HLL : Hid (Lsts N L (MaxC N adj)) := hL
    have HBW : Hid (Below w.heap.size w wc) := hbw
    have cf : wc.cell? ⟨bf, 0, none⟩ = some (.slice so L.length sc) := box_cell HBF.out rfl
    clear hgm hL hbw hpos HGR HCG cg1 cn1 cg cn HGM
    go_upto_region 9 with (first | (go_at_call 67; refine Calls.mono H49.out ?_; rintro e w5 ⟨rfl, Ls, hpm, hpw, hls, ht5⟩) | go_in)
    have HE : Hid (CliEnd N adj w.heap.size (.returned (.slice so L.length sc)) w5 ∧ Below w.heap.size w w5) := by
      refine ⟨⟨_, Ls, L, rfl, hls.lower HLO.out.2.2, hpm, hpw.imp (fun h => by omega), HLL.out⟩, ?_⟩
      refine Turns.below HBW.out ht5 HBW.out.size (fun k hM => ?_)
      have := HLI.out.own hM.symm
      have := HLO.out.2.2
      omega
    have cf5 : w5.cell? ⟨bf, 0, none⟩ = some (.slice so L.length sc) := by
      refine box_cell ((ht5.block _ (lt_of_block HBF.out) (fun e => ?_)).trans HBF.out) rfl
      have := HLI.out.own e.symm
      have := HLT.out
      omega
    clear hpm hpw hls ht5 cf
    go_wp2
    go_ret
    exact HE.out
end Go.Proofs.YtkkfjfphmlcieaaGreat
