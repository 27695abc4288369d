/- walksBegun: the walk of the postman along a path of three nodes. -/
import Derived.BigQuiet
import Derived.Test.YtkbgcbbloogdjacPostman
import Derived.Test.YtkbgcbbloogdjacPairs2
namespace Go.Proofs.Ytkbgcbbloogdjac
open Go.RowKit Go.Maps
attribute [local go_sem ↓] Go.wp_at_zero Go.wp_at_succ

def es3 : List Pair := [(0, 1), (1, 2)]
theorem chk3 : (chk (3 : Nat) es3).1 = 0 := by decide
theorem has3 (a b : Nat) : hasB es3 a b = true ↔ (a = 0 ∧ b = 1) ∨ (a = 1 ∧ b = 0) ∨ (a = 1 ∧ b = 2) ∨ (a = 2 ∧ b = 1) := by
  simp [hasB, es3]
  omega
def far3 (x : Nat) : Option Nat := if x < 3 then some x else none
theorem dist3 : Dist 3 (pn (hasB es3)) 0 far3 := by
  refine ⟨rfl, fun x d hx hd => ?_, fun a b d ha hb hab hd => ?_⟩
  · unfold far3 at hd
    rw [if_pos hx] at hd
    cases hd
    by_cases h : x = 0
    · exact Or.inl ⟨h, h⟩
    · refine Or.inr ⟨x - 1, x - 1, by omega, ?_, by unfold far3; rw [if_pos (by omega)], by omega⟩
      show hasB es3 _ _ = true
      rw [has3]
      omega
  · unfold far3 at hd ⊢
    rw [if_pos ha] at hd
    cases hd
    refine ⟨b, if_pos hb, ?_⟩
    have := (has3 a b).1 hab
    omega
theorem nb3 (x : Nat) : nbL 3 es3 x = [] ↔ 3 ≤ x := by
  constructor
  · intro h
    by_cases c : 3 ≤ x
    · exact c
    · have : ∀ y : Nat, y < 3 → ¬ hasB es3 x y = true := fun y hy hh => by
        have : y ∈ nbL 3 es3 x := List.mem_filter.2 ⟨by simpa using hy, hh⟩
        rw [h] at this
        cases this
      by_cases h0 : x = 1
      · exact absurd ((has3 x 0).2 (by omega)) (this 0 (by omega))
      · exact absurd ((has3 x 1).2 (by omega)) (this 1 (by omega))
  · intro h
    unfold nbL
    refine List.filter_eq_nil_iff.2 fun y hy hh => ?_
    have := (has3 x y).1 hh
    omega
theorem odds3 : odds 3 es3 = [0, 2] := by decide
theorem hang3 : Hang 3 es3 0 := ⟨far3, dist3, fun x hx h => by unfold far3 at h; rw [if_pos hx] at h; cases h⟩

theorem way3 {O : Nat → Nat → Option Nat} (hd : Dist 3 (pn (hasB es3)) 0 (O 0)) {P1 : Nat → Nat → Int} (h : WaysAdd 3 (pn (hasB es3)) O [(((0 : Nat) : Int), ((2 : Nat) : Int))] (plan0 3 es3) P1) : P1 = path3 := by
  obtain ⟨u, v, D, S, hp, hu, hD, hO, hh, h'⟩ := h
  have hu0 : u = 0 := by
    have := congrArg Prod.fst hp
    simp at this
    omega
  have hv2 : v = 2 := by
    have := congrArg Prod.snd hp
    simp at this
    omega
  subst hu0 hv2
  have hs : ∀ x, x < 3 → O 0 x = some x := fun x hx => by rw [hd.same dist3 hx]; unfold far3; rw [if_pos hx]
  have hD2 : D = 2 := by rw [hs 2 (by omega)] at hO; cases hO; rfl
  subst hD2
  have s0 := hh.start
  have l1 := hh.lt 1 (by omega)
  have l2 := hh.lt 2 (by omega)
  rw [hs _ l1.1] at l1
  rw [hs _ l2.1] at l2
  have e1 : S 1 = 1 := by have := Option.some.inj l1.2; omega
  have e2 : S 2 = 0 := by have := Option.some.inj l2.2; omega
  have h1 : P1 = addWay S (plan0 3 es3) 2 := h'
  rw [h1]
  funext a b
  show addP (addP (plan0 3 es3) (S 0) (S 1) 1) (S 1) (S 2) 1 a b = _
  rw [s0, e1, e2]
  have hp0 := plan0_iff (m := 3) (es := es3) (chk_good chk3).2.2.2.2 a b
  unfold addP path3
  rw [hp0]
  by_cases c : hasB es3 a b = true
  · have := (has3 a b).1 c
    rw [if_pos c]
    rcases this with ⟨rfl, rfl⟩ | ⟨rfl, rfl⟩ | ⟨rfl, rfl⟩ | ⟨rfl, rfl⟩ <;> rfl
  · have := fun h => c ((has3 a b).2 h)
    rw [if_neg c]
    rw [if_neg (fun h => this (by omega)), if_neg (fun h => this (by omega)), if_neg this]

theorem pairs3 (wn : World) (oo : Option Addr) (oc : Nat) (hc : (odds 3 es3).length ≤ oc) (hod : ∀ k u : Nat, (odds 3 es3)[k]? = some u → u < 3 ∧ ∃ b, oo = some ⟨b, 0, none⟩ ∧ wn.cell? ⟨b, k, none⟩ = some (.int .i64 (u : Int))) : PairsDo wn 3 (pn (hasB es3)) oo oc (odds 3 es3) (fun _ ps => ps = [(((0 : Nat) : Int), ((2 : Nat) : Int))]) := by
  intro w' bx gf bf O hb hcell hft
  rw [odds3] at hod hc hft ⊢
  obtain ⟨_, go, rfl, c0⟩ := hod 0 0 rfl
  obtain ⟨_, go', e1, c1⟩ := hod 1 2 rfl
  cases e1
  have d0 := (hb.cell (by exact World.block_lt_of_cell? wn _ c0)).trans c0
  have d1 := (hb.cell (by exact World.block_lt_of_cell? wn _ c1)).trans c1
  have hlt := World.block_lt_of_cell? w' _ d0
  have hr := hft.row.cell (j := 0) (by omega)
  simp only [List.mem_cons, true_or, if_true] at hr
  have hr2 := (hft.rows 0 (by simp)).1.cell (j := 2) (by omega)
  refine (nearestTwo_call (w := w') (bx := bx) (go := go) (oc := oc) (a := 0) (b := 2) (z := farZ (O 0 2)) d0 d1 (by simpa using hc) (by omega) hlt (fun w2 hb2 => ?_)).mono ?_
  · exact farOf_call (u := 0) (v := 2) (N := 3) ((hb2.cell (by exact World.block_lt_of_cell? w' _ hcell)).trans hcell) ((hb2.cell (by exact World.block_lt_of_cell? w' _ hr)).trans hr) ((hb2.cell (by exact World.block_lt_of_cell? w' _ hr2)).trans hr2) (by omega) (by omega)
  · rintro r w2 ⟨ao, c, rfl, hE, ha, hB⟩
    exact ⟨ao, c, [(((0 : Nat) : Int), ((2 : Nat) : Int))], rfl, hE, rfl, ha, hB⟩

theorem edges3 (w : World) : EdgesAt (w.alloc (Obj.cells #[.int .i64 0, .int .i64 1, .int .i64 1, .int .i64 2] 59)) (.slice (some ⟨w.heap.size, 0, none⟩) 2 2) es3 := by
  refine ⟨_, _, rfl, by simp [es3], fun e he => ?_, fun k hk => ⟨w.heap.size, 0, rfl, ?_⟩⟩
  · simp [es3] at he
    rcases he with rfl | rfl <;> (unfold I64; omega)
  · match k, hk with
    | 0, _ => simp [es3]
    | 1, _ => simp [es3]

theorem first3 {K : Nat} (h : FirstE 3 es3 K) : K = 0 := by
  by_cases c : K = 0
  · exact c
  · have := (nb3 0).1 (h.2.2 0 (by omega))
    omega
theorem post3 {base : Nat} {w' : World} {v : Value} {c : Int} (h : PostEnd 3 es3 (fun _ ps => ps = [(((0 : Nat) : Int), ((2 : Nat) : Int))]) base w' v c) : c = 0 ∧ ∃ g cp, v = .slice (some ⟨g, 0, none⟩) 5 cp ∧ w'.cell? ⟨g, 0, none⟩ = some (.int .i64 0) ∧ w'.cell? ⟨g, 4, none⟩ = some (.int .i64 0) := by
  rcases h with ⟨_, _, h⟩ | ⟨_, _, K, hK, h⟩ | ⟨_, _, K, hK, _, h⟩ | ⟨rfl, K, hK, _, _, O, ps, P1, P2, A, hd, rfl, hw, hgo, _, hown⟩
  · have := (nb3 0).1 (h 0 (by omega))
    omega
  · rw [first3 hK] at h
    exact absurd hang3 h
  · rw [odds3] at h
    simp at h
  · have hK0 := first3 hK
    subst hK0
    rw [odds3] at hd
    have hP := way3 (hd 0 (by simp)) hw
    subst hP
    obtain ⟨P', hgo'⟩ := go_path3
    obtain ⟨_, rfl⟩ := goOn_det hgo hgo'
    obtain ⟨o, cp, rfl⟩ := form_row hown
    obtain ⟨g, rfl, h0⟩ := qcell hown (k := 0) (u := 0) rfl
    obtain ⟨g', e, h4⟩ := qcell hown (k := 4) (u := 0) rfl
    cases e
    exact ⟨rfl, g, cp, rfl, by simpa using h0, by simpa using h4⟩

set_option maxRecDepth 4000 in
set_option maxHeartbeats 2000000 in
theorem begun_call (w : World) : Calls Try.prog 11 #[] w fun r w' => r = .returned (.bool true) ∧ Below w.heap.size w w' := by
  have hpost := fun (o : Obj) (hE : EdgesAt (w.alloc o) (.slice (some ⟨w.heap.size, 0, none⟩) 2 2) es3) => postman_ok 3 (some ⟨w.heap.size, 0, none⟩) 2 es3 (w.alloc o) hE chk3 (R := fun _ ps => ps = [(((0 : Nat) : Int), ((2 : Nat) : Int))]) (fun wn oo oc _ _ hc hod => pairs3 wn oo oc hc hod) (fun O ps _ hr => by subst hr; rw [odds3]; exact ⟨by simp, fun p hp => ⟨0, 2, by simpa using hp, by simp, by simp⟩⟩)
  have HP : Hid _ := hpost
  have HE := edges3 w
  clear hpost
  go_enter Try.func11, Try.ntmps11
  go_upto_region 2 with (first
    | (go_at_call 26; refine (HP.out _ HE).mono ?_; rintro r wa ⟨v, c, rfl, hbA, hend⟩)
    | go_in)
  obtain ⟨rfl, g, cp, rfl, c0, c4⟩ := post3 hend
  have t2 := two_new wa (.int .i64 0) (.int .i64 0) 27
  have hba := below_alloc (Below.refl wa.heap.size wa) (Obj.cells #[.int .i64 0, .int .i64 0] 27)
  have d0 := (hba.cell (by exact World.block_lt_of_cell? wa _ c0)).trans c0
  have d4 := (hba.cell (by exact World.block_lt_of_cell? wa _ c4)).trans c4
  have hB : Below w.heap.size w (wa.alloc (Obj.cells #[.int .i64 0, .int .i64 0] 27)) := below_next (below_next (below_alloc (Below.refl _ w) _) hbA) hba
  obtain ⟨z0, z1⟩ := cell_two t2
  generalize wa.heap.size = b2 at t2 z0 z1 ⊢
  generalize wa.alloc (Obj.cells #[.int .i64 0, .int .i64 0] 27) = W2 at t2 z0 z1 d0 d4 hB ⊢
  clear hend c0 c4 hba hbA
  go_quiet (fail)
  all_goals
    go_wp2
    go_ret
    exact ⟨by simp, below_drewN hB _⟩
end Go.Proofs.Ytkbgcbbloogdjac
