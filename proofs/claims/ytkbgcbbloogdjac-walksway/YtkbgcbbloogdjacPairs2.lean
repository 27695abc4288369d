/- nearestPairs of two nodes. nearestPairs of two nodes. -/
import Derived.Test.YtkbgcbbloogdjacPairs0
import Derived.BigQuiet
namespace Go.Proofs.Ytkbgcbbloogdjac
open Go.RowKit Go.Maps
attribute [local go_sem ↓] Go.wp_at_zero Go.wp_at_succ

set_option maxRecDepth 8000 in
set_option maxHeartbeats 2000000 in
/-- All are in pairs: what was found is the first and so the best. -/
theorem pairsEnd_call {w : World} {b2 b3 b4 : Nat} {c5 c6 : Value} {lo : Option Addr} {lc : Nat} {sum : Int} {ad : Addr} {cap : Nat} {es : List Pair} {bv : Value} (h2 : One w b2 (.int .i64 (-1)) 3) (h3 : One w b3 (.slice (some ad) es.length cap) 22) (h4 : One w b4 bv 22) (hE : EdgesAt w (.slice (some ad) es.length cap) es) (hpos : 0 < es.length) (hl : es.length ≤ 1000) :
    Calls Try.prog 68 #[.slice lo 0 lc, .int .i64 sum, .pointer (some ⟨b2, 0, none⟩), .pointer (some ⟨b3, 0, none⟩), .pointer (some ⟨b4, 0, none⟩), c5, c6] w fun r w' => r = .returned (.tuple #[]) ∧ ∃ ao c, One w' b4 (.slice ao es.length c) 22 ∧ EdgesAt w' (.slice ao es.length c) es ∧ (∀ x, ao = some x → w.heap.size ≤ x.block) ∧ One w' b2 (.int .i64 sum) 3 ∧ Turns (fun k => k = b2 ∨ k = b4) w w' := by
  have y2 := cell_of_one h2
  have y3 := cell_of_one h3
  have HE : Hid _ := hE
  have hne : b2 ≠ b4 := fun e => by
    subst e
    have h2' : w.heap[b2]? = some (.cells #[.int .i64 (-1)] 3 (0, 0)) := h2
    rw [h4] at h2'
    simp at h2'
  clear hE
  go_enter Try.func68, Try.ntmps68
  go_wp2_with (first
    | (go_at_call 69; refine (clone_call HE.out hpos hl).mono ?_; rintro r wa ⟨ao, c, rfl, hEa, hao, hbA⟩; have h2a := one_next h2 hbA; have h4a := one_next h4 hbA; have z2 := cell_of_one h2a; have f2 := one_free h2a; have z4 := cell_of_one (one_far (b' := b2) (o := 0) (u := .int .i64 sum) h4a (fun e => hne e.symm)); have f4 := one_free (one_far (b' := b2) (o := 0) (u := .int .i64 sum) h4a (fun e => hne e.symm)))
    | go_in)
  have l2 := lt_of_block h2
  have l4 := lt_of_block h4
  refine bodyPost_ret (v := .tuple #[]) (by simp [results, Try.results68]) rfl ?_
  refine ⟨rfl, ao, c, one_set (one_far h4a (fun e => hne e.symm)), ?_, hao, one_far (one_set h2a) hne, (Turns.of_below hbA _).trans (((setCell_turns _ _ _ _).mono (fun k _ hk => Or.inl hk)).trans ((setCell_turns _ _ _ _).mono (fun k _ hk => Or.inr hk)))⟩
  exact (hEa.setCell (fun x hx => by have := hao x hx; simp; omega) _).setCell (fun x hx => by have := hao x hx; simp; omega) _

theorem enter68 (args : Array Value) (w : World) : (callFunc 68 args).run Try.prog w = .ok (.enter 68 args) w := by
  simp [callFunc, Try.func68, go_sem]
  rw [if_neg (of_decide_eq_true (by kernel_rfl)), if_neg (by intro h; have : Try.f68.body.isSome = true := (by kernel_rfl); rw [h] at this; cases this)]
theorem enter58 (args : Array Value) (w : World) : (callFunc 58 args).run Try.prog w = .ok (.enter 58 args) w := by
  simp [callFunc, Try.func58, go_sem]
  rw [if_neg (of_decide_eq_true (by kernel_rfl)), if_neg (by intro h; have : Try.f58.body.isSome = true := (by kernel_rfl); rw [h] at this; cases this)]

set_option maxRecDepth 8000 in
set_option maxHeartbeats 4000000 in
/-- Two nodes are one pair. -/
theorem pairsTwo_call {w : World} {b2 b3 b4 b5 b6 bx go oc : Nat} {a b : Nat} {z : Int} {bv : Value} (h2 : One w b2 (.int .i64 (-1)) 3) (h3 : One w b3 (.slice none 0 0) 22) (h4 : One w b4 bv 22)
    (h5 : One w b5 (.func (.func 68) #[] #[.pointer (some ⟨b2, 0, none⟩), .pointer (some ⟨b3, 0, none⟩), .pointer (some ⟨b4, 0, none⟩), .pointer (some ⟨b5, 0, none⟩), .pointer (some ⟨b6, 0, none⟩)]) 111) (h6 : One w b6 (.func (.func 58) #[] #[.pointer (some ⟨bx, 0, none⟩)]) 92)
    (ca : w.cell? ⟨go, 0, none⟩ = some (.int .i64 (a : Int))) (cb : w.cell? ⟨go, 1, none⟩ = some (.int .i64 (b : Int))) (hoc : 2 ≤ oc) (hab : a < 1000 ∧ b < 1000) (h34 : b3 ≠ b4) (hg3 : go ≠ b3)
    (hf : ∀ w', Turns (fun k => k = b3) w w' → Calls Try.prog 58 #[.int .i64 (a : Int), .int .i64 (b : Int), .pointer (some ⟨bx, 0, none⟩)] w' fun r w'' => r = .returned (.int .i64 z) ∧ w'' = w') :
    Calls Try.prog 68 #[.slice (some ⟨go, 0, none⟩) 2 oc, .int .i64 0, .pointer (some ⟨b2, 0, none⟩), .pointer (some ⟨b3, 0, none⟩), .pointer (some ⟨b4, 0, none⟩), .pointer (some ⟨b5, 0, none⟩), .pointer (some ⟨b6, 0, none⟩)] w fun r w' => r = .returned (.tuple #[]) ∧ ∃ ao c, One w' b4 (.slice ao 1 c) 22 ∧ EdgesAt w' (.slice ao 1 c) [((a : Int), (b : Int))] ∧ (∀ x, ao = some x → w.heap.size ≤ x.block) ∧ Turns (fun k => k = b2 ∨ k = b3 ∨ k = b4) w w' := by
  have hF := enter68
  have hF2 := enter58
  obtain ⟨i0, hi, hz0, hz1, hz2⟩ := info_parts Try.info59
  have y2 := cell_of_one h2
  have y3 := cell_of_one h3
  have f3 := one_free h3
  have HFR : Hid _ := hf
  clear hf
  go_enter Try.func68, Try.ntmps68
  go_wp2
  go_loopw [9] (fun i wr => (i = .int .i64 1 ∧ wr = w) ∨ (i = .int .i64 2 ∧ ∃ ao c, One wr b4 (.slice ao 1 c) 22 ∧ EdgesAt wr (.slice ao 1 c) [((a : Int), (b : Int))] ∧ (∀ x, ao = some x → w.heap.size ≤ x.block) ∧ Turns (fun k => k = b2 ∨ k = b3 ∨ k = b4) w wr)) (fun i _ => 3 - (numOf i).toNat)
  case atStart => exact Or.inl ⟨rfl, rfl⟩
  case round =>
    rcases hrel with ⟨rfl, hw⟩ | ⟨rfl, ao, c, k1, k2, ka, k3⟩
    · subst hw
      go_upto_region 6 with (fail)
      go_quiet (fail)
      rename Nat => nd
      have hb0 : Below wr.heap.size wr (wr.drewN nd) := below_drewN (Below.refl _ _) _
      have g3 := one_next h3 hb0
      have v3 := cell_of_one g3
      generalize wr.drewN nd = W0 at hb0 g3 v3 ⊢
      clear y2 y3 f3
      go_upto_region 8 with (first
        | (at_builtin; refine wpList_append_lies _ rfl _ _ 22 rfl W0.heap.size 59 i0 (.agg #[.int .i64 0, .int .i64 0]) 2 16 Try.underlying22 hi hz0 hz1 hz2 rfl (by decide) (.slice none 0 0) 0 [] rfl (World.ownsRow_nil _ _ _ _) ⟨W0.heap.size, 0, none⟩ 1 1 [.int .i64 (a : Int), .int .i64 (b : Int)] rfl rfl ?n1 ?n2 (by omega) ?n3 ?n4 ?n5 (W0.heap.size + 1) (by simp) ?_)
        | go_in)
      case n1 =>
        intro j u hj
        match j, hj with
        | 0, hj => simp at hj; subst hj; simp [Addr.add]
        | 1, hj => simp at hj; subst hj; simp [Addr.add]
      case n2 => intro u hu; simp at hu; rcases hu with rfl | rfl <;> rfl
      case n3 => unfold maxLen; omega
      case n4 => omega
      case n5 => simp
      intro g1 c1 w1 hown1 hgr1 hat1 hlt1
      have hb1 : Below wr.heap.size wr w1 := below_next hb0 (((below_alloc (Below.refl _ W0) _).grown hgr1 (by simp) (fun k hk => by simp [Value.ownBlock] at hk)))
      have hg1 : wr.heap.size ≤ g1 := by have := (hown1.lt g1 rfl).1; have := hb0.size; omega
      have hE1 := edgesAt_row (base := W0.heap.size) (L := [((a : Int), (b : Int))]) (by simpa [flat] using hown1) (fun e he => by simp at he; subst he; exact ⟨⟨by omega, by omega⟩, ⟨by omega, by omega⟩⟩) (by simp)
      have g3b := one_next h3 hb1
      have v3b := cell_of_one g3b
      have f3b := one_free g3b
      clear hown1 hgr1 hat1 g3 v3 hb0
      go_upto_region 8 with (fail)
      have l3 := lt_of_block h3
      have ty : ∀ {k : Nat} {t : TypeId} {x : Value}, One wr k x t → t ≠ 22 → k ≠ b3 := fun {k t x} hk ht e => by
        subst e
        have h3' : wr.heap[k]? = some (.cells #[.slice none 0 0] 22 (0, 0)) := h3
        rw [hk] at h3'
        simp at h3'
        exact ht h3'.2
      have n23 := ty h2 (by decide)
      have n53 := ty h5 (by decide)
      have n63 := ty h6 (by decide)
      have T8 : Turns (fun k => k = b3) wr (w1.setCell ⟨b3, 0, none⟩ (.slice (some ⟨g1, 0, none⟩) 1 c1)) := (Turns.of_below hb1 _).trans (setCell_turns _ _ _ _)
      have q3 : One (w1.setCell ⟨b3, 0, none⟩ (.slice (some ⟨g1, 0, none⟩) 1 c1)) b3 (.slice (some ⟨g1, 0, none⟩) 1 c1) 22 := one_set g3b
      have E8 : EdgesAt (w1.setCell ⟨b3, 0, none⟩ (.slice (some ⟨g1, 0, none⟩) 1 c1)) (.slice (some ⟨g1, 0, none⟩) 1 c1) [((a : Int), (b : Int))] := EdgesAt.setCell (n := 1) hE1 (fun x hx => by cases hx; simp; omega) _
      generalize w1.setCell ⟨b3, 0, none⟩ (.slice (some ⟨g1, 0, none⟩) 1 c1) = W8 at T8 q3 E8 ⊢
      clear g3b v3b f3b hE1 hb1
      have q2 := one_turns h2 T8 n23
      have q4 := one_turns h4 T8 (fun e => h34 e.symm)
      have q5 := one_turns h5 T8 n53
      have q6 := one_turns h6 T8 n63
      have hs8 := T8.size
      go_cut [9] from 44 to 60 (fun s9 wc => s9 = .int .i64 1 ∧ ∃ ao c, One wc b4 (.slice ao 1 c) 22 ∧ EdgesAt wc (.slice ao 1 c) [((a : Int), (b : Int))] ∧ (∀ x, ao = some x → W8.heap.size ≤ x.block) ∧ One wc b3 (.slice (some ⟨g1, 0, none⟩) 1 c1) 22 ∧ Turns (fun k => k = b2 ∨ k = b4) W8 wc)
      case first =>
        have v5 := cell_of_one q5
        have v6 := cell_of_one q6
        have v5a := all_alloc v5
        have v6a := all_alloc v6
        have HQ2 : Hid _ := q2
        have HQ3 : Hid _ := q3
        have HQ4 : Hid _ := q4
        have HE8 : Hid _ := E8
        have HT8 : Hid _ := T8
        have n32 : b3 ≠ b2 := fun e => n23 e.symm
        have j1 : (2 : Int) ≤ (oc : Int) := by omega
        have j0 : (1 : Int) ≤ (oc : Int) := by omega
        have j2 : ¬ oc = 1 := by omega
        have j3 : IntKind.i64.wrap ((1 : Int) + 1) = 2 := by decide
        have j4 : IntKind.i64.wrap (2 : Int) = 2 := by decide
        clear q2 q3 q4 E8 T8 q5 q6
        have hcc := fun (x y : Value) (o1 o2 : Option Addr) (c1 c2 : Nat) (hx : x = .slice o1 0 c1) (hy : y = .slice o2 0 c2) => concat0_call (w := (W8.alloc (Obj.cells #[x, y] 29)).drew) (b := W8.heap.size) (o1 := o1) (o2 := o2) (c1 := c1) (c2 := c2) (by rw [← hx]; exact (cell_two (two_new W8 x y 29)).1) (by rw [← hy]; exact (cell_two (two_new W8 x y 29)).2)
        have HCC : Hid _ := hcc
        clear hcc
        have hpe := fun (o : Obj) (sum : Int) => pairsEnd_call (w := (W8.alloc o).drew) (b2 := b2) (b3 := b3) (b4 := b4) (c5 := .pointer (some ⟨b5, 0, none⟩)) (c6 := .pointer (some ⟨b6, 0, none⟩)) (lo := none) (lc := 0) (sum := sum) (es := [((a : Int), (b : Int))]) (cap := c1) (ad := ⟨g1, 0, none⟩) (bv := bv) (show One (W8.alloc o) b2 (.int .i64 (-1)) 3 from one_alloc HQ2.out o) (show One (W8.alloc o) b3 (.slice (some ⟨g1, 0, none⟩) 1 c1) 22 from one_alloc HQ3.out o) (show One (W8.alloc o) b4 bv 22 from one_alloc HQ4.out o) (EdgesAt.below HE8.out (below_alloc (Below.refl _ _) o).drew) (by simp) (by simp)
        have HPE : Hid _ := hpe
        clear hpe
        have tyn : ∀ {k l : Nat} {t t' : TypeId} {x y : Value}, One wr k x t → One wr l y t' → t ≠ t' → k ≠ l := fun {k l t t' x y} hk hl ht e => by
          subst e
          have h1 : wr.heap[k]? = some (.cells #[x] t (0, 0)) := hk
          rw [hl] at h1
          simp at h1
          exact ht h1.2.symm
        have n52 := tyn h5 h2 (by decide)
        have n54 := tyn h5 h4 (by decide)
        have n62 := tyn h6 h2 (by decide)
        have n64 := tyn h6 h4 (by decide)
        have hk56 := fun (o : Obj) (wz : World) (kT : Turns (fun k => k = b2 ∨ k = b4) (W8.alloc o).drew wz) => And.intro (cell_turns (w := (W8.alloc o).drew) (v5a o) kT (fun h => h.elim n52 n54)) (cell_turns (w := (W8.alloc o).drew) (v6a o) kT (fun h => h.elim n62 n64))
        have HK56 : Hid _ := hk56
        clear hk56
        by_cases ho2 : oc = 2
        · subst ho2
          go_region_held3 (fun w' => w'.cell? ⟨b5, 0, none⟩ = some (.func (.func 68) #[] #[.pointer (some ⟨b2, 0, none⟩), .pointer (some ⟨b3, 0, none⟩), .pointer (some ⟨b4, 0, none⟩), .pointer (some ⟨b5, 0, none⟩), .pointer (some ⟨b6, 0, none⟩)]) ∧ w'.cell? ⟨b6, 0, none⟩ = some (.func (.func 58) #[] #[.pointer (some ⟨bx, 0, none⟩)]))
            (first | exact hkk | exact ⟨v5, v6⟩ | exact ⟨v5a _, v6a _⟩ | assumption | go_keep)
            ((first
              | (go_at_call 65; refine (HCC.out _ _ _ _ _ _ rfl rfl).mono ?_; rintro r wx ⟨rfl, rfl⟩)
              | (go_at_call 58; refine (HFR.out _ ?_).mono ?_; first | exact HT8.out.trans (Turns.of_below (Below.refl _ _).drew _) | exact HT8.out.trans (Turns.of_below (below_alloc (Below.refl _ _) _).drew _); rintro r wy ⟨rfl, rfl⟩)
              | (go_at_call 68; refine (HPE.out _ _).mono ?_; rintro r wz ⟨rfl, ao, c, k4, kE, kao, k2', kT⟩; have hkk := HK56.out _ _ kT)))
          all_goals
            go_wp2_with fail
            go_meet
            case rel =>
              refine ⟨rfl, ao, c, k4, kE, fun x hx => by have := kao x hx; simp at this; omega, one_turns (M := fun k => k = b2 ∨ k = b4) (show One (W8.alloc _).drew b3 (.slice (some ⟨g1, 0, none⟩) 1 c1) 22 from one_alloc HQ3.out _) kT (fun (h : b3 = b2 ∨ b3 = b4) => h.elim n32 h34), ?_⟩
              exact (Turns.of_below (below_alloc (Below.refl _ W8) _).drew _).trans kT
        · have ho3 : ¬ oc - 2 = 0 := by omega
          have ho4 : ¬ (oc : Int) = 2 := by omega
          have ho5 : ¬ oc ≤ 2 := by omega
          have ho6 : (2 : Int) < (oc : Int) := by omega
          go_region_held3 (fun w' => w'.cell? ⟨b5, 0, none⟩ = some (.func (.func 68) #[] #[.pointer (some ⟨b2, 0, none⟩), .pointer (some ⟨b3, 0, none⟩), .pointer (some ⟨b4, 0, none⟩), .pointer (some ⟨b5, 0, none⟩), .pointer (some ⟨b6, 0, none⟩)]) ∧ w'.cell? ⟨b6, 0, none⟩ = some (.func (.func 58) #[] #[.pointer (some ⟨bx, 0, none⟩)]))
            (first | exact hkk | exact ⟨v5, v6⟩ | exact ⟨v5a _, v6a _⟩ | assumption | go_keep)
            ((first
              | (go_at_call 65; refine (HCC.out _ _ _ _ _ _ rfl rfl).mono ?_; rintro r wx ⟨rfl, rfl⟩)
              | (go_at_call 58; refine (HFR.out _ ?_).mono ?_; first | exact HT8.out.trans (Turns.of_below (Below.refl _ _).drew _) | exact HT8.out.trans (Turns.of_below (below_alloc (Below.refl _ _) _).drew _); rintro r wy ⟨rfl, rfl⟩)
              | (go_at_call 68; refine (HPE.out _ _).mono ?_; rintro r wz ⟨rfl, ao, c, k4, kE, kao, k2', kT⟩; have hkk := HK56.out _ _ kT)))
          all_goals
            go_wp2_with fail
            go_meet
            case rel =>
              refine ⟨rfl, ao, c, k4, kE, fun x hx => by have := kao x hx; simp at this; omega, one_turns (M := fun k => k = b2 ∨ k = b4) (show One (W8.alloc _).drew b3 (.slice (some ⟨g1, 0, none⟩) 1 c1) 22 from one_alloc HQ3.out _) kT (fun (h : b3 = b2 ∨ b3 = b4) => h.elim n32 h34), ?_⟩
              exact (Turns.of_below (below_alloc (Below.refl _ W8) _).drew _).trans kT
      case rest =>
        obtain ⟨rfl, ao, c, k4, kE, kao, k3, kT⟩ := hcut
        have v3 := cell_of_one k3
        have f3 := one_free k3
        have l8 := lt_of_block q3
        clear q2 q3 q4 q5 q6 E8
        go_wp2
        go_roundw
        case rel =>
          refine Or.inr ⟨by go_num, ao, c, one_far k4 (fun e => h34 e.symm), EdgesAt.setCell (n := 1) kE (fun x hx => by have := kao x hx; simp; omega) _, (fun x hx => by have := kao x hx; have := T8.size; omega), ?_⟩
          exact ((T8.mono (fun k _ hk => Or.inr (Or.inl hk))).trans (kT.mono (fun k _ hk => hk.elim Or.inl (fun h => Or.inr (Or.inr h))))).trans ((setCell_turns _ _ _ _).mono (fun k _ hk => Or.inr (Or.inl hk)))
        case measure => simp [numOf]
    · go_wp2
      go_end0
      exact ⟨rfl, ao, c, k1, k2, ka, k3⟩
end Go.Proofs.Ytkbgcbbloogdjac

namespace Go.Proofs.Ytkbgcbbloogdjac
open Go.RowKit Go.Maps
attribute [local go_sem ↓] Go.wp_at_zero Go.wp_at_succ

set_option maxRecDepth 4000 in
set_option maxHeartbeats 2000000 in
theorem nearestTwo_call {w : World} {bx go oc a b : Nat} {z : Int} (ca : w.cell? ⟨go, 0, none⟩ = some (.int .i64 (a : Int))) (cb : w.cell? ⟨go, 1, none⟩ = some (.int .i64 (b : Int))) (hoc : 2 ≤ oc) (hab : a < 1000 ∧ b < 1000) (hgo : go < w.heap.size)
    (hf : ∀ w', Below w.heap.size w w' → Calls Try.prog 58 #[.int .i64 (a : Int), .int .i64 (b : Int), .pointer (some ⟨bx, 0, none⟩)] w' fun r w'' => r = .returned (.int .i64 z) ∧ w'' = w') :
    Calls Try.prog 57 #[.slice (some ⟨go, 0, none⟩) 2 oc, .func (.func 58) #[] #[.pointer (some ⟨bx, 0, none⟩)]] w fun r w' => ∃ ao c, r = .returned (.slice ao 1 c) ∧ EdgesAt w' (.slice ao 1 c) [((a : Int), (b : Int))] ∧ (∀ x, ao = some x → w.heap.size ≤ x.block) ∧ Below w.heap.size w w' := by
  have hF := enter68
  have HFR : Hid _ := hf
  clear hf
  go_enter Try.func57, Try.ntmps57
  go_upto_region 1 with (fail)
  obtain ⟨fv, hfv⟩ : ∃ fv, fv = Value.func (.func 58) #[] #[.pointer (some ⟨bx, 0, none⟩)] := ⟨_, rfl⟩
  rw [← hfv]
  have t6 : One (w.alloc (Obj.cells #[fv] 92)) w.heap.size fv 92 := one_new w _ _
  have hB := below_alloc (Below.refl w.heap.size w) (Obj.cells #[fv] 92)
  have hz : (w.alloc (Obj.cells #[fv] 92)).heap.size = w.heap.size + 1 := by simp
  generalize w.alloc (Obj.cells #[fv] 92) = W0 at t6 hB hz ⊢
  go_upto_region 2 with (fail)
  have u6 := one_alloc (one_alloc t6 (Obj.cells #[.slice none 0 0] 22)) (Obj.cells #[.slice none 0 0] 22)
  have u3 := one_alloc (one_new W0 (.slice none 0 0) 22) (Obj.cells #[.slice none 0 0] 22)
  have u4 := one_new (W0.alloc (Obj.cells #[.slice none 0 0] 22)) (.slice none 0 0) 22
  have hB1 := below_alloc (below_alloc hB (Obj.cells #[.slice none 0 0] 22)) (Obj.cells #[.slice none 0 0] 22)
  have hz1 : ((W0.alloc (Obj.cells #[.slice none 0 0] 22)).alloc (Obj.cells #[.slice none 0 0] 22)).heap.size = w.heap.size + 3 := by simp [hz]
  have hz1' : (W0.alloc (Obj.cells #[.slice none 0 0] 22)).heap.size = w.heap.size + 2 := by simp [hz]
  rw [hz1'] at u4
  rw [hz] at u3
  generalize (W0.alloc (Obj.cells #[.slice none 0 0] 22)).alloc (Obj.cells #[.slice none 0 0] 22) = W1 at u6 u3 u4 hB1 hz1 ⊢
  clear t6 hB hz1'
  go_upto_region 3 with (fail)
  have x6 := one_alloc u6 (Obj.cells #[.int .i64 (-1)] 3)
  have x3 := one_alloc u3 (Obj.cells #[.int .i64 (-1)] 3)
  have x4 := one_alloc u4 (Obj.cells #[.int .i64 (-1)] 3)
  have x2 := one_new W1 (.int .i64 (-1)) 3
  have hB2 := below_alloc hB1 (Obj.cells #[.int .i64 (-1)] 3)
  have hz2 : (W1.alloc (Obj.cells #[.int .i64 (-1)] 3)).heap.size = w.heap.size + 4 := by simp [hz1]
  rw [hz1] at x2
  generalize W1.alloc (Obj.cells #[.int .i64 (-1)] 3) = W2 at x6 x3 x4 x2 hB2 hz2 ⊢
  clear u6 u3 u4 hB1 hz1 hz
  go_upto_region 4 with (fail)
  have y6 := one_alloc x6 (Obj.cells #[.nilFunc] 111)
  have y3 := one_alloc x3 (Obj.cells #[.nilFunc] 111)
  have y4 := one_alloc x4 (Obj.cells #[.nilFunc] 111)
  have y2 := one_alloc x2 (Obj.cells #[.nilFunc] 111)
  have y5 := one_new W2 .nilFunc 111
  have hB3 := below_alloc hB2 (Obj.cells #[.nilFunc] 111)
  have hz3 : (W2.alloc (Obj.cells #[.nilFunc] 111)).heap.size = w.heap.size + 5 := by simp [hz2]
  rw [hz2] at y5
  generalize W2.alloc (Obj.cells #[.nilFunc] 111) = W3 at y6 y3 y4 y2 y5 hB3 hz3 ⊢
  clear x6 x3 x4 x2 hB2 hz2
  have c5 := cell_of_one y5
  have f5 := one_free y5
  go_upto_region 5 with (fail)
  obtain ⟨cl, hcl⟩ : ∃ cl, cl = Value.func (.func 68) #[] #[.pointer (some ⟨w.heap.size + 3, 0, none⟩), .pointer (some ⟨w.heap.size + 1, 0, none⟩), .pointer (some ⟨w.heap.size + 1 + 1, 0, none⟩), .pointer (some ⟨w.heap.size + 4, 0, none⟩), .pointer (some ⟨w.heap.size, 0, none⟩)] := ⟨_, rfl⟩
  rw [← hcl]
  have z6 := one_far (b' := w.heap.size + 4) (o := 0) (u := cl) y6 (by omega)
  have z3 := one_far (b' := w.heap.size + 4) (o := 0) (u := cl) y3 (by omega)
  have z4 := one_far (b' := w.heap.size + 4) (o := 0) (u := cl) y4 (by omega)
  have z2 := one_far (b' := w.heap.size + 4) (o := 0) (u := cl) y2 (by omega)
  have z5 := one_set (y := cl) y5
  have hB4 := hB3.setCell (p := ⟨w.heap.size + 4, 0, none⟩) (by simp) cl
  generalize W3.setCell ⟨w.heap.size + 4, 0, none⟩ cl = W4 at z6 z3 z4 z2 z5 hB4 ⊢
  clear y6 y3 y4 y2 y5 hB3 hz3 c5 f5
  have k5 := cell_of_one z5
  rw [hcl] at k5
  rw [hfv] at z6
  have da := (hB4.cell (p := ⟨go, 0, none⟩) hgo).trans ca
  have db := (hB4.cell (p := ⟨go, 1, none⟩) hgo).trans cb
  have hcall := pairsTwo_call (a := a) (b := b) (z := z) (oc := oc) (go := go) (bx := bx) z2 z3 z4 (by rw [← hcl]; exact z5) z6 da db hoc hab (by omega) (by omega) (fun w' hT => HFR.out w' (Turns.below hB4 hT hB4.size (fun k hk => by omega)))
  have HC : Hid _ := hcall
  clear hcall
  go_wp2_with (first
    | (go_at_call 68; refine Calls.mono HC.out ?_; rintro r wa ⟨rfl, ao, c, k4, kE, ka, kT⟩; have c4 := cell_of_one k4)
    | go_in)
  go_ret
  exact ⟨ao, c, rfl, kE, (fun x hx => by have := ka x hx; have := hB4.size; omega), Turns.below hB4 kT hB4.size (fun k hk => by omega)⟩
end Go.Proofs.Ytkbgcbbloogdjac
