/- lay: two pipes more. -/
import Derived.Test.YtkakmaalmhofmaaLayB
import Derived.Deep.Cut
import Derived.Deep.CutRange
import Derived.Deep.RegionLaw
namespace Go.Proofs.Ytkakmaalmhofmaa
open Go.RowKit Go.Maps
attribute [local go_sem ↓] Go.wp_at_zero Go.wp_at_succ

set_option maxRecDepth 4000 in
set_option maxHeartbeats 8000000 in
theorem lay_call {w : World} {b0 bp g base N : Nat} {vs : Nat → Value} {ls : Nat → List Nat} {ta ra : Option Addr} {tc rc0 L : Nat} {Ts : List Nat} {Rs : List Int} {u v : Nat} {x y : Int} (hu : u < N) (hv : v < N) (hls : LS w b0 bp g base N vs ls (.slice ta L tc) (.slice ra L rc0) Ts Rs) (hLT : Ts.length = L) (hLR : Rs.length = L) (hln : ∀ i, (ls i).length ≤ 100000) (hL : L ≤ 100000) (hszw : base ≤ w.heap.size) :
    Calls Try.prog 52 #[ptr bp, .int .i64 (u : Int), .int .i64 (v : Int), .int .i64 x, .int .i64 y] w fun r w' => r = .returned (.tuple #[]) ∧ Below b0 w w' ∧ base ≤ w'.heap.size ∧ ∃ vs' ta' tc' ra' rc', LS w' b0 bp g base N vs' (ls1 (ls1 ls u L) v (L + 1)) (.slice ta' (L + 2) tc') (.slice ra' (L + 2) rc') (Ts ++ [v, u]) (Rs ++ [x, y]) := by
  obtain ⟨i3, hi3, hy0, hy1, hy2⟩ := info_parts Try.info3
  have hNN : ∃ n, N = n := ⟨N, rfl⟩
  have i1 : (0 : Int) ≤ (u : Int) := by omega
  have i2 : (u : Int) < (N : Int) := by omega
  have i3' : (0 : Int) ≤ (v : Int) := by omega
  have i4 : (v : Int) < (N : Int) := by omega
  have hln' : ∀ i, (ls i).length ≤ 1000000 := fun i => by have := hln i; omega
  have HLN : Hid _ := hln'
  have HL1 : Hid _ := hln
  have HLT : Hid _ := hLT
  have HLR : Hid _ := hLR
  have kk : IntKind.i64.wrap ((L : Int) + 1) = (L : Int) + 1 := by rw [IntKind.wrap_i64]; omega
  clear hln hln' hLT hLR hNN
  go_enter Try.func52, Try.ntmps52
  go_upto_region 0 with (fail)
  go_cut [] from 10 to 29 (fun wc => Below b0 w wc ∧ base ≤ wc.heap.size ∧ ∃ vs', LS wc b0 bp g base N vs' (ls1 ls u L) (.slice ta L tc) (.slice ra L rc0) Ts Rs)
  case first =>

      have hown2 : w.ownsRow base 3 1 (vs u) (ls u).length (qv (ls u)) := hls.near.own u hu
      obtain ⟨ro, rc, hvx⟩ := form_row hown2
      have cx := hls.near.row.cell hu
      rw [hvx] at cx hown2
      obtain ⟨n0, hn0⟩ : ∃ n0, n0 = (ls u).length := ⟨_, rfl⟩
      obtain ⟨l0, hl0⟩ : ∃ l0, l0 = qv (ls u) := ⟨_, rfl⟩
      rw [← hn0, ← hl0] at hown2
      rw [← hn0] at cx hvx
      have hn0l : n0 ≤ 1000000 := by rw [hn0]; exact HLN.out _
      have hox : (w.drew).ownsRow base 3 1 (.slice ro n0 rc) n0 l0 := ownsRow_blocks hown2 (fun _ _ => rfl)
      have hne := hls.lt
      have hneg : (Value.slice ro n0 rc).ownBlock ≠ some g := fun h => by have := (World.ownsRow.lt hox g h).1; omega
      have hnep : (Value.slice ro n0 rc).ownBlock ≠ some bp := fun h => by have := (World.ownsRow.lt hox bp h).1; omega
      have hrx : RowV w.drew g 30 N _ := hls.near.row
      have cb0 := box_cell hls.box (i := 0) rfl
      have cb1 := box_cell hls.box (i := 1) rfl
      have hszx : base ≤ w.heap.size := hszw
      have hK : ∀ (w1 : World) (o : Obj), ((w.drew).alloc o).grownBy w1 (Value.slice ro n0 rc).ownBlock → (w1.cell? ⟨bp, 0, none⟩ = some (sl g N) ∧ w1.cell? ⟨bp, 1, none⟩ = some (.slice ta L tc) ∧ w1.cell? ⟨g, u, none⟩ = some (.slice ro n0 rc)) ∧ w1.frozen? ⟨g, u, none⟩ = false := fun w1 o hg =>
        ⟨⟨cell_grown (w := w.drew) hg cb0 hnep, cell_grown (w := w.drew) hg cb1 hnep, cell_grown (w := w.drew) hg cx hneg⟩, (row_grown hrx hg hneg).free u⟩
      have HK : Hid _ := hK
      have HNL : Hid _ := hls
      have HVX : Hid _ := hvx
      have HOX : Hid _ := hox
      have HN0 : Hid _ := hn0
      have HL0 : Hid _ := hl0
      clear hK hvx hrx hown2 hls hn0 hl0
      have cxa := all_alloc cx
      have cb0a := all_alloc cb0
      have cb1a := all_alloc cb1
      refine wp_region_held_drew (S := fun w' => w'.cell? ⟨bp, 0, none⟩ = some (sl g N) ∧ w'.cell? ⟨bp, 1, none⟩ = some (.slice ta L tc)) (by kernel_rfl) ⟨cb0, cb1⟩ (fun hHeld => ?_)

      refine wpAnyH_take (i := 0) (v := ?tv1) rfl (by kernel_rfl) (by kernel_rfl) (by kernel_rfl) (fun _ _ _ h => h) (Or.inl ⟨by rfl, ?ty1⟩) hHeld ?_
      case ty1 => (intro w hSw; (try dsimp only at hSw); go_simp; try with_reducible rfl)
      try simp only [Act.put]
      try simp only [List.setIfInBounds_toArray]
      try simp only [List.set_cons_succ]
      try simp only [List.set_cons_zero]
      refine wpAnyH_take (i := 1) (v := ?tv2) rfl (by kernel_rfl) (by kernel_rfl) (by kernel_rfl) (fun _ _ _ h => h) (Or.inl ⟨by rfl, ?ty2⟩) hHeld ?_
      case ty2 => (intro w hSw; (try dsimp only at hSw); go_simp; try with_reducible rfl)
      try simp only [Act.put]
      try simp only [List.setIfInBounds_toArray]
      try simp only [List.set_cons_succ]
      try simp only [List.set_cons_zero]
      refine wpAnyH_take (i := 2) (v := ?tv3) rfl (by kernel_rfl) (by kernel_rfl) (by kernel_rfl) (fun _ _ _ h => h) (Or.inl ⟨by rfl, ?ty3⟩) hHeld ?_
      case ty3 => (intro w hSw; (try dsimp only at hSw); go_simp; try with_reducible rfl)
      try simp only [Act.put]
      try simp only [List.setIfInBounds_toArray]
      try simp only [List.set_cons_succ]
      try simp only [List.set_cons_zero]
      refine wpAnyH_take (i := 3) (v := ?tv4) rfl (by kernel_rfl) (by kernel_rfl) (by kernel_rfl) (fun _ _ _ h => h) (Or.inl ⟨by rfl, ?ty4⟩) hHeld ?_
      case ty4 => (intro w hSw; (try dsimp only at hSw); go_simp; try with_reducible rfl)
      try simp only [Act.put]
      try simp only [List.setIfInBounds_toArray]
      try simp only [List.set_cons_succ]
      try simp only [List.set_cons_zero]
      refine wpAnyH_take (i := 4) (v := ?tv5) rfl (by kernel_rfl) (by kernel_rfl) (by kernel_rfl) (fun _ _ _ h => h) (Or.inl ⟨by rfl, ?ty5⟩) hHeld ?_
      case ty5 => (intro w hSw; (try dsimp only at hSw); go_simp; try with_reducible rfl)
      try simp only [Act.put]
      try simp only [List.setIfInBounds_toArray]
      try simp only [List.set_cons_succ]
      try simp only [List.set_cons_zero]
      refine wpAnyH_take (i := 5) (v := ?tv6) rfl (by kernel_rfl) (by kernel_rfl) (by kernel_rfl) (fun _ _ _ h => h) (Or.inl ⟨by rfl, ?ty6⟩) hHeld ?_
      case ty6 => (intro w hSw; (try dsimp only at hSw); go_simp; try with_reducible rfl)
      try simp only [Act.put]
      try simp only [List.setIfInBounds_toArray]
      try simp only [List.set_cons_succ]
      try simp only [List.set_cons_zero]
      refine wpAnyH_take (i := 6) (v := ?tv7) rfl (by kernel_rfl) (by kernel_rfl) (by kernel_rfl) (fun _ _ _ h => h) (Or.inl ⟨by rfl, ?ty7⟩) hHeld ?_
      case ty7 => (intro w hSw; (try dsimp only at hSw); go_simp; try with_reducible rfl)
      try simp only [Act.put]
      try simp only [List.setIfInBounds_toArray]
      try simp only [List.set_cons_succ]
      try simp only [List.set_cons_zero]
      refine wpAnyH_take (i := 7) (v := ?tv8) rfl (by kernel_rfl) (by kernel_rfl) (by kernel_rfl) (fun _ _ _ h => h) (Or.inl ⟨by rfl, ?ty8⟩) hHeld ?_
      case ty8 => (intro w hSw; (try dsimp only at hSw); go_simp; try with_reducible rfl)
      try simp only [Act.put]
      try simp only [List.setIfInBounds_toArray]
      try simp only [List.set_cons_succ]
      try simp only [List.set_cons_zero]
      refine wpAnyH_take (i := 8) (v := ?tv9) rfl (by kernel_rfl) (by kernel_rfl) (by kernel_rfl) (fun _ _ _ h => h) (Or.inl ⟨by rfl, ?ty9⟩) hHeld ?_
      case ty9 => (intro w hSw; (try dsimp only at hSw); go_simp; try with_reducible rfl)
      try simp only [Act.put]
      try simp only [List.setIfInBounds_toArray]
      try simp only [List.set_cons_succ]
      try simp only [List.set_cons_zero]
      refine wpAnyH_take (i := 9) (v := ?tv10) rfl (by kernel_rfl) (by kernel_rfl) (by kernel_rfl) (fun _ _ _ h => h) (Or.inl ⟨by rfl, ?ty10⟩) hHeld ?_
      case ty10 => (intro w hSw; (try dsimp only at hSw); go_simp; try with_reducible rfl)
      try simp only [Act.put]
      try simp only [List.setIfInBounds_toArray]
      try simp only [List.set_cons_succ]
      try simp only [List.set_cons_zero]
      refine wpAnyH_take (i := 10) (v := ?tv11) rfl (by kernel_rfl) (by kernel_rfl) (by kernel_rfl) (fun _ _ _ h => h) (Or.inl ⟨by rfl, ?ty11⟩) hHeld ?_
      case ty11 => (intro w hSw; (try dsimp only at hSw); go_simp; try with_reducible rfl)
      try simp only [Act.put]
      try simp only [List.setIfInBounds_toArray]
      try simp only [List.set_cons_succ]
      try simp only [List.set_cons_zero]
      refine wpAnyH_take (i := 12) (v := ?tv12) rfl (by kernel_rfl) (by kernel_rfl) (by kernel_rfl) (fun _ _ _ h => h) (Or.inl ⟨by rfl, ?ty12⟩) hHeld ?_
      case ty12 => (intro w hSw; (try dsimp only at hSw); go_simp; try with_reducible rfl)
      try simp only [Act.put]
      try simp only [List.setIfInBounds_toArray]
      try simp only [List.set_cons_succ]
      try simp only [List.set_cons_zero]
      refine wpAnyH_take (i := 13) (v := ?tv13) rfl (by kernel_rfl) (by kernel_rfl) (by kernel_rfl) (fun _ _ _ h => h) (Or.inl ⟨by rfl, ?ty13⟩) hHeld ?_
      case ty13 => (intro w hSw; (try dsimp only at hSw); go_simp; try with_reducible rfl)
      try simp only [Act.put]
      try simp only [List.setIfInBounds_toArray]
      try simp only [List.set_cons_succ]
      try simp only [List.set_cons_zero]
      refine wpAnyH_take (i := 14) (v := ?tv14) rfl (by kernel_rfl) (by kernel_rfl) (by kernel_rfl) (fun _ _ _ h => h) (Or.inl ⟨by rfl, ?ty14⟩) hHeld ?_
      case ty14 => (intro w hSw; (try dsimp only at hSw); go_simp; try with_reducible rfl)
      try simp only [Act.put]
      try simp only [List.setIfInBounds_toArray]
      try simp only [List.set_cons_succ]
      try simp only [List.set_cons_zero]
      refine wpAnyH_take (i := 15) (v := ?tv15) rfl (by kernel_rfl) (by kernel_rfl) (by kernel_rfl) (fun _ _ _ h => h) (Or.inl ⟨by rfl, ?ty15⟩) hHeld ?_
      case ty15 => (intro w hSw; (try dsimp only at hSw); go_simp; try with_reducible rfl)
      try simp only [Act.put]
      try simp only [List.setIfInBounds_toArray]
      try simp only [List.set_cons_succ]
      try simp only [List.set_cons_zero]
      refine wpAnyH_take (i := 16) (v := ?tv16) rfl (by kernel_rfl) (by kernel_rfl) (by kernel_rfl) (fun _ _ _ h => h) (Or.inl ⟨by rfl, ?ty16⟩) hHeld ?_
      case ty16 => (intro w hSw; (try dsimp only at hSw); go_simp; try with_reducible rfl)
      try simp only [Act.put]
      try simp only [List.setIfInBounds_toArray]
      try simp only [List.set_cons_succ]
      try simp only [List.set_cons_zero]
      refine wpAnyH_ready (rs := [11, 17]) (by kernel_rfl) (by simp) ?_
      refine AllReadyH.cons rfl (fun K hK => ?_) (AllReadyH.cons rfl (fun K hK => ?_) AllReadyH.nil)
      go_simp
      refine hK.out _ _ ⟨cb0, cb1⟩ (fun hHeld => ?_)
      clear hK K
      refine wpAnyH_ready (rs := [17]) (by kernel_rfl) (by simp) ?_
      refine AllReadyH.cons rfl (fun K hK => ?_) AllReadyH.nil
      go_simp
      refine hK.out _ _ ⟨cb0a _, cb1a _⟩ (fun hHeld => ?_)
      clear hK K
      refine wpAnyH_ready (rs := [18]) (by kernel_rfl) (by simp) ?_
      refine AllReadyH.cons rfl (fun K hK => ?_) AllReadyH.nil
      (refine step_append_lies _ (by rfl) _ _ _ (by rfl) base 3 i3 _ 1 8 Try.underlying30 hi3 hy0 hy1 hy2 rfl (by omega) (.slice ro n0 rc) n0 l0 (by rfl) (hox.alloc _) ⟨w.heap.size, 0, none⟩ 1 1 [.int .i64 (L : Int)] (by rfl) rfl (cell_one_new _ _ _) (by intro u hu; simp at hu; subst hu; rfl) (by omega) (by unfold maxLen; omega) (by omega) (by simp; omega) (w.heap.size + 1) (by simp) ?_; intro g1 c1 w1 hown1 hgr1 hat1 hlt1; obtain ⟨⟨hk0, hk1, hk2⟩, f1⟩ := HK.out _ _ hgr1; have hkk := And.intro hk0 hk1; have hks := fun (uu : Value) => And.intro (cell_turns (w := w1) hk0 (setCell_turns w1 g u uu) (fun (e : bp = g) => hne.2.2.2.2 e)) (cell_turns (w := w1) hk1 (setCell_turns w1 g u uu) (fun (e : bp = g) => hne.2.2.2.2 e)); have HAT : Hid _ := hat1; have HGR : Hid _ := hgr1; have HO1 : Hid _ := hown1; clear hat1 hgr1 hown1)
      refine hK.out _ _ hkk (fun hHeld => ?_)
      clear hK K
      refine wpAnyH_take (i := 19) (v := ?tv17) rfl (by kernel_rfl) (by kernel_rfl) (by kernel_rfl) (fun _ _ _ h => h) (Or.inl ⟨by rfl, ?ty17⟩) hHeld ?_
      case ty17 => (intro w hSw; (try dsimp only at hSw); go_simp; try with_reducible rfl)
      try simp only [Act.put]
      try simp only [List.setIfInBounds_toArray]
      try simp only [List.set_cons_succ]
      try simp only [List.set_cons_zero]
      refine wpAnyH_ready (rs := [20]) (by kernel_rfl) (by simp) ?_
      refine AllReadyH.cons rfl (fun K hK => ?_) AllReadyH.nil
      go_simp
      refine hK.out _ _ (hks _) (fun hHeld => ?_)
      clear hK K
      refine wpAnyH_done (by kernel_rfl) ?_ _
      rotate_left
      go_simp
      refine hK.out _ _ ⟨cb0a _, cb1a _⟩ (fun hHeld => ?_)
      clear hK K
      refine wpAnyH_ready (rs := [11]) (by kernel_rfl) (by simp) ?_
      refine AllReadyH.cons rfl (fun K hK => ?_) AllReadyH.nil
      go_simp
      refine hK.out _ _ ⟨cb0a _, cb1a _⟩ (fun hHeld => ?_)
      clear hK K
      refine wpAnyH_ready (rs := [18]) (by kernel_rfl) (by simp) ?_
      refine AllReadyH.cons rfl (fun K hK => ?_) AllReadyH.nil
      (refine step_append_lies _ (by rfl) _ _ _ (by rfl) base 3 i3 _ 1 8 Try.underlying30 hi3 hy0 hy1 hy2 rfl (by omega) (.slice ro n0 rc) n0 l0 (by rfl) (hox.alloc _) ⟨w.heap.size, 0, none⟩ 1 1 [.int .i64 (L : Int)] (by rfl) rfl (cell_one_new _ _ _) (by intro u hu; simp at hu; subst hu; rfl) (by omega) (by unfold maxLen; omega) (by omega) (by simp; omega) (w.heap.size + 1) (by simp) ?_; intro g1 c1 w1 hown1 hgr1 hat1 hlt1; obtain ⟨⟨hk0, hk1, hk2⟩, f1⟩ := HK.out _ _ hgr1; have hkk := And.intro hk0 hk1; have hks := fun (uu : Value) => And.intro (cell_turns (w := w1) hk0 (setCell_turns w1 g u uu) (fun (e : bp = g) => hne.2.2.2.2 e)) (cell_turns (w := w1) hk1 (setCell_turns w1 g u uu) (fun (e : bp = g) => hne.2.2.2.2 e)); have HAT : Hid _ := hat1; have HGR : Hid _ := hgr1; have HO1 : Hid _ := hown1; clear hat1 hgr1 hown1)
      refine hK.out _ _ hkk (fun hHeld => ?_)
      clear hK K
      refine wpAnyH_take (i := 19) (v := ?tv18) rfl (by kernel_rfl) (by kernel_rfl) (by kernel_rfl) (fun _ _ _ h => h) (Or.inl ⟨by rfl, ?ty18⟩) hHeld ?_
      case ty18 => (intro w hSw; (try dsimp only at hSw); go_simp; try with_reducible rfl)
      try simp only [Act.put]
      try simp only [List.setIfInBounds_toArray]
      try simp only [List.set_cons_succ]
      try simp only [List.set_cons_zero]
      refine wpAnyH_ready (rs := [20]) (by kernel_rfl) (by simp) ?_
      refine AllReadyH.cons rfl (fun K hK => ?_) AllReadyH.nil
      go_simp
      refine hK.out _ _ (hks _) (fun hHeld => ?_)
      clear hK K
      refine wpAnyH_done (by kernel_rfl) ?_ _

      all_goals
        go_wp2_with fail
        go_meet
        case rel =>
          have e1 := HN0.out
          have e2 := HL0.out
          subst e1
          subst e2
          have hT := (alloc_turns w.drew (Obj.cells #[.int .i64 (L : Int)] 3) _).trans (Turns.of_grown HGR.out)
          have hB1 := hT.below (Below.refl b0 w).drew (by show b0 ≤ w.heap.size; omega) (fun j hj => by have := (World.ownsRow.lt HOX.out j hj.symm).1; omega)
          have ho := HO1.out
          skip
          have hnl3 := LS.put (w := w.drew) (w1 := w1) (o := Obj.cells #[.int .i64 (L : Int)] 3) (g1 := g1) (c1 := c1) (x := L) (HNL.out.below (Below.refl _ w).drew) hu ho (by rw [HVX.out]; exact HGR.out) (by rw [HVX.out]; exact HAT.out.imp id (fun h => by have h' : g1 = w.heap.size + 1 := h; show w.heap.size ≤ g1; omega))
          have hs1 := hT.size
          have hs2 : w.drew.heap.size = w.heap.size := rfl
          exact ⟨hB1.setCell (by show b0 ≤ g; omega) _, by simp [World.setCell]; omega, _, hnl3⟩

  case rest =>
    obtain ⟨hBc, hszc, vs2, hls2⟩ := hcut
    go_upto_region 1 with (fail)
    go_cut [] from 30 to 50 (fun wd => Below b0 w wd ∧ base ≤ wd.heap.size ∧ ∃ vs', LS wd b0 bp g base N vs' (ls1 (ls1 ls u L) v (L + 1)) (.slice ta L tc) (.slice ra L rc0) Ts Rs)
    case first =>
      have hown2 : wc.ownsRow base 3 1 (vs2 v) (ls1 ls u L v).length (qv (ls1 ls u L v)) := hls2.near.own v hv
      obtain ⟨ro, rc, hvx⟩ := form_row hown2
      have cx := hls2.near.row.cell hv
      rw [hvx] at cx hown2
      obtain ⟨n0, hn0⟩ : ∃ n0, n0 = (ls1 ls u L v).length := ⟨_, rfl⟩
      obtain ⟨l0, hl0⟩ : ∃ l0, l0 = qv (ls1 ls u L v) := ⟨_, rfl⟩
      rw [← hn0, ← hl0] at hown2
      rw [← hn0] at cx hvx
      have hn0l : n0 ≤ 1000000 := by rw [hn0]; exact by have h1 := HL1.out u; have h2 := HLN.out v; unfold ls1; split; simp; omega; exact h2
      have hox : (wc.drew).ownsRow base 3 1 (.slice ro n0 rc) n0 l0 := ownsRow_blocks hown2 (fun _ _ => rfl)
      have hne := hls2.lt
      have hneg : (Value.slice ro n0 rc).ownBlock ≠ some g := fun h => by have := (World.ownsRow.lt hox g h).1; omega
      have hnep : (Value.slice ro n0 rc).ownBlock ≠ some bp := fun h => by have := (World.ownsRow.lt hox bp h).1; omega
      have hrx : RowV wc.drew g 30 N _ := hls2.near.row
      have cb0 := box_cell hls2.box (i := 0) rfl
      have cb1 := box_cell hls2.box (i := 1) rfl
      have hszx : base ≤ wc.heap.size := hszc
      have hK : ∀ (w1 : World) (o : Obj), ((wc.drew).alloc o).grownBy w1 (Value.slice ro n0 rc).ownBlock → (w1.cell? ⟨bp, 0, none⟩ = some (sl g N) ∧ w1.cell? ⟨bp, 1, none⟩ = some (.slice ta L tc) ∧ w1.cell? ⟨g, v, none⟩ = some (.slice ro n0 rc)) ∧ w1.frozen? ⟨g, v, none⟩ = false := fun w1 o hg =>
        ⟨⟨cell_grown (w := wc.drew) hg cb0 hnep, cell_grown (w := wc.drew) hg cb1 hnep, cell_grown (w := wc.drew) hg cx hneg⟩, (row_grown hrx hg hneg).free v⟩
      have HK : Hid _ := hK
      have HNL : Hid _ := hls2
      have HVX : Hid _ := hvx
      have HOX : Hid _ := hox
      have HN0 : Hid _ := hn0
      have HL0 : Hid _ := hl0
      clear hK hvx hrx hown2 hls2 hn0 hl0
      have cxa := all_alloc cx
      have cb0a := all_alloc cb0
      have cb1a := all_alloc cb1
      refine wp_region_held_drew (S := fun w' => w'.cell? ⟨bp, 0, none⟩ = some (sl g N) ∧ w'.cell? ⟨bp, 1, none⟩ = some (.slice ta L tc)) (by kernel_rfl) ⟨cb0, cb1⟩ (fun hHeld => ?_)

      refine wpAnyH_take (i := 0) (v := ?tv19) rfl (by kernel_rfl) (by kernel_rfl) (by kernel_rfl) (fun _ _ _ h => h) (Or.inl ⟨by rfl, ?ty19⟩) hHeld ?_
      case ty19 => (intro w hSw; (try dsimp only at hSw); go_simp; try with_reducible rfl)
      try simp only [Act.put]
      try simp only [List.setIfInBounds_toArray]
      try simp only [List.set_cons_succ]
      try simp only [List.set_cons_zero]
      refine wpAnyH_take (i := 1) (v := ?tv20) rfl (by kernel_rfl) (by kernel_rfl) (by kernel_rfl) (fun _ _ _ h => h) (Or.inl ⟨by rfl, ?ty20⟩) hHeld ?_
      case ty20 => (intro w hSw; (try dsimp only at hSw); go_simp; try with_reducible rfl)
      try simp only [Act.put]
      try simp only [List.setIfInBounds_toArray]
      try simp only [List.set_cons_succ]
      try simp only [List.set_cons_zero]
      refine wpAnyH_take (i := 2) (v := ?tv21) rfl (by kernel_rfl) (by kernel_rfl) (by kernel_rfl) (fun _ _ _ h => h) (Or.inl ⟨by rfl, ?ty21⟩) hHeld ?_
      case ty21 => (intro w hSw; (try dsimp only at hSw); go_simp; try with_reducible rfl)
      try simp only [Act.put]
      try simp only [List.setIfInBounds_toArray]
      try simp only [List.set_cons_succ]
      try simp only [List.set_cons_zero]
      refine wpAnyH_take (i := 3) (v := ?tv22) rfl (by kernel_rfl) (by kernel_rfl) (by kernel_rfl) (fun _ _ _ h => h) (Or.inl ⟨by rfl, ?ty22⟩) hHeld ?_
      case ty22 => (intro w hSw; (try dsimp only at hSw); go_simp; try with_reducible rfl)
      try simp only [Act.put]
      try simp only [List.setIfInBounds_toArray]
      try simp only [List.set_cons_succ]
      try simp only [List.set_cons_zero]
      refine wpAnyH_take (i := 4) (v := ?tv23) rfl (by kernel_rfl) (by kernel_rfl) (by kernel_rfl) (fun _ _ _ h => h) (Or.inl ⟨by rfl, ?ty23⟩) hHeld ?_
      case ty23 => (intro w hSw; (try dsimp only at hSw); go_simp; try with_reducible rfl)
      try simp only [Act.put]
      try simp only [List.setIfInBounds_toArray]
      try simp only [List.set_cons_succ]
      try simp only [List.set_cons_zero]
      refine wpAnyH_take (i := 5) (v := ?tv24) rfl (by kernel_rfl) (by kernel_rfl) (by kernel_rfl) (fun _ _ _ h => h) (Or.inl ⟨by rfl, ?ty24⟩) hHeld ?_
      case ty24 => (intro w hSw; (try dsimp only at hSw); go_simp; try with_reducible rfl)
      try simp only [Act.put]
      try simp only [List.setIfInBounds_toArray]
      try simp only [List.set_cons_succ]
      try simp only [List.set_cons_zero]
      refine wpAnyH_take (i := 6) (v := ?tv25) rfl (by kernel_rfl) (by kernel_rfl) (by kernel_rfl) (fun _ _ _ h => h) (Or.inl ⟨by rfl, ?ty25⟩) hHeld ?_
      case ty25 => (intro w hSw; (try dsimp only at hSw); go_simp; try with_reducible rfl)
      try simp only [Act.put]
      try simp only [List.setIfInBounds_toArray]
      try simp only [List.set_cons_succ]
      try simp only [List.set_cons_zero]
      refine wpAnyH_take (i := 7) (v := ?tv26) rfl (by kernel_rfl) (by kernel_rfl) (by kernel_rfl) (fun _ _ _ h => h) (Or.inl ⟨by rfl, ?ty26⟩) hHeld ?_
      case ty26 => (intro w hSw; (try dsimp only at hSw); go_simp; try with_reducible rfl)
      try simp only [Act.put]
      try simp only [List.setIfInBounds_toArray]
      try simp only [List.set_cons_succ]
      try simp only [List.set_cons_zero]
      refine wpAnyH_take (i := 8) (v := ?tv27) rfl (by kernel_rfl) (by kernel_rfl) (by kernel_rfl) (fun _ _ _ h => h) (Or.inl ⟨by rfl, ?ty27⟩) hHeld ?_
      case ty27 => (intro w hSw; (try dsimp only at hSw); go_simp; try with_reducible rfl)
      try simp only [Act.put]
      try simp only [List.setIfInBounds_toArray]
      try simp only [List.set_cons_succ]
      try simp only [List.set_cons_zero]
      refine wpAnyH_take (i := 9) (v := ?tv28) rfl (by kernel_rfl) (by kernel_rfl) (by kernel_rfl) (fun _ _ _ h => h) (Or.inl ⟨by rfl, ?ty28⟩) hHeld ?_
      case ty28 => (intro w hSw; (try dsimp only at hSw); go_simp; try with_reducible rfl)
      try simp only [Act.put]
      try simp only [List.setIfInBounds_toArray]
      try simp only [List.set_cons_succ]
      try simp only [List.set_cons_zero]
      refine wpAnyH_take (i := 10) (v := ?tv29) rfl (by kernel_rfl) (by kernel_rfl) (by kernel_rfl) (fun _ _ _ h => h) (Or.inl ⟨by rfl, ?ty29⟩) hHeld ?_
      case ty29 => (intro w hSw; (try dsimp only at hSw); go_simp; try with_reducible rfl)
      try simp only [Act.put]
      try simp only [List.setIfInBounds_toArray]
      try simp only [List.set_cons_succ]
      try simp only [List.set_cons_zero]
      refine wpAnyH_take (i := 12) (v := ?tv30) rfl (by kernel_rfl) (by kernel_rfl) (by kernel_rfl) (fun _ _ _ h => h) (Or.inl ⟨by rfl, ?ty30⟩) hHeld ?_
      case ty30 => (intro w hSw; (try dsimp only at hSw); go_simp; try with_reducible rfl)
      try simp only [Act.put]
      try simp only [List.setIfInBounds_toArray]
      try simp only [List.set_cons_succ]
      try simp only [List.set_cons_zero]
      refine wpAnyH_take (i := 13) (v := ?tv31) rfl (by kernel_rfl) (by kernel_rfl) (by kernel_rfl) (fun _ _ _ h => h) (Or.inl ⟨by rfl, ?ty31⟩) hHeld ?_
      case ty31 => (intro w hSw; (try dsimp only at hSw); go_simp; try with_reducible rfl)
      try simp only [Act.put]
      try simp only [List.setIfInBounds_toArray]
      try simp only [List.set_cons_succ]
      try simp only [List.set_cons_zero]
      refine wpAnyH_take (i := 14) (v := ?tv32) rfl (by kernel_rfl) (by kernel_rfl) (by kernel_rfl) (fun _ _ _ h => h) (Or.inl ⟨by rfl, ?ty32⟩) hHeld ?_
      case ty32 => (intro w hSw; (try dsimp only at hSw); go_simp; try with_reducible rfl)
      try simp only [Act.put]
      try simp only [List.setIfInBounds_toArray]
      try simp only [List.set_cons_succ]
      try simp only [List.set_cons_zero]
      refine wpAnyH_take (i := 15) (v := ?tv33) rfl (by kernel_rfl) (by kernel_rfl) (by kernel_rfl) (fun _ _ _ h => h) (Or.inl ⟨by rfl, ?ty33⟩) hHeld ?_
      case ty33 => (intro w hSw; (try dsimp only at hSw); go_simp; try with_reducible rfl)
      try simp only [Act.put]
      try simp only [List.setIfInBounds_toArray]
      try simp only [List.set_cons_succ]
      try simp only [List.set_cons_zero]
      refine wpAnyH_take (i := 16) (v := ?tv34) rfl (by kernel_rfl) (by kernel_rfl) (by kernel_rfl) (fun _ _ _ h => h) (Or.inl ⟨by rfl, ?ty34⟩) hHeld ?_
      case ty34 => (intro w hSw; (try dsimp only at hSw); go_simp; try with_reducible rfl)
      try simp only [Act.put]
      try simp only [List.setIfInBounds_toArray]
      try simp only [List.set_cons_succ]
      try simp only [List.set_cons_zero]
      refine wpAnyH_take (i := 17) (v := ?tv35) rfl (by kernel_rfl) (by kernel_rfl) (by kernel_rfl) (fun _ _ _ h => h) (Or.inl ⟨by rfl, ?ty35⟩) hHeld ?_
      case ty35 => (intro w hSw; (try dsimp only at hSw); go_simp; try with_reducible rfl)
      try simp only [Act.put]
      try simp only [List.setIfInBounds_toArray]
      try simp only [List.set_cons_succ]
      try simp only [List.set_cons_zero]
      refine wpAnyH_ready (rs := [11, 18]) (by kernel_rfl) (by simp) ?_
      refine AllReadyH.cons rfl (fun K hK => ?_) (AllReadyH.cons rfl (fun K hK => ?_) AllReadyH.nil)
      go_simp
      refine hK.out _ _ ⟨cb0, cb1⟩ (fun hHeld => ?_)
      clear hK K
      refine wpAnyH_ready (rs := [18]) (by kernel_rfl) (by simp) ?_
      refine AllReadyH.cons rfl (fun K hK => ?_) AllReadyH.nil
      go_simp
      refine hK.out _ _ ⟨cb0a _, cb1a _⟩ (fun hHeld => ?_)
      clear hK K
      refine wpAnyH_ready (rs := [19]) (by kernel_rfl) (by simp) ?_
      refine AllReadyH.cons rfl (fun K hK => ?_) AllReadyH.nil
      (refine step_append_lies _ (by rfl) _ _ _ (by rfl) base 3 i3 _ 1 8 Try.underlying30 hi3 hy0 hy1 hy2 rfl (by omega) (.slice ro n0 rc) n0 l0 (by rfl) (hox.alloc _) ⟨wc.heap.size, 0, none⟩ 1 1 [.int .i64 ((L : Int) + 1)] (by rfl) rfl (cell_one_new _ _ _) (by intro u hu; simp at hu; subst hu; rfl) (by omega) (by unfold maxLen; omega) (by omega) (by simp; omega) (wc.heap.size + 1) (by simp) ?_; intro g1 c1 w1 hown1 hgr1 hat1 hlt1; obtain ⟨⟨hk0, hk1, hk2⟩, f1⟩ := HK.out _ _ hgr1; have hkk := And.intro hk0 hk1; have hks := fun (uu : Value) => And.intro (cell_turns (w := w1) hk0 (setCell_turns w1 g v uu) (fun (e : bp = g) => hne.2.2.2.2 e)) (cell_turns (w := w1) hk1 (setCell_turns w1 g v uu) (fun (e : bp = g) => hne.2.2.2.2 e)); have HAT : Hid _ := hat1; have HGR : Hid _ := hgr1; have HO1 : Hid _ := hown1; clear hat1 hgr1 hown1)
      refine hK.out _ _ hkk (fun hHeld => ?_)
      clear hK K
      refine wpAnyH_take (i := 20) (v := ?tv36) rfl (by kernel_rfl) (by kernel_rfl) (by kernel_rfl) (fun _ _ _ h => h) (Or.inl ⟨by rfl, ?ty36⟩) hHeld ?_
      case ty36 => (intro w hSw; (try dsimp only at hSw); go_simp; try with_reducible rfl)
      try simp only [Act.put]
      try simp only [List.setIfInBounds_toArray]
      try simp only [List.set_cons_succ]
      try simp only [List.set_cons_zero]
      refine wpAnyH_ready (rs := [21]) (by kernel_rfl) (by simp) ?_
      refine AllReadyH.cons rfl (fun K hK => ?_) AllReadyH.nil
      go_simp
      refine hK.out _ _ (hks _) (fun hHeld => ?_)
      clear hK K
      refine wpAnyH_done (by kernel_rfl) ?_ _
      rotate_left
      go_simp
      refine hK.out _ _ ⟨cb0a _, cb1a _⟩ (fun hHeld => ?_)
      clear hK K
      refine wpAnyH_ready (rs := [11]) (by kernel_rfl) (by simp) ?_
      refine AllReadyH.cons rfl (fun K hK => ?_) AllReadyH.nil
      go_simp
      refine hK.out _ _ ⟨cb0a _, cb1a _⟩ (fun hHeld => ?_)
      clear hK K
      refine wpAnyH_ready (rs := [19]) (by kernel_rfl) (by simp) ?_
      refine AllReadyH.cons rfl (fun K hK => ?_) AllReadyH.nil
      (refine step_append_lies _ (by rfl) _ _ _ (by rfl) base 3 i3 _ 1 8 Try.underlying30 hi3 hy0 hy1 hy2 rfl (by omega) (.slice ro n0 rc) n0 l0 (by rfl) (hox.alloc _) ⟨wc.heap.size, 0, none⟩ 1 1 [.int .i64 ((L : Int) + 1)] (by rfl) rfl (cell_one_new _ _ _) (by intro u hu; simp at hu; subst hu; rfl) (by omega) (by unfold maxLen; omega) (by omega) (by simp; omega) (wc.heap.size + 1) (by simp) ?_; intro g1 c1 w1 hown1 hgr1 hat1 hlt1; obtain ⟨⟨hk0, hk1, hk2⟩, f1⟩ := HK.out _ _ hgr1; have hkk := And.intro hk0 hk1; have hks := fun (uu : Value) => And.intro (cell_turns (w := w1) hk0 (setCell_turns w1 g v uu) (fun (e : bp = g) => hne.2.2.2.2 e)) (cell_turns (w := w1) hk1 (setCell_turns w1 g v uu) (fun (e : bp = g) => hne.2.2.2.2 e)); have HAT : Hid _ := hat1; have HGR : Hid _ := hgr1; have HO1 : Hid _ := hown1; clear hat1 hgr1 hown1)
      refine hK.out _ _ hkk (fun hHeld => ?_)
      clear hK K
      refine wpAnyH_take (i := 20) (v := ?tv37) rfl (by kernel_rfl) (by kernel_rfl) (by kernel_rfl) (fun _ _ _ h => h) (Or.inl ⟨by rfl, ?ty37⟩) hHeld ?_
      case ty37 => (intro w hSw; (try dsimp only at hSw); go_simp; try with_reducible rfl)
      try simp only [Act.put]
      try simp only [List.setIfInBounds_toArray]
      try simp only [List.set_cons_succ]
      try simp only [List.set_cons_zero]
      refine wpAnyH_ready (rs := [21]) (by kernel_rfl) (by simp) ?_
      refine AllReadyH.cons rfl (fun K hK => ?_) AllReadyH.nil
      go_simp
      refine hK.out _ _ (hks _) (fun hHeld => ?_)
      clear hK K
      refine wpAnyH_done (by kernel_rfl) ?_ _

      all_goals
        go_wp2_with fail
        go_meet
        case rel =>
          have e1 := HN0.out
          have e2 := HL0.out
          subst e1
          subst e2
          have hT := (alloc_turns wc.drew (Obj.cells #[.int .i64 ((L : Int) + 1)] 3) _).trans (Turns.of_grown HGR.out)
          have hB1 := hT.below (hBc).drew (by show b0 ≤ wc.heap.size; omega) (fun j hj => by have := (World.ownsRow.lt HOX.out j hj.symm).1; omega)
          have ho := HO1.out
          rw [show (L : Int) + 1 = ((L + 1 : Nat) : Int) by omega] at ho
          have hnl3 := LS.put (w := wc.drew) (w1 := w1) (o := Obj.cells #[.int .i64 ((L : Int) + 1)] 3) (g1 := g1) (c1 := c1) (x := L + 1) (HNL.out.below (Below.refl _ wc).drew) hv ho (by rw [HVX.out]; exact HGR.out) (by rw [HVX.out]; exact HAT.out.imp id (fun h => by have h' : g1 = wc.heap.size + 1 := h; show wc.heap.size ≤ g1; omega))
          have hs1 := hT.size
          have hs2 : wc.drew.heap.size = wc.heap.size := rfl
          exact ⟨hB1.setCell (by show b0 ≤ g; omega) _, by simp [World.setCell]; omega, _, hnl3⟩

    case rest =>
      clear hszc hBc hls2
      obtain ⟨hBd, hszd, vs3, hls3⟩ := hcut
      have cb1 := box_cell hls3.box (i := 1) rfl
      have hownT := hls3.tos
      rw [HLT.out] at hownT
      have hlt3 := hls3.lt
      have hBX : Hid _ := hls3.box
      have HLS : Hid _ := hls3
      clear hls3
      go_upto_region 3 with (first
        | (at_builtin; refine wpList_pushB (x := (v : Int)) (y := (u : Int)) rfl _ _ rfl rfl rfl hownT (by omega) hszd ?_; intro g1 c1 w2 hown1 hgr1 hat1; have hT1 := (alloc_turns wc (Obj.cells #[.int .i64 (v : Int), .int .i64 (u : Int)] 3) (fun k => some k = (Value.slice ta L tc).ownBlock)).trans (Turns.of_grown hgr1); have hbx := box_turns hBX.out hT1 (fun hh => by have := (World.ownsRow.lt hownT bp hh.symm).1; omega); have fb := box_free hbx 1; have cc1 := box_cell hbx (i := 1) rfl)
        | go_in)
      have hT1s := hT1.size
      have hBe := (hT1.below hBd (by omega) (fun j hj => by have := (World.ownsRow.lt hownT j hj.symm).1; omega)).setCell (p := ⟨bp, 1, none⟩) (by show b0 ≤ bp; omega) (.slice (some ⟨g1, 0, none⟩) (L + 2) c1)
      have hls4 : LS (w2.setCell ⟨bp, 1, none⟩ (.slice (some ⟨g1, 0, none⟩) (L + 2) c1)) b0 bp g base N vs3 (ls1 (ls1 ls u L) v (L + 1)) (.slice (some ⟨g1, 0, none⟩) (L + 2) c1) (.slice ra L rc0) (Ts ++ [v, u]) Rs := by
        have e : (Ts ++ [v, u]).length = L + 2 := by simp; exact HLT.out
        have := HLS.out.pushTo (Ts' := Ts ++ [v, u]) (g1 := g1) (c1 := c1) (by rw [e]; simpa [qv] using hown1) hgr1 hat1
        rw [e] at this
        exact this
      have hsze : base ≤ (w2.setCell ⟨bp, 1, none⟩ (.slice (some ⟨g1, 0, none⟩) (L + 2) c1)).heap.size := by simp [World.setCell]; omega
      generalize w2.setCell ⟨bp, 1, none⟩ (.slice (some ⟨g1, 0, none⟩) (L + 2) c1) = we at hls4 hBe hsze ⊢
      clear cb1 hownT hBX HLS hT1 hT1s hbx fb cc1 hown1 hgr1 hat1 hBd hszd
      have cb2 := box_cell hls4.box (i := 2) rfl
      have hownR := hls4.room
      rw [HLR.out] at hownR
      have hBX : Hid _ := hls4.box
      have HLS : Hid _ := hls4
      clear hls4
      go_wp2_with (first
        | (at_builtin; refine wpList_pushB (x := x) (y := y) rfl _ _ rfl rfl rfl hownR (by omega) hsze ?_; intro g2 c2 w3 hown2 hgr2 hat2; have hT2 := (alloc_turns we (Obj.cells #[.int .i64 x, .int .i64 y] 3) (fun k => some k = (Value.slice ra L rc0).ownBlock)).trans (Turns.of_grown hgr2); have hbx := box_turns hBX.out hT2 (fun hh => by have := (World.ownsRow.lt hownR bp hh.symm).1; omega); have fb := box_free hbx 2; have cc2 := box_cell hbx (i := 2) rfl)
        | go_in)
      have hT2s := hT2.size
      have hBf := (hT2.below hBe (by omega) (fun j hj => by have := (World.ownsRow.lt hownR j hj.symm).1; omega)).setCell (p := ⟨bp, 2, none⟩) (by show b0 ≤ bp; omega) (.slice (some ⟨g2, 0, none⟩) (L + 2) c2)
      go_end0
      refine ⟨rfl, hBf, by simp [World.setCell]; omega, vs3, some ⟨g1, 0, none⟩, c1, some ⟨g2, 0, none⟩, c2, ?_⟩
      have e : (Rs ++ [x, y]).length = L + 2 := by simp; exact HLR.out
      have := HLS.out.pushRoom (Rs' := Rs ++ [x, y]) (g1 := g2) (c1 := c2) (by rw [e]; simpa [zv] using hown2) hgr2 hat2
      rw [e] at this
      exact this
end Go.Proofs.Ytkakmaalmhofmaa
