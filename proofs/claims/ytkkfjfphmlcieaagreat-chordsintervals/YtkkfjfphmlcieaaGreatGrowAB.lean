/- grow's walk. grow's walk, where nodes are left. -/
import Derived.Test.YtkkfjfphmlcieaaGreatGrowK
namespace Go.Proofs.YtkkfjfphmlcieaaGreat
set_option maxRecDepth 100000
open Go.RowKit Go.Maps
attribute [local go_sem ↓] Go.wp_at_zero Go.wp_at_succ
section
variable {base bf bc bn bg bC : Nat} {ao : Option Addr} {cap N : Nat} {bl : Nat → Nat} {adj : Nat → Nat → Bool}
/-- What is asked ahead of a call of grow. -/
structure GrP (w : World) (base bf bc bn bg bC bP bX : Nat) (ao : Option Addr) (cap N : Nat) (bl : Nat → Nat) (adj : Nat → Nat → Bool) (fv : Value) (F : List (List Nat)) (R P X : Nat → Bool) : Prop where
  mem : GrM w base bf bc bn bg bC ao cap N bl adj fv F R
  setP : SetN w bP N P
  setX : SetN w bX N X
  loP : base ≤ bP
  loX : base ≤ bX
  ne : bP ≠ bX
  hand : Hand N adj R P X
  nd : F.Nodup
  form : ∀ l ∈ F, ∃ K, l = lsN N K
  new : ∀ l ∈ F, ∀ K, Fit N adj R P K → l ≠ lsN N K
set_option maxHeartbeats 4000000 in
theorem grow_leaf (hN : N ≤ 24) {w : World} {bP bX : Nat} {P X R : Nat → Bool} {fv : Value} {F : List (List Nat)} (h : GrP w base bf bc bn bg bC bP bX ao cap N bl adj fv F R P X) (h0 : ∀ z, z < N → P z = false ∧ X z = false) :
    Calls Tryz.prog 63 #[.map (some bP), .map (some bX), ptr bf, ptr bc, ptr bn, ptr bg] w fun r w' => r = .returned (.tuple #[]) ∧ GrowEnd w base bf bc bn bg bC bP bX ao cap N bl adj fv F R P w' := by
  have hN6 : N ≤ 1000000 := by omega
  have H : Hid (GrP w base bf bc bn bg bC bP bX ao cap N bl adj fv F R P X) := h
  have H0 : Hid (∀ z, z < N → P z = false ∧ X z = false) := h0
  have hFl := many_lists hN h.nd h.form
  clear h h0
  go_enter Tryz.func63, Tryz.ntmps63
  go_upto_region 1 with (first
    | (at_len; refine wpList_lenS rfl _ rfl rfl H.out.setP hN6 ?_; intro n1 hn1 hz1; obtain rfl : n1 = 0 := hz1.2 (fun x hx => (H0.out x hx).1); clear hz1)
    | (at_len; refine wpList_lenS rfl _ rfl rfl H.out.setX hN6 ?_; intro n2 hn2 hz2; obtain rfl : n2 = 0 := hz2.2 (fun x hx => (H0.out x hx).2); clear hz2)
    | go_in)
  have hm := H.out.mem
  obtain ⟨vs, hv1, hv2, hv3⟩ := hm.lists
  obtain ⟨fo, fc, hfv⟩ := form_row hv2
  subst hfv
  have cf : w.cell? ⟨bf, 0, none⟩ = some (.slice fo F.length fc) := box_cell hm.boxf rfl
  have cc : w.cell? ⟨bc, 0, none⟩ = some (.map (some bC)) := box_cell hm.boxc rfl
  have hB1 := drewN_below w 1
  have hm1 := hm.next hB1
  have h35 := rising_call hm1.clq hN6
  have H35 : Hid (Calls Tryz.prog 51 #[.map (some bC)] w.drew fun e w' => ∃ v, e = .returned v ∧ w'.ownsRow w.drew.heap.size 3 1 v (lsN N R).length (qv (lsN N R)) ∧ Below w.drew.heap.size w.drew w') := h35
  have HM1 : Hid (GrM w.drew base bf bc bn bg bC ao cap N bl adj (.slice fo F.length fc) F R) := hm1
  have HV : Hid (vs.length = F.length ∧ ∀ (i : Nat) (x : Value) (l : List Nat), vs[i]? = some x → F[i]? = some l → w.ownsRow base 3 1 x l.length (qv l)) := ⟨hv1, hv3⟩
  have HV2 : Hid (w.ownsRow base 45 1 (.slice fo F.length fc) F.length vs) := hv2
  clear hm hm1 h35 hv1 hv3 hv2 hB1
  have hsz29 := HM1.out.size
  have hbf1 : One w.drew bf (.slice fo F.length fc) 52 := HM1.out.boxf
  refine region_invG (J := fun a0 => FJg (A1g (fun s => a0.tmps.getD s undef)) (V1g (.slice fo F.length fc) bC (lsN N R).length F.length) (S1g w.drew (lsN N R) base bf fo F.length fc vs)) (by kernel_rfl) (by kernel_rfl) ?_ ?_ ?_
  · exact ⟨⟨w, w, none, 0, 0, 0⟩, fun _ => undef, rfl, fun j hj => Bool.noConfusion hj, fun h => Bool.noConfusion h, fun h => Bool.noConfusion h, fun h => Bool.noConfusion h, fun h => Bool.noConfusion h, fun _ => rfl, fun h => Bool.noConfusion h, fun h => Bool.noConfusion h, fun h => Bool.noConfusion h, fun h => Bool.noConfusion h, fun h => Bool.noConfusion h, fun h => Bool.noConfusion h⟩
  · intro i o hi M a' w1 hJ hLi hd
    obtain ⟨c, f, rfl, hf, hws⟩ := hJ
    have told : ∀ (c' : Cg) (i : Nat) (x : Value), (∀ j, M j = true → V1g (.slice fo F.length fc) bC (lsN N R).length F.length c' j = V1g (.slice fo F.length fc) bC (lsN N R).length F.length c j) → x = V1g (.slice fo F.length fc) bC (lsN N R).length F.length c' i → ∀ j, also M i j = true → updG f i x j = V1g (.slice fo F.length fc) bC (lsN N R).length F.length c' j := fun c' i x h1 h2 j hj => by
      unfold updG
      by_cases e : j = i
      · rw [if_pos e, e]; exact h2
      · rw [if_neg e, hf j (also_ne hj e), h1 j (also_ne hj e)]
    match i, hi with
    | 0, hi =>
      cases hi
      have h4 : M 4 = false := by cases e : M 4 with | false => rfl | true => rw [(hws.d3 e).1] at hLi; cases hLi
      have h5 : M 5 = false := by cases e : M 5 with | false => rfl | true => rw [hws.d4 e] at h4; cases h4
      have cfx : w1.cell? ⟨bf, 0, none⟩ = some (.slice fo F.length fc) := by
        cases e2 : M 2 with
        | false => rw [hws.s0 e2]; exact box_cell hbf1 rfl
        | true =>
          have h1 : c.w2.cell? ⟨bf, 0, none⟩ = some (.slice fo F.length fc) := box_cell (((hws.q2 e2).2.block _ (lt_of_block hbf1)).trans hbf1) rfl
          cases e3 : M 3 with
          | false => rw [hws.s2 e2 e3]; exact h1
          | true => rw [hws.s3 e3 h4]; exact all_alloc h1 _
      refine wpOp_value rfl rfl (v := .slice fo F.length fc) (w' := w1) ?_ ⟨c, updG f 0 _, rfl, told c 0 _ (fun _ _ => rfl) rfl, ?_⟩
      · simp [go_sem, A1g, Act.eval, cfx]
      · refine ⟨fun h => ?_, fun h => ?_, fun h => ?_, fun h => ?_, fun h => ?_, fun h h' => ?_, fun h => ?_, fun h h' => ?_, fun h => ?_, fun h h' => ?_, fun h => ?_⟩
        · rw [also_atG (by omega)] at h ⊢; exact hws.d1 h
        · rw [also_atG (by omega)] at h ⊢; exact hws.d2 h
        · rw [also_atG (by omega), h4] at h; cases h
        · rw [also_atG (by omega), h5] at h; cases h
        · rw [also_atG (by omega)] at h; exact hws.s0 h
        · rw [also_atG (by omega)] at h h'; exact hws.s2 h h'
        · rw [also_atG (by omega)] at h; exact hws.q2 h
        · rw [also_atG (by omega)] at h h'; exact hws.s3 h h'
        · rw [also_atG (by omega), h4] at h; cases h
        · rw [also_atG (by omega), h4] at h; cases h
        · rw [also_atG (by omega), h5] at h; cases h
    | 1, hi =>
      cases hi
      have h2 : M 2 = false := by cases e : M 2 with | false => rfl | true => rw [hws.d1 e] at hLi; cases hLi
      have h3 : M 3 = false := by cases e : M 3 with | false => rfl | true => rw [hws.d2 e] at h2; cases h2
      have h4 : M 4 = false := by cases e : M 4 with | false => rfl | true => rw [(hws.d3 e).2] at h3; cases h3
      have h5 : M 5 = false := by cases e : M 5 with | false => rfl | true => rw [hws.d4 e] at h4; cases h4
      have hw1 := hws.s0 h2
      have ccx : w1.cell? ⟨bc, 0, none⟩ = some (.map (some bC)) := by rw [hw1]; exact cc
      refine wpOp_value rfl rfl (v := .map (some bC)) (w' := w1) ?_ ⟨c, updG f 1 _, rfl, told c 1 _ (fun _ _ => rfl) rfl, ?_⟩
      · simp [go_sem, A1g, Act.eval, ccx]
      · refine ⟨fun h => ?_, fun h => ?_, fun h => ?_, fun h => ?_, fun h => ?_, fun h h' => ?_, fun h => ?_, fun h h' => ?_, fun h => ?_, fun h h' => ?_, fun h => ?_⟩
        · rw [also_atG (by omega), h2] at h; cases h
        · rw [also_atG (by omega), h3] at h; cases h
        · rw [also_atG (by omega), h4] at h; cases h
        · rw [also_atG (by omega), h5] at h; cases h
        · exact hw1
        · rw [also_atG (by omega), h2] at h; cases h
        · rw [also_atG (by omega), h2] at h; cases h
        · rw [also_atG (by omega), h3] at h; cases h
        · rw [also_atG (by omega), h4] at h; cases h
        · rw [also_atG (by omega), h4] at h; cases h
        · rw [also_atG (by omega), h5] at h; cases h
    | 2, hi =>
      cases hi
      have d1 : f 1 = .map (some bC) := hf 1 (hd ⟨1, .data⟩ (by simp) rfl)
      have m1 := hd ⟨1, .data⟩ (by simp) rfl
      have h3 : M 3 = false := by cases e : M 3 with | false => rfl | true => rw [hws.d2 e] at hLi; cases hLi
      have h4 : M 4 = false := by cases e : M 4 with | false => rfl | true => rw [(hws.d3 e).2] at h3; cases h3
      have h5 : M 5 = false := by cases e : M 5 with | false => rfl | true => rw [hws.d4 e] at h4; cases h4
      have hw1 := hws.s0 hLi
      refine wpOp_call (f := 51) (args := #[.map (some bC)]) rfl rfl (w' := w1) ?_ ?_
      · simp [go_sem, A1g, Act.eval, d1]
      · rw [hw1]
        refine H35.out.mono ?_
        rintro e w2 ⟨v, rfl, hown, hb2⟩
        obtain ⟨ro, rc, rfl⟩ := form_row hown
        refine ⟨_, rfl, ⟨w2, w2, ro, rc, 0, 0⟩, updG f 2 _, rfl, told ⟨w2, w2, ro, rc, 0, 0⟩ 2 _ (fun j hj => ?_) rfl, ?_⟩
        · match j with
          | 0 => rfl
          | 1 => rfl
          | 2 => rw [hLi] at hj; cases hj
          | 3 => rw [h3] at hj; cases hj
          | 4 => rw [h4] at hj; cases hj
          | k + 5 => rfl
        · refine ⟨fun _ => also_of m1 _, fun h => ?_, fun h => ?_, fun h => ?_, fun h => ?_, fun _ _ => rfl, fun _ => ⟨hown, hb2⟩, fun h => ?_, fun h => ?_, fun _ _ => rfl, fun h => ?_⟩
          · rw [also_atG (by omega), h3] at h; cases h
          · rw [also_atG (by omega), h4] at h; cases h
          · rw [also_atG (by omega), h5] at h; cases h
          · rw [also_self] at h; cases h
          · rw [also_atG (by omega), h3] at h; cases h
          · rw [also_atG (by omega), h4] at h; cases h
          · rw [also_atG (by omega), h5] at h; cases h
    | 3, hi =>
      cases hi
      have m2 := hd ⟨2, .data⟩ (by simp) rfl
      have d2 : f 2 = .slice c.ro (lsN N R).length c.rc := hf 2 m2
      have h4 : M 4 = false := by cases e : M 4 with | false => rfl | true => rw [(hws.d3 e).2] at hLi; cases hLi
      have h5 : M 5 = false := by cases e : M 5 with | false => rfl | true => rw [hws.d4 e] at h4; cases h4
      have hw1 := hws.s2 m2 hLi
      refine wpOp_value rfl rfl (v := .slice (some ⟨c.w2.heap.size, 0, none⟩) 1 1) (w' := w1.alloc (Obj.cells #[.slice c.ro (lsN N R).length c.rc] 45)) ?_ ⟨c, updG f 3 _, rfl, told c 3 _ (fun _ _ => rfl) rfl, ?_⟩
      · rw [hw1]
        simp [go_sem, A1g, Act.eval, d2]
      · refine ⟨fun _ => also_of (hws.d1 m2) _, fun _ => also_of m2 _, fun h => ?_, fun h => ?_, fun h => ?_, fun _ h => ?_, fun _ => hws.q2 m2, fun _ _ => by rw [hw1], fun h => ?_, fun h h' => ?_, fun h => ?_⟩
        · rw [also_atG (by omega), h4] at h; cases h
        · rw [also_atG (by omega), h5] at h; cases h
        · rw [also_atG (by omega), m2] at h; cases h
        · rw [also_self] at h; cases h
        · rw [also_atG (by omega), h4] at h; cases h
        · rw [also_atG (by omega), h4] at h; cases h
        · rw [also_atG (by omega), h5] at h; cases h
    | 4, hi =>
      cases hi
      have m0 := hd ⟨0, .data⟩ (by simp) rfl
      have m3 := hd ⟨3, .data⟩ (by simp) rfl
      have m2 := hws.d2 m3
      have d0 : f 0 = .slice fo F.length fc := hf 0 m0
      have d3 : f 3 = .slice (some ⟨c.w2.heap.size, 0, none⟩) 1 1 := hf 3 m3
      have h5 : M 5 = false := by cases e : M 5 with | false => rfl | true => rw [hws.d4 e] at hLi; cases hLi
      have hw1 := hws.s3 m3 hLi
      obtain ⟨hown, hb2⟩ := hws.q2 m2
      rw [hw1]
      refine wpOp_pushL rfl rfl (.tmp 16) (.tmp 19) rfl (by simp [A1g, Act.eval, d0]) (by simp [A1g, Act.eval, d3]) (ownsRow_blocks HV2.out (fun b hb => (hb2.block b (HV2.out.lt b hb).2))) (by omega) (Nat.le_trans hsz29 hb2.size) ?_
      intro g1 c1 w3 hown1 hgr1 hat1
      refine ⟨⟨c.w2, w3, c.ro, c.rc, g1, c1⟩, updG f 4 _, rfl, told ⟨c.w2, w3, c.ro, c.rc, g1, c1⟩ 4 _ (fun j hj => ?_) rfl, ?_⟩
      · match j with
        | 0 => rfl
        | 1 => rfl
        | 2 => rfl
        | 3 => rfl
        | 4 => rw [hLi] at hj; cases hj
        | k + 5 => rfl
      · refine ⟨fun _ => also_of (hws.d1 m2) _, fun _ => also_of m2 _, fun _ => ⟨also_of m0 _, also_of m3 _⟩, fun h => ?_, fun h => ?_, fun _ h => ?_, fun _ => ⟨hown, hb2⟩, fun _ h => ?_, fun _ => ⟨hown1, hgr1, hat1⟩, fun _ _ => rfl, fun h => ?_⟩
        · rw [also_atG (by omega), h5] at h; cases h
        · rw [also_atG (by omega), m2] at h; cases h
        · rw [also_atG (by omega), m3] at h; cases h
        · rw [also_self] at h; cases h
        · rw [also_atG (by omega), h5] at h; cases h
    | 5, hi =>
      cases hi
      have m4 := hd ⟨4, .data⟩ (by simp) rfl
      obtain ⟨m0, m3⟩ := hws.d3 m4
      have m2 := hws.d2 m3
      have d4 : f 4 = .slice (some ⟨c.g1, 0, none⟩) (F.length + 1) c.c1 := hf 4 m4
      have hw1 := hws.s4 m4 hLi
      obtain ⟨hown, hb2⟩ := hws.q2 m2
      obtain ⟨hown1, hgr1, hat1⟩ := hws.q4 m4
      have hm2 := HM1.out.next hb2
      have HV3 : c.w2.ownsRow base 45 1 (.slice fo F.length fc) F.length vs := ownsRow_blocks HV2.out (fun b hb => (hb2.block b (HV2.out.lt b hb).2))
      have T1 := (alloc_turns c.w2 (Obj.cells #[.slice c.ro (lsN N R).length c.rc] 45) (fun x => some x = (Value.slice fo F.length fc).ownBlock)).trans (Turns.of_grown hgr1)
      have hbf : One c.w3 bf (.slice fo F.length fc) 52 := ((T1.block _ (lt_of_block hm2.boxf) (fun e => by have := (HV3.lt bf e.symm).1; have := hm2.lo.1; omega)).trans hm2.boxf)
      have cf4 : c.w3.cell? ⟨bf, 0, none⟩ = some (.slice fo F.length fc) := box_cell hbf rfl
      have ff4 := one_free hbf
      refine wpOp_skip rfl rfl (w' := w1.setCell ⟨bf, 0, none⟩ (.slice (some ⟨c.g1, 0, none⟩) (F.length + 1) c.c1)) ?_ ⟨c, updG f 5 undef, rfl, told c 5 _ (fun _ _ => rfl) rfl, ?_⟩
      · rw [hw1]
        simp [go_sem, A1g, Act.eval, d4, cf4, ff4]
      · refine ⟨fun _ => also_of (hws.d1 m2) _, fun _ => also_of m2 _, fun _ => ⟨also_of m0 _, also_of m3 _⟩, fun _ => also_of m4 _, fun h => ?_, fun _ h => ?_, fun _ => ⟨hown, hb2⟩, fun _ h => ?_, fun _ => ⟨hown1, hgr1, hat1⟩, fun _ h => ?_, fun _ => by rw [hw1]⟩
        · rw [also_atG (by omega), m2] at h; cases h
        · rw [also_atG (by omega), m3] at h; cases h
        · rw [also_atG (by omega), m4] at h; cases h
        · rw [also_self] at h; cases h
    | k + 6, hi => cases hi
  · intro M a' w1 hJ hall
    obtain ⟨⟨w2, w3, ro, rc, g1, c1⟩, f9, rfl, hf9, hws⟩ := hJ
    clear hf9
    obtain ⟨hown, hb2⟩ := hws.q2 (hall 2 (by simp))
    obtain ⟨hown1, hgr1, hat1⟩ := hws.q4 (hall 4 (by simp))
    have hw1 := hws.s5 (hall 5 (by simp))
    simp only at hown hb2 hown1 hgr1 hat1 hw1
    subst hw1
    clear hws hall
    have hm2 := HM1.out.next hb2
    have HV3 : Hid (w2.ownsRow base 45 1 (.slice fo F.length fc) F.length vs) := ownsRow_blocks HV2.out (fun b hb => (hb2.block b (HV2.out.lt b hb).2))
    have T1 := (alloc_turns w2 (Obj.cells #[.slice ro (lsN N R).length rc] 45) (fun x => some x = (Value.slice fo F.length fc).ownBlock)).trans (Turns.of_grown hgr1)
    have hnf : ∀ b, b < base → ¬ (some b = (Value.slice fo F.length fc).ownBlock) := fun b hb e => by have := (HV3.out.lt b e.symm).1; omega
    have hbf : One w3 bf (.slice fo F.length fc) 52 := ((T1.block _ (lt_of_block hm2.boxf) (hnf _ hm2.lo.1)).trans hm2.boxf)
    obtain ⟨l1, l2, l3, l4, l5, l6, l7⟩ := hm2.lo
    obtain ⟨n1, n2, n3, n4, n5⟩ := hm2.ne
    have T2 := setCell_turns w3 bf 0 (.slice (some ⟨g1, 0, none⟩) (F.length + 1) c1)
    have hlst : ListsAt w3 base (.slice (some ⟨g1, 0, none⟩) (F.length + 1) c1) (F ++ [lsN N R]) := ListsAt.push (ownsRow_mono hown (by have := HM1.out.size; omega)) HV.out.1 HV3.out (fun i x l hx hl => ownsRow_blocks (HV.out.2 i x l hx hl) (fun b hb => hb2.block b ((HV.out.2 i x l hx hl).lt b hb).2)) hown1 hgr1
    have hfin : GrM (w3.setCell ⟨bf, 0, none⟩ (.slice (some ⟨g1, 0, none⟩) (F.length + 1) c1)) base bf bc bn bg bC ao cap N bl adj (.slice (some ⟨g1, 0, none⟩) (F.length + 1) c1) (F ++ [lsN N R]) R := by
      refine ⟨?_, hlst.turns T2 (fun k e => Or.inl (by omega)), ?_, ?_, ?_, ?_, ?_, hm2.lo, hm2.ne, ?_⟩
      · have := box_set hbf 0 (.slice (some ⟨g1, 0, none⟩) (F.length + 1) c1)
        exact this
      · exact one_far ((T1.block _ (lt_of_block hm2.boxc) (hnf _ l2)).trans hm2.boxc) (fun e => n1 e.symm)
      · exact (hm2.clq.turns T1 (hnf _ l5)).turns T2 (fun e => by
          obtain ⟨es, c, hmm⟩ := hm2.clq.isMap
          have h0 : w2.heap[bf]? = _ := hm2.boxf
          rw [← e, hmm] at h0
          cases h0)
      · exact one_far ((T1.block _ (lt_of_block hm2.boxn) (hnf _ l3)).trans hm2.boxn) (fun e => n2 e.symm)
      · exact one_far ((T1.block _ (lt_of_block hm2.boxg) (hnf _ l4)).trans hm2.boxg) (fun e => n3 e.symm)
      · refine (hm2.near.turns T1 (fun i hi => hnf _ (l6 i hi)) (fun g e => hnf _ (l7 g e))).turns T2 (fun i hi e => ?_) (fun g e e' => n4 g e e'.symm)
        obtain ⟨es, c, hmm⟩ := (hm2.near.sets i hi).isMap
        have h0 : w2.heap[bf]? = _ := hm2.boxf
        rw [← e, hmm] at h0
        cases h0
      · rw [World.size_setCell]; exact Nat.le_trans hm2.size T1.size
    have hb02 : Below w.heap.size w w2 := below_next (drewN_below w 1) hb2
    have htn : Turns (MG bf bC bP bX (.slice fo F.length fc)) w (w3.setCell ⟨bf, 0, none⟩ (.slice (some ⟨g1, 0, none⟩) (F.length + 1) c1)) := ((Turns.of_below hb02 _).comp T1 (fun k _ e => Or.inr (Or.inr (Or.inr (Or.inr e))))).comp T2 (fun k _ e => Or.inl e)
    have hob : ∀ b, (Value.slice (some ⟨g1, 0, none⟩) (F.length + 1) c1).ownBlock = some b → some b = (Value.slice fo F.length fc).ownBlock ∨ w.heap.size ≤ b := fun b hb => by
      have e1 : (Value.slice (some ⟨g1, 0, none⟩) (F.length + 1) c1).ownBlock = some g1 := rfl
      rw [e1] at hb
      injection hb with hb
      subst hb
      rcases hat1 with h1 | h1
      · exact Or.inl h1.symm
      · exact Or.inr (Nat.le_trans hb02.size h1)
    have HF : Hid (GrowEnd w base bf bc bn bg bC bP bX ao cap N bl adj (.slice fo F.length fc) F R P (w3.setCell ⟨bf, 0, none⟩ (.slice (some ⟨g1, 0, none⟩) (F.length + 1) c1))) := ⟨_, _, hfin, H.out.hand.leaf H0.out, htn, hob⟩
    clear hfin htn hob hlst T1 T2 hown hown1 hgr1 hat1 hm2
    simp only [A1g]
    go_wp2
    refine bodyPost_ret (v := .tuple #[]) ?_ rfl ⟨rfl, HF.out⟩
    simp [results, Tryz.results63, go_sem]
end
end Go.Proofs.YtkkfjfphmlcieaaGreat

namespace Go.Proofs.YtkkfjfphmlcieaaGreat
set_option maxRecDepth 100000
open Go.RowKit Go.Maps
attribute [local go_sem ↓] Go.wp_at_zero Go.wp_at_succ
section
variable {base bf bc bn bg bC : Nat} {ao : Option Addr} {cap N : Nat} {bl : Nat → Nat} {adj : Nat → Nat → Bool}
/-- How far the loop over the nodes has come. -/
structure GrL (w wz : World) (base bf bc bn bg bC bP bX bS r : Nat) (ao : Option Addr) (cap N : Nat) (bl : Nat → Nat) (adj : Nat → Nat → Bool) (fv : Value) (F : List (List Nat)) (R P X Cd lf : Nat → Bool) (cnt : Nat) (fv1 : Value) (L1 : List (List Nat)) : Prop where
  rg : RgN wz bS r N Cd lf cnt
  mem : GrM wz base bf bc bn bg bC ao cap N bl adj fv1 (F ++ L1) R
  setP : SetN wz bP N (fun x => P x && !(Cd x && !lf x))
  setX : SetN wz bX N (fun x => (Cd x && !lf x) || X x)
  hand : Hand N adj R (fun x => P x && !(Cd x && !lf x)) (fun x => (Cd x && !lf x) || X x)
  lsts : Lsts N L1 (FitD N adj R P (fun x => Cd x && !lf x))
  turns : Turns (MG bf bC bP bX fv) w wz
  own : ∀ b, fv1.ownBlock = some b → some b = fv.ownBlock ∨ w.heap.size ≤ b
theorem GrL.step {w wz w' : World} {bP bX bS r cnt : Nat} {fv fv1 : Value} {F L1 : List (List Nat)} {R P X Cd lf : Nat → Bool} (h : GrL w wz base bf bc bn bg bC bP bX bS r ao cap N bl adj fv F R P X Cd lf cnt fv1 L1) (hb : Below wz.heap.size wz w') : GrL w w' base bf bc bn bg bC bP bX bS r ao cap N bl adj fv F R P X Cd lf cnt fv1 L1 :=
  ⟨h.rg.below hb, h.mem.next hb, h.setP.below hb h.setP.lt, h.setX.below hb h.setX.lt, h.hand, h.lsts, h.turns.comp (Turns.of_below hb (fun _ => False)) (fun _ _ e => e.elim), h.own⟩
set_option maxHeartbeats 20000000 in
theorem grow_node (hN : N ≤ 24) (hs : ∀ x y, adj x y = adj y x) (hi : ∀ x, adj x x = false) {w : World} {bP bX : Nat} {P X R : Nat → Bool} {fv : Value} {F : List (List Nat)} (h : GrP w base bf bc bn bg bC bP bX ao cap N bl adj fv F R P X) (h0 : ∃ z, z < N ∧ (P z = true ∨ X z = true))
    (ih : ∀ (w : World) (bP' bX' : Nat) (P' X' R' : Nat → Bool) (fv : Value) (F : List (List Nat)), cardN N P' < cardN N P → GrP w base bf bc bn bg bC bP' bX' ao cap N bl adj fv F R' P' X' → Calls Tryz.prog 63 #[.map (some bP'), .map (some bX'), ptr bf, ptr bc, ptr bn, ptr bg] w fun r w' => r = .returned (.tuple #[]) ∧ GrowEnd w base bf bc bn bg bC bP' bX' ao cap N bl adj fv F R' P' w') :
    Calls Tryz.prog 63 #[.map (some bP), .map (some bX), ptr bf, ptr bc, ptr bn, ptr bg] w fun r w' => r = .returned (.tuple #[]) ∧ GrowEnd w base bf bc bn bg bC bP bX ao cap N bl adj fv F R P w' := by
  have hN6 : N ≤ 1000000 := by omega
  have h42 : ∀ args w', (callFunc 42 args).run Tryz.prog w' = .ok (.enter 42 args) w' := enters_of Tryz.func42 (by kernel_rfl) rfl
  have h48 : ∀ args w', (callFunc 66 args).run Tryz.prog w' = .ok (.enter 66 args) w' := enters_of Tryz.func66 (by kernel_rfl) rfl
  have h45 : ∀ args w', (callFunc 63 args).run Tryz.prog w' = .ok (.enter 63 args) w' := enters_of Tryz.func63 (by kernel_rfl) rfl
  have H : Hid (GrP w base bf bc bn bg bC bP bX ao cap N bl adj fv F R P X) := h
  have H0 : Hid (∃ z, z < N ∧ (P z = true ∨ X z = true)) := h0
  have IH : Hid (∀ (w : World) (bP' bX' : Nat) (P' X' R' : Nat → Bool) (fv : Value) (F : List (List Nat)), cardN N P' < cardN N P → GrP w base bf bc bn bg bC bP' bX' ao cap N bl adj fv F R' P' X' → Calls Tryz.prog 63 #[.map (some bP'), .map (some bX'), ptr bf, ptr bc, ptr bn, ptr bg] w fun r w' => r = .returned (.tuple #[]) ∧ GrowEnd w base bf bc bn bg bC bP' bX' ao cap N bl adj fv F R' P' w') := ih
  have HS : Hid (∀ x y, adj x y = adj y x) := hs
  have HI : Hid (∀ x, adj x x = false) := hi
  have hszb := h.mem.size
  have hPlt := h.setP.lt
  have hXlt := h.setX.lt
  clear h h0 ih hs hi
  go_enter Tryz.func63, Tryz.ntmps63
  go_upto_region 2 with (first
    | (at_len; refine wpList_lenS rfl _ rfl rfl H.out.setP hN6 ?_; intro n1 hn1 hz1)
    | (at_len; refine wpList_lenS rfl _ rfl rfl H.out.setX hN6 ?_; intro n2 hn2 hz2; have hsum : (((n1 : Int) + (n2 : Int)) == 0) = false := (by rw [beq_eq_false_iff_ne]; intro e; obtain ⟨z, hz, h1⟩ := H0.out; rcases h1 with h1 | h1; (rw [hz1.1 (by omega) z hz] at h1; cases h1); (rw [hz2.1 (by omega) z hz] at h1; cases h1)); clear hz1 hz2)
    | go_in)
  clear hsum
  have cn : w.cell? ⟨bn, 0, none⟩ = some (.slice ao N cap) := box_cell H.out.mem.boxn rfl
  have H46 : Hid (Calls Tryz.prog 64 #[.slice ao N cap, .map (some bP), .map (some bX)] w fun r w' => ∃ pv : Nat, r = .returned (.int .i64 (pv : Int)) ∧ pv < N ∧ (P pv = true ∨ X pv = true) ∧ Below w.heap.size w w') := pivotOf_call H.out.mem.near (by omega) H.out.setP H.out.setX H0.out
  go_upto_region 3 with (first | (go_at_call 64; refine Calls.mono H46.out ?_; rintro e w1 ⟨pv, rfl, hpvN, hpv, hb1⟩) | go_in)
  have o8 := one_new w1 (.int .i64 (pv : Int)) 3
  have hb1a := below_alloc hb1 (Obj.cells #[.int .i64 (pv : Int)] 3)
  obtain ⟨b8, hb8⟩ : ∃ b, b = w1.heap.size := ⟨_, rfl⟩
  rw [← hb8] at o8 ⊢
  generalize w1.alloc (Obj.cells #[.int .i64 (pv : Int)] 3) = W2 at o8 hb1a ⊢
  have HPV : Hid (P pv = true ∨ X pv = true) := hpv
  have hm2 := H.out.mem.next hb1a
  have c8 : W2.cell? ⟨b8, 0, none⟩ = some (.int .i64 (pv : Int)) := box_cell o8 rfl
  have cn2 : W2.cell? ⟨bn, 0, none⟩ = some (.slice ao N cap) := box_cell hm2.boxn rfl
  have h47 := siftL_call (H.out.setP.below hb1a H.out.setP.lt) hN6 (f := fun x => !adj pv x) 66 #[ptr bn, ptr b8] h48 (fun W hW x hx => notNear_call (hm2.near.below hW) (by omega) ((hW.cell (World.block_lt_of_cell? _ _ cn2)).trans cn2) ((hW.cell (World.block_lt_of_cell? _ _ c8)).trans c8) hpvN hx)
  obtain ⟨Cd, hCd⟩ : ∃ Cd : Nat → Bool, Cd = fun x => P x && !adj pv x := ⟨_, rfl⟩
  have HCD : Hid (Cd = fun x => P x && !adj pv x) := hCd
  have H47 : Hid (Calls Tryz.prog 65 #[.map (some bP), .func (.func 66) #[] #[ptr bn, ptr b8]] W2 fun r w' => ∃ b, r = .returned (.map (some b)) ∧ W2.heap.size ≤ b ∧ SetN w' b N Cd ∧ Below W2.heap.size W2 w') := by rw [hCd]; exact h47
  have HB2 : Hid (Below w.heap.size w W2) := hb1a
  clear cn H46 hpv o8 hb8 hm2 c8 cn2 h47 hCd hb1 hb1a
  go_wp2_with (first
    | (go_at_call 65; refine Calls.mono H47.out ?_; rintro r' W3 ⟨bS, rfl, hbS, hSS, hB3⟩)
    | (at_range; refine wpList_rangeS hN6 rfl _ rfl rfl hSS ?_; intro W4 cnt0 hrg0 hB4)
    | go_in)
  go_frame
  obtain ⟨r, hr⟩ : ∃ r, r = W3.heap.size := ⟨_, rfl⟩
  rw [← hr] at hrg0 ⊢
  have hBw4 := below_next (below_next HB2.out hB3) hB4
  have hSge : w.heap.size ≤ bS := Nat.le_trans HB2.out.size hbS
  have hrge : w.heap.size ≤ r := by have := (below_next HB2.out hB3).size; omega
  have HST : Hid (GrL w W4 base bf bc bn bg bC bP bX bS r ao cap N bl adj fv F R P X Cd Cd cnt0 fv []) :=
    ⟨hrg0, by rw [List.append_nil]; exact H.out.mem.next hBw4, (H.out.setP.below hBw4 H.out.setP.lt).congr (fun k _ => by cases Cd k <;> simp), (H.out.setX.below hBw4 H.out.setX.lt).congr (fun k _ => by cases Cd k <;> simp),
      H.out.hand.congr (fun k _ => by cases Cd k <;> simp) (fun k _ => by cases Cd k <;> simp), Lsts.nil (fun K hK => by obtain ⟨_, x, _, hx, _⟩ := hK; cases h : Cd x <;> simp [h] at hx), Turns.of_below hBw4 _, fun b hb => Or.inl hb.symm⟩
  clear hr hSS hB3 hB4 hbS hBw4 H47 HB2
  go_loopw [] (fun wz => ∃ (lf : Nat → Bool) (cnt : Nat) (fv1 : Value) (L1 : List (List Nat)), GrL w wz base bf bc bn bg bC bP bX bS r ao cap N bl adj fv F R P X Cd lf cnt fv1 L1) (fun wz => wz.rangeLeft bS r)
  case atStart => exact ⟨Cd, cnt0, fv, [], HST.out⟩
  case round =>
    obtain ⟨lf, cnt, fv1, L1, hgl⟩ := hrel
    clear HST hrg0
    have HGL : Hid (GrL w wr base bf bc bn bg bC bP bX bS r ao cap N bl adj fv F R P X Cd lf cnt fv1 L1) := hgl
    have hrgz := hgl.rg
    have HLZ : Hid (wr.rangeLeft bS r = cnt) := hgl.rg.left
    clear hgl
    go_wp2_with (first | (at_next; refine wpList_nextS rfl _ rfl rfl hrgz ?_ ?_) | go_in)
    · intro hl0
      have HF : Hid (GrowEnd w base bf bc bn bg bC bP bX ao cap N bl adj fv F R P wr) := by
        refine ⟨fv1, L1, HGL.out.mem, FitD.done HI.out H.out.hand hpvN HPV.out (fun x hx => ?_) HGL.out.lsts, HGL.out.turns, HGL.out.own⟩
        rw [HCD.out]
        simp [hl0 x hx]
      go_wp2
      go_end0
      exact ⟨rfl, HF.out⟩
    · intro y w6 cnt6 hyN hCy hly hrg6 hcl hg6 hen
      have T6 : Turns (fun k => k = r) wr w6 := ⟨hg6.os, hg6.tape, hg6.output, hg6.size, fun k hk hne => hg6.block k hk (fun e => hne (by injection e))⟩
      have hit : ∀ cur t fr, wr.heap[r]? ≠ some (.cells cur t fr) := fun cur t fr e => by
        obtain ⟨_, _, _, _, hi⟩ := hrgz.iter
        rw [hi] at e
        cases e
      have hrS : r ≠ bP ∧ r ≠ bX := ⟨by omega, by omega⟩
      have hm6 := HGL.out.mem.far T6 (fun k e => by rw [e]; exact ⟨by omega, hit⟩)
      have hP6 := HGL.out.setP.turns T6 (fun e => hrS.1 e.symm)
      have hX6 := HGL.out.setX.turns T6 (fun e => hrS.2 e.symm)
      have hT6 : Turns (MG bf bC bP bX fv) w w6 := HGL.out.turns.comp T6 (fun k hk e => by omega)
      obtain ⟨D, hD⟩ : ∃ D : Nat → Bool, D = fun x => Cd x && !lf x := ⟨_, rfl⟩
      have hCyP : P y = true ∧ adj pv y = false := by
        rw [HCD.out] at hCy
        simpa using hCy
      have hDy : D y = false := by rw [hD]; simp [hly]
      have hDP : ∀ x, x < N → D x = true → P x = true := fun x _ hx => by
        rw [hD, HCD.out] at hx
        simp at hx
        exact hx.1.1
      have hPy : (P y && !D y) = true := by rw [hDy]; simp [hCyP.1]
      have hRy : R y = false := ((H.out.hand.all y hyN).1 (Or.inl hCyP.1)).1
      have HHD : Hid (Hand N adj R (fun x => P x && !D x) (fun x => D x || X x)) := by rw [hD]; exact HGL.out.hand
      have HLS : Hid (Lsts N L1 (FitD N adj R P D)) := by rw [hD]; exact HGL.out.lsts
      have HP6 : Hid (SetN w6 bP N (fun x => P x && !D x)) := by rw [hD]; exact hP6
      have HX6 : Hid (SetN w6 bX N (fun x => D x || X x)) := by rw [hD]; exact hX6
      have HM6 : Hid (GrM w6 base bf bc bn bg bC ao cap N bl adj fv1 (F ++ L1) R) := hm6
      have HT6 : Hid (Turns (MG bf bC bP bX fv) w w6) := hT6
      have HRG6 : Hid (RgN w6 bS r N Cd (fun k => lf k && k != y) cnt6) := hrg6
      have HCL : Hid (cnt6 < cnt) := hcl
      have HOB : Hid (∀ b, fv1.ownBlock = some b → some b = fv.ownBlock ∨ w.heap.size ≤ b) := HGL.out.own
      have HDd : Hid (D = fun x => Cd x && !lf x) := hD
      have HDf : Hid (D y = false ∧ (∀ x, x < N → D x = true → P x = true) ∧ P y = true ∧ R y = false ∧ Cd y = true ∧ lf y = true) := ⟨hDy, hDP, hCyP.1, hRy, hCy, hly⟩
      have c3 : w6.cell? ⟨bc, 0, none⟩ = some (.map (some bC)) := box_cell hm6.boxc rfl
      clear hrgz T6 hit hm6 hP6 hX6 hT6 hDy hDP hPy hRy hCyP hCy hly hrg6 hcl hg6 hD HGL
      go_upto_region 7 with (first | (go_at_call 49; refine Calls.mono (add_call HM6.out.clq hN6 hyN) ?_; rintro r' w7 ⟨rfl, hS7, hT7⟩) | go_in)
      have hm7 := HM6.out.clique hS7 hT7
      obtain ⟨l1, l2, l3, l4, l5, l6, l7⟩ := hm7.lo
      have hsz67 := HT6.out.size
      have HP7 : Hid (SetN w7.drew bP N (fun x => P x && !D x)) := (HP6.out.turns hT7 (by have := H.out.loP; omega)).below (drewN_below w7 1) (by have := (HP6.out.turns hT7 (by have := H.out.loP; omega)).lt; exact this)
      have HX7 : Hid (SetN w7.drew bX N (fun x => D x || X x)) := (HX6.out.turns hT7 (by have := H.out.loX; omega)).below (drewN_below w7 1) (by have := (HX6.out.turns hT7 (by have := H.out.loX; omega)).lt; exact this)
      have hT07 : Turns (MG bf bC bP bX fv) w w7 := HT6.out.comp hT7 (fun k _ e => Or.inr (Or.inl e))
      have HT7 : Hid (Turns (MG bf bC bP bX fv) w w7) := hT07
      have HRG7 : Hid (RgN w7 bS r N Cd (fun k => lf k && k != y) cnt6) := HRG6.out.turns hT7 (by omega) (by omega)
      have HG7 : Hid (GrM w7.drew base bf bc bn bg bC ao cap N bl adj fv1 (F ++ L1) (fun k => k == y || R k)) := hm7.next (drewN_below w7 1)
      have HM7 : Hid (GrM w7 base bf bc bn bg bC ao cap N bl adj fv1 (F ++ L1) (fun k => k == y || R k)) := hm7
      have cg : w7.drew.cell? ⟨bg, 0, none⟩ = some (.func (.func 63) #[] (capsG bf bc bn bg)) := box_cell HG7.out.boxg rfl
      have cn : w7.drew.cell? ⟨bn, 0, none⟩ = some (.slice ao N cap) := box_cell HG7.out.boxn rfl
      obtain ⟨gn, rfl, cr⟩ := HG7.out.near.row y hyN
      have i1 : (0 : Int) ≤ (y : Int) := by omega
      have i2 : (y : Int) < (N : Int) := by omega
      have hkey := fit_push H.out.hand hyN HDf.out.2.2.1 HDf.out.2.1 HDf.out.1
      have HKEY : Hid (∀ K, Fit N adj (fun x => x == y || R x) (fun x => (P x && !D x) && adj y x) K ↔ (Fit N adj R P K ∧ K y = true ∧ ∀ x, x < N → D x = true → K x = false)) := hkey
      have HIH : Hid (∀ (w1 : World) (c1 c2 : Nat), Below w7.drew.heap.size w7.drew w1 → SetN w1 c1 N (fun x => (P x && !D x) && adj y x) → SetN w1 c2 N (fun x => (D x || X x) && adj y x) → w7.drew.heap.size ≤ c1 → w7.drew.heap.size ≤ c2 → c1 ≠ c2 → Calls Tryz.prog 63 #[.map (some c1), .map (some c2), ptr bf, ptr bc, ptr bn, ptr bg] w1 fun r w' => r = .returned (.tuple #[]) ∧ GrowEnd w1 base bf bc bn bg bC c1 c2 (some ⟨gn, 0, none⟩) cap N bl adj fv1 (F ++ L1) (fun k => k == y || R k) (fun x => (P x && !D x) && adj y x) w') := fun w1 c1 c2 hb s1 s2 g1 g2 hne => by
        have hszw : base ≤ w7.drew.heap.size := HG7.out.size
        refine IH.out w1 c1 c2 _ _ _ fv1 (F ++ L1) ?_ ⟨HG7.out.next hb, s1, s2, Nat.le_trans hszw g1, Nat.le_trans hszw g2, hne, HHD.out.push HS.out HI.out hyN (by simp [HDf.out.1, HDf.out.2.2.1]), ?_, ?_, ?_⟩
        · refine cardN_lt (fun x _ hx => ?_) hyN HDf.out.2.2.1 (by simp [HI.out])
          simp only [Bool.and_eq_true] at hx
          exact hx.1.1
        · refine List.nodup_append.2 ⟨H.out.nd, HLS.out.1, fun l hl l' hl' e => ?_⟩
          subst e
          obtain ⟨K, hK, e⟩ := (HLS.out.2 l).1 hl'
          exact H.out.new l hl K hK.1 e
        · intro l hl
          rcases List.mem_append.1 hl with h | h
          · exact H.out.form l h
          · obtain ⟨K, _, e⟩ := (HLS.out.2 l).1 h
            exact ⟨K, e⟩
        · intro l hl K hK e
          have hk := (HKEY.out K).1 hK
          rcases List.mem_append.1 hl with h | h
          · exact H.out.new l h K hk.1 e
          · obtain ⟨K', ⟨_, x, hx, hdx, hkx⟩, e'⟩ := (HLS.out.2 l).1 h
            have := lsN_inj (e'.symm.trans e) x hx
            rw [hkx, hk.2.2 x hx hdx] at this
            cases this
      clear c3 hS7 hT7 hm7 hT07 HM6 HT6 HP6 HX6 HRG6 hkey
      refine region_invG (J := fun a0 => FJ2 (A45 (fun s => a0.tmps.getD s undef)) (fun c1 c2 => V45 bP bX gn cap N y bl (.func (.func 63) #[] (capsG bf bc bn bg)) c1 c2) (S45 w7.drew N (fun x => (P x && !D x) && adj y x) (fun x => (D x || X x) && adj y x) (fun w' => ∃ (w1 : World) (c1 c2 : Nat), Below w7.drew.heap.size w7.drew w1 ∧ w7.drew.heap.size ≤ c1 ∧ w7.drew.heap.size ≤ c2 ∧ GrowEnd w1 base bf bc bn bg bC c1 c2 (some ⟨gn, 0, none⟩) cap N bl adj fv1 (F ++ L1) (fun k => k == y || R k) (fun x => (P x && !D x) && adj y x) w'))) (by kernel_rfl) (by kernel_rfl) ?_ ?_ ?_
      · exact ⟨0, 0, fun i => #[u36, u37, u38, u39, u40, u41, u42, u43, u44, u45, u46, u47, u48, u49, u50, u51].getD i undef, rfl, fun j hj => Bool.noConfusion hj, fun _ _ _ h => Bool.noConfusion h, fun _ => Below.refl _ _, fun _ h => Bool.noConfusion h, fun _ h => Bool.noConfusion h, fun _ h => Bool.noConfusion h, fun h => Bool.noConfusion h⟩
      · intro i o hi M a' w1 hJ hLi hd
        obtain ⟨c1, c2, f, rfl, hf, hws⟩ := hJ
        match i, hi with
        | 0, hi =>
          cases hi
          have hb := hws.pre (hws.n15 hLi (by omega))
          have eg := (hb.cell (p := ⟨bg, 0, none⟩) (World.block_lt_of_cell? _ _ cg)).trans cg
          refine fj2_quiet rfl rfl (fun x => rfl) hf (hws.quiet (by omega) (by omega) (by omega) (by simp [depsG])) ?_
          simp [go_sem, A45, V45, Act.eval, eg]
        | 1, hi =>
          cases hi
          refine fj2_quiet rfl rfl (fun x => rfl) hf (hws.quiet (by omega) (by omega) (by omega) (by simp [depsG])) ?_
          simp [go_sem, A45, V45, Act.eval]
        | 2, hi =>
          cases hi
          have hb := hws.pre (hws.n15 hLi (by omega))
          have en := (hb.cell (p := ⟨bn, 0, none⟩) (World.block_lt_of_cell? _ _ cn)).trans cn
          refine fj2_quiet rfl rfl (fun x => rfl) hf (hws.quiet (by omega) (by omega) (by omega) (by simp [depsG])) ?_
          simp [go_sem, A45, V45, Act.eval, en]
        | 3, hi =>
          cases hi
          refine fj2_quiet rfl rfl (fun x => rfl) hf (hws.quiet (by omega) (by omega) (by omega) (by simp [depsG])) ?_
          simp [go_sem, A45, V45, Act.eval]
        | 4, hi =>
          cases hi
          have d2 : f 2 = V45 bP bX gn cap N y bl (.func (.func 63) #[] (capsG bf bc bn bg)) c1 c2 2 := hf 2 (hd ⟨2, .data⟩ (by simp) rfl)
          have d3 : f 3 = V45 bP bX gn cap N y bl (.func (.func 63) #[] (capsG bf bc bn bg)) c1 c2 3 := hf 3 (hd ⟨3, .data⟩ (by simp) rfl)
          refine fj2_quiet rfl rfl (fun x => rfl) hf (hws.quiet (by omega) (by omega) (by omega) (by intro d h; simp [depsG] at h; rcases h with rfl | rfl; (exact hd ⟨2, .data⟩ (by simp) rfl); (exact hd ⟨3, .data⟩ (by simp) rfl))) ?_
          simp [go_sem, A45, V45, Act.eval, i1, i2, d2, d3]
        | 5, hi =>
          cases hi
          have d4 : f 4 = V45 bP bX gn cap N y bl (.func (.func 63) #[] (capsG bf bc bn bg)) c1 c2 4 := hf 4 (hd ⟨4, .data⟩ (by simp) rfl)
          have hb := hws.pre (hws.n15 hLi (by omega))
          have er := (hb.cell (p := ⟨gn, y, none⟩) (World.block_lt_of_cell? _ _ cr)).trans cr
          refine fj2_quiet rfl rfl (fun x => rfl) hf (hws.quiet (by omega) (by omega) (by omega) (by intro d h; simp [depsG] at h; subst h; exact hd ⟨4, .data⟩ (by simp) rfl)) ?_
          simp [go_sem, A45, V45, Act.eval, er, d4]
        | 6, hi =>
          cases hi
          have d5 : f 5 = V45 bP bX gn cap N y bl (.func (.func 63) #[] (capsG bf bc bn bg)) c1 c2 5 := hf 5 (hd ⟨5, .data⟩ (by simp) rfl)
          refine fj2_quiet rfl rfl (fun x => rfl) hf (hws.quiet (by omega) (by omega) (by omega) (by intro d h; simp [depsG] at h; subst h; exact hd ⟨5, .data⟩ (by simp) rfl)) ?_
          simp [go_sem, A45, V45, Act.eval, d5]
        | 7, hi =>
          cases hi
          have d1 : f 1 = V45 bP bX gn cap N y bl (.func (.func 63) #[] (capsG bf bc bn bg)) c1 c2 1 := hf 1 (hd ⟨1, .data⟩ (by simp) rfl)
          have d6 : f 6 = V45 bP bX gn cap N y bl (.func (.func 63) #[] (capsG bf bc bn bg)) c1 c2 6 := hf 6 (hd ⟨6, .data⟩ (by simp) rfl)
          have h15 := hws.n15 hLi (by omega)
          have hb := hws.pre h15
          have hnr := HG7.out.near.below hb
          refine wpOp_call (f := 65) (args := #[.map (some bP), .func (.func 42) #[.map (some (bl y))] #[]]) rfl rfl (w' := w1) ?_ ?_
          · simp [go_sem, A45, V45, Act.eval, d1, d6]
          · refine (siftB_call (HP7.out.below hb HP7.out.lt) hN6 (f := adj y) 42 (.map (some (bl y))) h42 (fun W hW x hx => has_call ((hnr.below hW).sets y hyN) hN6 hx)).mono ?_
            rintro r' w2 ⟨b, rfl, hbge, hSb, hB2⟩
            refine ⟨_, rfl, b, c2, updG f 7 (.map (some b)), rfl, fun j hj => ?_, ⟨deps_also hws.a1 (by intro d h; simp [depsG] at h; rcases h with rfl | rfl; (exact hd ⟨1, .data⟩ (by simp) rfl); (exact hd ⟨6, .data⟩ (by simp) rfl)), fun _ => below_next hb hB2, fun _ _ => ⟨hSb, Nat.le_trans hb.size hbge⟩, fun _ h2 => ?_, fun _ _ h2 => ?_, fun h => ?_⟩⟩
            · by_cases ej : j = 7
              · subst ej; rfl
              · have e1 : updG f 7 (.map (some b)) j = f j := if_neg ej
                rw [e1, hf j (also_ne hj ej)]
                exact V45_7 ej
            · rw [also_atG (by omega)] at h2
              have := hws.two h15 h2
              exact ⟨this.1.below hB2 this.1.lt, this.2⟩
            · rw [also_atG (by omega)] at h2
              have := (hws.two h15 h2).1.lt
              omega
            · rw [also_atG (by omega), h15] at h; cases h
        | 8, hi =>
          cases hi
          refine fj2_quiet rfl rfl (fun x => rfl) hf (hws.quiet (by omega) (by omega) (by omega) (by simp [depsG])) ?_
          simp [go_sem, A45, V45, Act.eval]
        | 9, hi =>
          cases hi
          have hb := hws.pre (hws.n15 hLi (by omega))
          have en := (hb.cell (p := ⟨bn, 0, none⟩) (World.block_lt_of_cell? _ _ cn)).trans cn
          refine fj2_quiet rfl rfl (fun x => rfl) hf (hws.quiet (by omega) (by omega) (by omega) (by simp [depsG])) ?_
          simp [go_sem, A45, V45, Act.eval, en]
        | 10, hi =>
          cases hi
          refine fj2_quiet rfl rfl (fun x => rfl) hf (hws.quiet (by omega) (by omega) (by omega) (by simp [depsG])) ?_
          simp [go_sem, A45, V45, Act.eval]
        | 11, hi =>
          cases hi
          have d9 : f 9 = V45 bP bX gn cap N y bl (.func (.func 63) #[] (capsG bf bc bn bg)) c1 c2 9 := hf 9 (hd ⟨9, .data⟩ (by simp) rfl)
          have d10 : f 10 = V45 bP bX gn cap N y bl (.func (.func 63) #[] (capsG bf bc bn bg)) c1 c2 10 := hf 10 (hd ⟨10, .data⟩ (by simp) rfl)
          refine fj2_quiet rfl rfl (fun x => rfl) hf (hws.quiet (by omega) (by omega) (by omega) (by intro d h; simp [depsG] at h; rcases h with rfl | rfl; (exact hd ⟨9, .data⟩ (by simp) rfl); (exact hd ⟨10, .data⟩ (by simp) rfl))) ?_
          simp [go_sem, A45, V45, Act.eval, i1, i2, d9, d10]
        | 12, hi =>
          cases hi
          have d11 : f 11 = V45 bP bX gn cap N y bl (.func (.func 63) #[] (capsG bf bc bn bg)) c1 c2 11 := hf 11 (hd ⟨11, .data⟩ (by simp) rfl)
          have hb := hws.pre (hws.n15 hLi (by omega))
          have er := (hb.cell (p := ⟨gn, y, none⟩) (World.block_lt_of_cell? _ _ cr)).trans cr
          refine fj2_quiet rfl rfl (fun x => rfl) hf (hws.quiet (by omega) (by omega) (by omega) (by intro d h; simp [depsG] at h; subst h; exact hd ⟨11, .data⟩ (by simp) rfl)) ?_
          simp [go_sem, A45, V45, Act.eval, er, d11]
        | 13, hi =>
          cases hi
          have d12 : f 12 = V45 bP bX gn cap N y bl (.func (.func 63) #[] (capsG bf bc bn bg)) c1 c2 12 := hf 12 (hd ⟨12, .data⟩ (by simp) rfl)
          refine fj2_quiet rfl rfl (fun x => rfl) hf (hws.quiet (by omega) (by omega) (by omega) (by intro d h; simp [depsG] at h; subst h; exact hd ⟨12, .data⟩ (by simp) rfl)) ?_
          simp [go_sem, A45, V45, Act.eval, d12]
        | 14, hi =>
          cases hi
          have d8 : f 8 = V45 bP bX gn cap N y bl (.func (.func 63) #[] (capsG bf bc bn bg)) c1 c2 8 := hf 8 (hd ⟨8, .data⟩ (by simp) rfl)
          have d13 : f 13 = V45 bP bX gn cap N y bl (.func (.func 63) #[] (capsG bf bc bn bg)) c1 c2 13 := hf 13 (hd ⟨13, .data⟩ (by simp) rfl)
          have h15 := hws.n15 hLi (by omega)
          have hb := hws.pre h15
          have hnr := HG7.out.near.below hb
          refine wpOp_call (f := 65) (args := #[.map (some bX), .func (.func 42) #[.map (some (bl y))] #[]]) rfl rfl (w' := w1) ?_ ?_
          · simp [go_sem, A45, V45, Act.eval, d8, d13]
          · refine (siftB_call (HX7.out.below hb HX7.out.lt) hN6 (f := adj y) 42 (.map (some (bl y))) h42 (fun W hW x hx => has_call ((hnr.below hW).sets y hyN) hN6 hx)).mono ?_
            rintro r' w2 ⟨b, rfl, hbge, hSb, hB2⟩
            refine ⟨_, rfl, c1, b, updG f 14 (.map (some b)), rfl, fun j hj => ?_, ⟨deps_also hws.a1 (by intro d h; simp [depsG] at h; rcases h with rfl | rfl; (exact hd ⟨8, .data⟩ (by simp) rfl); (exact hd ⟨13, .data⟩ (by simp) rfl)), fun _ => below_next hb hB2, fun _ h2 => ?_, fun _ _ => ⟨hSb, Nat.le_trans hb.size hbge⟩, fun _ h2 _ => ?_, fun h => ?_⟩⟩
            · by_cases ej : j = 14
              · subst ej; rfl
              · have e1 : updG f 14 (.map (some b)) j = f j := if_neg ej
                rw [e1, hf j (also_ne hj ej)]
                exact V45_14 ej
            · rw [also_atG (by omega)] at h2
              have := hws.one h15 h2
              exact ⟨this.1.below hB2 this.1.lt, this.2⟩
            · rw [also_atG (by omega)] at h2
              have := (hws.one h15 h2).1.lt
              omega
            · rw [also_atG (by omega), h15] at h; cases h
        | 15, hi =>
          cases hi
          have d0 : f 0 = V45 bP bX gn cap N y bl (.func (.func 63) #[] (capsG bf bc bn bg)) c1 c2 0 := hf 0 (hd ⟨0, .data⟩ (by simp) rfl)
          have d7 : f 7 = V45 bP bX gn cap N y bl (.func (.func 63) #[] (capsG bf bc bn bg)) c1 c2 7 := hf 7 (hd ⟨7, .data⟩ (by simp) rfl)
          have d14 : f 14 = V45 bP bX gn cap N y bl (.func (.func 63) #[] (capsG bf bc bn bg)) c1 c2 14 := hf 14 (hd ⟨14, .data⟩ (by simp) rfl)
          have m7 := hd ⟨7, .data⟩ (by simp) rfl
          have m14 := hd ⟨14, .data⟩ (by simp) rfl
          have hb := hws.pre hLi
          obtain ⟨s1, g1⟩ := hws.one hLi m7
          obtain ⟨s2, g2⟩ := hws.two hLi m14
          have hne := hws.ne hLi m7 m14
          refine wpOp_call (f := 63) (args := #[.map (some c1), .map (some c2), ptr bf, ptr bc, ptr bn, ptr bg]) rfl rfl (w' := w1) ?_ ?_
          · simp [go_sem, A45, V45, capsG, Act.eval, d0, d7, d14, h45]
          · refine (HIH.out w1 c1 c2 hb s1 s2 g1 g2 hne).mono ?_
            rintro r' w2 ⟨rfl, hend⟩
            refine ⟨_, rfl, c1, c2, updG f 15 (.tuple #[]), rfl, fun j hj => ?_, ⟨deps_also hws.a1 (by intro d h; simp [depsG] at h; rcases h with rfl | rfl | rfl; (exact hd ⟨0, .data⟩ (by simp) rfl); (exact hd ⟨7, .data⟩ (by simp) rfl); (exact hd ⟨14, .data⟩ (by simp) rfl)), fun h => ?_, fun h => ?_, fun h => ?_, fun h => ?_, fun _ => ⟨w1, c1, c2, hb, g1, g2, hend⟩⟩⟩
            · exact (updG_told (V := V45 bP bX gn cap N y bl (.func (.func 63) #[] (capsG bf bc bn bg)) c1 c2) (i := 15) hf) j hj
            · rw [also_self] at h; cases h
            · rw [also_self] at h; cases h
            · rw [also_self] at h; cases h
            · rw [also_self] at h; cases h
        | k + 16, hi => cases hi
      · intro M a' w8 hJ hall
        obtain ⟨c1', c2', f9, rfl, hf9, hws⟩ := hJ
        clear hf9
        obtain ⟨w1, c1, c2, hb, g1, g2, fv2, L2, hm8, hL2, ht8, hob8⟩ := hws.post (hall 15 (by simp))
        clear hws hall
        have hlists1 := (HG7.out.next hb).lists
        obtain ⟨vs1, _, hrow1, _⟩ := hlists1
        have hsz7 : w.heap.size ≤ w7.drew.heap.size := HT7.out.size
        have hsz1 := hb.size
        -- what is a map, or gone through, and lies apart, is as it was
        have apart : ∀ b, b ≠ bf → b ≠ bC → b < w7.drew.heap.size → (∀ cur t fr, w1.heap[b]? ≠ some (.cells cur t fr)) → ¬ MG bf bC c1 c2 fv1 b := fun b n1 n2 n3 n4 hM => by
          rcases hM with h | h | h | h | h
          · exact n1 h
          · exact n2 h
          · omega
          · omega
          · obtain ⟨cur, hc⟩ := own_cells hrow1 h.symm
            exact n4 _ _ _ hc
        have hloP := H.out.loP
        have hloX := H.out.loX
        have sP1 := HP7.out.below hb HP7.out.lt
        have sX1 := HX7.out.below hb HX7.out.lt
        have rg1 := HRG7.out.below (below_next (drewN_below w7 1) hb)
        have sP8 := sP1.turns ht8 (apart bP (by omega) (by omega) HP7.out.lt sP1.notCells)
        have sX8 := sX1.turns ht8 (apart bX (by omega) (by omega) HX7.out.lt sX1.notCells)
        have rg8 := rg1.turns ht8 (apart bS (by omega) (by omega) HRG7.out.set.lt rg1.set.notCells) (apart r (by omega) (by omega) HRG7.out.lt (fun cur t fr e => by
          obtain ⟨_, _, _, _, hi⟩ := rg1.iter
          rw [hi] at e
          cases e))
        have T8 : Turns (MG bf bC bP bX fv) w w8 := (HT7.out.comp (Turns.of_below (below_next (drewN_below w7 1) hb) (fun _ => False)) (fun _ _ e => e.elim)).comp ht8 (fun k hk hM => by
          rcases hM with h | h | h | h | h
          · exact Or.inl h
          · exact Or.inr (Or.inl h)
          · omega
          · omega
          · rcases HOB.out k h.symm with h1 | h1
            · exact Or.inr (Or.inr (Or.inr (Or.inr h1)))
            · omega)
        have HOB2 : Hid (∀ b, fv2.ownBlock = some b → some b = fv.ownBlock ∨ w.heap.size ≤ b) := fun b h => by
          rcases hob8 b h with h1 | h1
          · exact HOB.out b h1.symm
          · exact Or.inr (by omega)
        have HM8 : Hid (GrM w8 base bf bc bn bg bC (some ⟨gn, 0, none⟩) cap N bl adj fv2 (F ++ L1 ++ L2) (fun k => k == y || R k)) := hm8
        have HL2 : Hid (Lsts N L2 (Fit N adj (fun x => x == y || R x) (fun x => (P x && !D x) && adj y x))) := hL2
        have HSP8 : Hid (SetN w8 bP N (fun x => P x && !D x)) := sP8
        have HSX8 : Hid (SetN w8 bX N (fun x => D x || X x)) := sX8
        have HRG8 : Hid (RgN w8 bS r N Cd (fun k => lf k && k != y) cnt6) := rg8
        have HT8 : Hid (Turns (MG bf bC bP bX fv) w w8) := T8
        have c3 : w8.cell? ⟨bc, 0, none⟩ = some (.map (some bC)) := box_cell hm8.boxc rfl
        obtain ⟨D8, hown8, hhas8⟩ := hm8.clq
        clear hrow1 apart sP1 sX1 rg1 sP8 sX8 rg8 T8 hm8 hL2 ht8 hob8 hb cg cn cr HG7 HP7 HX7 HM7 HRG7 HIH
        simp only [A45]
        go_upto_region 9 with (first | (at_delete; refine wpList_delete_own _ rfl _ _ 71 3 rfl 75 Tryz.lawI Tryz.underlying71 _ bC N D8 rfl hown8 _ _ rfl (hkeyI (natI hN6 hyN)) ?_; intro w9 hown9 hturn9) | go_in)
        have T9 := turned_turns hturn9
        have hS9 : SetN w9 bC N R := (setN_del (S := fun k => k == y || R k) hhas8 hown9).congr (fun k hk => by
          by_cases e : k = y
          · subst e; simp [HDf.out.2.2.2.1]
          · have h1 : (k != y) = true := by simpa using e
            simp [e, h1])
        have HM9 : Hid (GrM w9 base bf bc bn bg bC (some ⟨gn, 0, none⟩) cap N bl adj fv2 (F ++ L1 ++ L2) R) := HM8.out.clique hS9 T9
        have HSP9 : Hid (SetN w9 bP N (fun x => P x && !D x)) := HSP8.out.turns T9 (by omega)
        have HSX9 : Hid (SetN w9 bX N (fun x => D x || X x)) := HSX8.out.turns T9 (by omega)
        have HRG9 : Hid (RgN w9 bS r N Cd (fun k => lf k && k != y) cnt6) := HRG8.out.turns T9 (by omega) (by omega)
        have HT9 : Hid (Turns (MG bf bC bP bX fv) w w9) := HT8.out.comp T9 (fun k _ e => Or.inr (Or.inl e))
        obtain ⟨D9, hownP, hhasP⟩ := HSP9.out
        clear c3 hown8 hhas8 hown9 hturn9 T9 hS9 HM8 HSP8 HSX8 HRG8 HT8
        go_upto_region 10 with (first | (at_delete; refine wpList_delete_own _ rfl _ _ 71 3 rfl 75 Tryz.lawI Tryz.underlying71 _ bP N D9 rfl hownP _ _ rfl (hkeyI (natI hN6 hyN)) ?_; intro wa howna hturna) | go_in)
        have Ta := turned_turns hturna
        have HSPa : Hid (SetN wa bP N (fun k => (P k && !D k) && k != y)) := setN_del (S := fun x => P x && !D x) hhasP howna
        have hneX := H.out.ne
        have HMa : Hid (GrM wa base bf bc bn bg bC (some ⟨gn, 0, none⟩) cap N bl adj fv2 (F ++ L1 ++ L2) R) := HM9.out.far Ta (fun k e => by rw [e]; exact ⟨hloP, HSP9.out.notCells⟩)
        have HSXa : Hid (SetN wa bX N (fun x => D x || X x)) := HSX9.out.turns Ta (fun e => hneX e.symm)
        have HRGa : Hid (RgN wa bS r N Cd (fun k => lf k && k != y) cnt6) := HRG9.out.turns Ta (by omega) (by omega)
        have HTa : Hid (Turns (MG bf bC bP bX fv) w wa) := HT9.out.comp Ta (fun k _ e => Or.inr (Or.inr (Or.inl e)))
        clear hownP hhasP howna hturna Ta HM9 HSP9 HSX9 HRG9 HT9
        go_wp2_with (first | (go_at_call 49; refine Calls.mono (add_call HSXa.out hN6 hyN) ?_; rintro r' wb ⟨rfl, hSb, hTb⟩) | go_in)
        have HRGb : Hid (RgN wb bS r N Cd (fun k => lf k && k != y) cnt6) := HRGa.out.turns hTb (by omega) (by omega)
        obtain ⟨f1, f2, f3, f4, f5, f6⟩ := HDf.out
        have hDd := HDd.out
        have pw : ∀ x, x < N → (x == y || D x) = (Cd x && !(lf x && x != y)) := fun x _ => by
          rw [hDd]
          by_cases e : x = y
          · subst e; simp [f5, f6]
          · have h1 : (x != y) = true := by simpa using e
            simp [e, h1]
        have pwP : ∀ x, x < N → ((P x && !D x) && x != y) = (P x && !(Cd x && !(lf x && x != y))) := fun x hx => by
          rw [← pw x hx]
          by_cases e : x = y
          · subst e; simp
          · have h1 : (x != y) = true := by simpa using e
            have h2 : (x == y) = false := by simpa using e
            rw [h1, h2]; simp
        have pwX : ∀ x, x < N → (x == y || (D x || X x)) = ((Cd x && !(lf x && x != y)) || X x) := fun x hx => by
          rw [← pw x hx, Bool.or_assoc]
        have HREL : Hid (GrL w wb base bf bc bn bg bC bP bX bS r (some ⟨gn, 0, none⟩) cap N bl adj fv F R P X Cd (fun k => lf k && k != y) cnt6 fv2 (L1 ++ L2)) := by
          refine ⟨HRGb.out, ?_, (HSPa.out.turns hTb (fun e => hneX e)).congr pwP, hSb.congr pwX, ?_, ?_, HTa.out.comp hTb (fun k _ e => Or.inr (Or.inr (Or.inr (Or.inl e)))), HOB2.out⟩
          · have := HMa.out.far hTb (fun k e => by rw [e]; exact ⟨hloX, HSXa.out.notCells⟩)
            rw [List.append_assoc] at this
            exact this
          · exact (HHD.out.tried hyN (by simp [f1, f3])).congr pwP pwX
          · refine (FitD.step H.out.hand hyN f3 f2 f1 HLS.out HL2.out).congr (fun K => ?_)
            constructor
            · rintro ⟨h1, x, hx, h2, h3⟩
              exact ⟨h1, x, hx, (pw x hx).symm.trans h2, h3⟩
            · rintro ⟨h1, x, hx, h2, h3⟩
              exact ⟨h1, x, hx, (pw x hx).trans h2, h3⟩
        go_roundw
        case rel => exact ⟨_, cnt6, fv2, L1 ++ L2, HREL.out⟩
        case measure => rw [HRGb.out.left, HLZ.out]; exact HCL.out
theorem grow_call (hN : N ≤ 24) (hs : ∀ x y, adj x y = adj y x) (hi : ∀ x, adj x x = false) : ∀ (n : Nat) (w : World) (bP bX : Nat) (P X R : Nat → Bool) (fv : Value) (F : List (List Nat)), cardN N P = n → GrP w base bf bc bn bg bC bP bX ao cap N bl adj fv F R P X →
    Calls Tryz.prog 63 #[.map (some bP), .map (some bX), ptr bf, ptr bc, ptr bn, ptr bg] w fun r w' => r = .returned (.tuple #[]) ∧ GrowEnd w base bf bc bn bg bC bP bX ao cap N bl adj fv F R P w' := by
  intro n
  induction n using Nat.strongRecOn with
  | _ n ih =>
    intro w bP bX P X R fv F hn h
    by_cases h0 : ∃ z, z < N ∧ (P z = true ∨ X z = true)
    · exact grow_node hN hs hi h h0 (fun w bP' bX' P' X' R' fv F hlt hg => ih (cardN N P') (by rw [← hn]; exact hlt) w bP' bX' P' X' R' fv F rfl hg)
    · refine grow_leaf hN h (fun z hz => ?_)
      constructor
      · cases hc : P z with
        | false => rfl
        | true => exact absurd ⟨z, hz, Or.inl hc⟩ h0
      · cases hc : X z with
        | false => rfl
        | true => exact absurd ⟨z, hz, Or.inr hc⟩ h0
end
end Go.Proofs.YtkkfjfphmlcieaaGreat
