/- grow's walk. -/
import Derived.Test.YtkkfjfphmlcieaaGrowK
namespace Go.Proofs.Ytkkfjfphmlcieaa
set_option maxRecDepth 100000
open Go.RowKit Go.Maps
attribute [local go_sem ↓] Go.wp_at_zero Go.wp_at_succ
section
variable {base bf bc bn bg bC : Nat} {ao : Option Addr} {cap N : Nat} {bl : Nat → Nat} {adj : Nat → Nat → Bool}
/-- What is asked ahead of a call of grow. -/
structure GrP (w : World) (base bf bc bn bg bC bP bX : Nat) (ao : Option Addr) (cap N : Nat) (bl : Nat → Nat) (adj : Nat → Nat → Bool) (fv : Value) (F : List (List Nat)) (R P X : Nat → Bool) : Prop where
  mem : GrM w base bf bc bn bg bC ao cap N bl adj fv F R
  setP : SetN w bP N P
  setX : SetN w bX N X
  loP : base ≤ bP
  loX : base ≤ bX
  ne : bP ≠ bX
  hand : Hand N adj R P X
  nd : F.Nodup
  form : ∀ l ∈ F, ∃ K, l = lsN N K
  new : ∀ l ∈ F, ∀ K, Fit N adj R P K → l ≠ lsN N K
set_option maxHeartbeats 4000000 in
theorem grow_leaf (hN : N ≤ 24) {w : World} {bP bX : Nat} {P X R : Nat → Bool} {fv : Value} {F : List (List Nat)} (h : GrP w base bf bc bn bg bC bP bX ao cap N bl adj fv F R P X) (h0 : ∀ z, z < N → P z = false ∧ X z = false) :
    Calls Try.prog 45 #[.map (some bP), .map (some bX), ptr bf, ptr bc, ptr bn, ptr bg] w fun r w' => r = .returned (.tuple #[]) ∧ GrowEnd w base bf bc bn bg bC bP bX ao cap N bl adj fv F R P w' := by
  have hN6 : N ≤ 1000000 := by omega
  have H : Hid (GrP w base bf bc bn bg bC bP bX ao cap N bl adj fv F R P X) := h
  have H0 : Hid (∀ z, z < N → P z = false ∧ X z = false) := h0
  have hFl := many_lists hN h.nd h.form
  clear h h0
  go_enter Try.func45, Try.ntmps45
  go_upto_region 1 with (first
    | (at_len; refine wpList_lenS rfl _ rfl rfl H.out.setP hN6 ?_; intro n1 hn1 hz1; obtain rfl : n1 = 0 := hz1.2 (fun x hx => (H0.out x hx).1); clear hz1)
    | (at_len; refine wpList_lenS rfl _ rfl rfl H.out.setX hN6 ?_; intro n2 hn2 hz2; obtain rfl : n2 = 0 := hz2.2 (fun x hx => (H0.out x hx).2); clear hz2)
    | go_in)
  have hm := H.out.mem
  obtain ⟨vs, hv1, hv2, hv3⟩ := hm.lists
  obtain ⟨fo, fc, hfv⟩ := form_row hv2
  subst hfv
  have cf : w.cell? ⟨bf, 0, none⟩ = some (.slice fo F.length fc) := box_cell hm.boxf rfl
  have cc : w.cell? ⟨bc, 0, none⟩ = some (.map (some bC)) := box_cell hm.boxc rfl
  have hB1 := drewN_below w 1
  have hm1 := hm.next hB1
  have h35 := rising_call hm1.clq hN6
  have H35 : Hid (Calls Try.prog 35 #[.map (some bC)] w.drew fun e w' => ∃ v, e = .returned v ∧ w'.ownsRow w.drew.heap.size 3 1 v (lsN N R).length (qv (lsN N R)) ∧ Below w.drew.heap.size w.drew w') := h35
  have HM1 : Hid (GrM w.drew base bf bc bn bg bC ao cap N bl adj (.slice fo F.length fc) F R) := hm1
  have HV : Hid (vs.length = F.length ∧ ∀ (i : Nat) (x : Value) (l : List Nat), vs[i]? = some x → F[i]? = some l → w.ownsRow base 3 1 x l.length (qv l)) := ⟨hv1, hv3⟩
  have HV2 : Hid (w.ownsRow base 29 1 (.slice fo F.length fc) F.length vs) := hv2
  clear hm hm1 h35 hv1 hv3 hv2 hB1
  have hsz29 := HM1.out.size
  have hbf1 : One w.drew bf (.slice fo F.length fc) 42 := HM1.out.boxf
  refine region_invG (J := fun a0 => FJg (A1g (fun s => a0.tmps.getD s undef)) (V1g (.slice fo F.length fc) bC (lsN N R).length F.length) (S1g w.drew (lsN N R) base bf fo F.length fc vs)) (by kernel_rfl) (by kernel_rfl) ?_ ?_ ?_
  · exact ⟨⟨w, w, none, 0, 0, 0⟩, fun _ => undef, rfl, fun j hj => Bool.noConfusion hj, fun h => Bool.noConfusion h, fun h => Bool.noConfusion h, fun h => Bool.noConfusion h, fun h => Bool.noConfusion h, fun _ => rfl, fun h => Bool.noConfusion h, fun h => Bool.noConfusion h, fun h => Bool.noConfusion h, fun h => Bool.noConfusion h, fun h => Bool.noConfusion h, fun h => Bool.noConfusion h⟩
  · intro i o hi M a' w1 hJ hLi hd
    obtain ⟨c, f, rfl, hf, hws⟩ := hJ
    have told : ∀ (c' : Cg) (i : Nat) (x : Value), (∀ j, M j = true → V1g (.slice fo F.length fc) bC (lsN N R).length F.length c' j = V1g (.slice fo F.length fc) bC (lsN N R).length F.length c j) → x = V1g (.slice fo F.length fc) bC (lsN N R).length F.length c' i → ∀ j, also M i j = true → updG f i x j = V1g (.slice fo F.length fc) bC (lsN N R).length F.length c' j := fun c' i x h1 h2 j hj => by
      unfold updG
      by_cases e : j = i
      · rw [if_pos e, e]; exact h2
      · rw [if_neg e, hf j (also_ne hj e), h1 j (also_ne hj e)]
    match i, hi with
    | 0, hi =>
      cases hi
      have h4 : M 4 = false := by cases e : M 4 with | false => rfl | true => rw [(hws.d3 e).1] at hLi; cases hLi
      have h5 : M 5 = false := by cases e : M 5 with | false => rfl | true => rw [hws.d4 e] at h4; cases h4
      have cfx : w1.cell? ⟨bf, 0, none⟩ = some (.slice fo F.length fc) := by
        cases e2 : M 2 with
        | false => rw [hws.s0 e2]; exact box_cell hbf1 rfl
        | true =>
          have h1 : c.w2.cell? ⟨bf, 0, none⟩ = some (.slice fo F.length fc) := box_cell (((hws.q2 e2).2.block _ (lt_of_block hbf1)).trans hbf1) rfl
          cases e3 : M 3 with
          | false => rw [hws.s2 e2 e3]; exact h1
          | true => rw [hws.s3 e3 h4]; exact all_alloc h1 _
      refine wpOp_value rfl rfl (v := .slice fo F.length fc) (w' := w1) ?_ ⟨c, updG f 0 _, rfl, told c 0 _ (fun _ _ => rfl) rfl, ?_⟩
      · simp [go_sem, A1g, Act.eval, cfx]
      · refine ⟨fun h => ?_, fun h => ?_, fun h => ?_, fun h => ?_, fun h => ?_, fun h h' => ?_, fun h => ?_, fun h h' => ?_, fun h => ?_, fun h h' => ?_, fun h => ?_⟩
        · rw [also_atG (by omega)] at h ⊢; exact hws.d1 h
        · rw [also_atG (by omega)] at h ⊢; exact hws.d2 h
        · rw [also_atG (by omega), h4] at h; cases h
        · rw [also_atG (by omega), h5] at h; cases h
        · rw [also_atG (by omega)] at h; exact hws.s0 h
        · rw [also_atG (by omega)] at h h'; exact hws.s2 h h'
        · rw [also_atG (by omega)] at h; exact hws.q2 h
        · rw [also_atG (by omega)] at h h'; exact hws.s3 h h'
        · rw [also_atG (by omega), h4] at h; cases h
        · rw [also_atG (by omega), h4] at h; cases h
        · rw [also_atG (by omega), h5] at h; cases h
    | 1, hi =>
      cases hi
      have h2 : M 2 = false := by cases e : M 2 with | false => rfl | true => rw [hws.d1 e] at hLi; cases hLi
      have h3 : M 3 = false := by cases e : M 3 with | false => rfl | true => rw [hws.d2 e] at h2; cases h2
      have h4 : M 4 = false := by cases e : M 4 with | false => rfl | true => rw [(hws.d3 e).2] at h3; cases h3
      have h5 : M 5 = false := by cases e : M 5 with | false => rfl | true => rw [hws.d4 e] at h4; cases h4
      have hw1 := hws.s0 h2
      have ccx : w1.cell? ⟨bc, 0, none⟩ = some (.map (some bC)) := by rw [hw1]; exact cc
      refine wpOp_value rfl rfl (v := .map (some bC)) (w' := w1) ?_ ⟨c, updG f 1 _, rfl, told c 1 _ (fun _ _ => rfl) rfl, ?_⟩
      · simp [go_sem, A1g, Act.eval, ccx]
      · refine ⟨fun h => ?_, fun h => ?_, fun h => ?_, fun h => ?_, fun h => ?_, fun h h' => ?_, fun h => ?_, fun h h' => ?_, fun h => ?_, fun h h' => ?_, fun h => ?_⟩
        · rw [also_atG (by omega), h2] at h; cases h
        · rw [also_atG (by omega), h3] at h; cases h
        · rw [also_atG (by omega), h4] at h; cases h
        · rw [also_atG (by omega), h5] at h; cases h
        · exact hw1
        · rw [also_atG (by omega), h2] at h; cases h
        · rw [also_atG (by omega), h2] at h; cases h
        · rw [also_atG (by omega), h3] at h; cases h
        · rw [also_atG (by omega), h4] at h; cases h
        · rw [also_atG (by omega), h4] at h; cases h
        · rw [also_atG (by omega), h5] at h; cases h
    | 2, hi =>
      cases hi
      have d1 : f 1 = .map (some bC) := hf 1 (hd ⟨1, .data⟩ (by simp) rfl)
      have m1 := hd ⟨1, .data⟩ (by simp) rfl
      have h3 : M 3 = false := by cases e : M 3 with | false => rfl | true => rw [hws.d2 e] at hLi; cases hLi
      have h4 : M 4 = false := by cases e : M 4 with | false => rfl | true => rw [(hws.d3 e).2] at h3; cases h3
      have h5 : M 5 = false := by cases e : M 5 with | false => rfl | true => rw [hws.d4 e] at h4; cases h4
      have hw1 := hws.s0 hLi
      refine wpOp_call (f := 35) (args := #[.map (some bC)]) rfl rfl (w' := w1) ?_ ?_
      · simp [go_sem, A1g, Act.eval, d1]
      · rw [hw1]
        refine H35.out.mono ?_
        rintro e w2 ⟨v, rfl, hown, hb2⟩
        obtain ⟨ro, rc, rfl⟩ := form_row hown
        refine ⟨_, rfl, ⟨w2, w2, ro, rc, 0, 0⟩, updG f 2 _, rfl, told ⟨w2, w2, ro, rc, 0, 0⟩ 2 _ (fun j hj => ?_) rfl, ?_⟩
        · match j with
          | 0 => rfl
          | 1 => rfl
          | 2 => rw [hLi] at hj; cases hj
          | 3 => rw [h3] at hj; cases hj
          | 4 => rw [h4] at hj; cases hj
          | k + 5 => rfl
        · refine ⟨fun _ => also_of m1 _, fun h => ?_, fun h => ?_, fun h => ?_, fun h => ?_, fun _ _ => rfl, fun _ => ⟨hown, hb2⟩, fun h => ?_, fun h => ?_, fun _ _ => rfl, fun h => ?_⟩
          · rw [also_atG (by omega), h3] at h; cases h
          · rw [also_atG (by omega), h4] at h; cases h
          · rw [also_atG (by omega), h5] at h; cases h
          · rw [also_self] at h; cases h
          · rw [also_atG (by omega), h3] at h; cases h
          · rw [also_atG (by omega), h4] at h; cases h
          · rw [also_atG (by omega), h5] at h; cases h
    | 3, hi =>
      cases hi
      have m2 := hd ⟨2, .data⟩ (by simp) rfl
      have d2 : f 2 = .slice c.ro (lsN N R).length c.rc := hf 2 m2
      have h4 : M 4 = false := by cases e : M 4 with | false => rfl | true => rw [(hws.d3 e).2] at hLi; cases hLi
      have h5 : M 5 = false := by cases e : M 5 with | false => rfl | true => rw [hws.d4 e] at h4; cases h4
      have hw1 := hws.s2 m2 hLi
      refine wpOp_value rfl rfl (v := .slice (some ⟨c.w2.heap.size, 0, none⟩) 1 1) (w' := w1.alloc (Obj.cells #[.slice c.ro (lsN N R).length c.rc] 29)) ?_ ⟨c, updG f 3 _, rfl, told c 3 _ (fun _ _ => rfl) rfl, ?_⟩
      · rw [hw1]
        simp [go_sem, A1g, Act.eval, d2]
      · refine ⟨fun _ => also_of (hws.d1 m2) _, fun _ => also_of m2 _, fun h => ?_, fun h => ?_, fun h => ?_, fun _ h => ?_, fun _ => hws.q2 m2, fun _ _ => by rw [hw1], fun h => ?_, fun h h' => ?_, fun h => ?_⟩
        · rw [also_atG (by omega), h4] at h; cases h
        · rw [also_atG (by omega), h5] at h; cases h
        · rw [also_atG (by omega), m2] at h; cases h
        · rw [also_self] at h; cases h
        · rw [also_atG (by omega), h4] at h; cases h
        · rw [also_atG (by omega), h4] at h; cases h
        · rw [also_atG (by omega), h5] at h; cases h
    | 4, hi =>
      cases hi
      have m0 := hd ⟨0, .data⟩ (by simp) rfl
      have m3 := hd ⟨3, .data⟩ (by simp) rfl
      have m2 := hws.d2 m3
      have d0 : f 0 = .slice fo F.length fc := hf 0 m0
      have d3 : f 3 = .slice (some ⟨c.w2.heap.size, 0, none⟩) 1 1 := hf 3 m3
      have h5 : M 5 = false := by cases e : M 5 with | false => rfl | true => rw [hws.d4 e] at hLi; cases hLi
      have hw1 := hws.s3 m3 hLi
      obtain ⟨hown, hb2⟩ := hws.q2 m2
      rw [hw1]
      refine wpOp_pushL rfl rfl (.tmp 16) (.tmp 19) rfl (by simp [A1g, Act.eval, d0]) (by simp [A1g, Act.eval, d3]) (ownsRow_blocks HV2.out (fun b hb => (hb2.block b (HV2.out.lt b hb).2))) (by omega) (Nat.le_trans hsz29 hb2.size) ?_
      intro g1 c1 w3 hown1 hgr1 hat1
      refine ⟨⟨c.w2, w3, c.ro, c.rc, g1, c1⟩, updG f 4 _, rfl, told ⟨c.w2, w3, c.ro, c.rc, g1, c1⟩ 4 _ (fun j hj => ?_) rfl, ?_⟩
      · match j with
        | 0 => rfl
        | 1 => rfl
        | 2 => rfl
        | 3 => rfl
        | 4 => rw [hLi] at hj; cases hj
        | k + 5 => rfl
      · refine ⟨fun _ => also_of (hws.d1 m2) _, fun _ => also_of m2 _, fun _ => ⟨also_of m0 _, also_of m3 _⟩, fun h => ?_, fun h => ?_, fun _ h => ?_, fun _ => ⟨hown, hb2⟩, fun _ h => ?_, fun _ => ⟨hown1, hgr1, hat1⟩, fun _ _ => rfl, fun h => ?_⟩
        · rw [also_atG (by omega), h5] at h; cases h
        · rw [also_atG (by omega), m2] at h; cases h
        · rw [also_atG (by omega), m3] at h; cases h
        · rw [also_self] at h; cases h
        · rw [also_atG (by omega), h5] at h; cases h
    | 5, hi =>
      cases hi
      have m4 := hd ⟨4, .data⟩ (by simp) rfl
      obtain ⟨m0, m3⟩ := hws.d3 m4
      have m2 := hws.d2 m3
      have d4 : f 4 = .slice (some ⟨c.g1, 0, none⟩) (F.length + 1) c.c1 := hf 4 m4
      have hw1 := hws.s4 m4 hLi
      obtain ⟨hown, hb2⟩ := hws.q2 m2
      obtain ⟨hown1, hgr1, hat1⟩ := hws.q4 m4
      have hm2 := HM1.out.next hb2
      have HV3 : c.w2.ownsRow base 29 1 (.slice fo F.length fc) F.length vs := ownsRow_blocks HV2.out (fun b hb => (hb2.block b (HV2.out.lt b hb).2))
      have T1 := (alloc_turns c.w2 (Obj.cells #[.slice c.ro (lsN N R).length c.rc] 29) (fun x => some x = (Value.slice fo F.length fc).ownBlock)).trans (Turns.of_grown hgr1)
      have hbf : One c.w3 bf (.slice fo F.length fc) 42 := ((T1.block _ (lt_of_block hm2.boxf) (fun e => by have := (HV3.lt bf e.symm).1; have := hm2.lo.1; omega)).trans hm2.boxf)
      have cf4 : c.w3.cell? ⟨bf, 0, none⟩ = some (.slice fo F.length fc) := box_cell hbf rfl
      have ff4 := one_free hbf
      refine wpOp_skip rfl rfl (w' := w1.setCell ⟨bf, 0, none⟩ (.slice (some ⟨c.g1, 0, none⟩) (F.length + 1) c.c1)) ?_ ⟨c, updG f 5 undef, rfl, told c 5 _ (fun _ _ => rfl) rfl, ?_⟩
      · rw [hw1]
        simp [go_sem, A1g, Act.eval, d4, cf4, ff4]
      · refine ⟨fun _ => also_of (hws.d1 m2) _, fun _ => also_of m2 _, fun _ => ⟨also_of m0 _, also_of m3 _⟩, fun _ => also_of m4 _, fun h => ?_, fun _ h => ?_, fun _ => ⟨hown, hb2⟩, fun _ h => ?_, fun _ => ⟨hown1, hgr1, hat1⟩, fun _ h => ?_, fun _ => by rw [hw1]⟩
        · rw [also_atG (by omega), m2] at h; cases h
        · rw [also_atG (by omega), m3] at h; cases h
        · rw [also_atG (by omega), m4] at h; cases h
        · rw [also_self] at h; cases h
    | k + 6, hi => cases hi
  · intro M a' w1 hJ hall
    obtain ⟨⟨w2, w3, ro, rc, g1, c1⟩, f9, rfl, hf9, hws⟩ := hJ
    clear hf9
    obtain ⟨hown, hb2⟩ := hws.q2 (hall 2 (by simp))
    obtain ⟨hown1, hgr1, hat1⟩ := hws.q4 (hall 4 (by simp))
    have hw1 := hws.s5 (hall 5 (by simp))
    simp only at hown hb2 hown1 hgr1 hat1 hw1
    subst hw1
    clear hws hall
    have hm2 := HM1.out.next hb2
    have HV3 : Hid (w2.ownsRow base 29 1 (.slice fo F.length fc) F.length vs) := ownsRow_blocks HV2.out (fun b hb => (hb2.block b (HV2.out.lt b hb).2))
    have T1 := (alloc_turns w2 (Obj.cells #[.slice ro (lsN N R).length rc] 29) (fun x => some x = (Value.slice fo F.length fc).ownBlock)).trans (Turns.of_grown hgr1)
    have hnf : ∀ b, b < base → ¬ (some b = (Value.slice fo F.length fc).ownBlock) := fun b hb e => by have := (HV3.out.lt b e.symm).1; omega
    have hbf : One w3 bf (.slice fo F.length fc) 42 := ((T1.block _ (lt_of_block hm2.boxf) (hnf _ hm2.lo.1)).trans hm2.boxf)
    obtain ⟨l1, l2, l3, l4, l5, l6, l7⟩ := hm2.lo
    obtain ⟨n1, n2, n3, n4, n5⟩ := hm2.ne
    have T2 := setCell_turns w3 bf 0 (.slice (some ⟨g1, 0, none⟩) (F.length + 1) c1)
    have hlst : ListsAt w3 base (.slice (some ⟨g1, 0, none⟩) (F.length + 1) c1) (F ++ [lsN N R]) := ListsAt.push (ownsRow_mono hown (by have := HM1.out.size; omega)) HV.out.1 HV3.out (fun i x l hx hl => ownsRow_blocks (HV.out.2 i x l hx hl) (fun b hb => hb2.block b ((HV.out.2 i x l hx hl).lt b hb).2)) hown1 hgr1
    have hfin : GrM (w3.setCell ⟨bf, 0, none⟩ (.slice (some ⟨g1, 0, none⟩) (F.length + 1) c1)) base bf bc bn bg bC ao cap N bl adj (.slice (some ⟨g1, 0, none⟩) (F.length + 1) c1) (F ++ [lsN N R]) R := by
      refine ⟨?_, hlst.turns T2 (fun k e => Or.inl (by omega)), ?_, ?_, ?_, ?_, ?_, hm2.lo, hm2.ne, ?_⟩
      · have := box_set hbf 0 (.slice (some ⟨g1, 0, none⟩) (F.length + 1) c1)
        exact this
      · exact one_far ((T1.block _ (lt_of_block hm2.boxc) (hnf _ l2)).trans hm2.boxc) (fun e => n1 e.symm)
      · exact (hm2.clq.turns T1 (hnf _ l5)).turns T2 (fun e => by
          obtain ⟨es, c, hmm⟩ := hm2.clq.isMap
          have h0 : w2.heap[bf]? = _ := hm2.boxf
          rw [← e, hmm] at h0
          cases h0)
      · exact one_far ((T1.block _ (lt_of_block hm2.boxn) (hnf _ l3)).trans hm2.boxn) (fun e => n2 e.symm)
      · exact one_far ((T1.block _ (lt_of_block hm2.boxg) (hnf _ l4)).trans hm2.boxg) (fun e => n3 e.symm)
      · refine (hm2.near.turns T1 (fun i hi => hnf _ (l6 i hi)) (fun g e => hnf _ (l7 g e))).turns T2 (fun i hi e => ?_) (fun g e e' => n4 g e e'.symm)
        obtain ⟨es, c, hmm⟩ := (hm2.near.sets i hi).isMap
        have h0 : w2.heap[bf]? = _ := hm2.boxf
        rw [← e, hmm] at h0
        cases h0
      · rw [World.size_setCell]; exact Nat.le_trans hm2.size T1.size
    have hb02 : Below w.heap.size w w2 := below_next (drewN_below w 1) hb2
    have htn : Turns (MG bf bC bP bX (.slice fo F.length fc)) w (w3.setCell ⟨bf, 0, none⟩ (.slice (some ⟨g1, 0, none⟩) (F.length + 1) c1)) := ((Turns.of_below hb02 _).comp T1 (fun k _ e => Or.inr (Or.inr (Or.inr (Or.inr e))))).comp T2 (fun k _ e => Or.inl e)
    have hob : ∀ b, (Value.slice (some ⟨g1, 0, none⟩) (F.length + 1) c1).ownBlock = some b → some b = (Value.slice fo F.length fc).ownBlock ∨ w.heap.size ≤ b := fun b hb => by
      have e1 : (Value.slice (some ⟨g1, 0, none⟩) (F.length + 1) c1).ownBlock = some g1 := rfl
      rw [e1] at hb
      injection hb with hb
      subst hb
      rcases hat1 with h1 | h1
      · exact Or.inl h1.symm
      · exact Or.inr (Nat.le_trans hb02.size h1)
    have HF : Hid (GrowEnd w base bf bc bn bg bC bP bX ao cap N bl adj (.slice fo F.length fc) F R P (w3.setCell ⟨bf, 0, none⟩ (.slice (some ⟨g1, 0, none⟩) (F.length + 1) c1))) := ⟨_, _, hfin, H.out.hand.leaf H0.out, htn, hob⟩
    clear hfin htn hob hlst T1 T2 hown hown1 hgr1 hat1 hm2
    simp only [A1g]
    go_wp2
    refine bodyPost_ret (v := .tuple #[]) ?_ rfl ⟨rfl, HF.out⟩
    simp [results, Try.results45, go_sem]
end
end Go.Proofs.Ytkkfjfphmlcieaa
