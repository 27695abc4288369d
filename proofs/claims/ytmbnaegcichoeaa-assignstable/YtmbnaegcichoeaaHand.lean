/- hand: each row on the way gets the column that it takes there. -/
import Derived.Test.YtmbnaegcichoeaaShift
namespace Go.Proofs.Ytmbnaegcichoeaa
open Go.RowKit Go.Maps
attribute [local go_sem ↓] Go.wp_at_zero Go.wp_at_succ

theorem idx_at {D : List Nat} (hn : D.Nodup) {p x : Nat} (h : D[p]? = some x) : D.idxOf x = p := by
  obtain ⟨g1, g2⟩ := List.getElem?_eq_some_iff.1 h
  have hm : x ∈ D := List.mem_of_getElem? h
  have h1 : D.idxOf x < D.length := List.idxOf_lt_length_of_mem hm
  have h2 : D[D.idxOf x] = x := List.getElem_idxOf h1
  rcases Nat.lt_trichotomy (D.idxOf x) p with hlt | e | hlt
  · exact absurd (by rw [h2, g2]) (List.pairwise_iff_getElem.1 hn _ _ h1 g1 hlt)
  · exact e
  · exact absurd (by rw [h2, g2]) (List.pairwise_iff_getElem.1 hn _ _ g1 h1 hlt)
/-- Who takes a column: the row that is served, or one that has an earlier one. -/
def Takers (s : Nat) (C : Nat → Nat → Int) (r u ow fr : Nat → Int) (D : List Nat) : Prop :=
  ∀ p j, D[p]? = some j → (fr j = s ∧ r s + u j = C s j) ∨ ∃ q d i : Nat, q < p ∧ D[q]? = some d ∧ ow d = i ∧ fr j = i ∧ r i + u j = C i j

set_option maxRecDepth 4000 in
set_option maxHeartbeats 3000000 in
theorem hand_call {c : Dc} {w : World} {r u tk ow : Nat → Int} {s : Nat} (hd : DS c w r u tk ow) (hm : Mt c.n s c.C r u tk ow) (hs : s < c.n) (hn : c.n ≤ 100)
    {bg : Nat} {fv : Value} {po : Option Addr} {nD pc B : Nat} {L : List Nat} {col : Nat} {fr : Nat → Int} (hnD : nD = (L ++ [col]).length) (hg : RowV w bg 3 c.n (iv fr)) (ho : w.ownsRow B 3 1 (.slice po nD pc) nD (qv (L ++ [col]))) (hsep : ¬ c.own bg)
    (hnd : (L ++ [col]).Nodup) (hlt : ∀ d ∈ L ++ [col], d < c.n) (hLm : ∀ d ∈ L, ow d ≠ -1) (hfree : ow col = -1) (htk : Takers s c.C r u ow fr (L ++ [col])) :
    Calls Try.prog 30 #[ptr c.bp, .int .i64 (s : Int), .agg #[fv, sl bg c.n, .slice po nD pc]] w fun e w' => e = .returned (.tuple #[]) ∧ (∃ tk' ow', DS c w' r u tk' ow' ∧ Mt c.n (s + 1) c.C r u tk' ow') ∧ Turns (fun k => k = c.bt ∨ k = c.bb) w w' := by
  obtain ⟨D, hD⟩ : ∃ D, D = L ++ [col] := ⟨_, rfl⟩
  have hnL : nD = L.length + 1 := by rw [hnD]; simp
  have hst : Hd c.n s c.C r u ow D L.length col tk ow := Hd.start hm (by rw [hD]; exact hlt) (by rw [hD]; simp) hfree (fun q d hq hdq => by
    rw [hD, List.getElem?_append_left hq] at hdq
    exact hLm d (List.mem_of_getElem? hdq))
  have hcl : ∃ b, po = some ⟨b, 0, none⟩ ∧ b < w.heap.size ∧ w.cell? ⟨b, L.length, none⟩ = some (.int .i64 (col : Int)) := by
    rw [hnD] at ho
    obtain ⟨b, e, hc⟩ := qcell ho (k := L.length) (u := col) (by simp)
    exact ⟨b, e, World.block_lt_of_cell? w _ hc, hc⟩
  obtain ⟨bd, rfl, hbd, cl⟩ := hcl
  have HD : Hid (DS c w r u tk ow) := hd
  have HM : Hid (Mt c.n s c.C r u tk ow) := hm
  have HST : Hid (Hd c.n s c.C r u ow D L.length col tk ow) := hst
  have HTK : Hid (Takers s c.C r u ow fr D) := by rw [hD]; exact htk
  have HND : Hid (D.Nodup) := by rw [hD]; exact hnd
  have HLT : Hid (∀ d ∈ D, d < c.n) := by rw [hD]; exact hlt
  have HG : Hid (RowV w bg 3 c.n (iv fr)) := hg
  have hown : ∀ k, c.own k → k < w.heap.size := fun k hk => hd.lt hk
  have k1 : IntKind.i64.wrap ((nD : Int) - 1) = (L.length : Int) := by rw [IntKind.wrap_i64]; have := own_le ho; have := hm.short (L := L) (List.nodup_append.1 hnd).1 (fun d h => hlt d (by simp [h])) hLm; omega
  have k2 : (0 : Int) ≤ (L.length : Int) := by omega
  have k3 : (L.length : Int) < (nD : Int) := by omega
  clear hd hm hst htk hnd hlt hg ho hLm hfree hnD hnL hD
  go_enter Try.func30, Try.ntmps30
  go_upto_region 1 with (fail)
  have hx5 : Box (w.alloc (Obj.cells #[fv, sl bg c.n, .slice (some ⟨bd, 0, none⟩) nD pc] 54)) w.heap.size #[fv, sl bg c.n, .slice (some ⟨bd, 0, none⟩) nD pc] 54 := heap_alloc_new _ _
  have hb0 := below_alloc (Below.refl _ w) (Obj.cells #[fv, sl bg c.n, .slice (some ⟨bd, 0, none⟩) nD pc] 54)
  generalize w.alloc (Obj.cells #[fv, sl bg c.n, .slice (some ⟨bd, 0, none⟩) nD pc] 54) = W0 at hx5 hb0 ⊢
  have e2 : W0.cell? ⟨w.heap.size, 2, none⟩ = some (.slice (some ⟨bd, 0, none⟩) nD pc) := box_cell hx5 rfl
  have cl0 := (hb0.cell (by exact hbd)).trans cl
  have HD0 : Hid (DS c W0 r u tk ow) := HD.out.below hb0
  have HG0 : Hid (RowV W0 bg 3 c.n (iv fr)) := HG.out.block (hb0.block _ (RowV.lt HG.out))
  clear HD HG cl
  go_wp2
  clear e2 cl0
  go_loopw [6] (fun cv wr => ∃ (p j : Nat) (tk' ow' : Nat → Int), cv = .int .i64 (j : Int) ∧ DS c wr r u tk' ow' ∧ Hd c.n s c.C r u ow D p j tk' ow' ∧ Turns (fun k => k = c.bt ∨ k = c.bb) W0 wr) (fun cv _ => D.idxOf (numOf cv).toNat)
  case atStart => exact ⟨L.length, col, tk, ow, rfl, HD0.out, HST.out, Turns.refl _ _⟩
  case round =>
    clear HD0 HST
    obtain ⟨p, j, tk', ow', rfl, hd, hh, ht⟩ := hrel
    have hjD := List.mem_of_getElem? hh.at'
    have hjn := HLT.out j hjD
    have hix := idx_at HND.out hh.at'
    have hnb : c.bt ≠ w.heap.size ∧ c.bb ≠ w.heap.size := ⟨by have := hown c.bt (Or.inr (Or.inr (Or.inr (Or.inl rfl)))); omega, by have := hown c.bb (Or.inr (Or.inr (Or.inr (Or.inr rfl)))); omega⟩
    have hx5r : Box wr w.heap.size #[fv, sl bg c.n, .slice (some ⟨bd, 0, none⟩) nD pc] 54 := box_turns hx5 ht (by rintro (e | e); exact hnb.1 e.symm; exact hnb.2 e.symm)
    have hgr : RowV wr bg 3 c.n (iv fr) := HG0.out.turns ht (by rintro (e | e); exact hsep (Or.inr (Or.inr (Or.inr (Or.inl e)))); exact hsep (Or.inr (Or.inr (Or.inr (Or.inr e)))))
    have e1 : wr.cell? ⟨w.heap.size, 1, none⟩ = some (sl bg c.n) := box_cell hx5r rfl
    have cg := hgr.cell hjn
    unfold iv at cg
    obtain ⟨_, _, _, c3, c4⟩ := hd.cellB
    have cb := hd.bys.cell hjn
    have fb := hd.bys.free j
    unfold iv at cb
    have i1 : (0 : Int) ≤ (j : Int) := by omega
    have i2 : (j : Int) < (c.n : Int) := by omega
    have htak : ∃ i : Nat, i < c.n ∧ fr j = i ∧ r i + u j = c.C i j ∧ (i = s ∨ (i ≠ s ∧ ∃ q d, q < p ∧ D[q]? = some d ∧ ow d = i)) := by
      rcases HTK.out p j hh.at' with ⟨h1, h2⟩ | ⟨q, d, i, h1, h2, h3, h4, h5⟩
      · exact ⟨s, hs, h1, h2, Or.inl rfl⟩
      · obtain ⟨_, i', hi', e, _⟩ := hh.old q d h1 h2
        exact ⟨i, by omega, h4, h5, Or.inr ⟨by omega, q, d, h1, h2, h3⟩⟩
    obtain ⟨i, hin, hfr, hti, hcase⟩ := htak
    rw [hfr] at cg
    have HTI : Hid (r i + u j = c.C i j) := hti
    have HHH : Hid (Hd c.n s c.C r u ow D p j tk' ow') := hh
    have HIX : Hid (D.idxOf j = p) := hix
    have i3 : (0 : Int) ≤ (i : Int) := by omega
    have i4 : (i : Int) < (c.n : Int) := by omega
    have hd1 := hd.setO j (i : Int)
    have T1 := setCell_turns wr c.bb j (.int .i64 (i : Int))
    have ht1 : Turns (fun k => k = c.bt ∨ k = c.bb) W0 (wr.setCell ⟨c.bb, j, none⟩ (.int .i64 (i : Int))) := ht.trans (T1.mono (fun _ _ h => Or.inr h))
    clear hti hh hix hfr hgr hx5r hd T1 ht
    go_upto_region 4 with (fail)
    generalize wr.setCell ⟨c.bb, j, none⟩ (.int .i64 (i : Int)) = W2 at hd1 ht1 ⊢
    clear e1 cg c3 c4 cb fb
    obtain ⟨_, _, _, c3, _⟩ := hd1.cellB
    have ct := hd1.tos.cell hin
    have ft := hd1.tos.free i
    unfold iv at ct
    have HD1 : Hid (DS c W2 r u tk' (fun k => if k = j then (i : Int) else ow' k)) := hd1
    clear hd1
    go_region
    all_goals
      have hd2 := (HD1.out.setT i (j : Int)).below (Below.refl _ _).drew
      have ht2 := (ht1.trans ((setCell_turns W2 c.bt i (.int .i64 (j : Int))).mono (fun _ _ h => Or.inl h))).trans (Turns.of_below (Below.refl _ _).drew _)
      generalize (W2.setCell ⟨c.bt, i, none⟩ (.int .i64 (j : Int))).drew = W3 at hd2 ht2 ⊢
      have HD2 : Hid (DS c W3 r u (fun k => if k = i then (j : Int) else tk' k) (fun k => if k = j then (i : Int) else ow' k)) := hd2
      clear hd2 c3 ct ft HD1 ht1
      rcases hcase with rfl | ⟨his, q, d, hqp, hqd, hod⟩
      · obtain ⟨h1, h2⟩ := HHH.out.last HM.out HLT.out hs HTI.out
        have HM2 : Hid (Mt c.n (i + 1) c.C r u (fun k => if k = i then (j : Int) else tk' k) (fun k => if k = j then (i : Int) else ow' k)) := h2
        have ht9 : Turns (fun k => k = c.bt ∨ k = c.bb) w W3 := (Turns.of_below hb0 _).trans ht2
        clear h1 h2
        go_wp2
        refine bodyPost_ret (v := .tuple #[]) (by simp [results, Try.results30, go_sem]) rfl ⟨rfl, ⟨_, _, HD2.out, HM2.out⟩, ht9⟩
      · obtain ⟨h1, h2, h3⟩ := HHH.out.step HND.out HLT.out hs hqd hqp hod HTI.out
        have i5 : ((i : Int) == (s : Int)) = false := by rw [beq_eq_false_iff_ne]; omega
        have HH3 : Hid (Hd c.n s c.C r u ow D q d (fun k => if k = i then (j : Int) else tk' k) (fun k => if k = j then (i : Int) else ow' k)) := h3
        have hid := idx_at HND.out hqd
        have HQ : Hid (D.idxOf d < D.idxOf j) := by show _ < _; rw [hid, HIX.out]; exact hqp
        rw [h2]
        clear h3 hid hqd hod h2
        go_wp2
        go_roundw
        case rel => exact ⟨q, d, _, _, rfl, HD2.out, HH3.out, ht2⟩
        case measure => simpa [numOf] using HQ.out
end Go.Proofs.Ytmbnaegcichoeaa
