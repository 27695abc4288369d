/- A tally: add. -/
import Derived.Test.YtmeodnkmhakidaaDoorKitC
import Derived.Test.YtmeodnkmhakidaaDoorTalMM
import Derived.Deep.LoopGhost
namespace Go.Proofs.YtmeodnkmhakidaaDoor
set_option maxRecDepth 8000
open Go.RowKit Go.Maps
attribute [local go_sem ↓] Go.wp_at_zero Go.wp_at_succ
/-- A tally in a box: how often 0, 1, .. were counted. -/
def TA (w : World) (base bt : Nat) (t : TypeId) (L : List Nat) : Prop := ∃ vo vc, One w bt (.slice vo L.length vc) t ∧ w.ownsRow base 3 1 (.slice vo L.length vc) L.length (qv L)
abbrev FrT (base bt : Nat) : Nat → Prop := fun x => x = bt ∨ base ≤ x
theorem qv_app (a b : List Nat) : qv (a ++ b) = qv a ++ qv b := List.map_append
theorem ta_own {w : World} {base bt vc : Nat} {vo : Option Addr} {t : TypeId} {L : List Nat} {x : Value} (h : w.ownsRow base 3 1 (.slice vo L.length vc) L.length (qv L)) (hb : One w bt x t) (ht : t ≠ 3) {g : Nat} (hg : (Value.slice vo L.length vc).ownBlock = some g) : g ≠ bt := fun e => by
  subst e
  obtain ⟨cur, hc⟩ := own_cells h hg
  have hb' : w.heap[g]? = _ := hb
  rw [hc] at hb'
  cases hb'
  exact ht rfl
theorem one_alloc' {w : World} {b : Nat} {x : Value} {t : TypeId} (h : One w b x t) (o : Obj) : One (w.alloc o) b x t := (Below.heap_alloc _ _ _ (lt_of_block h)).trans h
set_option maxHeartbeats 4000000 in
theorem tal_call {w : World} {base bt k : Nat} {L : List Nat} (h : TA w base bt 46 L) (hk : k ≤ 100) (hl : L.length ≤ 101) (hL : ∀ x ∈ L, x < 1000000000) (hb : base ≤ w.heap.size) :
    Calls Tryd.prog 21 #[ptr bt, .int .i64 (k : Int)] w fun e w' => e = .returned (.tuple #[]) ∧ TA w' base bt 46 (bump L k) ∧ Turns (FrT base bt) w w' := by
  obtain ⟨i3, hi3, hy0, hy1, hy2⟩ := info_parts Tryd.info3
  have HH : Hid (TA w base bt 46 L) := h
  have HL : Hid (∀ x ∈ L, x < 1000000000) := hL
  clear h hL
  go_enter Tryd.func21, Tryd.ntmps21
  go_wp2_with (fail)
  go_loopg [] (k + 1 - L.length) (fun g wz => ∃ i : Nat, i + g = k + 1 - L.length ∧ Hid (TA wz base bt 46 (L ++ List.replicate i 0) ∧ Turns (FrT base bt) w wz))
  case atStart => exact ⟨0, by omega, by rw [List.replicate_zero, List.append_nil]; exact HH.out, Turns.refl _ _⟩
  case round =>
    obtain ⟨i, hi, hJ⟩ := hrel
    obtain ⟨L2, hL2⟩ : ∃ L2, L2 = L ++ List.replicate i 0 := ⟨_, rfl⟩
    rw [← hL2] at hJ
    have hlen : L2.length = L.length + i := by rw [hL2]; simp
    obtain ⟨n, hn⟩ : ∃ n, n = L2.length := ⟨_, rfl⟩
    obtain ⟨⟨vo, vc, hB, hO⟩, hT⟩ := hJ.out
    rw [← hn] at hB hO
    have cb : wr.cell? ⟨bt, 0, none⟩ = some (.slice vo n vc) := box_cell (i := 0) hB rfl
    have fb := one_free hB
    have HJ : Hid (One wr bt (.slice vo n vc) 46 ∧ wr.ownsRow base 3 1 (.slice vo n vc) n (qv L2) ∧ Turns (FrT base bt) w wr ∧ n = L2.length ∧ L2 = L ++ List.replicate i 0 ∧ base ≤ wr.heap.size) := ⟨hB, hO, hT, hn, hL2, Nat.le_trans hb hT.size⟩
    have hn1 : n ≤ L.length + i := by omega
    have hn2 : L.length + i ≤ n := by omega
    have hn3 : n ≤ 202 := by omega
    clear hB hO hT hJ hL2 hn hlen
    by_cases hnk : n ≤ k
    · have k1 : decide ((n : Int) ≤ (k : Int)) = true := by simp; omega
      go_wp2_with (at_builtin; refine wpList_append_own _ rfl _ _ 46 rfl base 3 i3 (.int .i64 0) 1 8 Tryd.underlying46 hi3 hy0 hy1 hy2 rfl (by decide) _ _ _ rfl (HJ.out.2.1.alloc _) ⟨wr.heap.size, 0, none⟩ 1 1 [.int .i64 0] rfl rfl ?n1 ?n2 ?n3 ?n4 ?n5 ?_)
      case n1 =>
        intro j u hj
        match j, hj with
        | 0, hj => simp at hj; subst hj; simp [Addr.add]
      case n2 => intro u hu; simp at hu; subst hu; rfl
      case n3 => unfold maxLen; omega
      case n4 => omega
      case n5 => have := HJ.out.2.2.2.2.2; simp; omega
      intro v' w3 hown hgrow _
      obtain ⟨vo', vc', rfl⟩ := form_row hown
      have hne : bt < wr.heap.size := lt_of_block HJ.out.1
      have hB3 : One w3 bt (.slice vo n vc) 46 := by
        refine (hgrow.block bt (by simp; omega) (fun e => ?_)).trans (one_alloc' HJ.out.1 _)
        have hg := e.symm
        rw [HJ.out.2.2.2.1] at hg
        have ho := HJ.out.2.1
        rw [HJ.out.2.2.2.1] at ho
        exact ta_own ho HJ.out.1 (by decide) hg rfl
      have cb3 : w3.cell? ⟨bt, 0, none⟩ = some (.slice vo n vc) := box_cell (i := 0) hB3 rfl
      have fb3 := one_free hB3
      have HG : Hid (One w3 bt (.slice vo n vc) 46 ∧ w3.ownsRow base 3 1 (.slice vo' (n + 1) vc') (n + 1) (qv (L2 ++ [0])) ∧ Turns (FrT base bt) w w3) := by
        refine ⟨hB3, by rw [qv_app]; exact hown, HJ.out.2.2.1.trans ?_⟩
        refine ⟨hgrow.os, hgrow.tape, hgrow.output, by have := hgrow.size; simp at this; omega, fun b hbl hM => ?_⟩
        rw [hgrow.block b (by simp; omega) (fun e => hM (Or.inr (HJ.out.2.1.lt b e.symm).1))]
        exact Below.heap_alloc _ _ _ hbl
      clear hown hgrow hB3
      go_wp2
      go_roundg (k + 1 - L.length - (i + 1))
      case measure => omega
      case rel =>
        refine ⟨i + 1, by omega, ?_, HG.out.2.2.trans ((setCell_turns _ _ _ _).mono fun x _ e => Or.inl e)⟩
        have e2 : L ++ List.replicate (i + 1) 0 = L2 ++ [0] := by rw [HJ.out.2.2.2.2.1, List.replicate_succ', List.append_assoc]
        have hl2 : (L2 ++ [0]).length = n + 1 := by rw [List.length_append, ← HJ.out.2.2.2.1]; rfl
        rw [e2]
        refine ⟨vo', vc', ?_, ?_⟩
        · rw [hl2]; exact box_set HG.out.1 0 _
        · rw [hl2]
          refine ownsRow_blocks HG.out.2.1 (fun b hbk => Below.heap_setCell _ _ _ _ (fun e => ?_))
          have ho := HG.out.2.1
          rw [← hl2] at ho hbk
          exact ta_own ho HG.out.1 (by decide) hbk e
    · have k1 : decide ((n : Int) ≤ (k : Int)) = false := by simp; omega
      have hkn : k < n := by omega
      obtain ⟨x, hx⟩ : ∃ x, L2[k]? = some x := ⟨_, List.getElem?_eq_getElem (by rw [← HJ.out.2.2.2.1]; exact hkn)⟩
      have hq := HJ.out.2.1
      rw [HJ.out.2.2.2.1] at hq
      obtain ⟨g, hg, cx⟩ := qcell hq hx
      subst hg
      have fx : wr.frozen? ⟨g, k, none⟩ = false := by
        obtain ⟨cur, hc⟩ := own_cells hq rfl
        exact box_free (cs := cur) hc k
      have hx9 : x < 1000000000 := by
        have := List.mem_of_getElem? hx
        rw [HJ.out.2.2.2.2.1] at this
        rcases List.mem_append.1 this with h | h
        · exact HL.out x h
        · have := (List.mem_replicate.1 h).2; omega
      have k0 : (0 : Int) ≤ (k : Int) := by omega
      have k2 : (k : Int) < (n : Int) := by omega
      have b1 : -9223372036854775808 ≤ (x : Int) + 1 := by omega
      have b2 : (x : Int) + 1 < 9223372036854775808 := by omega
      have hgb : g ≠ bt := ta_own hq HJ.out.1 (by decide) rfl
      have HX : Hid (L2[k]? = some x ∧ g ≠ bt ∧ base ≤ g) := ⟨hx, hgb, (hq.lt g rfl).1⟩
      clear hq hx
      go_wp2
      go_end0
      have hbump : bump L k = L2.set k (x + 1) := by
        unfold bump
        have e : k + 1 - L.length = i := by omega
        rw [e, ← HJ.out.2.2.2.2.1]
        congr 1
        have h2 := HX.out.1
        rw [HJ.out.2.2.2.2.1] at h2
        by_cases hkl : k < L.length
        · rw [List.getElem?_append_left hkl] at h2
          rw [List.getD_eq_getElem?_getD, h2]; rfl
        · rw [List.getElem?_append_right (by omega), List.getElem?_replicate] at h2
          split at h2
          · cases h2
            rw [List.getD_eq_getElem?_getD, List.getElem?_eq_none (by omega)]; rfl
          · cases h2
      refine ⟨rfl, ?_, HJ.out.2.2.1.trans ((setCell_turns _ _ _ _).mono fun z _ e => Or.inr (by rw [e]; exact HX.out.2.2))⟩
      rw [hbump]
      refine ⟨some ⟨g, 0, none⟩, vc, ?_, ?_⟩
      · rw [List.length_set, ← HJ.out.2.2.2.1]
        exact (Below.heap_setCell _ _ _ _ (fun e => HX.out.2.1 e.symm)).trans HJ.out.1
      · rw [List.length_set, ← HJ.out.2.2.2.1]
        obtain ⟨hl1, hown⟩ := HJ.out.2.1
        rcases hown with ⟨h0, _⟩ | ⟨g', cap, cur, e1, h3, h4, h5, h6, h7, h8⟩
        · cases h0
        · cases e1
          refine ⟨by simp [qv, HJ.out.2.2.2.1], Or.inr ⟨g, vc, cur.setIfInBounds k (.int .i64 ((x : Int) + 1)), rfl, h3, box_set (cs := cur) h4 k _, h5, h6, by simpa using h7, ?_⟩⟩
          rw [Array.toList_setIfInBounds, List.take_set, h8]
          unfold qv
          rw [List.map_set]
          rfl
end Go.Proofs.YtmeodnkmhakidaaDoor
