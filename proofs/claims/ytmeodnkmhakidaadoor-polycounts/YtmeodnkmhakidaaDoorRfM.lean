/- The document's own matchings: R.matchings. The document's own matchings: R.matchings, one edge behind the other. The document's own matchings: R.Matchings. -/
import Derived.Test.YtmeodnkmhakidaaDoorMatC
import Derived.Test.YtmeodnkmhakidaaDoorRegM
namespace Go.Proofs.YtmeodnkmhakidaaDoor
set_option maxRecDepth 8000
open Go.RowKit Go.Maps
attribute [local go_sem ↓] Go.wp_at_zero Go.wp_at_succ
theorem mC_congrE : ∀ (l : List (Nat × Nat)) {u u' : Nat → Bool} (k : Nat), (∀ e ∈ l, u e.1 = u' e.1 ∧ u e.2 = u' e.2) → mC l u k = mC l u' k
  | [], _, _, _, _ => rfl
  | e :: l, u, u', k, h => by
    have he := h e (by simp)
    have h' : ∀ e ∈ l, u e.1 = u' e.1 ∧ u e.2 = u' e.2 := fun e he => h e (by simp [he])
    rw [mC, mC, mC_congrE l k h', he.1, he.2]
    congr 1
    refine pr_congr (fun j => ?_) k
    rw [mC_congrE l j (u := use2 u e.1 e.2) (u' := use2 u' e.1 e.2) (fun d hd => by
      have := h' d hd
      exact ⟨by show (u d.1 || _ || _) = (u' d.1 || _ || _); rw [this.1], by show (u d.2 || _ || _) = (u' d.2 || _ || _); rw [this.2]⟩)]
theorem mtR_len : ∀ (l : List (Nat × Nat)) (u : Nat → Bool) (n : Nat), (mtR l u n).length ≤ 2 ^ l.length
  | [], _, _ => Nat.le_refl _
  | e :: l, u, n => by
    have h1 := mtR_len l u n
    unfold mtR
    rw [List.length_append, List.length_cons, Nat.pow_succ]
    split
    · have h2 := mtR_len l (fun v => u v || v == e.1 || v == e.2) (n + 1)
      omega
    · simp; omega
theorem mtR_mem : ∀ (l : List (Nat × Nat)) (u : Nat → Bool) (n : Nat), ∀ k ∈ mtR l u n, k ≤ n + l.length
  | [], _, _, k, h => by simp [mtR] at h; omega
  | e :: l, u, n, k, h => by
    unfold mtR at h
    rw [List.length_cons]
    rcases List.mem_append.1 h with h | h
    · have := mtR_mem l u n k h; omega
    · split at h
      · have := mtR_mem l _ (n + 1) k h; omega
      · cases h
/-- The matchings of a good graph, told by both. -/
theorem mtK_mtR {es : List (Nat × Nat)} {N c : Nat} {ks : List Nat} (h : MtK es (2 ^ N - 1) 0 c ks) (hes : ∀ e ∈ es, e.1 < N ∧ e.2 < N) : ks.foldl bump [] = (mtR es (fun _ => false) 0).foldl bump [] := by
  refine tally_eq fun i => ?_
  rw [h.1 i, mtR_count, if_pos (Nat.zero_le _), if_pos (Nat.zero_le _)]
  refine mC_congrE es _ fun e he => ?_
  have := hes e he
  simp [Nat.testBit_two_pow_sub_one, this]
theorem EdgesAt.turnsA {w w' : World} {ao : Option Addr} {n cap : Nat} {es : List Pair} {M : Nat → Prop} (h : EdgesAt w (.slice ao n cap) es) (ht : Turns M w w') (hm : ∀ a : Addr, ao = some a → ¬ M a.block) : EdgesAt w' (.slice ao n cap) es := by
  obtain ⟨ao', cap', h1, h2, h3, h4⟩ := h
  cases h1
  refine ⟨ao, cap, rfl, h2, h3, fun k hk => ?_⟩
  obtain ⟨b, off, e, c1, c2⟩ := h4 k hk
  exact ⟨b, off, e, cell_turns c1 ht (hm ⟨b, off, none⟩ e), cell_turns c2 ht (hm ⟨b, off, none⟩ e)⟩
theorem TA.turns {w w' : World} {base bt : Nat} {t : TypeId} {L : List Nat} {M : Nat → Prop} (h : TA w base bt t L) (ht : Turns M w w') (h1 : ¬ M bt) (h2 : ∀ x, base ≤ x → ¬ M x) : TA w' base bt t L := by
  obtain ⟨vo, vc, hB, hO⟩ := h
  refine ⟨vo, vc, (ht.block bt (lt_of_block hB) h1).trans hB, ownsRow_blocks hO fun b hb => ht.block b ?_ (h2 b (hO.lt b hb).1)⟩
  exact (hO.lt b hb).2
set_option maxHeartbeats 4000000 in
theorem mtN_call {w : World} {base bt ub N k cap : Nat} {ao : Option Addr} {L : List Nat} (h : TA w base bt 29 L) (hk : k ≤ 100) (hl : L.length ≤ 101) (hL : ∀ x ∈ L, x < 1000000000) (hb : base ≤ w.heap.size) :
    Calls Tryd.prog 28 #[.slice ao 0 cap, sl ub N, .int .i64 (k : Int), ptr bt] w fun e w' => e = .returned (.tuple #[]) ∧ TA w' base bt 29 (bump L k) ∧ Turns (FrT base bt) w w' := by
  obtain ⟨i3, hi3, hy0, hy1, hy2⟩ := info_parts Tryd.info3
  have HH : Hid (TA w base bt 29 L) := h
  have HL : Hid (∀ x ∈ L, x < 1000000000) := hL
  clear h hL
  go_enter Tryd.func28, Tryd.ntmps28
  go_wp2_with (fail)
  go_loopg [] (k + 1 - L.length) (fun g wz => ∃ i : Nat, i + g = k + 1 - L.length ∧ Hid (TA wz base bt 29 (L ++ List.replicate i 0) ∧ Turns (FrT base bt) w wz))
  case atStart => exact ⟨0, by omega, by rw [List.replicate_zero, List.append_nil]; exact HH.out, Turns.refl _ _⟩
  case round =>
    obtain ⟨i, hi, hJ⟩ := hrel
    obtain ⟨L2, hL2⟩ : ∃ L2, L2 = L ++ List.replicate i 0 := ⟨_, rfl⟩
    rw [← hL2] at hJ
    have hlen : L2.length = L.length + i := by rw [hL2]; simp
    obtain ⟨n, hn⟩ : ∃ n, n = L2.length := ⟨_, rfl⟩
    obtain ⟨⟨vo, vc, hB, hO⟩, hT⟩ := hJ.out
    rw [← hn] at hB hO
    have cb : wr.cell? ⟨bt, 0, none⟩ = some (.slice vo n vc) := box_cell (i := 0) hB rfl
    have fb := one_free hB
    have HJ : Hid (One wr bt (.slice vo n vc) 29 ∧ wr.ownsRow base 3 1 (.slice vo n vc) n (qv L2) ∧ Turns (FrT base bt) w wr ∧ n = L2.length ∧ L2 = L ++ List.replicate i 0 ∧ base ≤ wr.heap.size) := ⟨hB, hO, hT, hn, hL2, Nat.le_trans hb hT.size⟩
    have hn1 : n ≤ L.length + i := by omega
    have hn2 : L.length + i ≤ n := by omega
    have hn3 : n ≤ 202 := by omega
    clear hB hO hT hJ hL2 hn hlen
    by_cases hnk : n ≤ k
    · have k1 : decide ((n : Int) ≤ (k : Int)) = true := by simp; omega
      go_wp2_with (at_builtin; refine wpList_append_own _ rfl _ _ 29 rfl base 3 i3 (.int .i64 0) 1 8 Tryd.underlying29 hi3 hy0 hy1 hy2 rfl (by decide) _ _ _ rfl (HJ.out.2.1.alloc _) ⟨wr.heap.size, 0, none⟩ 1 1 [.int .i64 0] rfl rfl ?n1 ?n2 ?n3 ?n4 ?n5 ?_)
      case n1 =>
        intro j u hj
        match j, hj with
        | 0, hj => simp at hj; subst hj; simp [Addr.add]
      case n2 => intro u hu; simp at hu; subst hu; rfl
      case n3 => unfold maxLen; omega
      case n4 => omega
      case n5 => have := HJ.out.2.2.2.2.2; simp; omega
      intro v' w3 hown hgrow _
      obtain ⟨vo', vc', rfl⟩ := form_row hown
      have hne : bt < wr.heap.size := lt_of_block HJ.out.1
      have hB3 : One w3 bt (.slice vo n vc) 29 := by
        refine (hgrow.block bt (by simp; omega) (fun e => ?_)).trans (one_alloc' HJ.out.1 _)
        have hg := e.symm
        rw [HJ.out.2.2.2.1] at hg
        have ho := HJ.out.2.1
        rw [HJ.out.2.2.2.1] at ho
        exact ta_own ho HJ.out.1 (by decide) hg rfl
      have cb3 : w3.cell? ⟨bt, 0, none⟩ = some (.slice vo n vc) := box_cell (i := 0) hB3 rfl
      have fb3 := one_free hB3
      have HG : Hid (One w3 bt (.slice vo n vc) 29 ∧ w3.ownsRow base 3 1 (.slice vo' (n + 1) vc') (n + 1) (qv (L2 ++ [0])) ∧ Turns (FrT base bt) w w3) := by
        refine ⟨hB3, by rw [qv_app]; exact hown, HJ.out.2.2.1.trans ?_⟩
        refine ⟨hgrow.os, hgrow.tape, hgrow.output, by have := hgrow.size; simp at this; omega, fun b hbl hM => ?_⟩
        rw [hgrow.block b (by simp; omega) (fun e => hM (Or.inr (HJ.out.2.1.lt b e.symm).1))]
        exact Below.heap_alloc _ _ _ hbl
      clear hown hgrow hB3
      go_wp2
      go_roundg (k + 1 - L.length - (i + 1))
      case measure => omega
      case rel =>
        refine ⟨i + 1, by omega, ?_, HG.out.2.2.trans ((setCell_turns _ _ _ _).mono fun x _ e => Or.inl e)⟩
        have e2 : L ++ List.replicate (i + 1) 0 = L2 ++ [0] := by rw [HJ.out.2.2.2.2.1, List.replicate_succ', List.append_assoc]
        have hl2 : (L2 ++ [0]).length = n + 1 := by rw [List.length_append, ← HJ.out.2.2.2.1]; rfl
        rw [e2]
        refine ⟨vo', vc', ?_, ?_⟩
        · rw [hl2]; exact box_set HG.out.1 0 _
        · rw [hl2]
          refine ownsRow_blocks HG.out.2.1 (fun b hbk => Below.heap_setCell _ _ _ _ (fun e => ?_))
          have ho := HG.out.2.1
          rw [← hl2] at ho hbk
          exact ta_own ho HG.out.1 (by decide) hbk e
    · have k1 : decide ((n : Int) ≤ (k : Int)) = false := by simp; omega
      have hkn : k < n := by omega
      obtain ⟨x, hx⟩ : ∃ x, L2[k]? = some x := ⟨_, List.getElem?_eq_getElem (by rw [← HJ.out.2.2.2.1]; exact hkn)⟩
      have hq := HJ.out.2.1
      rw [HJ.out.2.2.2.1] at hq
      obtain ⟨g, hg, cx⟩ := qcell hq hx
      subst hg
      have fx : wr.frozen? ⟨g, k, none⟩ = false := by
        obtain ⟨cur, hc⟩ := own_cells hq rfl
        exact box_free (cs := cur) hc k
      have hx9 : x < 1000000000 := by
        have := List.mem_of_getElem? hx
        rw [HJ.out.2.2.2.2.1] at this
        rcases List.mem_append.1 this with h | h
        · exact HL.out x h
        · have := (List.mem_replicate.1 h).2; omega
      have k0 : (0 : Int) ≤ (k : Int) := by omega
      have k2 : (k : Int) < (n : Int) := by omega
      have b1 : -9223372036854775808 ≤ (x : Int) + 1 := by omega
      have b2 : (x : Int) + 1 < 9223372036854775808 := by omega
      have hgb : g ≠ bt := ta_own hq HJ.out.1 (by decide) rfl
      have HX : Hid (L2[k]? = some x ∧ g ≠ bt ∧ base ≤ g) := ⟨hx, hgb, (hq.lt g rfl).1⟩
      clear hq hx
      go_wp2
      refine bodyPost_ret (results_none rfl _ _ _) rfl ?_
      have hbump : bump L k = L2.set k (x + 1) := by
        unfold bump
        have e : k + 1 - L.length = i := by omega
        rw [e, ← HJ.out.2.2.2.2.1]
        congr 1
        have h2 := HX.out.1
        rw [HJ.out.2.2.2.2.1] at h2
        by_cases hkl : k < L.length
        · rw [List.getElem?_append_left hkl] at h2
          rw [List.getD_eq_getElem?_getD, h2]; rfl
        · rw [List.getElem?_append_right (by omega), List.getElem?_replicate] at h2
          split at h2
          · cases h2
            rw [List.getD_eq_getElem?_getD, List.getElem?_eq_none (by omega)]; rfl
          · cases h2
      refine ⟨rfl, ?_, HJ.out.2.2.1.trans ((setCell_turns _ _ _ _).mono fun z _ e => Or.inr (by rw [e]; exact HX.out.2.2))⟩
      rw [hbump]
      refine ⟨some ⟨g, 0, none⟩, vc, ?_, ?_⟩
      · rw [List.length_set, ← HJ.out.2.2.2.1]
        exact (Below.heap_setCell _ _ _ _ (fun e => HX.out.2.1 e.symm)).trans HJ.out.1
      · rw [List.length_set, ← HJ.out.2.2.2.1]
        obtain ⟨hl1, hown⟩ := HJ.out.2.1
        rcases hown with ⟨h0, _⟩ | ⟨g', cap, cur, e1, h3, h4, h5, h6, h7, h8⟩
        · cases h0
        · cases e1
          refine ⟨by simp [qv, HJ.out.2.2.2.1], Or.inr ⟨g, vc, cur.setIfInBounds k (.int .i64 ((x : Int) + 1)), rfl, h3, box_set (cs := cur) h4 k _, h5, h6, by simpa using h7, ?_⟩⟩
          rw [Array.toList_setIfInBounds, List.take_set, h8]
          unfold qv
          rw [List.map_set]
          rfl
end Go.Proofs.YtmeodnkmhakidaaDoor

namespace Go.Proofs.YtmeodnkmhakidaaDoor
set_option maxRecDepth 8000
open Go.RowKit Go.Maps
attribute [local go_sem ↓] Go.wp_at_zero Go.wp_at_succ
theorem fold_bnd {ks L : List Nat} {a m : Nat} (h : ∀ i, L.getD i 0 + (a + ks.length) ≤ m) : ∀ i, (ks.foldl bump L).getD i 0 + a ≤ m := fun i => by
  have := fold_get ks L i
  have := h i
  omega
theorem getD_mem {L : List Nat} {m : Nat} (h : ∀ i, L.getD i 0 + 1 ≤ m) : ∀ x ∈ L, x < m := fun x hx => by
  obtain ⟨i, hi, rfl⟩ := List.getElem_of_mem hx
  have := h i
  rw [List.getD_eq_getElem?_getD, List.getElem?_eq_getElem hi] at this
  exact this
/-- Where the edges lie: not in what is turned. -/
def OffE (base bt ub : Nat) (ao : Option Addr) : Prop := ∀ a : Addr, ao = some a → a.block ≠ bt ∧ a.block ≠ ub ∧ a.block < base
abbrev FrM (base bt ub : Nat) : Nat → Prop := fun x => x = ub ∨ x = bt ∨ base ≤ x
theorem edges_at0 {w : World} {ao : Option Addr} {m cap : Nat} {d : E2} {l : List E2} (h : EdgesAt w (.slice ao (m + 1) cap) (pzT (d :: l))) : ∃ b off, ao = some ⟨b, off, none⟩ ∧ w.cell? ⟨b, off, none⟩ = some (.int .i64 (d.1 : Int)) ∧ w.cell? ⟨b, off + 1, none⟩ = some (.int .i64 (d.2 : Int)) := by
  obtain ⟨ao', cap', h1, h2, h3, h4⟩ := h
  cases h1
  obtain ⟨b, off, e, c1, c2⟩ := h4 0 (by simp [pzT])
  exact ⟨b, off, e, by simpa [pzT] using c1, by simpa [pzT] using c2⟩
theorem edges_tail {w : World} {ao' : Option Addr} {gb off m cap : Nat} {d : E2} {l : List E2} (hao : ao' = (if cap = 1 then some ⟨gb, off, none⟩ else some ⟨gb, off + 2, none⟩)) (hm : m = l.length) (hc : m + 1 ≤ cap) (h : EdgesAt w (.slice (some ⟨gb, off, none⟩) (m + 1) cap) (pzT (d :: l))) : EdgesAt w (.slice ao' m (cap - 1)) (pzT l) := by
  obtain ⟨ao2, cap', h1, h2, h3, h4⟩ := h
  injection h1 with e1 e2 e3
  subst e1
  have hl : (pzT l).length = m := by simp [pzT, hm]
  rw [← e2] at h2
  refine ⟨ao', cap - 1, by rw [hl], by rw [hl]; omega, fun e he => h3 e (by simp [pzT] at he ⊢; exact Or.inr he), fun k hk => ?_⟩
  rw [hl] at hk
  rw [if_neg (by omega)] at hao
  obtain ⟨b, o, e, c1, c2⟩ := h4 (k + 1) (by rw [← e2]; omega)
  cases e
  have e1 : off + (k + 1) * 2 = off + 2 + k * 2 := by omega
  rw [e1] at c1 c2
  exact ⟨gb, off + 2, hao, by simpa [pzT] using c1, by simpa [pzT] using c2⟩
set_option maxHeartbeats 16000000 in
theorem matR_call {base bt ub N : Nat} (hub : ub < base) (hne : ub ≠ bt) : ∀ (l : List E2) (w : World) (used : Nat → Bool) (n cap : Nat) (ao : Option Addr) (L : List Nat),
    EdgesAt w (.slice ao l.length cap) (pzT l) → l.length ≤ cap → (l ≠ [] → OffE base bt ub ao) → (∀ e ∈ l, e.1 < N ∧ e.2 < N) → RowB w ub N used → TA w base bt 29 L → n + l.length ≤ 100 → L.length ≤ 101 → (∀ i, L.getD i 0 + 2 ^ l.length ≤ 1000000000) → base ≤ w.heap.size →
    Calls Tryd.prog 28 #[.slice ao l.length cap, sl ub N, .int .i64 (n : Int), ptr bt] w fun e w' => e = .returned (.tuple #[]) ∧ TA w' base bt 29 ((mtR l used n).foldl bump L) ∧ RowB w' ub N used ∧ Turns (FrM base bt ub) w w' := by
  intro l
  induction l with
  | nil =>
    intro w used n cap ao L hE hcap hoff hes hU hT hn hl hL hb
    refine (mtN_call hT (by simpa using hn) hl (getD_mem (by simpa using hL)) hb).mono ?_
    rintro e w' ⟨rfl, h1, h2⟩
    exact ⟨rfl, h1, hU.turns h2 (fun h => by rcases h with h | h <;> omega), h2.mono fun x _ h => Or.inr h⟩
  | cons d l ih =>
    intro w used n cap ao L hE hcap hoff hes hU hT hn hl hL hb
    replace hoff := hoff (by simp)
    obtain ⟨m, hm⟩ : ∃ m, m = l.length := ⟨_, rfl⟩
    rw [List.length_cons] at hE hcap hn hL ⊢
    rw [← hm] at hE hcap hn hL ⊢
    simp only [← hm] at ih
    obtain ⟨gb, off, rfl, c0, c1⟩ := edges_at0 hE
    obtain ⟨a, b⟩ := d
    have hab := hes (a, b) (by simp)
    simp only at c0 c1 hab
    have HI : Hid (∀ (w : World) (used : Nat → Bool) (n : Nat) (L : List Nat) (ao' : Option Addr), ao' = (if cap = 1 then some ⟨gb, off, none⟩ else some ⟨gb, off + 2, none⟩) → EdgesAt w (.slice (some ⟨gb, off, none⟩) (m + 1) cap) (pzT ((a, b) :: l)) → RowB w ub N used → TA w base bt 29 L → n + m ≤ 100 → L.length ≤ 101 → (∀ i, L.getD i 0 + 2 ^ m ≤ 1000000000) → base ≤ w.heap.size →
        Calls Tryd.prog 28 #[.slice ao' m (cap - 1), sl ub N, .int .i64 (n : Int), ptr bt] w fun e w' => e = .returned (.tuple #[]) ∧ TA w' base bt 29 ((mtR l used n).foldl bump L) ∧ RowB w' ub N used ∧ Turns (FrM base bt ub) w w') := by
      intro w used n L ao' hao hE' hU' hT' hn' hl' hL' hb'
      refine ih w used n (cap - 1) ao' L (edges_tail hao hm hcap hE') (by omega) (fun _ x hx => ?_) (fun e he => hes e (by simp [he])) hU' hT' hn' hl' hL' hb'
      rw [hao] at hx
      have := hoff _ rfl
      split at hx <;> cases hx <;> exact this
    have HM : Hid (EdgesAt w (.slice (some ⟨gb, off, none⟩) (m + 1) cap) (pzT ((a, b) :: l)) ∧ OffE base bt ub (some ⟨gb, off, none⟩) ∧ RowB w ub N used ∧ TA w base bt 29 L ∧ (∀ i, L.getD i 0 + 2 ^ (m + 1) ≤ 1000000000) ∧ m = l.length ∧ base ≤ w.heap.size ∧ L.length ≤ 101) := ⟨hE, hoff, hU, hT, hL, hm, hb, hl⟩
    have k0 : (((m : Int) + 1) == 0) = false := by simp; omega
    have k1 : (1 : Int) ≤ (m : Int) + 1 := by omega
    have k2 : m + 1 ≤ cap := hcap
    clear ih hE hoff hU hT hL hm hes hb hl hcap
    have k3 : (0 : Int) ≤ (a : Int) := by omega
    have k4 : (0 : Int) ≤ (b : Int) := by omega
    have k5 : (a : Int) < (N : Int) := by omega
    have k6 : (b : Int) < (N : Int) := by omega
    have HA : Hid (a < N ∧ b < N) := hab
    have a1 : a < N := hab.1
    have a2 : b < N := hab.2
    have k7 : n + (m + 1) ≤ 100 := hn
    have HI2 : Hid (∀ (w : World) (used : Nat → Bool) (L : List Nat) (ao' : Option Addr), ao' = (if cap = 1 then some ⟨gb, off, none⟩ else some ⟨gb, off + 2, none⟩) → EdgesAt w (.slice (some ⟨gb, off, none⟩) (m + 1) cap) (pzT ((a, b) :: l)) → RowB w ub N used → TA w base bt 29 L → L.length ≤ 101 → (∀ i, L.getD i 0 + 2 ^ m ≤ 1000000000) → base ≤ w.heap.size →
        Calls Tryd.prog 28 #[.slice ao' m (cap - 1), sl ub N, .int .i64 ((n : Int) + 1), ptr bt] w fun e w' => e = .returned (.tuple #[]) ∧ TA w' base bt 29 ((mtR l used (n + 1)).foldl bump L) ∧ RowB w' ub N used ∧ Turns (FrM base bt ub) w w') := by
      intro w used L ao' hao hE' hU' hT' hl' hL' hb'
      exact HI.out w used (n + 1) L ao' hao hE' hU' hT' (by omega) hl' hL' hb'
    have HP : Hid (2 ^ (m + 1) = 2 ^ m + 2 ^ m) := by show 2 ^ (m + 1) = 2 ^ m + 2 ^ m; rw [Nat.pow_succ]; omega
    clear hab hn
    obtain ⟨ao', hao⟩ : ∃ ao' : Option Addr, ao' = (if cap = 1 then some ⟨gb, off, none⟩ else some ⟨gb, off + 2, none⟩) := ⟨_, rfl⟩
    have HO : Hid (ao' = (if cap = 1 then some ⟨gb, off, none⟩ else some ⟨gb, off + 2, none⟩)) := hao
    have HX : Hid (∀ (A : World) (n : Nat), n ≤ 100 → 0 < A.heap.size ∨ True) := fun _ _ _ => Or.inr trivial
    clear HX
    obtain ⟨cp, hcp⟩ : ∃ cp, cp = cap - 1 := ⟨_, rfl⟩
    have C1 : Hid (Calls Tryd.prog 28 #[.slice ao' m cp, sl ub N, .int .i64 (n : Int), ptr bt] w fun e w' => e = .returned (.tuple #[]) ∧ TA w' base bt 29 ((mtR l used n).foldl bump L) ∧ RowB w' ub N used ∧ Turns (FrM base bt ub) w w') :=
      hcp ▸ HI.out w used n L ao' hao HM.out.1 HM.out.2.2.1 HM.out.2.2.2.1 (by omega) HM.out.2.2.2.2.2.2.2 (fun i => by have := HM.out.2.2.2.2.1 i; have := HP.out; have := Nat.two_pow_pos m; omega) HM.out.2.2.2.2.2.2.1
    have C2 : Hid (∀ (W W5 : World), Turns (FrM base bt ub) w W → TA W base bt 29 ((mtR l used n).foldl bump L) → RowB W ub N used → Turns (fun x => x = ub) W W5 → RowB W5 ub N (fun v => used v || v == a || v == b) →
        Calls Tryd.prog 28 #[.slice ao' m cp, sl ub N, .int .i64 ((n : Int) + 1), ptr bt] W5 fun e w' => e = .returned (.tuple #[]) ∧ TA w' base bt 29 ((mtR l (fun v => used v || v == a || v == b) (n + 1)).foldl bump ((mtR l used n).foldl bump L)) ∧ RowB w' ub N (fun v => used v || v == a || v == b) ∧ Turns (FrM base bt ub) W5 w') := by
      intro W W5 t1 hT1 hU1 t2 hU2
      rw [hcp]
      have hoff := HM.out.2.1 _ rfl
      simp only at hoff
      refine HI2.out W5 _ _ ao' hao ((HM.out.1.turnsA t1 (fun x hx => ?_)).turnsA t2 (fun x hx => ?_)) hU2 (hT1.turns t2 (fun h => hne h.symm) (fun x hx h => by omega)) (fold_len HM.out.2.2.2.2.2.2.2 (fun k hk => ?_)) (fold_bnd fun i => ?_) (Nat.le_trans HM.out.2.2.2.2.2.2.1 (Nat.le_trans t1.size t2.size))
      · cases hx; rintro (h | h | h)
        · exact hoff.2.1 h
        · exact hoff.1 h
        · simp only at h; omega
      · cases hx; exact hoff.2.1
      · have := mtR_mem l used n k hk
        have := HM.out.2.2.2.2.2.1
        omega
      · have := mtR_len l used n
        rw [← HM.out.2.2.2.2.2.1] at this
        have := HM.out.2.2.2.2.1 i
        have := HP.out
        omega
    clear HI HI2 hao
    have hao2 : (if cap = 1 then (some ⟨gb, off, none⟩ : Option Addr) else some ⟨gb, off + 2, none⟩) = ao' := HO.out.symm
    have e9 : ((m : Int) + 1 - 1).toNat = m := by omega
    have HF : Hid (¬ FrM base bt ub gb) := by
      have hoff := HM.out.2.1 _ rfl
      simp only at hoff
      show ¬ (gb = ub ∨ gb = bt ∨ base ≤ gb)
      omega
    go_enter Tryd.func28, Tryd.ntmps28
    by_cases hc1 : cap = 1
    all_goals
      simp only [hc1, if_true, if_false] at hao2
      subst hao2
      try simp only [hc1, Nat.sub_self] at hcp
      subst hcp
      go_upto_region 5 with (go_at_call 28; refine Calls.mono C1.out ?_; rintro e W2 ⟨rfl, g1, g2, g3⟩)
      have d0 := cell_turns c0 g3 HF.out
      have d1 := cell_turns c1 g3 HF.out
      have HW : Hid (TA W2 base bt 29 ((mtR l used n).foldl bump L) ∧ RowB W2 ub N used ∧ Turns (FrM base bt ub) w W2) := ⟨g1, g2, g3⟩
      clear g1 g2 g3 c0 c1 C1
      go_quiet (fail)
      have hD := drewN_below W2 nq
      generalize W2.drewN nq = W3 at *
      have HW3 : Hid (TA W3 base bt 29 ((mtR l used n).foldl bump L) ∧ RowB W3 ub N used ∧ Turns (FrM base bt ub) w W3) :=
        ⟨HW.out.1.turns (Turns.of_below hD fun _ => False) (fun h => h) (fun _ _ h => h), HW.out.2.1.block (hD.block _ HW.out.2.1.lt), HW.out.2.2.trans (Turns.of_below hD _)⟩
      clear HW hD d0 d1
      have r1 := HW3.out.2.1.cell a1
      have r2 := HW3.out.2.1.cell a2
      have f1 := HW3.out.2.1.free a
      have f2 := HW3.out.2.1.free b
      by_cases hua : used a = true
      · rw [hua] at r1
        go_wp2
        go_end0
        refine ⟨rfl, ?_, HW3.out.2.1, HW3.out.2.2⟩
        unfold mtR
        rw [if_neg (fun h => by rw [hua] at h; cases h.1), List.append_nil]
        exact HW3.out.1
      · have hua' : used a = false := by simpa using hua
        rw [hua'] at r1
        by_cases hub' : used b = true
        · rw [hub'] at r2
          go_wp2
          go_end0
          refine ⟨rfl, ?_, HW3.out.2.1, HW3.out.2.2⟩
          unfold mtR
          rw [if_neg (fun h => by rw [hub'] at h; cases h.2), List.append_nil]
          exact HW3.out.1
        · have hub2 : used b = false := by simpa using hub'
          rw [hub2] at r2
          have r3 := (HW3.out.2.1.set a).cell a2
          have f3 := (HW3.out.2.1.set a).free b
          go_upto_region 8 with (fail)
          have hU5 : RowB ((W3.setCell ⟨ub, a, none⟩ (.bool true)).setCell ⟨ub, b, none⟩ (.bool true)) ub N (fun v => used v || v == a || v == b) :=
            ((HW3.out.2.1.set a).set b).congr fun j _ => by cases used j <;> cases j == a <;> cases j == b <;> rfl
          have t5 : Turns (fun x => x = ub) W3 ((W3.setCell ⟨ub, a, none⟩ (.bool true)).setCell ⟨ub, b, none⟩ (.bool true)) := ((setCell_turns _ _ _ _).mono fun _ _ e => e).trans ((setCell_turns _ _ _ _).mono fun _ _ e => e)
          generalize ((W3.setCell ⟨ub, a, none⟩ (.bool true)).setCell ⟨ub, b, none⟩ (.bool true)) = W5 at *
          have HW5 : Hid (RowB W5 ub N (fun v => used v || v == a || v == b) ∧ Turns (fun x => x = ub) W3 W5) := ⟨hU5, t5⟩
          clear hU5 t5 r1 r2 f1 f2 r3 f3
          go_upto_region 9 with (go_at_call 28; refine Calls.mono (C2.out W3 W5 HW3.out.2.2 HW3.out.1 HW3.out.2.1 HW5.out.2 HW5.out.1) ?_; rintro e W6 ⟨rfl, g1, g2, g3⟩)
          have f1 := g2.free a
          have f2 := g2.free b
          have HW6 : Hid (TA W6 base bt 29 ((mtR l (fun v => used v || v == a || v == b) (n + 1)).foldl bump ((mtR l used n).foldl bump L)) ∧ RowB W6 ub N (fun v => used v || v == a || v == b) ∧ Turns (FrM base bt ub) w W6) := ⟨g1, g2, (HW3.out.2.2.trans (HW5.out.2.mono fun _ _ h => Or.inl h)).trans g3⟩
          have s1 := g2.cell a1
          have s2 := g2.cell a2
          have s3 := (g2.put a false).cell a2
          have f3 := (g2.put a false).free b
          clear g1 g2 g3 C2
          go_wp2
          go_end0
          have t7 : Turns (fun x => x = ub) W6 ((W6.setCell ⟨ub, a, none⟩ (.bool false)).setCell ⟨ub, b, none⟩ (.bool false)) := ((setCell_turns _ _ _ _).mono fun _ _ e => e).trans ((setCell_turns _ _ _ _).mono fun _ _ e => e)
          refine ⟨rfl, ?_, ((HW6.out.2.1.put a false).put b false).congr (fun j _ => ?_), HW6.out.2.2.trans (t7.mono fun _ _ h => Or.inl h)⟩
          · unfold mtR
            rw [if_pos ⟨hua', hub2⟩, List.foldl_append]
            exact HW6.out.1.turns t7 (fun h => hne h.symm) (fun x hx h => by omega)
          · by_cases h1 : j = b
            · subst h1; simp [hub2]
            · by_cases h2 : j = a
              · subst h2; simp [hua']
              · have e1 : (j == b) = false := by simpa using h1
                have e2 : (j == a) = false := by simpa using h2
                rw [if_neg h1, if_neg h2, e1, e2, Bool.or_false, Bool.or_false]
end Go.Proofs.YtmeodnkmhakidaaDoor

namespace Go.Proofs.YtmeodnkmhakidaaDoor
set_option maxRecDepth 8000
open Go.RowKit Go.Maps
attribute [local go_sem ↓] Go.wp_at_zero Go.wp_at_succ
theorem make57 (N : Nat) (hN : N ≤ 1000) (w : World) : (Instr.makeSlice 57 (.int .i64 (N : Int)) (.int .i64 (N : Int))).run Tryd.prog w = .ok (.slice (some ⟨w.heap.size, 0, none⟩) N N) (w.alloc (.cells (rep N (.bool false)) 4)) := by
  have hx : (Tryd.prog.info? 4).map (fun i => (i.zero, i.size, i.bytes)) = some (some (.bool false), 1, 1) := by kernel_rfl
  obtain ⟨i4, hi4, hy0, hy1, hy2⟩ := info_parts hx
  have hr := run_make (P := Tryd.prog) w 57 4 i4 (.bool false) Tryd.underlying57 hi4 hy0 .i64 .i64 N N (by omega) (Int.le_refl _) (by rw [hy2]; omega) (by omega)
  simpa [hy1, Value.cells] using hr
theorem RowB.under {w w' : World} {b m : Nat} {q : Nat → Bool} (h : RowB w b m q) (hb : Below w.heap.size w w') : RowB w' b m q := h.block (hb.block b h.lt)
def VM (N : Nat) (b1 B : Nat) (ev : Value) : Nat → Value → World → Prop
  | 0, x, _ => x = .pointer (some ⟨b1, 1, none⟩)
  | 1, x, _ => x = ev
  | 2, x, _ => x = .pointer (some ⟨b1, 0, none⟩)
  | 3, x, _ => x = .int .i64 (N : Int)
  | 4, x, w => ∃ ub, x = sl ub N ∧ B ≤ ub ∧ RowB w ub N (fun _ => false)
  | _, _, _ => N = N
theorem VM_mono {N b1 B : Nat} {ev : Value} : ∀ i x w w', VM N b1 B ev i x w → Below w.heap.size w w' → VM N b1 B ev i x w' := fun i x w w' h hb => by
  match i with
  | 0 => exact h
  | 1 => exact h
  | 2 => exact h
  | 3 => exact h
  | 4 => obtain ⟨ub, h1, h2, h3⟩ := h; exact ⟨ub, h1, h2, h3.under hb⟩
  | n + 5 => rfl
set_option maxHeartbeats 16000000 in
theorem refMat_call {w : World} {N : Nat} {ao : Option Addr} {cap : Nat} {es : List E2} (hE : EdgesAt w (.slice ao es.length cap) (pzT es)) (hcap : es.length ≤ cap) (hes : ∀ e ∈ es, e.1 < N ∧ e.2 < N) (hN : N ≤ 12) (hm : es.length ≤ 14) :
    Calls Tryd.prog 14 #[.agg #[.int .i64 (N : Int), .slice ao es.length cap]] w fun e w' => (∃ vo vc, e = .returned (.slice vo ((mtR es (fun _ => false) 0).foldl bump []).length vc) ∧ w'.ownsRow w.heap.size 3 1 (.slice vo ((mtR es (fun _ => false) 0).foldl bump []).length vc) ((mtR es (fun _ => false) 0).foldl bump []).length (qv ((mtR es (fun _ => false) 0).foldl bump []))) ∧ Below w.heap.size w w' := by
  obtain ⟨ml, hml⟩ : ∃ ml, ml = es.length := ⟨_, rfl⟩
  rw [← hml] at hE hcap hm ⊢
  obtain ⟨T, hT⟩ : ∃ T, T = (mtR es (fun _ => false) 0).foldl bump [] := ⟨_, rfl⟩
  rw [← hT]
  have C28 : Hid (∀ (A : World) (ub : Nat), Below w.heap.size w A → One A (w.heap.size + 1) (.slice none 0 0) 29 → w.heap.size + 2 ≤ ub → RowB A ub N (fun _ => false) →
      Calls Tryd.prog 28 #[.slice ao ml cap, sl ub N, .int .i64 0, ptr (w.heap.size + 1)] A fun e w' => e = .returned (.tuple #[]) ∧ TA w' A.heap.size (w.heap.size + 1) 29 T ∧ Below w.heap.size w w' ∧ w.heap.size ≤ A.heap.size) := by
    intro A ub hA hO hub hU
    have hlt := hU.lt
    have h := matR_call (base := A.heap.size) (bt := w.heap.size + 1) (ub := ub) (N := N) hlt (by omega) es A (fun _ => false) 0 cap ao [] (by rw [← hml]; exact hE.below hA) (by rw [← hml]; exact hcap) (fun hne x hx => ?_) hes hU ⟨none, 0, hO, World.ownsRow_nil _ _ _ _⟩ (by omega) (by simp) (fun i => ?_) (Nat.le_refl _)
    · rw [← hml] at h
      refine h.mono ?_
      rintro e w' ⟨rfl, h1, _, h3⟩
      refine ⟨rfl, by rw [hT]; exact h1, ?_, hA.size⟩
      exact h3.below hA hA.size (fun k hk => by have := hA.size; rcases hk with h | h | h <;> omega)
    · subst hx
      obtain ⟨d, l, rfl⟩ := List.exists_cons_of_ne_nil hne
      rw [hml, List.length_cons] at hE
      obtain ⟨b, off, e, c1, _⟩ := edges_at0 hE
      cases e
      have q1 : b < w.heap.size := World.block_lt_of_cell? w _ c1
      have q2 := hA.size
      show b ≠ w.heap.size + 1 ∧ b ≠ ub ∧ b < A.heap.size
      omega
    · have : 2 ^ es.length ≤ 2 ^ 14 := Nat.pow_le_pow_right (by omega) (by omega)
      have e : (2 : Nat) ^ 14 = 16384 := rfl
      simp
      omega
  have HT : Hid (T = (mtR es (fun _ => false) 0).foldl bump []) := hT
  clear hE hes hT hml
  go_enter Tryd.func14, Tryd.ntmps14
  go_upto_region 2 with (fail)
  have t1 : Two ((w.alloc (Obj.cells #[.int .i64 (N : Int), .slice ao ml cap] 24)).alloc (Obj.cells #[.slice none 0 0] 29)) w.heap.size (.int .i64 (N : Int)) (.slice ao ml cap) 24 := two_alloc (two_new _ _ _ _) _
  have t3 : One ((w.alloc (Obj.cells #[.int .i64 (N : Int), .slice ao ml cap] 24)).alloc (Obj.cells #[.slice none 0 0] 29)) (w.heap.size + 1) (.slice none 0 0) 29 := by
    have h := heap_alloc_new (w.alloc (Obj.cells #[.int .i64 (N : Int), .slice ao ml cap] 24)) (Obj.cells #[.slice none 0 0] 29)
    have e : (w.alloc (Obj.cells #[.int .i64 (N : Int), .slice ao ml cap] 24)).heap.size = w.heap.size + 1 := by simp
    rw [e] at h
    exact h
  have hB0 : Below w.heap.size w ((w.alloc (Obj.cells #[.int .i64 (N : Int), .slice ao ml cap] 24)).alloc (Obj.cells #[.slice none 0 0] 29)) := below_alloc (below_alloc (Below.refl _ w) _) _
  have hs : ((w.alloc (Obj.cells #[.int .i64 (N : Int), .slice ao ml cap] 24)).alloc (Obj.cells #[.slice none 0 0] 29)).heap.size = w.heap.size + 2 := by simp
  generalize ((w.alloc (Obj.cells #[.int .i64 (N : Int), .slice ao ml cap] 24)).alloc (Obj.cells #[.slice none 0 0] 29)) = W1 at *
  have HW1 : Hid (∀ A, Below W1.heap.size W1 A → Two A w.heap.size (.int .i64 (N : Int)) (.slice ao ml cap) 24 ∧ One A (w.heap.size + 1) (.slice none 0 0) 29 ∧ Below w.heap.size w A ∧ w.heap.size + 2 ≤ A.heap.size) := fun A hA => ⟨two_next t1 hA, (hA.block _ (by omega)).trans t3, below_next hB0 hA, by have := hA.size; omega⟩
  clear t1 t3 hB0 hs
  refine region_ext (J := SQ W1 5 (VM N w.heap.size (w.heap.size + 2) (.slice ao ml cap)) (fun f A => ∃ B, TA A B (w.heap.size + 1) 29 T ∧ Below w.heap.size w A ∧ w.heap.size ≤ B)) (by kernel_rfl) (by kernel_rfl) (by kernel_rfl) SQ.start ?_ ?_
  · intro i o hi L xs a w1 hJ hL hd hcl hX
    match i, hi with
    | 0, hi =>
      cases hi
      have s1 := hX.out (s := 1) rfl
      refine wpOp_value rfl rfl (v := .pointer (some ⟨w.heap.size, 1, none⟩)) (w' := w1) ?_ ⟨_, rfl, hJ.put VM_mono hL (by omega) (Below.refl _ _) rfl⟩
      simp [go_sem, Act.eval, s1, Addr.add]
    | 1, hi =>
      cases hi
      have l0 := hd ⟨0, .data⟩ (by simp) rfl
      have r0 := (hX.rd 0 _ 4 rfl rfl l0).trans (hJ.tl (j := 0) hL (by omega) (by omega) l0)
      obtain ⟨q0, q1⟩ := cell_two (HW1.out _ (hJ.early hL (by omega))).1
      refine wpOp_value rfl rfl (v := .slice ao ml cap) (w' := w1) ?_ ⟨_, rfl, hJ.put VM_mono hL (by omega) (Below.refl _ _) rfl⟩
      simp [go_sem, Act.eval, r0, q1]
    | 2, hi =>
      cases hi
      have s1 := hX.out (s := 1) rfl
      refine wpOp_value rfl rfl (v := .pointer (some ⟨w.heap.size, 0, none⟩)) (w' := w1) ?_ ⟨_, rfl, hJ.put VM_mono hL (by omega) (Below.refl _ _) rfl⟩
      simp [go_sem, Act.eval, s1, Addr.add]
    | 3, hi =>
      cases hi
      have l0 := hd ⟨2, .data⟩ (by simp) rfl
      have r0 := (hX.rd 2 _ 6 rfl rfl l0).trans (hJ.tl (j := 2) hL (by omega) (by omega) l0)
      obtain ⟨q0, q1⟩ := cell_two (HW1.out _ (hJ.early hL (by omega))).1
      refine wpOp_value rfl rfl (v := .int .i64 (N : Int)) (w' := w1) ?_ ⟨_, rfl, hJ.put VM_mono hL (by omega) (Below.refl _ _) rfl⟩
      simp [go_sem, Act.eval, r0, q0]
    | 4, hi =>
      cases hi
      have l0 := hd ⟨3, .data⟩ (by simp) rfl
      have r0 := (hX.rd 3 _ 7 rfl rfl l0).trans (hJ.tl (j := 3) hL (by omega) (by omega) l0)
      have hmk := make57 N (by omega) w1
      refine wpOp_value rfl rfl (v := sl w1.heap.size N) (w' := w1.alloc (.cells (rep N (.bool false)) 4)) ?_ ⟨_, rfl, hJ.put VM_mono hL (by omega) (below_alloc (Below.refl _ _) _) ⟨w1.heap.size, rfl, (HW1.out _ (hJ.early hL (by omega))).2.2.2, _, heap_alloc_new _ _, rep_size N _, fun _ hj => rep_at _ hj⟩⟩
      simp [go_sem, Act.eval, r0, hmk]
    | 5, hi =>
      cases hi
      have l1 := hd ⟨1, .data⟩ (by simp) rfl
      have l4 := hd ⟨4, .data⟩ (by simp) rfl
      have l0 := hcl 1 _ rfl l1 ⟨0, .data⟩ (by simp) rfl
      have l3 := hcl 4 _ rfl l4 ⟨3, .data⟩ (by simp) rfl
      have l2 := hcl 3 _ rfl l3 ⟨2, .data⟩ (by simp) rfl
      have hall : ∀ j, j < 5 → L j = true := fun j hj => by
        have : j = 0 ∨ j = 1 ∨ j = 2 ∨ j = 3 ∨ j = 4 := by omega
        rcases this with rfl | rfl | rfl | rfl | rfl <;> assumption
      have r1 := (hX.rd 1 _ 5 rfl rfl l1).trans (hJ.told hL 1 (by omega) l1)
      obtain ⟨ub, e4, hub, hU⟩ := hJ.told hL 4 (by omega) l4
      have r4 := (hX.rd 4 _ 8 rfl rfl l4).trans e4
      have s3 := hX.out (s := 3) rfl
      obtain ⟨_, hO, hBw, _⟩ := HW1.out _ (hJ.w0 hL)
      refine wpOp_call rfl rfl (f := 28) (args := #[.slice ao ml cap, sl ub N, .int .i64 0, ptr (w.heap.size + 1)]) (w' := w1) ?_ ?_
      · simp [go_sem, Act.eval, r1, r4, s3]
      · refine Calls.mono (C28.out _ ub hBw hO hub hU) ?_
        rintro e w2 ⟨rfl, hT, hB, hle⟩
        exact ⟨_, rfl, _, rfl, hJ.last hall ⟨_, hT, hB, hle⟩⟩
    | m + 6, hi => cases hi
  · intro L0 xv w1 hJ hall
    obtain ⟨B, hT, hB, hle⟩ := hJ.fin (hall 5 (by simp))
    simp only [puts, Act.put, List.setIfInBounds_toArray, List.set_cons_succ, List.set_cons_zero]
    obtain ⟨vo, vc, hO, hR⟩ := hT
    have c0 : w1.cell? ⟨w.heap.size + 1, 0, none⟩ = some (.slice vo T.length vc) := box_cell (i := 0) hO rfl
    have HF : Hid (w1.ownsRow w.heap.size 3 1 (.slice vo T.length vc) T.length (qv T) ∧ Below w.heap.size w w1) := ⟨ownsRow_mono hR hle, hB⟩
    clear hJ hall hR hB hO HW1 C28
    generalize xv 0 = z0
    generalize xv 1 = z1
    generalize xv 2 = z2
    generalize xv 3 = z3
    generalize xv 4 = z4
    generalize xv 5 = z5
    go_wp2
    go_ret
    exact ⟨⟨vo, vc, rfl, HF.out.1⟩, HF.out.2⟩
end Go.Proofs.YtmeodnkmhakidaaDoor
