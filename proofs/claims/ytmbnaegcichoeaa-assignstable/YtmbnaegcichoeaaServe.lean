/- serve: one row more gets a column. -/
import Derived.Test.YtmbnaegcichoeaaHand
import Derived.Test.YtmbnaegcichoeaaSearch
namespace Go.Proofs.Ytmbnaegcichoeaa
open Go.RowKit Go.Maps
attribute [local go_sem ↓] Go.wp_at_zero Go.wp_at_succ

theorem takers {n s : Nat} {C : Nat → Nat → Int} {r u r' u' ow fa fr : Nat → Int} {L : List Nat} {col : Nat} (hsr : Sr n s C r u ow L fa fr) (hcol : col < n) (ht : ∀ j, j < n → (j ∈ L ∨ j = col) → ∀ i : Nat, fr j = i → r' i + u' j = C i j) : Takers s C r' u' ow fr (L ++ [col]) := fun p j hp => by
  have hm := List.mem_of_getElem? hp
  have hm' : j ∈ L ∨ j = col := by simpa using hm
  have hj : j < n := by
    rcases hm' with h | rfl
    · exact hsr.lt j h
    · exact hcol
  rcases hsr.frm j hj with ⟨h1, h2⟩ | ⟨q, d, i, h1, h2, h3, h4, h5⟩
  · exact Or.inl ⟨h1, ht j hj hm' s h1⟩
  · have hq := (List.getElem?_eq_some_iff.1 h1).1
    refine Or.inr ⟨q, d, i, ?_, by rw [List.getElem?_append_left hq]; exact h1, h3, h4, ht j hj hm' i h4⟩
    by_cases hpl : p < L.length
    · rw [List.getElem?_append_left hpl] at hp
      exact h2 p hp
    · omega

set_option maxRecDepth 4000 in
set_option maxHeartbeats 2000000 in
theorem serve_call {c : Dc} {w : World} {r u tk ow : Nat → Int} {s : Nat} (hd : DS c w r u tk ow) (hm : Mt c.n s c.C r u tk ow) (hs : s < c.n) (hn : c.n ≤ 100) (hC : ∀ i j, i < c.n → j < c.n → -1000000 ≤ c.C i j ∧ c.C i j ≤ 1000000) :
    Calls Try.prog 20 #[ptr c.bp, .int .i64 (s : Int)] w fun e w' => e = .returned (.tuple #[]) ∧ (∃ r' u' tk' ow', DS c w' r' u' tk' ow' ∧ Mt c.n (s + 1) c.C r' u' tk' ow') ∧ Turns (fun k => k = c.br ∨ k = c.bc ∨ k = c.bt ∨ k = c.bb) w w' := by
  have h28 := search_call hd hm hs hn hC
  have H28 : Hid (Calls Try.prog 28 #[ptr c.bp, .int .i64 (s : Int)] w fun e w' => ∃ v, e = .returned v ∧ FoundAt c s r u ow w.heap.size w' v ∧ Below w.heap.size w w') := h28
  have HD : Hid (DS c w r u tk ow) := hd
  have HM : Hid (Mt c.n s c.C r u tk ow) := hm
  have HC : Hid (∀ i j, i < c.n → j < c.n → -1000000 ≤ c.C i j ∧ c.C i j ≤ 1000000) := hC
  have hown : ∀ k, c.own k → k < w.heap.size := fun k hk => hd.lt hk
  have HOWN : Hid (∀ k, c.own k → k < w.heap.size) := hown
  clear h28 hd hm hC hown
  go_enter Try.func20, Try.ntmps20
  go_upto_region 1 with (first | (go_at_call 28; refine Calls.mono H28.out ?_; rintro e W1 ⟨v, rfl, ⟨bf, bg, po, pc, L, col, fa, fr, hv, hrf, hrg, hrow, hbf, hbg, hsr, hen⟩, hb1⟩; obtain ⟨nD, hnD⟩ : ∃ nD, nD = (L ++ [col]).length := ⟨_, rfl⟩; rw [← hnD] at hv hrow; subst hv; have HSR : Hid (Sr c.n s c.C r u ow L fa fr) := hsr; have HEN : Hid (Ended c.n ow fa L col) := hen; have HND : Hid (nD = (L ++ [col]).length) := hnD; have HROW : Hid (W1.ownsRow w.heap.size 3 1 (.slice po nD pc) nD (qv (L ++ [col]))) := hrow; have HRF : Hid (RowV W1 bf 3 c.n (iv fa)) := hrf; have HRG : Hid (RowV W1 bg 3 c.n (iv fr)) := hrg; clear hsr hen hnD hrow hrf hrg) | go_in)
  have hx4 : Box (W1.alloc (Obj.cells #[sl bf c.n, sl bg c.n, .slice po nD pc] 54)) W1.heap.size #[sl bf c.n, sl bg c.n, .slice po nD pc] 54 := heap_alloc_new _ _
  have hb2 := below_alloc (Below.refl _ W1) (Obj.cells #[sl bf c.n, sl bg c.n, .slice po nD pc] 54)
  obtain ⟨b4, hb4⟩ : ∃ b, b = W1.heap.size := ⟨_, rfl⟩
  rw [← hb4] at hx4 ⊢
  generalize W1.alloc (Obj.cells #[sl bf c.n, sl bg c.n, .slice po nD pc] 54) = W2 at hx4 hb2 ⊢
  have hd2 := (HD.out.below hb1).below hb2
  have hf2 := HRF.out.block (hb2.block _ (RowV.lt HRF.out))
  have hg2 := HRG.out.block (hb2.block _ (RowV.lt HRG.out))
  have ho2 := ownsRow_blocks HROW.out (fun b hb => hb2.block b (HROW.out.lt b hb).2)
  have hsf : ¬ c.own bf := fun h => by have := HOWN.out bf h; omega
  have hsg : ¬ c.own bg := fun h => by have := HOWN.out bg h; omega
  have h29 := shift_call (gv := sl bg c.n) hd2 HM.out hs hn HC.out HND.out hf2 ho2 hsf HOWN.out HSR.out HEN.out
  have H29 : Hid (Calls Try.prog 29 #[ptr c.bp, .int .i64 (s : Int), .agg #[sl bf c.n, sl bg c.n, .slice po nD pc]] W2 fun e w' => e = .returned (.tuple #[]) ∧ DS c w' (endR s ow fa (fa col) L r) (shU fa (fa col) L u) tk ow ∧ Turns (fun k => k = c.br ∨ k = c.bc) W2 w') := h29
  have hb4n : ¬ c.own b4 := fun h => by have := HOWN.out b4 h; have := hb1.size; omega
  have HG2 : Hid (RowV W2 bg 3 c.n (iv fr)) := hg2
  have HO2 : Hid (W2.ownsRow w.heap.size 3 1 (.slice po nD pc) nD (qv (L ++ [col]))) := ho2
  have hB2 := below_next hb1 hb2
  clear hd2 hf2 hg2 ho2 h29 HRF HRG HROW H28 hb1 hb2 hb4
  obtain ⟨y0, y1, y2⟩ := cell_three hx4
  go_upto_region 2 with (first | (go_at_call 29; refine Calls.mono H29.out ?_; rintro e W3 ⟨rfl, hd3, ht3⟩) | go_in)
  obtain ⟨hmt, htight⟩ := shift_mt HM.out hs HC.out HSR.out HEN.out
  have hx43 : Box W3 b4 #[sl bf c.n, sl bg c.n, .slice po nD pc] 54 := box_turns hx4 ht3 (by rintro (e | e); exact hb4n (Or.inr (Or.inl e)); exact hb4n (Or.inr (Or.inr (Or.inl e))))
  have hg3 := HG2.out.turns ht3 (by rintro (e | e); exact hsg (Or.inr (Or.inl e)); exact hsg (Or.inr (Or.inr (Or.inl e))))
  have ho3 := ownsRow_blocks HO2.out (fun b hb => ht3.block b (HO2.out.lt b hb).2 (by
    have h1 := (HO2.out.lt b hb).1
    rintro (e | e)
    · have := HOWN.out c.br (Or.inr (Or.inl rfl)); omega
    · have := HOWN.out c.bc (Or.inr (Or.inr (Or.inl rfl))); omega))
  have h30 := hand_call (fv := sl bf c.n) hd3 hmt hs hn HND.out hg3 ho3 hsg (by
    rw [List.nodup_append]
    exact ⟨HSR.out.nodup, by simp, fun a ha b hb e => by simp at hb; subst hb; subst e; exact HEN.out.new ha⟩) (fun d hd => by
    rcases List.mem_append.1 hd with h | h
    · exact HSR.out.lt d h
    · simp at h; subst h; exact HEN.out.lt) HSR.out.mat HEN.out.free (takers HSR.out HEN.out.lt htight)
  have H30 : Hid (Calls Try.prog 30 #[ptr c.bp, .int .i64 (s : Int), .agg #[sl bf c.n, sl bg c.n, .slice po nD pc]] W3 fun e w' => e = .returned (.tuple #[]) ∧ (∃ tk' ow', DS c w' (endR s ow fa (fa col) L r) (shU fa (fa col) L u) tk' ow' ∧ Mt c.n (s + 1) c.C (endR s ow fa (fa col) L r) (shU fa (fa col) L u) tk' ow') ∧ Turns (fun k => k = c.bt ∨ k = c.bb) W3 w') := h30
  have HT3 : Hid (Turns (fun k => k = c.br ∨ k = c.bc) W2 W3) := ht3
  clear h30 y0 y1 y2 hx4 H29 hmt htight hg3 ho3 hd3 ht3
  obtain ⟨y0, y1, y2⟩ := cell_three hx43
  go_wp2_with (first | (go_at_call 30; refine Calls.mono H30.out ?_; rintro e W4 ⟨rfl, hex, ht4⟩; have HEX : Hid (∃ tk' ow', DS c W4 (endR s ow fa (fa col) L r) (shU fa (fa col) L u) tk' ow' ∧ Mt c.n (s + 1) c.C (endR s ow fa (fa col) L r) (shU fa (fa col) L u) tk' ow') := hex; clear hex) | go_in)
  have hfin : Turns (fun k => k = c.br ∨ k = c.bc ∨ k = c.bt ∨ k = c.bb) w W4 := ((Turns.of_below hB2 _).trans (HT3.out.mono (fun _ _ h => by rcases h with h | h; exact Or.inl h; exact Or.inr (Or.inl h)))).trans (ht4.mono (fun _ _ h => Or.inr (Or.inr h)))
  go_end0
  obtain ⟨tk', ow', g1, g2⟩ := HEX.out
  exact ⟨rfl, ⟨_, _, tk', ow', g1, g2⟩, hfin⟩
end Go.Proofs.Ytmbnaegcichoeaa
