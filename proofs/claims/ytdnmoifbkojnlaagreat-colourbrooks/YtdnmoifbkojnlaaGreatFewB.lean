/- fewColours, a cut. -/
import Derived.Test.YtdnmoifbkojnlaaGreatFewW
namespace Go.Proofs.YtdnmoifbkojnlaaGreat
open Go.RowKit Go.Maps
attribute [local go_sem ↓] Go.wp_at_zero Go.wp_at_succ
set_option maxRecDepth 100000 in
set_option maxHeartbeats 6000000 in
theorem few_cut {w : World} {base g N m : Nat} {vs : Nat → Value} {ls : Nat → List Nat} {adj : Nat → Nat → Bool} {vo : Option Addr} {vc : Nat} {cl : List Nat} (hN : N ≤ 100) (hL : NearL w base g N vs ls) (hmx : mxL ls N = m) (hG : Gz N m adj ls) (hm3 : 3 ≤ m) (hm9 : m ≤ 1000) (hcl : NumsAt w vo cl) (hcll : cl.length ≤ 1000) (hge : ∀ x, x < N → m ≤ (ls x).length) (hcut : ∃ x, cl[0]? = some x ∧ x < N ∧ ¬ Hang (fun a b => adj a b = true) (fun a => a < N ∧ a ≠ x)) :
    Calls Tryz.prog 21 #[sl g N, .slice vo cl.length vc] w fun e w' => (∃ q col, e = .returned (sl q N) ∧ w.heap.size ≤ q ∧ RowV w' q 3 N (iv col) ∧ Done N m adj col) ∧ Below w.heap.size w w' := by
  have HREP : Hid (∀ (W : World) (g0 c0 : Nat), W.cell? ⟨g0, 0, none⟩ = some (.int .i64 (-1)) → Calls Tryz.prog 36 #[.slice (some ⟨g0, 0, none⟩) 1 c0, .int .i64 (N : Int)] W fun r w' => ∃ b, r = .returned (sl b N) ∧ W.heap.size ≤ b ∧ RowV w' b 3 N (fun _ => .int .i64 (-1)) ∧ Below W.heap.size W w') := fun W g0 c0 h => repeat_call h (by omega)
  have HL : Hid (NearL w base g N vs ls) := hL
  have HG : Hid (Gz N m adj ls) := hG
  have HCL : Hid (NumsAt w vo cl) := hcl
  have HLL : Hid (∀ x, x < N → (ls x).length ≤ 1000) := fun x hx => Nat.le_trans (hG.le x hx) hm9
  have HM : Hid (mxL ls N = m) := hmx
  have HGE : Hid (∀ x, x < N → m ≤ (ls x).length) := hge
  have HCUT : Hid (∃ x, cl[0]? = some x ∧ x < N ∧ ¬ Hang (fun a b => adj a b = true) (fun a => a < N ∧ a ≠ x)) := hcut
  have h38 := enter38
  clear hL hG hcl hmx hge hcut
  go_enter Tryz.func21, Tryz.ntmps21
  go_upto_region 2 with (first | (go_at_call 36; refine Calls.mono (HREP.out _ _ _ (box_cell (one_new w (.int .i64 (-1)) 3) rfl)) ?_; rintro e w2 ⟨q, rfl, hq, hrow, hB2⟩) | go_in)
  have H19 : Hid (∀ W, Below w.heap.size w W → Calls Tryz.prog 19 #[sl g N] W fun e w' => e = .returned (.int .i64 (m : Nat)) ∧ w' = W) := fun W hW => by
    have := most_call ((HL.out).mono (Nat.zero_le _) |>.below hW) hN
    rw [HM.out] at this
    exact this
  have hBB : Below w.heap.size w (w2.alloc (Obj.cells #[sl g N, sl q N] 74)) := below_alloc (below_next (below_alloc (Below.refl _ w) _) hB2) _
  have H19' := H19.out _ hBB
  go_upto_region 3 with (first | (go_at_call 19; refine Calls.mono H19' ?_; rintro e w3 ⟨rfl, rfl⟩) | go_in)
  obtain ⟨W, hW⟩ : ∃ W, W = (w2.alloc (Obj.cells #[sl g N, sl q N] 74)).alloc (Obj.cells #[.int .i64 (m : Int)] 3) := ⟨_, rfl⟩
  have hF0 := few_begin (m := m) HL.out.z HL.out.row.lt hq hrow hB2 hW
  rw [← hW]
  clear hW hq hrow hB2 HREP H19 H19' hBB
  generalize w2.heap.size = p at hF0 ⊢
  obtain ⟨hC, hlop, hloq, cm, hBW⟩ := hF0
  have HC : Hid (Coat W p q g N ls (fun _ => -1)) := hC
  have hpq := hC.pq
  clear hC
  have H37 : Hid (Calls Tryz.prog 37 #[sl g N, .func (.func 38) #[] #[ptr (p + 1)]] W fun e w' => ((e = .returned (.int .i64 (-1)) ∧ ∀ x, x < N → m ≤ (ls x).length) ∨ ∃ x : Nat, e = .returned (.int .i64 (x : Int)) ∧ x < N ∧ (ls x).length < m) ∧ w' = W) := fewIdx_call (by omega) (HL.out.z.below hBW) cm
  clear cm
  have H39 : Hid (∀ W1 (COL : Nat → Int), Coat W1 p q g N ls COL → ∀ last, last < N → Calls Tryz.prog 39 #[ptr p, .int .i64 (last : Int)] W1 fun e w' => (∃ v, e = .returned v) ∧ ∃ L col', Bfo N adj (fun x => COL x == -1) last L ∧ RowV w' q 3 N (iv col') ∧ Turns (fun k => k = q) W1 w' ∧ (Pc N m adj COL → COL last = -1 → FillI N m adj L COL (L.length - 1) col')) := fun W1 COL hc last hl => by
    refine Calls.mono (fill_call hc hN HG.out.mem HLL.out hl) ?_
    rintro e w' ⟨h1, L, col', h2, h3, h4, h5⟩
    exact ⟨h1, L, col', h2, h3, h4, fun hp hl => h5 m hp hl HG.out.le HG.out.sym HG.out.irr⟩
  obtain ⟨x, hx0, hx, hxc⟩ := HCUT.out
  have hcp : 0 < cl.length := (List.getElem?_eq_some_iff.1 hx0).1
  obtain ⟨bc, hbc, hcc⟩ := (HCL.out.below hBW) 0 x hx0
  subst hbc
  have hcp' : (0 : Int) < (cl.length : Int) := by omega
  have H37' : Hid (Calls Tryz.prog 37 #[sl g N, .func (.func 38) #[] #[ptr (p + 1)]] W fun e w' => e = .returned (.int .i64 (-1)) ∧ (∀ x, x < N → m ≤ (ls x).length) ∧ w' = W) := by
    refine Calls.mono H37.out ?_
    rintro e w' ⟨h9, rfl⟩
    rcases h9 with ⟨h1, h2⟩ | ⟨y, _, hy, hyl⟩
    · exact ⟨h1, h2, rfl⟩
    · have := HGE.out y hy
      omega
  clear H37
  go_upto_region 8 with (first | (go_at_call 37; refine Calls.mono H37'.out ?_; rintro e W1 ⟨rfl, hge, rfl⟩) | go_in)
  have h39 := H39.out _ _ HC.out x hx
  have h40 : ∀ W2 col, Turns (fun k => k = q) W1 W2 → RowV W2 q 3 N (iv col) → Calls Tryz.prog 40 #[ptr p, .int .i64 (x : Int)] W2 fun e w' => (∃ v, e = .returned v) ∧ ∃ col', SpF N adj (ls x) x (ls x) col col' ∧ RowV w' q 3 N (iv col') ∧ Turns (fun k => k = q) W2 w' := fun W2 col hT hrow =>
    spare_call ⟨box_turns HC.out.box hT (fun e => hpq e), HC.out.near.turns hT (fun _ _ e => e), hrow⟩ hN HG.out.mem HLL.out hx
  have H40 : Hid _ := h40
  clear h40
  go_upto_region 14 with (first | (go_at_call 39; refine Calls.mono h39 ?_; rintro e W2 ⟨⟨v9, rfl⟩, L, col, hbf, hrow, hT, hfi⟩; have h40 := H40.out W2 col hT hrow) | (go_at_call 40; refine Calls.mono h40 ?_; rintro e W3 ⟨⟨v8, rfl⟩, col', hsp, hrow', hT'⟩) | go_in)
  have hT3 : Turns (fun k => k = q) W1 W3 := hT.trans hT'
  have hC9 : Coat W3 p q g N ls col' := ⟨box_turns HC.out.box hT3 (fun e => hpq e), HC.out.near.turns hT3 (fun _ _ e => e), hrow'⟩
  have hB9 : Below w.heap.size w W3 := Turns.below hBW hT3 hBW.size (fun k hk => by omega)
  have hv9 : x < N := hx
  have HFI : Hid (FillI N m adj L (fun _ => -1) (L.length - 1) col) := hfi pc_bare (by simp)
  have HBFO : Hid (Bfo N adj (fun _ => ((-1 : Int) == -1)) x L) := hbf
  have HSP : Hid (SpF N adj (ls x) x (ls x) col col') := hsp
  have HXC : Hid (¬ Hang (fun a b => adj a b = true) (fun a => a < N ∧ a ≠ x)) := hxc
  clear hfi hbf hrow hT hT' hT3 hrow' hsp h39 h40 hxc hge
  have cp1 := hC9.cells.2
  obtain ⟨xo, xc, cg, hnum⟩ := hC9.near.z x hv9
  have i1 : (0 : Int) ≤ (x : Int) := by omega
  have i2 : (x : Int) < (N : Int) := by omega
  have hrow9 := hC9.row
  have he42 := enters_of Tryz.func42 (by kernel_rfl) rfl
  refine region_invZ (J := fun a0 => FJc (A21 (fun s => a0.tmps.getD s undef)) (V21 p q g N x xo (ls x).length xc) (S21 W3.drew (fun c => Lst (ls x) col' c) q x)) (by kernel_rfl) (by kernel_rfl) ?_ ?_ ?_
  · exact ⟨0, fun _ => undef, rfl, fun j hj => Bool.noConfusion hj, fun h => Bool.noConfusion h, fun _ => rfl, fun h => Bool.noConfusion h, fun h => Bool.noConfusion h⟩
  · intro i o hi M a' w1 hJ hLi hd
    obtain ⟨cc, f, rfl, hf, hws⟩ := hJ
    match i, hi with
    | 0, hi =>
      cases hi
      refine fj_quietZ rfl rfl (fun x => rfl) hf (hws.quiet (by omega) (by omega)) ?_
      simp [go_sem, A21, V21, Act.eval]
    | 1, hi =>
      cases hi
      have d0 : f 0 = V21 p q g N x xo (ls x).length xc cc 0 := hf 0 (hd ⟨0, .data⟩ (by simp) rfl)
      have hb := hws.early hLi (by omega)
      have ep1 := (hb.cell (p := ⟨p, 1, none⟩) (World.block_lt_of_cell? _ _ cp1)).trans cp1
      refine fj_quietZ rfl rfl (fun x => rfl) hf (hws.quiet (by omega) (by omega)) ?_
      simp [go_sem, A21, V21, Act.eval, ep1, d0]
    | 2, hi =>
      cases hi
      refine fj_quietZ rfl rfl (fun x => rfl) hf (hws.quiet (by omega) (by omega)) ?_
      simp [go_sem, A21, V21, Act.eval]
    | 3, hi =>
      cases hi
      refine fj_quietZ rfl rfl (fun x => rfl) hf (hws.quiet (by omega) (by omega)) ?_
      simp [go_sem, A21, V21, Act.eval]
    | 4, hi =>
      cases hi
      refine fj_quietZ rfl rfl (fun x => rfl) hf (hws.quiet (by omega) (by omega)) ?_
      simp [go_sem, A21, V21, Act.eval]
    | 5, hi =>
      cases hi
      have d3 : f 3 = V21 p q g N x xo (ls x).length xc cc 3 := hf 3 (hd ⟨3, .data⟩ (by simp) rfl)
      have d4 : f 4 = V21 p q g N x xo (ls x).length xc cc 4 := hf 4 (hd ⟨4, .data⟩ (by simp) rfl)
      refine fj_quietZ rfl rfl (fun x => rfl) hf (hws.quiet (by omega) (by omega)) ?_
      simp [go_sem, A21, V21, Act.eval, i1, i2, d3, d4]
    | 6, hi =>
      cases hi
      have d5 : f 5 = V21 p q g N x xo (ls x).length xc cc 5 := hf 5 (hd ⟨5, .data⟩ (by simp) rfl)
      have hb := hws.early hLi (by omega)
      have eg := (hb.cell (p := ⟨g, x, none⟩) (World.block_lt_of_cell? _ _ cg)).trans cg
      refine fj_quietZ rfl rfl (fun x => rfl) hf (hws.quiet (by omega) (by omega)) ?_
      simp [go_sem, A21, V21, Act.eval, eg, d5]
    | 7, hi =>
      cases hi
      have d6 : f 6 = V21 p q g N x xo (ls x).length xc cc 6 := hf 6 (hd ⟨6, .data⟩ (by simp) rfl)
      have hw1 := hws.w0 hLi
      refine wpOp_call (f := 42) (args := #[ptr p, .slice xo (ls x).length xc]) rfl rfl (w' := w1) ?_ ?_
      · simp [go_sem, A21, V21, Act.eval, d6]
      · refine (unused_call (hC9.below (by rw [hw1]; exact drewN_below W3 1)) (by rw [hw1]; exact hnum.below (drewN_below W3 1)) (HLL.out x hv9) (fun y hy => ((HG.out.mem x y hv9).1 hy).1)).mono ?_
        rintro e w3 ⟨⟨c, rfl, hc⟩, hB3⟩
        refine ⟨_, rfl, c, updV f 7 (.int .i64 (c : Int)), rfl, fun j hj => ?_, ⟨fun h => ?_, fun h => ?_, fun _ _ => ⟨by rw [← hw1]; exact hB3, hc⟩, fun h => ?_⟩⟩
        · by_cases ej : j = 7
          · subst ej; rfl
          · have e1 : updV f 7 (.int .i64 (c : Int)) j = f j := if_neg ej
            rw [e1, hf j (also_ne hj ej)]
            exact V21_ne ej
        · rw [also_atZ (by omega), hws.n9 hLi (by omega)] at h; cases h
        · rw [also_self] at h; cases h
        · rw [also_atZ (by omega), hws.n9 hLi (by omega)] at h; cases h
    | 8, hi =>
      cases hi
      have d1 : f 1 = V21 p q g N x xo (ls x).length xc cc 1 := hf 1 (hd ⟨1, .data⟩ (by simp) rfl)
      have d2 : f 2 = V21 p q g N x xo (ls x).length xc cc 2 := hf 2 (hd ⟨2, .data⟩ (by simp) rfl)
      refine fj_quietZ rfl rfl (fun x => rfl) hf (hws.quiet (by omega) (by omega)) ?_
      simp [go_sem, A21, V21, Act.eval, i1, i2, d1, d2]
    | 9, hi =>
      cases hi
      have d7 : f 7 = V21 p q g N x xo (ls x).length xc cc 7 := hf 7 (hd ⟨7, .data⟩ (by simp) rfl)
      have d8 : f 8 = V21 p q g N x xo (ls x).length xc cc 8 := hf 8 (hd ⟨8, .data⟩ (by simp) rfl)
      have hall : ∀ j, j < 9 → M j = true := fun j hj => by
        match j, hj with
        | 0, _ => exact hd ⟨0, .phase⟩ (by simp) rfl
        | 1, _ => exact hd ⟨1, .phase⟩ (by simp) rfl
        | 2, _ => exact hd ⟨2, .phase⟩ (by simp) rfl
        | 3, _ => exact hd ⟨3, .phase⟩ (by simp) rfl
        | 4, _ => exact hd ⟨4, .phase⟩ (by simp) rfl
        | 5, _ => exact hd ⟨5, .phase⟩ (by simp) rfl
        | 6, _ => exact hd ⟨6, .phase⟩ (by simp) rfl
        | 7, _ => exact hd ⟨7, .phase⟩ (by simp) rfl
        | 8, _ => exact hd ⟨8, .data⟩ (by simp) rfl
        | k + 9, h => omega
      obtain ⟨hb, hR⟩ := hws.w1 (hd ⟨7, .data⟩ (by simp) rfl) hLi
      have cqW : W3.drew.cell? ⟨q, x, none⟩ = some (.int .i64 (col' x)) := hrow9.cell hv9
      have eq1 := (hb.cell (p := ⟨q, x, none⟩) (World.block_lt_of_cell? _ _ cqW)).trans cqW
      have fq1 : w1.frozen? ⟨q, x, none⟩ = false := (hrow9.block (hb.block _ hrow9.lt)).free x
      refine wpOp_skip rfl rfl (w' := w1.setCell ⟨q, x, none⟩ (.int .i64 (cc : Int))) ?_ ?_
      · simp [go_sem, A21, V21, Act.eval, d7, d8, eq1, fq1]
      · refine ⟨cc, updV f 9 undef, rfl, fun j hj => ?_, ⟨fun _ j hj => ?_, fun h => ?_, fun _ h => ?_, fun _ => ⟨w1, hb, hR, rfl⟩⟩⟩
        · exact (updV_told (V := V21 p q g N x xo (ls x).length xc cc) (i := 9) hf) j hj
        · exact also_of (hall j hj) 9
        · rw [also_atZ (by omega), hd ⟨7, .data⟩ (by simp) rfl] at h; cases h
        · rw [also_self] at h; cases h
    | k + 10, hi => cases hi
  · intro M a' w1 hJ hall
    obtain ⟨cc, f9, rfl, hf9, hws⟩ := hJ
    clear hf9
    obtain ⟨w3, hb, hR, rfl⟩ := hws.w2 (hall 9 (by simp))
    have hb' : Below W3.heap.size W3 w3 := (drewN_below W3 1).trans hb
    have hCF := (hC9.below hb').set x cc
    have HRF : Hid (RowV (w3.setCell ⟨q, x, none⟩ (.int .i64 (cc : Int))) q 3 N (iv (updC col' x cc))) := hCF.row
    have HBF : Hid (Below w.heap.size w (w3.setCell ⟨q, x, none⟩ (.int .i64 (cc : Int)))) := (below_next hB9 hb').setCell (p := ⟨q, x, none⟩) hloq _
    have cpF := hCF.cells.2
    have HDN : Hid (Done N m adj (updC col' x cc)) := HG.out.cut (by omega) hv9 HXC.out HBFO.out HFI.out HSP.out hR
    clear hCF hb hb' hws hall hrow9 hC9 hnum cg cp1
    simp only [A21]
    go_wp2
    go_ret
    exact ⟨⟨q, _, rfl, hloq, HRF.out, HDN.out⟩, HBF.out⟩
end Go.Proofs.YtdnmoifbkojnlaaGreat
