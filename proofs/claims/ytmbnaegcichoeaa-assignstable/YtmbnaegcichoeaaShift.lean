/- shift: the numbers behind a search. -/
import Derived.Test.YtmbnaegcichoeaaDeal
namespace Go.Proofs.Ytmbnaegcichoeaa
open Go.RowKit Go.Maps
attribute [local go_sem ↓] Go.wp_at_zero Go.wp_at_succ

section
variable {c : Dc} {w : World} {r u tk ow : Nat → Int}
theorem DS.setR (h : DS c w r u tk ow) (j : Nat) (x : Int) : DS c (w.setCell ⟨c.br, j, none⟩ (.int .i64 x)) (fun k => if k = j then x else r k) u tk ow := by
  have T := setCell_turns w c.br j (.int .i64 x)
  obtain ⟨n1, n2, n3, n4, n5, n6, n7, n8, n9, n10⟩ := h.ne
  exact ⟨box_turns h.box T n1, (h.rows.set j _).congr (fun k _ => by unfold iv; by_cases e : k = j <;> simp [e]), h.cols.turns T (fun e => n5 e.symm), h.tos.turns T (fun e => n6 e.symm), h.bys.turns T (fun e => n7 e.symm), h.grid.turns T (fun k hk => by rw [hk]; exact h.ge.2.1), h.ge, h.ne⟩
theorem DS.setU (h : DS c w r u tk ow) (j : Nat) (x : Int) : DS c (w.setCell ⟨c.bc, j, none⟩ (.int .i64 x)) r (fun k => if k = j then x else u k) tk ow := by
  have T := setCell_turns w c.bc j (.int .i64 x)
  obtain ⟨n1, n2, n3, n4, n5, n6, n7, n8, n9, n10⟩ := h.ne
  exact ⟨box_turns h.box T n2, h.rows.turns T n5, (h.cols.set j _).congr (fun k _ => by unfold iv; by_cases e : k = j <;> simp [e]), h.tos.turns T (fun e => n8 e.symm), h.bys.turns T (fun e => n9 e.symm), h.grid.turns T (fun k hk => by rw [hk]; exact h.ge.2.2.1), h.ge, h.ne⟩
theorem DS.setT (h : DS c w r u tk ow) (j : Nat) (x : Int) : DS c (w.setCell ⟨c.bt, j, none⟩ (.int .i64 x)) r u (fun k => if k = j then x else tk k) ow := by
  have T := setCell_turns w c.bt j (.int .i64 x)
  obtain ⟨n1, n2, n3, n4, n5, n6, n7, n8, n9, n10⟩ := h.ne
  exact ⟨box_turns h.box T n3, h.rows.turns T n6, h.cols.turns T n8, (h.tos.set j _).congr (fun k _ => by unfold iv; by_cases e : k = j <;> simp [e]), h.bys.turns T (fun e => n10 e.symm), h.grid.turns T (fun k hk => by rw [hk]; exact h.ge.2.2.2.1), h.ge, h.ne⟩
theorem DS.setO (h : DS c w r u tk ow) (j : Nat) (x : Int) : DS c (w.setCell ⟨c.bb, j, none⟩ (.int .i64 x)) r u tk (fun k => if k = j then x else ow k) := by
  have T := setCell_turns w c.bb j (.int .i64 x)
  obtain ⟨n1, n2, n3, n4, n5, n6, n7, n8, n9, n10⟩ := h.ne
  exact ⟨box_turns h.box T n4, h.rows.turns T n7, h.cols.turns T n9, h.tos.turns T n10, (h.bys.set j _).congr (fun k _ => by unfold iv; by_cases e : k = j <;> simp [e]), h.grid.turns T (fun k hk => by rw [hk]; exact h.ge.2.2.2.2), h.ge, h.ne⟩
theorem DS.congr {r' u' tk' ow' : Nat → Int} (h : DS c w r u tk ow) (e1 : ∀ j, j < c.n → r j = r' j) (e2 : ∀ j, j < c.n → u j = u' j) (e3 : ∀ j, j < c.n → tk j = tk' j) (e4 : ∀ j, j < c.n → ow j = ow' j) : DS c w r' u' tk' ow' :=
  ⟨h.box, h.rows.congr (fun j hj => by unfold iv; rw [e1 j hj]), h.cols.congr (fun j hj => by unfold iv; rw [e2 j hj]), h.tos.congr (fun j hj => by unfold iv; rw [e3 j hj]), h.bys.congr (fun j hj => by unfold iv; rw [e4 j hj]), h.grid, h.ge, h.ne⟩
end
theorem own_le {w : World} {base : Nat} {t : TypeId} {ao : Option Addr} {n cap : Nat} {xs : List Value} (h : w.ownsRow base t 1 (.slice ao n cap) n xs) : n ≤ cap := by
  rcases h.2 with ⟨h1, h2⟩ | ⟨g, c, cur, h1, _, _, h3, _⟩
  · cases h1; omega
  · cases h1; exact h3

set_option maxRecDepth 4000 in
set_option maxHeartbeats 3000000 in
theorem shift_call {c : Dc} {w : World} {r u tk ow : Nat → Int} {s : Nat} (hd : DS c w r u tk ow) (hm : Mt c.n s c.C r u tk ow) (hs : s < c.n) (hn : c.n ≤ 100) (hC : ∀ i j, i < c.n → j < c.n → -1000000 ≤ c.C i j ∧ c.C i j ≤ 1000000)
    {bf : Nat} {gv : Value} {po : Option Addr} {nD pc B : Nat} {L : List Nat} {col : Nat} {fa fr : Nat → Int} (hnD : nD = (L ++ [col]).length) (hf : RowV w bf 3 c.n (iv fa)) (ho : w.ownsRow B 3 1 (.slice po nD pc) nD (qv (L ++ [col]))) (hsep : ¬ c.own bf) (hB : ∀ k, c.own k → k < B) (hsr : Sr c.n s c.C r u ow L fa fr) (hen : Ended c.n ow fa L col) :
    Calls Try.prog 29 #[ptr c.bp, .int .i64 (s : Int), .agg #[sl bf c.n, gv, .slice po nD pc]] w fun e w' => e = .returned (.tuple #[]) ∧ DS c w' (endR s ow fa (fa col) L r) (shU fa (fa col) L u) tk ow ∧ Turns (fun k => k = c.br ∨ k = c.bc) w w' := by
  have hcap := own_le ho
  have hLn : L.length ≤ s := hm.short hsr.nodup hsr.lt hsr.mat
  have hnD' : nD = L.length + 1 := by rw [hnD]; simp
  obtain ⟨t1, t2⟩ := hm.tight hs hC
  have HD : Hid (DS c w r u tk ow) := hd
  have HM : Hid (Mt c.n s c.C r u tk ow) := hm
  have HSR : Hid (Sr c.n s c.C r u ow L fa fr) := hsr
  have HEN : Hid (Ended c.n ow fa L col) := hen
  have hfb : ∀ j, j < c.n → 0 ≤ fa j ∧ fa j ≤ 4000000 := fun j hj => by
    have h1 := hsr.pos j hj
    have h2 := hsr.up j hj
    have h3 := hC s j hs hj
    have h4 := hm.rlow s hs
    have h5 := t2 j hj
    omega
  have HFB : Hid (∀ j, j < c.n → 0 ≤ fa j ∧ fa j ≤ 4000000) := hfb
  have HT1 : Hid (∀ i, i < c.n → -1000000 ≤ r i ∧ r i ≤ 1000000) := fun i hi => ⟨hm.rlow i hi, t1 i hi⟩
  have HT2 : Hid (∀ j, j < c.n → -2000000 ≤ u j ∧ u j ≤ 0) := fun j hj => ⟨t2 j hj, hm.uup j hj⟩
  have hnums : ∀ (k d : Nat), (L ++ [col])[k]? = some d → ∃ b, po = some ⟨b, 0, none⟩ ∧ B ≤ b ∧ b < w.heap.size ∧ w.cell? ⟨b, k, none⟩ = some (.int .i64 (d : Int)) := fun k d hk => by
    rw [hnD] at ho
    obtain ⟨b, e, hc⟩ := qcell ho hk
    exact ⟨b, e, (ho.lt b (by rw [e]; rfl)).1, World.block_lt_of_cell? w _ hc, hc⟩
  have HNU : Hid (∀ (k d : Nat), (L ++ [col])[k]? = some d → ∃ b, po = some ⟨b, 0, none⟩ ∧ B ≤ b ∧ b < w.heap.size ∧ w.cell? ⟨b, k, none⟩ = some (.int .i64 (d : Int))) := hnums
  have HF : Hid (RowV w bf 3 c.n (iv fa)) := hf
  have hown : ∀ k, c.own k → k < w.heap.size := fun k hk => hd.lt hk
  have HOWN : Hid (∀ k, c.own k → k < B) := hB
  have k1 : IntKind.i64.wrap ((nD : Int) - 1) = (L.length : Int) := by rw [IntKind.wrap_i64]; omega
  have k2 : (0 : Int) ≤ (L.length : Int) := by omega
  have k3 : (L.length : Int) < (nD : Int) := by omega
  have k6 : (L.length : Int) ≤ (pc : Int) := by omega
  clear hd hm hsr hen hC t1 t2 hfb hnums hf ho hB hnD hnD'
  go_enter Try.func29, Try.ntmps29
  go_upto_region 1 with (fail)
  have hx5 : Box (w.alloc (Obj.cells #[sl bf c.n, gv, .slice po nD pc] 54)) w.heap.size #[sl bf c.n, gv, .slice po nD pc] 54 := heap_alloc_new _ _
  have hb0 := below_alloc (Below.refl _ w) (Obj.cells #[sl bf c.n, gv, .slice po nD pc] 54)
  generalize w.alloc (Obj.cells #[sl bf c.n, gv, .slice po nD pc] 54) = W0 at hx5 hb0 ⊢
  have e0 : W0.cell? ⟨w.heap.size, 0, none⟩ = some (sl bf c.n) := box_cell hx5 rfl
  have e2 : W0.cell? ⟨w.heap.size, 2, none⟩ = some (.slice po nD pc) := box_cell hx5 rfl
  have HD0 : Hid (DS c W0 r u tk ow) := HD.out.below hb0
  have HF0 : Hid (RowV W0 bf 3 c.n (iv fa)) := HF.out.block (hb0.block _ (RowV.lt HF.out))
  have HNU0 : Hid (∀ (k d : Nat), (L ++ [col])[k]? = some d → ∃ b, po = some ⟨b, 0, none⟩ ∧ B ≤ b ∧ b < w.heap.size ∧ W0.cell? ⟨b, k, none⟩ = some (.int .i64 (d : Int))) := fun k d hk => by
    obtain ⟨b, e, h1, h2, h3⟩ := HNU.out k d hk
    exact ⟨b, e, h1, h2, (hb0.cell h2).trans h3⟩
  obtain ⟨bd, hpo, hbd1, hbd2, cl⟩ := HNU0.out L.length col (by simp)
  subst hpo
  have hcol := HEN.out.lt
  have cf := HF0.out.cell hcol
  unfold iv at cf
  have k4 : (0 : Int) ≤ (col : Int) := by omega
  have k5 : (col : Int) < (c.n : Int) := by omega
  clear HD HF HNU
  go_upto_region 2 with (fail)
  go_quiet (fail)
  have hbq := drewN_below W0 nq
  have hx5q : Box (W0.drewN nq) w.heap.size #[sl bf c.n, gv, .slice (some ⟨bd, 0, none⟩) nD pc] 54 := hx5
  have HDq : Hid (DS c (W0.drewN nq) r u tk ow) := HD0.out.below hbq
  have HFq : Hid (RowV (W0.drewN nq) bf 3 c.n (iv fa)) := HF0.out.block (hbq.block _ (RowV.lt HF0.out))
  have HNUq : Hid (∀ (k d : Nat), (L ++ [col])[k]? = some d → (W0.drewN nq).cell? ⟨bd, k, none⟩ = some (.int .i64 (d : Int))) := fun k d hk => by
    obtain ⟨b, e, _, h2, h3⟩ := HNU0.out k d hk
    cases e
    exact h3
  have hb0q := below_next hb0 hbq
  generalize W0.drewN nq = W1 at hx5q HDq HFq HNUq hb0q ⊢
  clear hx5 hb0 e0 e2 HD0 HF0 HNU0 cl cf hbq
  obtain ⟨W, hW⟩ : ∃ W, W = fa col := ⟨_, rfl⟩
  rw [← hW]
  have hWb := HFB.out col hcol
  have HW : Hid (W = fa col) := hW
  rw [← hW] at hWb
  clear hW
  obtain ⟨_, c1, _, _, _⟩ := HDq.out.cellB
  have cr := HDq.out.rows.cell hs
  have fr1 := HDq.out.rows.free s
  unfold iv at cr
  have e2 : W1.cell? ⟨w.heap.size, 2, none⟩ = some (.slice (some ⟨bd, 0, none⟩) nD pc) := box_cell hx5q rfl
  have l1 : (0 : Int) ≤ (s : Int) := by omega
  have l2 : (s : Int) < (c.n : Int) := by omega
  have hrs := HT1.out s hs
  have l3 : IntKind.i64.wrap (r s + W) = r s + W := by rw [IntKind.wrap_i64]; omega
  obtain ⟨rs, hrsE⟩ : ∃ x, x = r s + W := ⟨_, rfl⟩
  rw [← hrsE] at l3
  have hd2 : DS c (W1.setCell ⟨c.br, s, none⟩ (.int .i64 rs)) (fun i => if i = s then r i + W else r i) u tk ow := (HDq.out.setR s rs).congr (fun j _ => by
    by_cases e : j = s
    · subst e; simp [hrsE]
    · simp [e]) (fun _ _ => rfl) (fun _ _ => rfl) (fun _ _ => rfl)
  have hnb : c.br ≠ w.heap.size := by have := hown c.br (Or.inr (Or.inl rfl)); omega
  have T1 := setCell_turns W1 c.br s (.int .i64 rs)
  have hx52 : Box (W1.setCell ⟨c.br, s, none⟩ (.int .i64 rs)) w.heap.size #[sl bf c.n, gv, .slice (some ⟨bd, 0, none⟩) nD pc] 54 := box_turns hx5q T1 (fun e => hnb e.symm)
  have hf2 : RowV (W1.setCell ⟨c.br, s, none⟩ (.int .i64 rs)) bf 3 c.n (iv fa) := HFq.out.turns T1 (fun e => hsep (Or.inr (Or.inl e)))
  have hnu2 : ∀ (k d : Nat), (L ++ [col])[k]? = some d → (W1.setCell ⟨c.br, s, none⟩ (.int .i64 rs)).cell? ⟨bd, k, none⟩ = some (.int .i64 (d : Int)) := fun k d hk => cell_turns (HNUq.out k d hk) T1 (fun e => by have := HOWN.out c.br (Or.inr (Or.inl rfl)); simp only at e; omega)
  have ht2 : Turns (fun k => k = c.br ∨ k = c.bc) w (W1.setCell ⟨c.br, s, none⟩ (.int .i64 rs)) := (Turns.of_below hb0q _).trans (T1.mono (fun _ _ h => Or.inl h))
  clear HDq HFq HNUq hb0q T1 hrs
  rw [hrsE] at l3
  go_upto_region 4 with (fail)
  rw [← hrsE]
  generalize W1.setCell ⟨c.br, s, none⟩ (.int .i64 rs) = W2 at hd2 hx52 hf2 hnu2 ht2 ⊢
  clear c1 cr fr1 e2 hx5q hrsE l3
  have HD2 : Hid (DS c W2 (fun i => if i = s then r i + W else r i) u tk ow) := hd2
  have HF2 : Hid (RowV W2 bf 3 c.n (iv fa)) := hf2
  have HNU2 : Hid (∀ (k d : Nat), (L ++ [col])[k]? = some d → W2.cell? ⟨bd, k, none⟩ = some (.int .i64 (d : Int))) := hnu2
  have e2 : W2.cell? ⟨w.heap.size, 2, none⟩ = some (.slice (some ⟨bd, 0, none⟩) nD pc) := box_cell hx52 rfl
  clear hd2 hf2 hnu2
  go_wp2
  clear e2
  go_loopw [38] (fun iv' wr => ∃ k : Nat, k ≤ L.length ∧ iv' = .int .i64 (k : Int) ∧ DS c wr (shR ow fa W (L.take k) (fun i => if i = s then r i + W else r i)) (shU fa W (L.take k) u) tk ow ∧ Turns (fun k => k = c.br ∨ k = c.bc) W2 wr) (fun iv' _ => L.length - (numOf iv').toNat)
  case atStart => exact ⟨0, Nat.zero_le _, rfl, HD2.out, Turns.refl _ _⟩
  case round =>
    clear HD2
    obtain ⟨k, hk, rfl, hdk, htk⟩ := hrel
    have HDK : Hid (DS c wr (shR ow fa W (L.take k) (fun i => if i = s then r i + W else r i)) (shU fa W (L.take k) u) tk ow) := hdk
    by_cases hlt : k < L.length
    · obtain ⟨d, hd⟩ : ∃ d, L[k]? = some d := ⟨L[k], List.getElem?_eq_getElem hlt⟩
      have hdm := List.mem_of_getElem? hd
      have hdn := HSR.out.lt d hdm
      obtain ⟨i, hi, hoi, hti⟩ := (HM.out.own d hdn).resolve_left (HSR.out.mat d hdm)
      have hin : i < c.n := by omega
      obtain ⟨g1, g2⟩ := List.getElem?_eq_some_iff.1 hd
      have hsn : L.take (k + 1) = L.take k ++ [d] := by rw [List.take_succ_eq_append_getElem g1, g2]
      have hdk' : d ∉ L.take k := fun hmem => by
        obtain ⟨q, hq1, hq2⟩ := List.getElem_of_mem hmem
        rw [List.getElem_take] at hq2
        rw [List.length_take] at hq1
        exact List.pairwise_iff_getElem.1 HSR.out.nodup q k (by omega) g1 (by omega) (by rw [hq2, g2])
      have hri : shR ow fa W (L.take k) (fun i => if i = s then r i + W else r i) i = r i := by
        rw [shR_out (L.take k) _ (fun b hb hob => by
          have := HM.out.inj (HSR.out.lt b (List.mem_of_mem_take hb)) hdn (HSR.out.mat b (List.mem_of_mem_take hb)) (by rw [hob, hoi])
          subst this
          exact hdk' hb), if_neg (by omega)]
      have hud : shU fa W (L.take k) u d = u d := shU_out (L.take k) u hdk'
      have HRI : Hid (shR ow fa W (L.take k) (fun i => if i = s then r i + W else r i) i = r i) := hri
      have HUD : Hid (shU fa W (L.take k) u d = u d) := hud
      have HSN : Hid (L.take (k + 1) = L.take k ++ [d]) := hsn
      have HOI : Hid (ow d = i) := hoi
      have hnb : c.br ≠ w.heap.size ∧ c.bc ≠ w.heap.size := ⟨by have := hown c.br (Or.inr (Or.inl rfl)); omega, by have := hown c.bc (Or.inr (Or.inr (Or.inl rfl))); omega⟩
      have hx5r : Box wr w.heap.size #[sl bf c.n, gv, .slice (some ⟨bd, 0, none⟩) nD pc] 54 := box_turns hx52 htk (by rintro (e | e); exact hnb.1 e.symm; exact hnb.2 e.symm)
      have hfr : RowV wr bf 3 c.n (iv fa) := HF2.out.turns htk (by rintro (e | e); exact hsep (Or.inr (Or.inl e)); exact hsep (Or.inr (Or.inr (Or.inl e))))
      have cd : wr.cell? ⟨bd, k, none⟩ = some (.int .i64 (d : Int)) := cell_turns (HNU2.out k d (by rw [List.getElem?_append_left hlt]; exact hd)) htk (by
        rintro (e | e)
        · have := HOWN.out c.br (Or.inr (Or.inl rfl)); simp only at e; omega
        · have := HOWN.out c.bc (Or.inr (Or.inr (Or.inl rfl))); simp only at e; omega)
      obtain ⟨_, c1, c2, _, c4⟩ := hdk.cellB
      have cb := hdk.bys.cell hdn
      have cr := hdk.rows.cell hin
      have fr1 := hdk.rows.free i
      have cf := hfr.cell hdn
      have e0 : wr.cell? ⟨w.heap.size, 0, none⟩ = some (sl bf c.n) := box_cell hx5r rfl
      unfold iv at cb cr cf
      rw [hoi] at cb
      rw [hri] at cr
      have hb1 := HFB.out d hdn
      have hb2 := HT1.out i hin
      have hb3 := HT2.out d hdn
      have i1 : (0 : Int) ≤ (k : Int) := by omega
      have i2 : (k : Int) < (L.length : Int) := by omega
      have i3 : (0 : Int) ≤ (d : Int) := by omega
      have i4 : (d : Int) < (c.n : Int) := by omega
      have i5 : (0 : Int) ≤ (i : Int) := by omega
      have i6 : (i : Int) < (c.n : Int) := by omega
      have m1 : IntKind.i64.wrap (W - fa d) = W - fa d := by rw [IntKind.wrap_i64]; omega
      have m2 : IntKind.i64.wrap (r i + (W - fa d)) = r i + (W - fa d) := by rw [IntKind.wrap_i64]; omega
      have m3 : IntKind.i64.wrap (u d - (W - fa d)) = u d - (W - fa d) := by rw [IntKind.wrap_i64]; omega
      clear hdk hri hud hsn hoi hti hdk' hb1 hb2 hb3 hd g1 g2 hdm
      go_upto_region 7 with (fail)
      go_cut [] from 42 to 63 (fun wd => DS c wd (shR ow fa W (L.take (k + 1)) (fun i => if i = s then r i + W else r i)) (shU fa W (L.take k) u) tk ow ∧ Turns (fun k => k = c.br ∨ k = c.bc) W2 wd)
      case first =>
        go_region
        all_goals
          have hd2 := (HDK.out.setR i (r i + (W - fa d))).congr (r' := shR ow fa W (L.take (k + 1)) (fun i => if i = s then r i + W else r i)) (fun j _ => by
            rw [HSN.out, shR_snoc]
            by_cases e : j = i
            · subst e; simp [HOI.out, HRI.out]
            · have : ¬ (j : Int) = (i : Int) := by omega
              simp [e, HOI.out, this]) (fun _ _ => rfl) (fun _ _ => rfl) (fun _ _ => rfl)
          have hd3 := hd2.below (Below.refl _ _).drew
          have ht3 := (htk.trans ((setCell_turns wr c.br i (.int .i64 (r i + (W - fa d)))).mono (fun _ _ h => Or.inl h))).trans (Turns.of_below (Below.refl _ _).drew _)
          have HD3 : Hid _ := hd3
          clear hd2 hd3
          go_wp2_with fail
          go_meet
          case rel => exact ⟨HD3.out, ht3⟩
      case rest =>
        clear cr fr1 cb c1 c2 c4 e0 cf cd hx5r hfr m2 HDK htk
        obtain ⟨hd3, ht3⟩ := hcut
        have hx5r : Box wc w.heap.size #[sl bf c.n, gv, .slice (some ⟨bd, 0, none⟩) nD pc] 54 := box_turns hx52 ht3 (by rintro (e | e); exact hnb.1 e.symm; exact hnb.2 e.symm)
        have hfr : RowV wc bf 3 c.n (iv fa) := HF2.out.turns ht3 (by rintro (e | e); exact hsep (Or.inr (Or.inl e)); exact hsep (Or.inr (Or.inr (Or.inl e))))
        obtain ⟨_, _, c2, _, _⟩ := hd3.cellB
        have cu := hd3.cols.cell hdn
        have fu := hd3.cols.free d
        have cf := hfr.cell hdn
        have e0 : wc.cell? ⟨w.heap.size, 0, none⟩ = some (sl bf c.n) := box_cell hx5r rfl
        unfold iv at cu cf
        rw [HUD.out] at cu
        have HD3 : Hid (DS c wc (shR ow fa W (L.take (k + 1)) (fun i => if i = s then r i + W else r i)) (shU fa W (L.take k) u) tk ow) := hd3
        clear hd3
        go_upto_region 8 with (fail)
        go_region
        all_goals
          have hd4 := (HD3.out.setU d (u d - (W - fa d))).congr (u' := shU fa W (L.take (k + 1)) u) (fun _ _ => rfl) (fun j _ => by
            rw [HSN.out, shU_snoc]
            by_cases e : j = d
            · subst e; simp [HUD.out]
            · simp [e]) (fun _ _ => rfl) (fun _ _ => rfl)
          have hd5 := hd4.below (Below.refl _ _).drew
          have ht5 := (ht3.trans ((setCell_turns wc c.bc d (.int .i64 (u d - (W - fa d)))).mono (fun _ _ h => Or.inr h))).trans (Turns.of_below (Below.refl _ _).drew _)
          have HD5 : Hid _ := hd5
          clear hd4 hd5
          go_wp2
          go_roundw
          case rel => exact ⟨k + 1, by omega, by go_num, HD5.out, ht5⟩
          case measure => simp [numOf]; omega
    · have i2 : ¬ (k : Int) < (L.length : Int) := by omega
      have hke : k = L.length := by omega
      have HEND : Hid (DS c wr (endR s ow fa (fa col) L r) (shU fa (fa col) L u) tk ow) := by
        show DS c wr (shR ow fa (fa col) L (fun i => if i = s then r i + fa col else r i)) (shU fa (fa col) L u) tk ow
        have h1 := HDK.out
        rw [hke, List.take_length, HW.out] at h1
        exact h1
      have ht9 := ht2.trans htk
      clear hdk HDK
      go_wp2
      go_end0
      exact ⟨rfl, HEND.out, ht9⟩
end Go.Proofs.Ytmbnaegcichoeaa
