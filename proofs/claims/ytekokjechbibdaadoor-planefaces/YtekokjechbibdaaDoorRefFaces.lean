/- The document's own Faces. -/
import Derived.Test.YtekokjechbibdaaDoorBehindW
namespace Go.Proofs.YtekokjechbibdaaDoor
set_option maxRecDepth 8000
open Go.RowKit Go.Maps
attribute [local go_sem ↓] Go.wp_at_zero Go.wp_at_succ
theorem equalD {a b c d : Nat} (ha : a < 1000) (hb : b < 1000) (hc : c < 1000) (hd : d < 1000) (w : World) : (Op.equal 49 (.agg #[.int .i64 (a : Int), .int .i64 (b : Int)]) (.agg #[.int .i64 (c : Int), .int .i64 (d : Int)])).run Tryd.prog w = .ok (decide ((a, b) = (c, d))) w := by
  have k1 := key_mk (natI64 (u := a) (by omega)) (natI64 (u := b) (by omega))
  have k2 := key_mk (natI64 (u := c) (by omega)) (natI64 (u := d) (by omega))
  obtain ⟨r, h1, h2⟩ := run_equal_deep (P := Tryd.prog) w (m := Tryd.prog.types.size + 1) (of_decide_eq_true (by kernel_rfl)) (k := 49) (by kernel_rfl) (by kernel_rfl) k1 k2
  rw [h1]
  have : r = decide ((a, b) = (c, d)) := by
    rw [Bool.eq_iff_iff, h2, decide_eq_true_iff]
    refine ⟨fun h => ?_, fun h => by cases h; rfl⟩
    rw [← h] at k2
    have := Tryd.law49.inj k1 k2
    simp at this
    rw [Prod.mk.injEq]
    omega
  rw [this]
theorem eqlD {a b c d : Nat} (ha : a < 1000) (hb : b < 1000) (hc : c < 1000) (hd : d < 1000) (w : World) : (binOp .eql 49 (.agg #[.int .i64 (a : Int), .int .i64 (b : Int)]) (.agg #[.int .i64 (c : Int), .int .i64 (d : Int)])).run Tryd.prog w = .ok (.bool (decide ((a, b) = (c, d)))) w := by
  simp only [binOp]
  simp [equalD ha hb hc hd w, Result.andThen]
theorem FacesAt.turnsT {M : Nat → Prop} {w w' : World} {lo hi q : Nat} {v : Value} {ls : List (List Nat)} {vs : List Value} (h : FacesAt w lo hi q v ls vs) (ht : Turns M w w') (hh : hi ≤ w.heap.size) (hm : ∀ k, M k → k < hi → ∃ cs t r, w.heap[k]? = some (.cells cs t r) ∧ t ≠ 61 ∧ t ≠ 3) : FacesAt w' lo hi q v ls vs := by
  have nb : ∀ g t cur, g < hi → w.heap[g]? = some (.cells cur t (0, 0)) → (t = 61 ∨ t = 3) → w'.heap[g]? = w.heap[g]? := fun g t cur hg hc ht' => ht.block g (by omega) (fun e => by
    obtain ⟨cs, t2, r, h1, h2, h3⟩ := hm g e hg
    rw [hc] at h1
    simp at h1
    rcases ht' with e' | e'
    · exact h2 (by rw [← h1.2.1]; exact e')
    · exact h3 (by rw [← h1.2.1]; exact e'))
  refine ⟨h.hl, ownsRow_blocks h.row (fun g hg => ?_), fun i x l h1 h2 => ownsRow_blocks (h.el i x l h1 h2) (fun g hg => ?_), h.hv, h.hx⟩
  · obtain ⟨cur, hc⟩ := own_cells h.row hg
    exact nb g 61 cur (h.hv g hg).1 hc (Or.inl rfl)
  · obtain ⟨cur, hc⟩ := own_cells (h.el i x l h1 h2) hg
    exact nb g 3 cur (h.hx x (List.mem_of_getElem? h1) g hg).1 hc (Or.inr rfl)
/-- What lies in memory: the faces, and the darts that are done. -/
structure RFS (w wz : World) (fx dx : Value) (D : List E2) (out : List (List Nat)) (vs : List Value) (hi : Nat) : Prop where
  fc : FacesAt wz w.heap.size hi (w.heap.size - 3) fx out vs
  dn : ERow wz w.heap.size dx D
  below : Below w.heap.size w wz
  hs : hi ≤ wz.heap.size
section
variable {w wz wz' : World} {fx dx : Value} {D : List E2} {out : List (List Nat)} {vs : List Value} {hi : Nat}
theorem RFS.under (h : RFS w wz fx dx D out vs hi) (hb : Below wz.heap.size wz wz') : RFS w wz' fx dx D out vs hi :=
  ⟨h.fc.under hb h.hs, ownsRow_blocks h.dn (fun g hg => hb.block g (h.dn.lt g hg).2), below_next h.below hb, Nat.le_trans h.hs hb.size⟩
theorem RFS.raise {hi' : Nat} (h : RFS w wz fx dx D out vs hi) (h1 : hi ≤ hi') (h2 : hi' ≤ wz.heap.size) : RFS w wz fx dx D out vs hi' := ⟨h.fc.raise h1, h.dn, h.below, h2⟩
end
/-- The darts in their order, by a table. -/
def dartsQ (p : Nat → Nat → Bool) (N : Nat) : Nat → List E2
  | 0 => []
  | a + 1 => dartsQ p N a ++ ((List.range N).filter (p a)).map fun b => (a, b)
def dartsB (p : Nat → Nat → Bool) (N a b : Nat) : List E2 := dartsQ p N a ++ ((List.range b).filter (p a)).map fun b => (a, b)
theorem dartsB_succ (p : Nat → Nat → Bool) (N a b : Nat) : dartsB p N a (b + 1) = dartsB p N a b ++ (if p a b = true then [(a, b)] else []) := by
  unfold dartsB
  rw [List.range_succ, List.filter_append, List.map_append, List.append_assoc]
  by_cases h : p a b = true
  · simp [h]
  · simp [h]
def FacesAns2 (w w' : World) (e : Ending) (rs : List (List Nat)) (ds : List E2) : Prop := ∃ x D out vs hi, e = .returned x ∧ RFS w w' x (.slice none 0 0) [] out vs hi ∧ RefRun rs ds ([], []) (D, out) ∧ out.length ≤ 20000
set_option maxHeartbeats 8000000 in
theorem refFaces_call {w : World} {gv x : Value} {p : Int → Int → Bool} {rs : List (List Nat)} {N : Nat} (hg : GridAt w gv N p) (hx : RowsAt w x (castR rs)) (hr : Rot rs) (hN : rs.length = N) (hN1 : N ≤ 100) (hp : ∀ a b : Nat, a < N → b < N → (p a b = true ↔ b ∈ rs.getD a [])) (h3 : 3 ≤ w.heap.size) :
    Calls Tryd.prog 20 #[gv, x] w fun e w' => FacesAns2 w w' e rs (dartsQ (fun a b => p a b) N N) := by
  obtain ⟨go, gc, rfl, hgr⟩ := hg
  have HG : Hid (∀ i : Nat, i < N → ∃ g b, go = some ⟨g, 0, none⟩ ∧ w.cell? ⟨g, i, none⟩ = some (.slice (some ⟨b, 0, none⟩) N N) ∧ ∀ j : Nat, j < N → w.cell? ⟨b, j, none⟩ = some (.bool (p i j))) := hgr
  have HXR : Hid (RowsAt w x (castR rs) ∧ Rot rs ∧ rs.length = N ∧ 3 ≤ w.heap.size) := ⟨hx, hr, hN, h3⟩
  have HP : Hid (∀ a b : Nat, a < N → b < N → (p a b = true ↔ b ∈ rs.getD a [])) := hp
  obtain ⟨xo, xc, hxe, hx9⟩ := hx
  clear hx9
  rw [castR_len, hN] at hxe
  subst hxe
  clear hgr hr hN hp h3
  go_enter Tryd.func20, Tryd.ntmps20
  go_upto_region 4 with (fail)
  go_loopw [5, 6, 7] (fun s5 s6 s7 wz => ∃ (a : Nat) (D : List E2) (out : List (List Nat)) (vs : List Value) (hi : Nat), a ≤ N ∧ s7 = .int .i64 (a : Int) ∧ RFS w wz s5 s6 D out vs hi ∧ RefRun rs (dartsQ (fun a b => p a b) N a) ([], []) (D, out) ∧ D.length ≤ 10000 * (100 * a) ∧ out.length ≤ 100 * a ∧ (∀ d ∈ D, IsD rs d)) (fun _ _ s7 _ => N - (numOf s7).toNat)
  case atStart => exact ⟨0, [], [], [], 0, Nat.zero_le _, rfl, ⟨facesAt_nil _ _ _ _, World.ownsRow_nil _ _ _ _, Below.refl _ _, Nat.zero_le _⟩, rfl, by simp, by simp, fun d hd => by cases hd⟩
  case round =>
    obtain ⟨a, D, out, vs, hi, ha, rfl, hrf, hrun, hDl, hol, hDd⟩ := hrel
    by_cases hlt : a < N
    · obtain ⟨g, gb, rfl, cg, cgb⟩ := HG.out a hlt
      have HGA : Hid (∀ A, Below w.heap.size w A → A.cell? ⟨g, a, none⟩ = some (.slice (some ⟨gb, 0, none⟩) N N) ∧ ∀ j : Nat, j < N → A.cell? ⟨gb, j, none⟩ = some (.bool (p a j))) := fun A hA => ⟨(hA.cell (World.block_lt_of_cell? w _ cg)).trans cg, fun j hj => (hA.cell (World.block_lt_of_cell? w _ (cgb j hj))).trans (cgb j hj)⟩
      have HS : Hid (RFS w wr u5 u6 D out vs hi ∧ RefRun rs (dartsB (fun a b => p a b) N a 0) ([], []) (D, out) ∧ D.length ≤ 10000 * (100 * a) ∧ out.length ≤ 100 * a ∧ (∀ d ∈ D, IsD rs d)) := ⟨hrf, by unfold dartsB; simpa using hrun, hDl, hol, hDd⟩
      have i1 : (0 : Int) ≤ (a : Int) := by omega
      have i2 : (a : Int) < (N : Int) := by omega
      clear cg cgb hrf hrun hDl hol hDd
      go_upto_region 7 with (fail)
      generalize wr = wa at *
      generalize u5 = fx0 at *
      generalize u6 = dx0 at *
      go_loopw [5, 6, 8] (fun s5 s6 s8 wz => ∃ (b : Nat) (D : List E2) (out : List (List Nat)) (vs : List Value) (hi : Nat), b ≤ N ∧ s8 = .int .i64 (b : Int) ∧ RFS w wz s5 s6 D out vs hi ∧ RefRun rs (dartsB (fun a b => p a b) N a b) ([], []) (D, out) ∧ D.length ≤ 10000 * (100 * a + b) ∧ out.length ≤ 100 * a + b ∧ (∀ d ∈ D, IsD rs d)) (fun _ _ s8 _ => N - (numOf s8).toNat)
      case atStart => exact ⟨0, D, out, vs, hi, Nat.zero_le _, rfl, HS.out.1, HS.out.2.1, HS.out.2.2.1, HS.out.2.2.2.1, HS.out.2.2.2.2⟩
      case round =>
        clear HS
        obtain ⟨b, D, out, vs, hi, hb, rfl, hrf, hrun, hDl, hol, hDd⟩ := hrel
        by_cases hbl : b < N
        · have HS : Hid (RFS w wr u5 u6 D out vs hi ∧ RefRun rs (dartsB (fun a b => p a b) N a b) ([], []) (D, out) ∧ D.length ≤ 10000 * (100 * a + b) ∧ out.length ≤ 100 * a + b ∧ (∀ d ∈ D, IsD rs d)) := ⟨hrf, hrun, hDl, hol, hDd⟩
          obtain ⟨dxo, dxc, hdx⟩ := form_row hrf.dn
          subst hdx
          have k1 : (0 : Int) ≤ (b : Int) := by omega
          have k2 : (b : Int) < (N : Int) := by omega
          obtain ⟨cg, cgb⟩ := HGA.out wr hrf.below
          have cgb1 := cgb b hbl
          clear cgb hrf hrun hDl hol hDd
          have x9 := two_new wr (.int .i64 (a : Int)) (.int .i64 (b : Int)) 49
          have hB9 : Below wr.heap.size wr (wr.alloc (Obj.cells #[.int .i64 (a : Int), .int .i64 (b : Int)] 49)) := below_alloc (Below.refl _ wr) _
          have cg9 := (hB9.cell (World.block_lt_of_cell? wr _ cg)).trans cg
          have cgb9 := (hB9.cell (World.block_lt_of_cell? wr _ cgb1)).trans cgb1
          have hsz9 : wr.heap.size < (wr.alloc (Obj.cells #[.int .i64 (a : Int), .int .i64 (b : Int)] 49)).heap.size := by simp
          go_upto_region 12 with (fail)
          generalize hb9 : wr.heap.size = b9 at x9 hsz9 ⊢
          have hS9 := HS.out.1.under hB9
          generalize wr.alloc (Obj.cells #[.int .i64 (a : Int), .int .i64 (b : Int)] 49) = W9 at *
          have HW9 : Hid (Two W9 b9 (.int .i64 (a : Int)) (.int .i64 (b : Int)) 49 ∧ RFS w W9 u5 (.slice dxo D.length dxc) D out vs hi ∧ hi ≤ b9 ∧ (∀ g, (Value.slice dxo D.length dxc).ownBlock = some g → g < b9) ∧ b9 < W9.heap.size ∧ w.heap.size ≤ b9) := ⟨x9, hS9, by rw [← hb9]; exact HS.out.1.hs, fun g hg => by rw [← hb9]; exact (HS.out.1.dn.lt g hg).2, hsz9, by rw [← hb9]; exact HS.out.1.below.size⟩
          have HDC : Hid (∀ A j, Below W9.heap.size W9 A → j < D.length → ∃ dg, dxo = some ⟨dg, 0, none⟩ ∧ A.cell? ⟨dg, j * 2, none⟩ = some (.int .i64 ((D.getD j (0, 0)).1 : Int)) ∧ A.cell? ⟨dg, j * 2 + 1, none⟩ = some (.int .i64 ((D.getD j (0, 0)).2 : Int))) := fun A j hA hj => by
            obtain ⟨dg, dc, e, _⟩ := hS9.dn.form (by omega)
            simp only [Value.slice.injEq] at e
            obtain ⟨rfl, _, rfl⟩ := e
            have h2 : ERow A w.heap.size (.slice (some ⟨dg, 0, none⟩) D.length dxc) D := ownsRow_blocks hS9.dn (fun g hg => hA.block g (hS9.dn.lt g hg).2)
            have h3 := erow_cells h2 j (D.getD j (0, 0)) (by rw [List.getD_eq_getElem?_getD, List.getElem?_eq_getElem hj]; rfl)
            rw [Nat.zero_add] at h3
            exact ⟨dg, rfl, h3.1, h3.2⟩
          have HDL : Hid (∀ j, j < D.length → (D.getD j (0, 0)).1 < 1000 ∧ (D.getD j (0, 0)).2 < 1000 ∧ D.getD j (0, 0) ∈ D) := fun j hj => by
            have hm : D.getD j (0, 0) ∈ D := by rw [List.getD_eq_getElem?_getD, List.getElem?_eq_getElem hj]; exact List.getElem_mem hj
            have := HS.out.2.2.2.2 _ hm
            have hn := HXR.out.2.2.1
            exact ⟨by have := this.1; omega, by have := this.2.1; omega, hm⟩
          obtain ⟨dl, hdl⟩ : ∃ n, n = D.length := ⟨_, rfl⟩
          rw [← hdl] at HDC HDL HW9 ⊢
          have HDN : Hid (dl = D.length) := hdl
          have hdl2 : dl ≤ 1000000000 := by have := HS.out.2.2.1; omega
          obtain ⟨pab, hpab⟩ : ∃ q, q = p a b := ⟨_, rfl⟩
          rw [← hpab]
          have HPA : Hid (pab = p a b) := hpab
          clear hb9 x9 hB9 cg9 cgb9 hsz9 hS9 cg cgb1 hdl hpab
          go_loopw [10, 11] (fun s10 s11 wz => ∃ (i : Nat) (hd : Bool), i ≤ dl ∧ s11 = .int .i64 (i : Int) ∧ s10 = .bool hd ∧ Below W9.heap.size W9 wz ∧ (hd = true → pab = false ∨ (a, b) ∈ D) ∧ (hd = false → pab = true ∧ ∀ j, j < i → D.getD j (0, 0) ≠ (a, b))) (fun _ s11 _ => dl - (numOf s11).toNat)
          case atStart => exact ⟨0, !pab, Nat.zero_le _, rfl, rfl, Below.refl _ _, fun h => Or.inl (by simpa using h), fun h => ⟨by simpa using h, fun j hj => by omega⟩⟩
          case round =>
            obtain ⟨i, hd, hi', rfl, rfl, hB, hyes, hno⟩ := hrel
            have HYN : Hid ((hd = true → pab = false ∨ (a, b) ∈ D) ∧ (hd = false → pab = true ∧ ∀ j, j < i → D.getD j (0, 0) ≠ (a, b))) := ⟨hyes, hno⟩
            have HBr : Hid (Below W9.heap.size W9 wr) := hB
            clear hyes hno
            cases hd with
            | true =>
              have hmem := HYN.out.1 rfl
              have HRR : Hid (RefRun rs (dartsB (fun a b => p a b) N a (b + 1)) ([], []) (D, out)) := by
                show RefRun _ _ _ _
                rw [dartsB_succ]
                refine HS.out.2.1.append ?_
                rcases hmem with h | h
                · rw [HPA.out] at h
                  rw [if_neg (by rw [h]; simp)]
                  rfl
                · split
                  · exact Or.inl ⟨h, rfl⟩
                  · rfl
              clear hmem
              by_cases hil : i < dl
              · have q1 : (i : Int) < (dl : Int) := by omega
                clear hB
                go_wp2
                go_roundw
                case rel =>
                  have h1 := HS.out.2.2
                  exact ⟨b + 1, D, out, vs, hi, by omega, by go_num, HW9.out.2.1.under HBr.out, HRR.out, by omega, by omega, h1.2.2⟩
                case measure => simp [numOf]; omega
              · have q1 : ¬ (i : Int) < (dl : Int) := by omega
                clear hB
                go_wp2
                go_roundw
                case rel =>
                  have h1 := HS.out.2.2
                  exact ⟨b + 1, D, out, vs, hi, by omega, by go_num, HW9.out.2.1.under HBr.out, HRR.out, by omega, by omega, h1.2.2⟩
                case measure => simp [numOf]; omega
            | false =>
              obtain ⟨hp1, hall⟩ := HYN.out.2 rfl
              by_cases hil : i < dl
              · have q1 : (i : Int) < (dl : Int) := by omega
                have q0 : (0 : Int) ≤ (i : Int) := by omega
                obtain ⟨dg, rfl, e0, e1⟩ := HDC.out wr i hB hil
                obtain ⟨l1, l2, l3⟩ := HDL.out i hil
                obtain ⟨f0, f1⟩ := cell_two (two_next HW9.out.1 hB)
                obtain ⟨u', v', huv⟩ : ∃ u' v', D.getD i (0, 0) = (u', v') := ⟨_, _, rfl⟩
                rw [huv] at e0 e1 l1 l2 l3
                simp only at e0 e1 l1 l2
                have HUV : Hid (D.getD i (0, 0) = (u', v') ∧ (u', v') ∈ D) := ⟨huv, l3⟩
                obtain ⟨dd, hdd⟩ : ∃ dd, decide ((u', v') = (a, b)) = dd := ⟨_, rfl⟩
                have heq : ∀ A : World, (binOp .eql 49 (.agg #[.int .i64 (u' : Int), .int .i64 (v' : Int)]) (.agg #[.int .i64 (a : Int), .int .i64 (b : Int)])).run Tryd.prog A = .ok (.bool dd) A := fun A => by rw [← hdd]; exact eqlD l1 l2 (by omega) (by omega) A
                have HDD : Hid (decide ((u', v') = (a, b)) = dd) := hdd
                clear hdd
                have g0 := cell_growD e0
                have g1 := cell_growD e1
                have g2 := cell_growD f0
                have g3 := cell_growD f1
                have HALL : Hid (pab = true ∧ ∀ j, j < i → D.getD j (0, 0) ≠ (a, b)) := ⟨hp1, hall⟩
                clear e0 e1 f0 f1 l1 l2 l3 huv hp1 hall
                go_upto_region 14 with (fail)
                refine wp_region_below (by kernel_rfl) (by kernel_rfl) ?_
                repeat (quiet_step (fail))
                refine wpQuiet_nil ?_
                rintro _ ⟨gp, rfl⟩
                have hB8 := growD_below wr gp
                clear g0 g1 g2 g3 heq
                generalize growD wr gp = w8 at *
                have HB8 : Hid (Below W9.heap.size W9 w8) := below_next HBr.out hB8
                clear hB8 hB
                go_wp2
                go_roundw
                case rel =>
                  refine ⟨i + 1, dd, by omega, by go_num, rfl, HB8.out, fun h => Or.inr ?_, fun h => ⟨HALL.out.1, fun j hj => ?_⟩⟩
                  · have := HDD.out
                    rw [h] at this
                    have e := of_decide_eq_true this
                    rw [← e]
                    exact HUV.out.2
                  · by_cases e : j = i
                    · subst e
                      rw [HUV.out.1]
                      have := HDD.out
                      rw [h] at this
                      exact of_decide_eq_false this
                    · exact HALL.out.2 j (by omega)
                case measure => simp [numOf]; omega
              · have q1 : ¬ (i : Int) < (dl : Int) := by omega
                have hnin : (a, b) ∉ D := fun hm => by
                  obtain ⟨j, hj, e⟩ := List.getElem_of_mem hm
                  refine hall j (by have := HDN.out; omega) ?_
                  rw [List.getD_eq_getElem?_getD, List.getElem?_eq_getElem hj]
                  exact e
                have hpt : p a b = true := by rw [← HPA.out]; exact hp1
                have hIsD : IsD rs (a, b) := ⟨by rw [HXR.out.2.2.1]; exact hlt, by rw [HXR.out.2.2.1]; exact hbl, (HP.out a b hlt hbl).1 hpt⟩
                obtain ⟨P, hP⟩ := HXR.out.2.1.per (by rw [HXR.out.2.2.1]; exact hN1) hIsD
                have HN : Hid ((a, b) ∉ D ∧ IsD rs (a, b) ∧ Per rs (a, b) P ∧ p a b = true) := ⟨hnin, hIsD, hP, hpt⟩
                have hP1 : P ≤ 10000 := hP.2.1
                clear hnin hpt hIsD hP hp1 hall
                go_upto_region 17 with (fail)
                obtain ⟨B, hBq⟩ : ∃ B, B = wr.heap.size := ⟨_, rfl⟩
                have HWB : Hid (RFS w wr u5 (.slice dxo dl dxc) D out vs B ∧ Two wr b9 (.int .i64 (a : Int)) (.int .i64 (b : Int)) 49 ∧ (∀ g, (Value.slice dxo dl dxc).ownBlock = some g → g ≠ b9) ∧ b9 < B ∧ w.heap.size ≤ B ∧ w.heap.size ≤ b9) := ⟨(HW9.out.2.1.under HBr.out).raise (by have := HW9.out; have := HBr.out.size; omega) (by omega), two_next HW9.out.1 HBr.out, fun g hg e => by have := HW9.out.2.2.2.1 g hg; omega, by have := HW9.out; have := HBr.out.size; omega, by have := HW9.out; have := HBr.out.size; omega, HW9.out.2.2.2.2.2⟩
                clear hB hBq
                generalize wr = wb at *
                go_loopw [6, 12] (fun s6 s12 wz => ∃ j : Nat, j < P ∧ RFS w wz u5 s6 (D ++ orb rs (a, b) j) out vs B ∧ wz.ownsRow B 3 1 s12 j (qv ((orb rs (a, b) j).map Prod.fst)) ∧ Two wz b9 (.int .i64 ((it (nxtD rs) (a, b) j).1 : Int)) (.int .i64 ((it (nxtD rs) (a, b) j).2 : Int)) 49 ∧ (∀ g, s6.ownBlock = some g → g ≠ b9)) (fun _ s12 _ => P - lenV s12)
                case atStart => exact ⟨0, HN.out.2.2.1.1, by simpa [orb] using HWB.out.1, World.ownsRow_nil _ _ _ _, HWB.out.2.1, HWB.out.2.2.1⟩
                case round =>
                  obtain ⟨j, hj, hrf, hfr, h9, hd9⟩ := hrel
                  have hIt := HXR.out.2.1.it HN.out.2.1 j
                  have hItN := HXR.out.2.1.it HN.out.2.1 (j + 1)
                  obtain ⟨da, db, hd⟩ : ∃ da db, it (nxtD rs) (a, b) j = (da, db) := ⟨_, _, rfl⟩
                  obtain ⟨ea, eb, he⟩ : ∃ ea eb, it (nxtD rs) (a, b) (j + 1) = (ea, eb) := ⟨_, _, rfl⟩
                  have hne : nxtD rs (da, db) = (ea, eb) := by rw [← hd, ← he]; rfl
                  rw [hd] at h9 hIt
                  rw [he] at hItN
                  simp only at h9
                  have hrn := HXR.out.2.2.1
                  have hdaN : da < N ∧ db < N ∧ ea < N ∧ eb < N := ⟨by have := hIt.1; omega, by have := hIt.2.1; omega, by have := hItN.1; omega, by have := hItN.2.1; omega⟩
                  obtain ⟨i49, hi49, hy0, hy1, hy2⟩ := info_parts Tryd.info49e
                  obtain ⟨i3, hi3, hz0, hz1, hz2⟩ := info_parts Tryd.info3
                  have hDO : (D ++ orb rs (a, b) j).length ≤ 2000000000 := by
                    rw [List.length_append, orb_len]
                    have := HS.out.2.2.1
                    omega
                  obtain ⟨z1, w1, hr1, o1, g1, _, b1⟩ := run_append_own_at (P := Tryd.prog) (wr.alloc (Obj.cells #[.int .i64 (da : Int), .int .i64 (db : Int)] 49)) w.heap.size 22 22 49 i49 (.agg #[.int .i64 0, .int .i64 0]) 2 16 Tryd.underlying22 hi49 hy0 hy1 hy2 rfl (by decide) u6 (D ++ orb rs (a, b) j).length (flatE (D ++ orb rs (a, b) j)) (World.ownsRow.alloc hrf.dn _) ⟨wr.heap.size, 0, none⟩ 1 1 (ecell (da, db)) rfl (World.news_of_block (heap_alloc_new _ _)) (by intro z hz; simp [ecell] at hz; rcases hz with rfl | rfl <;> rfl) (by unfold maxLen; omega) (by omega) (by have := hrf.below.size; simp; omega)
                  have T1 : Turns (fun k => some k = u6.ownBlock) wr w1 := (alloc_turns wr _ _).trans (Turns.of_grown g1)
                  have hD1 : ERow w1 w.heap.size z1 (D ++ orb rs (a, b) (j + 1)) := by
                    have e : flatE (D ++ orb rs (a, b) j) ++ ecell (da, db) = flatE (D ++ orb rs (a, b) (j + 1)) := by
                      rw [orb_succ, hd, ← List.append_assoc]
                      simp [flatE]
                    rw [e] at o1
                    show w1.ownsRow _ _ _ _ (D ++ orb rs (a, b) (j + 1)).length _
                    have e2 : (D ++ orb rs (a, b) (j + 1)).length = (D ++ orb rs (a, b) j).length + 1 := by simp [orb_len]; omega
                    rw [e2]
                    exact o1
                  have hf1 : w1.ownsRow B 3 1 u12 j (qv ((orb rs (a, b) j).map Prod.fst)) := ownsRow_blocks hfr (fun g hg => T1.block g (hfr.lt g hg).2 (fun e => by
                    obtain ⟨c1, k1⟩ := own_cells hfr hg
                    obtain ⟨c2, k2⟩ := own_cells hrf.dn e.symm
                    rw [k1] at k2; simp at k2))
                  have h91 := two_turns h9 T1 (fun e => hd9 b9 e.symm rfl)
                  have hsz1 : B ≤ w1.heap.size := Nat.le_trans hrf.hs T1.size
                  obtain ⟨z2, w2, hr2, o2, g2, _, b2⟩ := run_append_own_at (P := Tryd.prog) (w1.alloc (Obj.cells #[.int .i64 (da : Int)] 3)) B 61 61 3 i3 (.int .i64 0) 1 8 Tryd.underlying61 hi3 hz0 hz1 hz2 rfl (by decide) u12 j (qv ((orb rs (a, b) j).map Prod.fst)) (World.ownsRow.alloc hf1 _) ⟨w1.heap.size, 0, none⟩ 1 1 [.int .i64 (da : Int)] rfl (one_cells _ _ _) (by intro z hz; simp at hz; subst hz; rfl) (by unfold maxLen; omega) (by omega) (by simp; omega)
                  have T2 : Turns (fun k => some k = u12.ownBlock) w1 w2 := (alloc_turns w1 _ _).trans (Turns.of_grown g2)
                  have hF2 : w2.ownsRow B 3 1 z2 (j + 1) (qv ((orb rs (a, b) (j + 1)).map Prod.fst)) := by
                    have e : qv ((orb rs (a, b) j).map Prod.fst) ++ [.int .i64 (da : Int)] = qv ((orb rs (a, b) (j + 1)).map Prod.fst) := by
                      rw [orb_succ, hd]
                      simp [qv]
                    rw [e] at o2
                    exact o2
                  have h92 : Two w2 b9 (.int .i64 (da : Int)) (.int .i64 (db : Int)) 49 := two_turns h91 T2 (fun e => by
                    obtain ⟨c1, k1⟩ := own_cells hf1 e.symm
                    rw [h91] at k1; simp at k1)
                  have hRF2 : RFS w w2 u5 z1 (D ++ orb rs (a, b) (j + 1)) out vs B := ⟨(hrf.fc.turnsT T1 hrf.hs (fun k e hk => by
                      obtain ⟨c1, k1⟩ := own_cells hrf.dn e.symm
                      exact ⟨_, _, _, k1, by decide, by decide⟩)).turnsT T2 hsz1 (fun k e hk => by have := (hf1.lt k e.symm).1; omega), ownsRow_blocks hD1 (fun g hg => T2.block g (hD1.lt g hg).2 (fun e => by
                      obtain ⟨c1, k1⟩ := own_cells hf1 e.symm
                      obtain ⟨c2, k2⟩ := own_cells hD1 hg
                      rw [k1] at k2; simp at k2)), T2.below (T1.below hrf.below hrf.below.size (fun k e => (hrf.dn.lt k e.symm).1)) (T1.below hrf.below hrf.below.size (fun k e => (hrf.dn.lt k e.symm).1)).size (fun k e => by have := (hf1.lt k e.symm).1; have := HWB.out.2.2.2.2.1; omega), Nat.le_trans hsz1 T2.size⟩
                  have hz1b : ∀ g, z1.ownBlock = some g → g ≠ b9 := fun g hg e => by
                    rcases b1 with b1 | b1
                    · rw [b1] at hg; exact hd9 g hg e
                    · rw [b1] at hg
                      cases hg
                      have := lt_of_block h9
                      rw [World.size_alloc] at e
                      omega
                  have C35 : Hid (Calls Tryd.prog 35 #[.slice xo N xc, .agg #[.int .i64 (da : Int), .int .i64 (db : Int)]] w2 fun e w' => e = .returned (.agg #[.int .i64 (ea : Int), .int .i64 (eb : Int)]) ∧ Below w2.heap.size w2 w') := by
                    have := behind_call (a := da) (b := db) (HXR.out.1.below hRF2.below) HXR.out.2.1 (by rw [hrn]; exact hN1) hIt
                    rw [hne] at this
                    exact this
                  obtain ⟨c90, c91⟩ := cell_two h9
                  obtain ⟨c92, c93⟩ := cell_two h91
                  obtain ⟨c94, c95⟩ := cell_two h92
                  have hz2f : ∃ gz cz, z2 = .slice (some ⟨gz, 0, none⟩) (j + 1) cz := by
                    obtain ⟨gz, cz, e, _⟩ := hF2.form (by omega)
                    exact ⟨gz, cz, e⟩
                  obtain ⟨gz, cz, hz2e⟩ := hz2f
                  subst hz2e
                  obtain ⟨fo, fc', hu12⟩ := form_row hfr
                  subst hu12
                  have HK : Hid (RFS w w2 u5 z1 (D ++ orb rs (a, b) (j + 1)) out vs B ∧ w2.ownsRow B 3 1 (.slice (some ⟨gz, 0, none⟩) (j + 1) cz) (j + 1) (qv ((orb rs (a, b) (j + 1)).map Prod.fst)) ∧ Two w2 b9 (.int .i64 (da : Int)) (.int .i64 (db : Int)) 49 ∧ (∀ g, z1.ownBlock = some g → g ≠ b9) ∧ it (nxtD rs) (a, b) (j + 1) = (ea, eb)) := ⟨hRF2, hF2, h92, hz1b, he⟩
                  have HPJ : Hid ((it (nxtD rs) (a, b) (j + 1) = (a, b) → j + 1 = P) ∧ (it (nxtD rs) (a, b) (j + 1) ≠ (a, b) → j + 1 < P)) := ⟨fun h => by
                      rcases Nat.lt_or_ge (j + 1) P with h1 | h1
                      · exact absurd h (HN.out.2.2.1.2.2.2 (j + 1) (by omega) h1)
                      · omega, fun h => by
                      rcases Nat.lt_or_ge (j + 1) P with h1 | h1
                      · exact h1
                      · have e : j + 1 = P := by omega
                        exact absurd (by rw [e]; exact HN.out.2.2.1.2.2.1) h⟩
                  obtain ⟨dd, hdd⟩ : ∃ dd, decide ((ea, eb) = (a, b)) = dd := ⟨_, rfl⟩
                  have heq : ∀ A : World, (binOp .eql 49 (.agg #[.int .i64 (ea : Int), .int .i64 (eb : Int)]) (.agg #[.int .i64 (a : Int), .int .i64 (b : Int)])).run Tryd.prog A = .ok (.bool dd) A := fun A => by rw [← hdd]; exact eqlD (by omega) (by omega) (by omega) (by omega) A
                  have HDD : Hid (decide ((ea, eb) = (a, b)) = dd) := hdd
                  clear hdd hrf hfr hd9 hIt hItN hd he hne hrn o1 g1 T1 b1 hD1 hf1 h91 o2 g2 b2 T2 hF2 h92 hRF2 hz1b h9
                  go_upto_region 20 with (first | (at_builtin; refine wpList_appF rfl _ _ 22 rfl (v := u6) (y := .slice (some ⟨wr.heap.size, 0, none⟩) 1 1) (z := z1) (w' := w1) rfl rfl hr1 ?_) | (at_builtin; refine wpList_appF rfl _ _ 61 rfl (v := .slice fo j fc') (y := .slice (some ⟨w1.heap.size, 0, none⟩) 1 1) (z := .slice (some ⟨gz, 0, none⟩) (j + 1) cz) (w' := w2) rfl rfl hr2 ?_) | (go_at_call 35; refine Calls.mono C35.out ?_; rintro e w3 ⟨rfl, h3⟩; have y9 := two_next HK.out.2.2.1 h3; obtain ⟨k0, k1⟩ := cell_two y9; have f0 := box_free y9 0; have bx1 := box_set y9 0 (.int .i64 (ea : Int)); have k3 := box_cell bx1 (i := 1) rfl; have f2 := box_free bx1 1; have y10 := two_setN (x' := .int .i64 (ea : Int)) (y' := .int .i64 (eb : Int)) y9; obtain ⟨m0, m1⟩ := cell_two y10) | fail)
                  have hrf3 := HK.out.1.under h3
                  have hfr3 : w3.ownsRow B 3 1 (.slice (some ⟨gz, 0, none⟩) (j + 1) cz) (j + 1) (qv ((orb rs (a, b) (j + 1)).map Prod.fst)) := ownsRow_blocks HK.out.2.1 (fun g hg => h3.block g (HK.out.2.1.lt g hg).2)
                  have T4 : Turns (fun k => k = b9) w3 ((w3.setCell ⟨b9, 0, none⟩ (.int .i64 (ea : Int))).setCell ⟨b9, 1, none⟩ (.int .i64 (eb : Int))) := (setCell_turns w3 b9 0 _).trans (setCell_turns _ b9 1 _)
                  have hrf4 : RFS w ((w3.setCell ⟨b9, 0, none⟩ (.int .i64 (ea : Int))).setCell ⟨b9, 1, none⟩ (.int .i64 (eb : Int))) u5 z1 (D ++ orb rs (a, b) (j + 1)) out vs B := ⟨hrf3.fc.turnsT T4 hrf3.hs (fun k e _ => by rw [e]; exact ⟨_, _, _, y9, by decide, by decide⟩), ownsRow_blocks hrf3.dn (fun g hg => T4.block g (hrf3.dn.lt g hg).2 (HK.out.2.2.2.1 g hg)), T4.below hrf3.below hrf3.below.size (fun k e => by rw [e]; exact HWB.out.2.2.2.2.2), Nat.le_trans hrf3.hs T4.size⟩
                  have hfr4 : ((w3.setCell ⟨b9, 0, none⟩ (.int .i64 (ea : Int))).setCell ⟨b9, 1, none⟩ (.int .i64 (eb : Int))).ownsRow B 3 1 (.slice (some ⟨gz, 0, none⟩) (j + 1) cz) (j + 1) (qv ((orb rs (a, b) (j + 1)).map Prod.fst)) := ownsRow_blocks hfr3 (fun g hg => T4.block g (hfr3.lt g hg).2 (fun e => by
                    obtain ⟨c1, k1⟩ := own_cells hfr3 hg
                    rw [e, y9] at k1; simp at k1))
                  generalize (w3.setCell ⟨b9, 0, none⟩ (.int .i64 (ea : Int))).setCell ⟨b9, 1, none⟩ (.int .i64 (eb : Int)) = w4 at *
                  have HK4 : Hid (RFS w w4 u5 z1 (D ++ orb rs (a, b) (j + 1)) out vs B ∧ w4.ownsRow B 3 1 (.slice (some ⟨gz, 0, none⟩) (j + 1) cz) (j + 1) (qv ((orb rs (a, b) (j + 1)).map Prod.fst)) ∧ Two w4 b9 (.int .i64 (ea : Int)) (.int .i64 (eb : Int)) 49) := ⟨hrf4, hfr4, y10⟩
                  clear hrf3 hfr3 T4 hrf4 hfr4 y9 y10 bx1 k0 k1 k3 f0 f2 c90 c91 c92 c93 c94 c95 hr1 hr2 C35 h3
                  cases dd with
                  | false =>
                    have hnp := HPJ.out.2 (by rw [HK.out.2.2.2.2]; exact of_decide_eq_false HDD.out)
                    have HNP : Hid (j + 1 < P) := hnp
                    clear hnp
                    go_wp2
                    go_roundw
                    case rel =>
                      refine ⟨j + 1, HNP.out, HK4.out.1, HK4.out.2.1, ?_, HK.out.2.2.2.1⟩
                      rw [HK.out.2.2.2.2]
                      exact HK4.out.2.2
                    case measure =>
                      have := HNP.out
                      show P - (j + 1) < P - j
                      omega
                  | true =>
                    have heP := HPJ.out.1 (by rw [HK.out.2.2.2.2]; exact of_decide_eq_true HDD.out)
                    have HEP : Hid (j + 1 = P) := heP
                    clear heP
                    obtain ⟨i61, hi61, hs0, hs1, hs2⟩ := info_parts Tryd.info61
                    have hfc := HK4.out.1.fc
                    have hol := HS.out.2.2.2.1
                    obtain ⟨z5, w5, hr5, o5, g5, _, b5⟩ := run_append_own_at (P := Tryd.prog) (w4.alloc (Obj.cells #[.slice (some ⟨gz, 0, none⟩) (j + 1) cz] 61)) w.heap.size 29 29 61 i61 (.slice none 0 0) 1 24 Tryd.underlying29 hi61 hs0 hs1 hs2 rfl (by decide) u5 out.length vs (World.ownsRow.alloc hfc.row _) ⟨w4.heap.size, 0, none⟩ 1 1 [.slice (some ⟨gz, 0, none⟩) (j + 1) cz] rfl (one_cells _ _ _) (by intro z hz; simp at hz; subst hz; rfl) (by unfold maxLen; omega) (by omega) (by have := HK4.out.1.below.size; simp; omega)
                    have hpush := hfc.push HK4.out.1.hs (by have := HWB.out.2.2.2.2.1; have := HXR.out.2.2.2; omega) (x := .slice (some ⟨gz, 0, none⟩) (j + 1) cz) (l := (orb rs (a, b) (j + 1)).map Prod.fst) (o := Obj.cells #[.slice (some ⟨gz, 0, none⟩) (j + 1) cz] 61) (by rw [List.length_map, orb_len]; exact HK4.out.2.1) HWB.out.2.2.2.2.1 g5 o5 b5 g5.size (fun g hg => (o5.lt g hg).2)
                    have T5 : Turns (fun k => some k = u5.ownBlock) w4 w5 := (alloc_turns w4 _ _).trans (Turns.of_grown g5)
                    have HFin : Hid (RFS w w5 z5 z1 (D ++ orb rs (a, b) P) (out ++ [(orb rs (a, b) P).map Prod.fst]) (vs ++ [.slice (some ⟨gz, 0, none⟩) (j + 1) cz]) w5.heap.size) := by
                      rw [← HEP.out]
                      exact ⟨hpush, ownsRow_blocks HK4.out.1.dn (fun g hg => T5.block g (HK4.out.1.dn.lt g hg).2 (fun e => by
                        obtain ⟨c1, k1⟩ := own_cells hfc.row e.symm
                        obtain ⟨c2, k2⟩ := own_cells HK4.out.1.dn hg
                        rw [k1] at k2; simp at k2)), T5.below HK4.out.1.below HK4.out.1.below.size (fun k e => (hfc.row.lt k e.symm).1), Nat.le_refl _⟩
                    have HRun : Hid (RefRun rs (dartsB (fun a b => p a b) N a (b + 1)) ([], []) (D ++ orb rs (a, b) P, out ++ [(orb rs (a, b) P).map Prod.fst])) := by
                      show RefRun _ _ _ _
                      rw [dartsB_succ, if_pos HN.out.2.2.2]
                      exact HS.out.2.1.append (Or.inr ⟨HN.out.1, P, HN.out.2.2.1, rfl⟩)
                    have HDd : Hid (∀ d ∈ D ++ orb rs (a, b) P, IsD rs d) := fun d hd => by
                      rcases List.mem_append.1 hd with h | h
                      · exact HS.out.2.2.2.2 d h
                      · obtain ⟨k, _, rfl⟩ := mem_orb.1 h
                        exact HXR.out.2.1.it HN.out.2.1 k
                    clear hfc o5 g5 b5 hpush T5 hol
                    go_wp2_with (first | (at_builtin; refine wpList_appF rfl _ _ 29 rfl (v := u5) (y := .slice (some ⟨w4.heap.size, 0, none⟩) 1 1) (z := z5) (w' := w5) rfl rfl hr5 ?_) | go_in)
                    go_roundw
                    case rel =>
                      have h1 := HS.out.2.2
                      refine ⟨b + 1, D ++ orb rs (a, b) P, out ++ [(orb rs (a, b) P).map Prod.fst], _, _, by omega, by go_num, HFin.out, HRun.out, ?_, ?_, HDd.out⟩
                      · rw [List.length_append, orb_len]; omega
                      · rw [List.length_append, List.length_singleton]; omega
                    case measure => simp [numOf]; omega
        · have hbe : b = N := by omega
          have k2 : ¬ (b : Int) < (N : Int) := by omega
          have HRR : Hid (RFS w wr u5 u6 D out vs hi ∧ RefRun rs (dartsQ (fun a b => p a b) N (a + 1)) ([], []) (D, out) ∧ D.length ≤ 10000 * (100 * (a + 1)) ∧ out.length ≤ 100 * (a + 1) ∧ (∀ d ∈ D, IsD rs d)) := ⟨hrf, by rw [hbe] at hrun; exact hrun, by omega, by omega, hDd⟩
          clear hrf hrun hDl hol hDd hbe
          go_wp2
          go_roundw
          case rel => exact ⟨a + 1, D, out, vs, hi, by omega, by go_num, HRR.out.1, HRR.out.2.1, HRR.out.2.2.1, HRR.out.2.2.2.1, HRR.out.2.2.2.2⟩
          case measure => simp [numOf]; omega
    · have hae : a = N := by omega
      have i2 : ¬ (a : Int) < (N : Int) := by omega
      have HRR : Hid (RFS w wr u5 u6 D out vs hi ∧ RefRun rs (dartsQ (fun a b => p a b) N N) ([], []) (D, out) ∧ out.length ≤ 20000) := ⟨hrf, by rw [hae] at hrun; exact hrun, by omega⟩
      clear hrf hrun hDl hol hDd hae
      go_wp2
      go_ret
      exact ⟨u5, D, out, vs, hi, rfl, ⟨HRR.out.1.fc, World.ownsRow_nil _ _ _ _, HRR.out.1.below, HRR.out.1.hs⟩, HRR.out.2.1, HRR.out.2.2⟩
end Go.Proofs.YtekokjechbibdaaDoor
