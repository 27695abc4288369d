/- Edges: each edge gets a colour. -/
import Derived.Test.YtdnmoifbkojnlaaMostV
import Derived.Test.YtdnmoifbkojnlaaAddW
namespace Go.Proofs.Ytdnmoifbkojnlaa
open Go.RowKit Go.Maps
attribute [local go_sem ↓] Go.wp_at_zero Go.wp_at_succ

theorem NewEnd.up {W Wb w' : World} {n k p : Nat} (h : NewEnd Wb n k p w') (hb : Below W.heap.size W Wb) : NewEnd W n k p w' := by
  obtain ⟨t, B, h1, h2, h3⟩ := h
  exact ⟨t, B, h1, fun v hv => Nat.le_trans hb.size (h2 v hv), below_next hb h3⟩
theorem rsn_allP (N : Nat) (p : Int → Int → Bool) : Rsn N (allP N p) := ⟨fun k e h => by
  obtain ⟨u, v, h1, h2, _, h3⟩ := allP_mem.1 (List.mem_of_getElem? h)
  exact ⟨u, v, h3, h1, h2⟩, allP_nodup N p⟩
theorem edgesAt_turns {M : Nat → Prop} {W Wc wr : World} {lo : Option Addr} {fl lc : Nat} {fes : List Pair} (h : EdgesAt W (.slice lo fl lc) fes) (hb : Below W.heap.size W Wc) (ht : Turns M Wc wr) (hm : ∀ y, y < W.heap.size → ¬ M y) : EdgesAt wr (.slice lo fl lc) fes := by
  refine h.below ⟨ht.os.trans hb.os, ht.tape.trans hb.tape, ht.output.trans hb.output, Nat.le_trans hb.size ht.size, fun k hk => ?_⟩
  rw [ht.block k (Nat.lt_of_lt_of_le hk hb.size) (hm k hk), hb.block k hk]
/-- What Edges leaves. -/
def EdgEnd (w : World) (k : Nat) (fes : List Pair) (po : Option Addr) (w' : World) : Prop := ∃ L : List Nat, L.length = fes.length ∧ NumsAt w' po L ∧ FitE k fes L ∧ Below w.heap.size w w'
set_option maxRecDepth 4000 in
set_option maxHeartbeats 6000000 in
theorem edges_go {w : World} {N k mx fl : Nat} {vo : Option Addr} {vc : Nat} {es fes : List Pair} (hE : EdgesAt w (.slice vo es.length vc) es) (hs : formS (N : Int) es = ⟨N, fes, 0, 0⟩) (hN : N ≤ 100) (hfl : fl = fes.length) (hl : fl ≤ 1000) (hr : Rsn N fes) (hmx : mx = mxL (fun i => nbOf fes i) N) (hk : k = mx + 1) (hk1 : mx ≤ 1000 - 1) :
    Calls Try.prog 19 #[.agg #[.int .i64 (N : Int), .slice vo es.length vc]] w fun e w' => ∃ po pc, e = .returned (.tuple #[.slice po fl pc, .agg #[.int .i64 0, .int .i64 0]]) ∧ EdgEnd w k fes po w' := by
  have HE : Hid (EdgesAt w (.slice vo es.length vc) es) := hE
  have HFS : Hid (formS (N : Int) es = ⟨N, fes, 0, 0⟩) := hs
  have HR : Hid (Rsn N fes) := hr
  have HMX : Hid (mx = mxL (fun i => nbOf fes i) N) := hmx
  have HFL : Hid (fl = fes.length) := hfl
  have HK : Hid (k = mx + 1) := hk
  have hk2 : k ≤ 1000 := by omega
  clear hE hs hr hmx hfl hk
  go_enter Try.func19, Try.ntmps19
  go_upto_region 1 with (fail)
  have t1 := two_alloc (two_new w (.int .i64 (N : Int)) (.slice vo es.length vc) 24) (Obj.cells #[.int .i64 0, .int .i64 0] 27)
  have t3 := two_nxt w (Obj.cells #[.int .i64 (N : Int), .slice vo es.length vc] 24) (.int .i64 0) (.int .i64 0) 27
  have hB0 := below_alloc (below_alloc (Below.refl _ w) (Obj.cells #[.int .i64 (N : Int), .slice vo es.length vc] 24)) (Obj.cells #[.int .i64 0, .int .i64 0] 27)
  obtain ⟨b1, hb1⟩ : ∃ b, b = w.heap.size := ⟨_, rfl⟩
  obtain ⟨b3, hb3⟩ : ∃ b, b = w.heap.size + 1 := ⟨_, rfl⟩
  have HB3 : Hid (w.heap.size ≤ b3) := by show w.heap.size ≤ b3; omega
  rw [← hb3] at t3 ⊢
  rw [← hb1] at t1 ⊢
  generalize (w.alloc (Obj.cells #[.int .i64 (N : Int), .slice vo es.length vc] 24)).alloc (Obj.cells #[.int .i64 0, .int .i64 0] 27) = W0 at t1 t3 hB0 ⊢
  clear hb1 hb3
  obtain ⟨q0, q1⟩ := cell_two t1
  have h34 := form_as (HE.out.below hB0) HFS.out
  have H34 : Hid (Calls Try.prog 34 #[.agg #[.int .i64 (N : Int), .slice vo es.length vc]] W0 fun e w' => Below W0.heap.size W0 w' ∧ ∃ ao cap, e = .returned (.tuple #[.agg #[.int .i64 (N : Int), .slice ao fl cap], .agg #[.int .i64 0, .int .i64 0]]) ∧ EdgesAt w' (.slice ao fl cap) fes) := h34.mono (by
    rintro e w' ⟨hb, ao, cap, rfl, hEl, _⟩
    rw [HFL.out]
    exact ⟨hb, ao, cap, rfl, hEl⟩)
  clear h34
  go_upto_region 2 with (first | (go_at_call 34; refine Calls.mono H34.out ?_; rintro e W1 ⟨hb, lo, lc, rfl, hEl⟩) | go_in)
  have t4 := two_alloc (two_new W1 (.int .i64 (N : Int)) (.slice lo fl lc) 24) (Obj.cells #[.int .i64 0, .int .i64 0] 27)
  have t5 := two_nxt W1 (Obj.cells #[.int .i64 (N : Int), .slice lo fl lc] 24) (.int .i64 0) (.int .i64 0) 27
  have hB2 := below_alloc (below_alloc hb (Obj.cells #[.int .i64 (N : Int), .slice lo fl lc] 24)) (Obj.cells #[.int .i64 0, .int .i64 0] 27)
  have hE2 := hEl.below (below_alloc (below_alloc (Below.refl _ W1) (Obj.cells #[.int .i64 (N : Int), .slice lo fl lc] 24)) (Obj.cells #[.int .i64 0, .int .i64 0] 27))
  obtain ⟨b4, hb4⟩ : ∃ b, b = W1.heap.size := ⟨_, rfl⟩
  obtain ⟨b5, hb5⟩ : ∃ b, b = W1.heap.size + 1 := ⟨_, rfl⟩
  rw [← hb5] at t5 ⊢
  rw [← hb4] at t4 ⊢
  generalize (W1.alloc (Obj.cells #[.int .i64 (N : Int), .slice lo fl lc] 24)).alloc (Obj.cells #[.int .i64 0, .int .i64 0] 27) = W2 at t4 t5 hB2 hE2 ⊢
  have HT4 : Hid (Two W2 b4 (.int .i64 (N : Int)) (.slice lo fl lc) 24) := t4
  have HT3 : Hid (Two W2 b3 (.int .i64 0) (.int .i64 0) 27) := two_next t3 hB2
  have HBW : Hid (Below w.heap.size w W2) := below_next hB0 hB2
  have HE2 : Hid (EdgesAt W2 (.slice lo fl lc) fes) := hE2
  clear hb4 hb5 q0 q1 H34 hb hEl hE2 hB2 hB0 t1 t3
  obtain ⟨q0, q1⟩ := cell_two t5
  obtain ⟨q2, q3⟩ := cell_two t4
  clear t4 t5
  go_upto_region 4 with (fail)
  have h37 : Calls Try.prog 37 #[.agg #[.int .i64 (N : Int), .slice lo fl lc]] W2.drew fun e w' => ∃ g vs, e = .returned (sl g N) ∧ W2.drew.heap.size ≤ g ∧ NearL w' W2.drew.heap.size g N vs (fun i => nbOf fes i) ∧ Below W2.drew.heap.size W2.drew w' := by
    have := HE2.out.below (Below.refl _ W2).drew
    rw [HFL.out] at this ⊢
    exact nearBy_call this hN (by rw [← HFL.out]; exact hl) HR.out.mem
  have H37 : Hid (Calls Try.prog 37 #[.agg #[.int .i64 (N : Int), .slice lo fl lc]] W2.drew fun e w' => ∃ g vs, e = .returned (sl g N) ∧ W2.drew.heap.size ≤ g ∧ NearL w' W2.drew.heap.size g N vs (fun i => nbOf fes i) ∧ Below W2.drew.heap.size W2.drew w') := h37
  have H36 : Hid (∀ (W : World) (base g : Nat) (vs : Nat → Value), NearL W base g N vs (fun i => nbOf fes i) → Calls Try.prog 36 #[sl g N] W fun e w' => e = .returned (.int .i64 (mx : Int)) ∧ w' = W) := fun W base g vs h => by
    rw [HMX.out]; exact most_call h hN
  have H35 : Hid (∀ W : World, Calls Try.prog 35 #[.int .i64 (N : Int), .int .i64 (k : Int)] W fun e w' => ∃ p, e = .returned (ptr p) ∧ NewEnd W N k p w') := fun W => newDye_call W (by omega) hk2
  have j1 : IntKind.i64.wrap ((mx : Int) + 1) = (k : Int) := by rw [IntKind.wrap_i64, HK.out]; omega
  clear h37
  go_cut [6] from 21 to 27 (fun s6 wc => ∃ p, s6 = ptr p ∧ NewEnd W2 N k p wc)
  case first =>
    go_region_with (first
      | (go_at_call 37; refine Calls.mono H37.out ?_; rintro e Wa ⟨g, vs, rfl, hg, hnl, hba⟩; have hba2 : Below W2.heap.size W2 Wa := below_next (Below.refl _ W2).drew hba; obtain ⟨r2, r3⟩ := cell_two (two_next HT4.out hba2); have HBA : Hid (Below W2.heap.size W2 Wa) := hba2; have HNL : Hid (NearL Wa W2.drew.heap.size g N vs (fun i => nbOf fes i)) := hnl; clear hg hnl hba hba2)
      | (go_at_call 36; refine Calls.mono (H36.out _ _ _ _ HNL.out) ?_; rintro e Wb ⟨rfl, rfl⟩)
      | (go_at_call 35; refine Calls.mono (H35.out _) ?_; rintro e Wd ⟨pp, rfl, hnew⟩))
    all_goals
      go_wp2_with fail
      go_meet
      case rel => exact ⟨pp, rfl, hnew.up HBA.out⟩
  case rest =>
    obtain ⟨p, rfl, hnew⟩ := hcut
    generalize wc = Wc at hnew ⊢
    obtain ⟨t, B, hdy0, hge, hBc⟩ := hnew
    have HT4c : Hid (Two Wc b4 (.int .i64 (N : Int)) (.slice lo fl lc) 24) := two_next HT4.out hBc
    have HT3c : Hid (Two Wc b3 (.int .i64 0) (.int .i64 0) 27) := two_next HT3.out hBc
    have HEc : Hid (EdgesAt Wc (.slice lo fl lc) fes) := HE2.out.below hBc
    have HBWc : Hid (Below w.heap.size w Wc) := below_next HBW.out hBc
    have hl4 := lt_of_block HT4.out
    have hl3 := lt_of_block HT3.out
    have hkb : ∀ x, x < N → (nbOf fes x).length < k := fun x hx => by
      have := mxL_ge (fun i => nbOf fes i) N x hx
      have := HMX.out
      have := HK.out
      omega
    have HKB : Hid (∀ x, x < N → (nbOf fes x).length < k) := hkb
    have HGE : Hid (∀ v, v < N → W2.heap.size ≤ B v) := hge
    have HDY0 : Hid (DyeAt Wc p t N k B (fun _ _ => -1)) := hdy0
    have hedge : ∀ {W : World}, EdgesAt W (.slice lo fl lc) fes → ∀ j, j < fl → ∃ b off, ∃ x y : Nat, lo = some ⟨b, off, none⟩ ∧ fes[j]? = some ((x : Int), (y : Int)) ∧ x < y ∧ y < N ∧ W.cell? ⟨b, off + j * 2, none⟩ = some (.int .i64 (x : Int)) ∧ W.cell? ⟨b, off + j * 2 + 1, none⟩ = some (.int .i64 (y : Int)) := fun hE j hj => by
      obtain ⟨ao, cap, e, _, _, hc⟩ := hE
      cases e
      obtain ⟨b, off, e1, c1, c2⟩ := hc j (by rw [← HFL.out]; exact hj)
      have hg : fes[j]? = some fes[j] := List.getElem?_eq_getElem (by rw [← HFL.out]; exact hj)
      obtain ⟨x, y, e2, h1, h2⟩ := HR.out.mem j _ hg
      rw [e2] at c1 c2 hg
      exact ⟨b, off, x, y, e1, hg, h1, h2, c1, c2⟩
    have HEDGE : Hid (∀ {W : World}, EdgesAt W (.slice lo fl lc) fes → ∀ j, j < fl → ∃ b off, ∃ x y : Nat, lo = some ⟨b, off, none⟩ ∧ fes[j]? = some ((x : Int), (y : Int)) ∧ x < y ∧ y < N ∧ W.cell? ⟨b, off + j * 2, none⟩ = some (.int .i64 (x : Int)) ∧ W.cell? ⟨b, off + j * 2 + 1, none⟩ = some (.int .i64 (y : Int))) := @hedge
    clear q0 q1 q2 q3 j1 H37 H36 H35 hdy0 hge hkb hedge
    obtain ⟨q2, q3⟩ := cell_two HT4c.out
    go_wp2
    clear q2 q3
    go_loopw [31] (fun i wr => ∃ (j : Nat) (D : Nat → Nat → Int), j ≤ fl ∧ i = .int .i64 (j : Int) ∧ DyeAt wr p t N k B D ∧ DyS N k fes j D ∧ Turns (rowsOf N B) Wc wr) (fun i _ => fl - (numOf i).toNat)
    case atStart => exact ⟨0, _, Nat.zero_le _, rfl, HDY0.out, DyS.start, Turns.refl _ _⟩
    case round =>
      clear HDY0
      obtain ⟨j, D, hj, rfl, hdy, hds, ht⟩ := hrel
      have hnr : ∀ y, y < W2.heap.size → ¬ rowsOf N B y := fun y hy h => by
        obtain ⟨v', hv', e⟩ := h
        have := HGE.out v' hv'
        omega
      have HDS : Hid (DyS N k fes j D) := hds
      have HDY : Hid (DyeAt wr p t N k B D) := hdy
      have HT : Hid (Turns (rowsOf N B) Wc wr) := ht
      have HEr : Hid (EdgesAt wr (.slice lo fl lc) fes) := edgesAt_turns HE2.out hBc ht hnr
      have HT4r : Hid (Two wr b4 (.int .i64 (N : Int)) (.slice lo fl lc) 24) := two_turns HT4c.out ht (hnr _ hl4)
      have HT3r : Hid (Two wr b3 (.int .i64 0) (.int .i64 0) 27) := two_turns HT3c.out ht (hnr _ hl3)
      clear hdy hds ht hnr
      by_cases hlt : j < fl
      · obtain ⟨b, off, x, y, rfl, hget, hxy, hyN, c1, c2⟩ := HEDGE.out HEr.out j hlt
        have HGET : Hid (fes[j]? = some ((x : Int), (y : Int))) := hget
        have i1 : (0 : Int) ≤ (j : Int) := by omega
        have i2 : (j : Int) < (fl : Int) := by omega
        clear hget
        go_upto_region 8 with (fail)
        have t8 := two_new wr (.int .i64 (x : Int)) (.int .i64 (y : Int)) 48
        have hBx := below_alloc (Below.refl _ wr) (Obj.cells #[.int .i64 (x : Int), .int .i64 (y : Int)] 48)
        obtain ⟨b8, hb8⟩ : ∃ b, b = wr.heap.size := ⟨_, rfl⟩
        rw [← hb8] at t8 ⊢
        generalize wr.alloc (Obj.cells #[.int .i64 (x : Int), .int .i64 (y : Int)] 48) = Wx at t8 hBx ⊢
        obtain ⟨z1, z2⟩ := cell_two t8
        have H38 : Hid (Calls Try.prog 38 #[ptr p, .int .i64 (x : Int), .int .i64 (y : Int)] Wx fun e w' => e = .returned (.tuple #[]) ∧ AddEnd N k p t x y B D w' ∧ Turns (rowsOf N B) Wx w') := add_call (HDY.out.below hBx) HDS.out.dye (by omega) hk2 (HDS.out.free HKB.out) (by omega) hyN (by omega) (HR.out.fresh HDS.out HGET.out (by omega))
        clear hb8 t8 c1 c2
        go_wp2_with (first | (go_at_call 38; refine Calls.mono H38.out ?_; rintro e Wy ⟨rfl, hadd, hty⟩) | go_in)
        obtain ⟨D', hdy', hD', hdd⟩ := hadd
        have hnext := HDS.out.next HGET.out hD' hdd
        have hT' := HT.out.trans ((Turns.of_below hBx _).trans hty)
        clear hD' hdd hty
        go_roundw
        case rel => exact ⟨j + 1, D', by omega, by go_num, hdy', hnext, hT'⟩
        case measure => simp [numOf]; omega
      · have i2 : ¬ (j : Int) < (fl : Int) := by omega
        have hjf : j = fl := by omega
        rw [hjf] at HDS
        obtain ⟨Wd, hWd⟩ : ∃ Wd, Wd = wr := ⟨_, rfl⟩
        rw [← hWd] at HDY HT HEr HT4r HT3r ⊢
        clear hWd
        obtain ⟨q2, q3⟩ := cell_two HT4r.out
        have hszd := HT.out.size
        have hszc := hBc.size
        have HBd : Hid (Below w.heap.size w Wd) := by
          have hb := HBWc.out
          have ht := HT.out
          refine ⟨ht.os.trans hb.os, ht.tape.trans hb.tape, ht.output.trans hb.output, Nat.le_trans hb.size ht.size, fun x hx => ?_⟩
          have h2 := HBW.out.size
          rw [ht.block x (Nat.lt_of_lt_of_le hx hb.size) (fun h => by
            obtain ⟨v', hv', e⟩ := h
            have := HGE.out v' hv'
            omega), hb.block x hx]
        go_wp2
        clear q2 q3
        go_loopw [9, 45] (fun s9 i wr => ∃ (j : Nat) (po : Option Addr) (pc : Nat) (L : List Nat), j ≤ fl ∧ s9 = .slice po j pc ∧ L.length = j ∧ i = .int .i64 (j : Int) ∧ wr.ownsRow Wd.heap.size 3 1 (.slice po L.length pc) L.length (qv L) ∧ ColsE k fes D L ∧ Below Wd.heap.size Wd wr) (fun _ i _ => fl - (numOf i).toNat)
        case atStart => exact ⟨0, none, 0, [], Nat.zero_le _, rfl, rfl, rfl, World.ownsRow_nil _ _ _ _, fun i c h => by simp at h, Below.refl _ _⟩
        case round =>
          clear hjf
          obtain ⟨j', po, pc, L, hj', rfl, hLl, rfl, hown, hcol, hB⟩ := hrel
          have HOWN : Hid (wr.ownsRow Wd.heap.size 3 1 (.slice po L.length pc) L.length (qv L)) := hown
          have HCOL : Hid (ColsE k fes D L) := hcol
          have HLL : Hid (L.length = j') := hLl
          clear hown hcol hLl
          by_cases hlt2 : j' < fl
          · obtain ⟨b, off, x, y, rfl, hget, hxy, hyN, c1, c2⟩ := HEDGE.out (HEr.out.below hB) j' hlt2
            have HGET : Hid (fes[j']? = some ((x : Int), (y : Int))) := hget
            have k1 : (0 : Int) ≤ (j' : Int) := by omega
            have k2 : (j' : Int) < (fl : Int) := by omega
            clear hget
            go_upto_region 14 with (fail)
            have t8 := two_new wr (.int .i64 (x : Int)) (.int .i64 (y : Int)) 48
            have hBx := below_alloc hB (Obj.cells #[.int .i64 (x : Int), .int .i64 (y : Int)] 48)
            have hown2 := HOWN.out.alloc (Obj.cells #[.int .i64 (x : Int), .int .i64 (y : Int)] 48)
            obtain ⟨b8, hb8⟩ : ∃ b, b = wr.heap.size := ⟨_, rfl⟩
            rw [← hb8] at t8 ⊢
            generalize wr.alloc (Obj.cells #[.int .i64 (x : Int), .int .i64 (y : Int)] 48) = Wx at t8 hBx hown2 ⊢
            obtain ⟨z1, z2⟩ := cell_two t8
            have hszx := hBx.size
            have HOWN2 : Hid (Wx.ownsRow Wd.heap.size 3 1 (.slice po L.length pc) L.length (qv L)) := hown2
            obtain ⟨cc, hcc, hce⟩ : ∃ c, c < k ∧ D x c = (y : Int) := (HDS.out.has x y (by omega)).2 ⟨j', hlt2, x, y, HGET.out, Or.inl ⟨rfl, rfl⟩⟩
            have h39 : Calls Try.prog 39 #[ptr p, .int .i64 (x : Int), .int .i64 (y : Int)] Wx fun e w' => (∃ c : Nat, e = .returned (.int .i64 (c : Int)) ∧ c < k ∧ D x c = (y : Int)) ∧ w' = Wx := (colour_call (HDY.out.below hBx) hk2 (by omega) (y : Int)).mono (by
              rintro e w' ⟨⟨m, rfl, hm⟩, rfl⟩
              obtain ⟨i, rfl, h1, h2⟩ := hm.hit hcc hce
              exact ⟨⟨i, rfl, h1, h2⟩, rfl⟩)
            have H39 : Hid (Calls Try.prog 39 #[ptr p, .int .i64 (x : Int), .int .i64 (y : Int)] Wx fun e w' => (∃ c : Nat, e = .returned (.int .i64 (c : Int)) ∧ c < k ∧ D x c = (y : Int)) ∧ w' = Wx) := h39
            have hjl := HLL.out
            clear hb8 t8 c1 c2 hown2 h39 hce hcc
            subst hjl
            go_wp2_with (first | (go_at_call 39; refine Calls.mono H39.out ?_; rintro e Wy ⟨⟨c, rfl, hck, hce⟩, rfl⟩) | (at_builtin; refine wpList_pushA (x := c) rfl _ _ rfl rfl rfl HOWN2.out (by omega) hszx ?_; intro g1 c1 w2 hown1 hgr1 hat1) | go_in)
            have T1 := (alloc_turns Wy (Obj.cells #[.int .i64 (c : Int)] 3) (fun x => some x = (Value.slice po L.length pc).ownBlock)).trans (Turns.of_grown hgr1)
            have hB1 : Below Wd.heap.size Wd w2 := Turns.below hBx T1 hszx (fun x hx => (HOWN2.out.lt x hx.symm).1)
            have hcol2 : ColsE k fes D (L ++ [c]) := fun i d hi => by
              by_cases e : i < L.length
              · rw [List.getElem?_append_left e] at hi
                exact HCOL.out i d hi
              · have e2 : i = L.length := by
                  have := (List.getElem?_eq_some_iff.1 hi).1
                  simp at this
                  omega
                subst e2
                simp at hi
                subst hi
                exact ⟨hck, x, y, HGET.out, hce⟩
            go_roundw
            case rel => exact ⟨L.length + 1, some ⟨g1, 0, none⟩, c1, L ++ [c], by omega, rfl, by simp, by go_num, hown1, hcol2, hB1⟩
            case measure => simp [numOf]; omega
          · have k2 : ¬ (j' : Int) < (fl : Int) := by omega
            have hje : j' = fl := by omega
            have hL2 : L.length = fes.length := by rw [HLL.out, hje, HFL.out]
            subst hje
            have t3r := two_next HT3r.out hB
            obtain ⟨q0, q1⟩ := cell_two t3r
            have f0 := free_two t3r
            have hnum : NumsAt wr po L := numsAt_own HOWN.out
            have hfit := cols_fit HR.out HDS.out.dye HCOL.out
            have hl3d := Nat.lt_of_lt_of_le hl3 (Nat.le_trans hszc hszd)
            have hfin : EdgEnd w k fes po ((wr.setCell ⟨b3, 0, none⟩ (.int .i64 0)).setCell ⟨b3, 1, none⟩ (.int .i64 0)) := by
              refine ⟨L, hL2, fun i u hu => ?_, hfit, ?_⟩
              · obtain ⟨b, e, hc⟩ := hnum i u hu
                refine ⟨b, e, ?_⟩
                have hbge := (HOWN.out.lt b (by rw [e]; rfl)).1
                rw [World.cell?_of_block (w := wr)]
                · exact hc
                · rw [Below.heap_setCell _ _ _ _ (by show b ≠ b3; omega), Below.heap_setCell _ _ _ _ (by show b ≠ b3; omega)]
              · exact ((below_next HBd.out hB).setCell HB3.out _).setCell HB3.out _
            have HFIN : Hid (EdgEnd w k fes po ((wr.setCell ⟨b3, 0, none⟩ (.int .i64 0)).setCell ⟨b3, 1, none⟩ (.int .i64 0))) := hfin
            clear hfin hnum hfit hL2
            go_wp2
            obtain ⟨s0, s1⟩ := cell_two (two_setN (x' := .int .i64 0) (y' := .int .i64 0) t3r)
            refine bodyPost_ret (v := .tuple #[.slice po j' pc, .agg #[.int .i64 0, .int .i64 0]]) ?_ rfl ⟨po, ⟨pc, rfl⟩, HFIN.out⟩
            simp [results, Try.results19, go_sem, s0, s1]
/-- A graph with a fault. -/
theorem edges_bad {w : World} {n : Int} {vo : Option Addr} {vc : Nat} {es : List Pair} (hE : EdgesAt w (.slice vo es.length vc) es) {c d : Int} {a : Ans} (hs : formS n es = a) (ha : a.c = c ∧ a.pos = d) (hc : c ≠ 0) :
    Calls Try.prog 19 #[.agg #[.int .i64 n, .slice vo es.length vc]] w fun e w' => e = .returned (.tuple #[.slice none 0 0, .agg #[.int .i64 c, .int .i64 d]]) ∧ Below w.heap.size w w' := by
  have HE : Hid (EdgesAt w (.slice vo es.length vc) es) := hE
  have HFS : Hid (formS n es = a) := hs
  have HA : Hid (a.c = c ∧ a.pos = d) := ha
  have kc : (c != 0) = true := by simp [hc]
  clear hE hs ha
  go_enter Try.func19, Try.ntmps19
  go_upto_region 1 with (fail)
  have t1 := two_alloc (two_new w (.int .i64 n) (.slice vo es.length vc) 24) (Obj.cells #[.int .i64 0, .int .i64 0] 27)
  have t3 := two_nxt w (Obj.cells #[.int .i64 n, .slice vo es.length vc] 24) (.int .i64 0) (.int .i64 0) 27
  have hB0 := below_alloc (below_alloc (Below.refl _ w) (Obj.cells #[.int .i64 n, .slice vo es.length vc] 24)) (Obj.cells #[.int .i64 0, .int .i64 0] 27)
  obtain ⟨b1, hb1⟩ : ∃ b, b = w.heap.size := ⟨_, rfl⟩
  obtain ⟨b3, hb3⟩ : ∃ b, b = w.heap.size + 1 := ⟨_, rfl⟩
  have HB3 : Hid (w.heap.size ≤ b3) := by show w.heap.size ≤ b3; omega
  rw [← hb3] at t3 ⊢
  rw [← hb1] at t1 ⊢
  generalize (w.alloc (Obj.cells #[.int .i64 n, .slice vo es.length vc] 24)).alloc (Obj.cells #[.int .i64 0, .int .i64 0] 27) = W0 at t1 t3 hB0 ⊢
  clear hb1 hb3
  obtain ⟨q0, q1⟩ := cell_two t1
  have h34 := form_as (HE.out.below hB0) HFS.out
  obtain ⟨an, fes, ac, ap⟩ := a
  obtain ⟨rfl, rfl⟩ := HA.out
  obtain ⟨fl, hfl⟩ : ∃ fl, fl = fes.length := ⟨_, rfl⟩
  have H34 : Hid (Calls Try.prog 34 #[.agg #[.int .i64 n, .slice vo es.length vc]] W0 fun e w' => Below W0.heap.size W0 w' ∧ ∃ ao cap, e = .returned (.tuple #[.agg #[.int .i64 an, .slice ao fl cap], .agg #[.int .i64 ac, .int .i64 ap]])) := h34.mono (by
    rintro e w' ⟨hb, ao, cap, rfl, hEl, _⟩
    rw [hfl]
    exact ⟨hb, ao, cap, rfl⟩)
  have kc' : (ac != 0) = true := kc
  clear h34 hfl HFS HA kc
  go_upto_region 2 with (first | (go_at_call 34; refine Calls.mono H34.out ?_; rintro e W1 ⟨hb, lo, lc, rfl⟩) | go_in)
  have t5 := two_nxt W1 (Obj.cells #[.int .i64 an, .slice lo fl lc] 24) (.int .i64 ac) (.int .i64 ap) 27
  have hB2 := below_alloc (below_alloc hb (Obj.cells #[.int .i64 an, .slice lo fl lc] 24)) (Obj.cells #[.int .i64 ac, .int .i64 ap] 27)
  obtain ⟨b4, hb4⟩ : ∃ b, b = W1.heap.size := ⟨_, rfl⟩
  obtain ⟨b5, hb5⟩ : ∃ b, b = W1.heap.size + 1 := ⟨_, rfl⟩
  rw [← hb5] at t5 ⊢
  rw [← hb4]
  generalize (W1.alloc (Obj.cells #[.int .i64 an, .slice lo fl lc] 24)).alloc (Obj.cells #[.int .i64 ac, .int .i64 ap] 27) = W2 at t5 hB2 ⊢
  have t3' := two_next t3 hB2
  have HBW : Hid (Below w.heap.size w W2) := below_next hB0 hB2
  clear hb4 hb5 q0 q1 H34 hb hB2 hB0 t1 t3
  obtain ⟨q0, q1⟩ := cell_two t5
  obtain ⟨q2, q3⟩ := cell_two t3'
  have f0 := free_two t3'
  go_upto_region 3 with (fail)
  go_region
  all_goals
    go_wp2
    obtain ⟨s0, s1⟩ := cell_two (two_setN (x' := .int .i64 ac) (y' := .int .i64 ap) t3')
    have hBf := ((HBW.out.setCell (p := ⟨b3, 0, none⟩) HB3.out (.int .i64 ac)).setCell (p := ⟨b3, 1, none⟩) HB3.out (.int .i64 ap)).drew
    refine bodyPost_ret (v := .tuple #[.slice none 0 0, .agg #[.int .i64 ac, .int .i64 ap]]) ?_ rfl ⟨rfl, hBf⟩
    simp [results, Try.results19, go_sem, s0, s1]
end Go.Proofs.Ytdnmoifbkojnlaa
