/- seek: a way from a root to another lone node. -/
import Derived.Test.YtenjkhgpfmfgmaaDoorNewS
namespace Go.Proofs.YtenjkhgpfmfgmaaDoor
open Go.RowKit Go.Maps
attribute [local go_sem ↓] Go.wp_at_zero Go.wp_at_succ

/-- A pairing, whatever its search holds. -/
structure PB (w : World) (bp g bm N : Nat) (ls : Nat → List Nat) (m : Nat → Option Nat) : Prop where
  box : ∃ eo en ec fo fn fc bo bn bc qo qn qc, Box w bp #[sl g N, sl bm N, .slice eo en ec, .slice fo fn fc, .slice bo bn bc, .slice qo qn qc] 80
  near : NearP w bp w.heap.size g N ls
  mate : RowV w bm 3 N (fun x => .int .i64 (farZ (m x)))
  ne : bm ≠ bp

/-- What the rows of near tell. -/
structure Nbs (N : Nat) (ls : Nat → List Nat) (E : Nat → Nat → Prop) : Prop where
  mem : ∀ v u, v < N → (u ∈ ls v ↔ E v u)
  lt : ∀ a b, E a b → a < N ∧ b < N
  sym : ∀ a b, E a b → E b a
  irr : ∀ a, ¬ E a a
  len : ∀ v, v < N → (ls v).length ≤ 1000

/-- How a search ends. -/
def Found (N : Nat) (E : Nat → Nat → Prop) (m : Nat → Option Nat) (r : Nat) (ev : Nat → Bool) (f : Nat → Option Nat) (bs : Nat → Nat) (Q : List Nat) : Option Nat → Prop
  | none => ∃ dep D, Seek N E m r ev f bs dep Q D ∧ ∀ v u, ev v = true → E v u → D v u
  | some u => ∃ v l, Aug N E m f u v r l

theorem NearP.mono {w : World} {bp base base' g N : Nat} {ls : Nat → List Nat} (h : NearP w bp base g N ls) (hb : base ≤ base') : NearP w bp base' g N ls :=
  ⟨h.1, Nat.lt_of_lt_of_le h.2.1 hb, fun i hi => by
    obtain ⟨xo, xc, h1, h2⟩ := h.2.2 i hi
    exact ⟨xo, xc, h1, fun k u hu => by
      obtain ⟨b, h3, h4, h5, h6⟩ := h2 k u hu
      exact ⟨b, h3, Nat.lt_of_lt_of_le h4 hb, h5, h6⟩⟩⟩

section
variable {w w' : World} {bp g bm N : Nat} {ls : Nat → List Nat} {m : Nat → Option Nat} {E : Nat → Nat → Prop} {r : Nat}

theorem pst_start {W1 : World} {be bf bb q2 : Nat} {q1 : Option Addr} {ev : Nat → Bool} {f : Nat → Option Nat} {bs : Nat → Nat} {Q : List Nat} {x2 x3 x4 x5 : Value} (h : PB w bp g bm N ls m) (hB : Below w.heap.size w W1) (hbox : Box W1 bp #[sl g N, sl bm N, x2, x3, x4, x5] 80) (he : RowB W1 be N ev) (hs : RowV W1 bf 3 N (fun x => .int .i64 (farZ (f x)))) (ha : RowV W1 bb 3 N (fun x => .int .i64 (bs x : Nat))) (ho : W1.ownsRow w.heap.size 3 1 (.slice q1 Q.length q2) Q.length (qv Q))
    (hge : w.heap.size ≤ be ∧ w.heap.size ≤ bf ∧ w.heap.size ≤ bb) (hne : be ≠ bf ∧ be ≠ bb ∧ bf ≠ bb ∧ (Value.slice q1 Q.length q2).ownBlock ≠ some be ∧ (Value.slice q1 Q.length q2).ownBlock ≠ some bf ∧ (Value.slice q1 Q.length q2).ownBlock ≠ some bb) :
    PSt ((((W1.setCell ⟨bp, 2, none⟩ (sl be N)).setCell ⟨bp, 3, none⟩ (sl bf N)).setCell ⟨bp, 4, none⟩ (sl bb N)).setCell ⟨bp, 5, none⟩ (.slice q1 Q.length q2)) bp w.heap.size g bm N ls m be bf bb (.slice q1 Q.length q2) ev f bs Q ∧ Turns (fun k => k = bp) w ((((W1.setCell ⟨bp, 2, none⟩ (sl be N)).setCell ⟨bp, 3, none⟩ (sl bf N)).setCell ⟨bp, 4, none⟩ (sl bb N)).setCell ⟨bp, 5, none⟩ (.slice q1 Q.length q2)) := by
  have hbl : bp < w.heap.size := by
    obtain ⟨_, _, _, _, _, _, _, _, _, _, _, _, hb⟩ := h.box
    exact lt_of_block hb
  have T : Turns (fun k => k = bp) W1 ((((W1.setCell ⟨bp, 2, none⟩ (sl be N)).setCell ⟨bp, 3, none⟩ (sl bf N)).setCell ⟨bp, 4, none⟩ (sl bb N)).setCell ⟨bp, 5, none⟩ (.slice q1 Q.length q2)) := (((setCell_turns _ _ _ _).trans (setCell_turns _ _ _ _)).trans (setCell_turns _ _ _ _)).trans (setCell_turns _ _ _ _)
  have hb := box_set (box_set (box_set (box_set hbox 2 (sl be N)) 3 (sl bf N)) 4 (sl bb N)) 5 (.slice q1 Q.length q2)
  have T0 : Turns (fun k => k = bp) w W1 := Turns.of_below hB _
  have hml := h.mate.lt
  refine ⟨⟨by simpa using hb, (h.near.turns T0 (fun k e => Or.inl e)).turns T (fun k e => Or.inl e), (h.mate.turns T0 h.ne).turns T h.ne, he.turns T (fun e => by omega), hs.turns T (fun e => by omega), ha.turns T (fun e => by omega), ownsRow_blocks ho (fun b hb => T.block b (ho.lt b hb).2 (fun e => by have := (ho.lt b hb).1; omega)), ⟨hbl, hml, h.ne⟩, hge, hne⟩, T0.trans T⟩

set_option maxRecDepth 4000 in
set_option maxHeartbeats 8000000 in
theorem seek_call (h : PB w bp g bm N ls m) (hN : N ≤ 100) (hM : Mat N E m) (hE : Nbs N ls E) (hr : r < N) (hl : m r = none) :
    Calls Tryd.prog 41 #[.pointer (some ⟨bp, 0, none⟩), .int .i64 (r : Int)] w fun e w' => ∃ z, e = .returned (.int .i64 (farZ z)) ∧ Turns (fun k => k = bp) w w' ∧ ∃ be bf bb q ev f bs Q, PSt w' bp w.heap.size g bm N ls m be bf bb q ev f bs Q ∧ Found N E m r ev f bs Q z := by
  obtain ⟨eo, en, ec, fo, fn, fc, bo, bn, bc, qo, qn, qc, hbox⟩ := h.box
  have H : Hid _ := h
  have HM : Hid _ := hM
  have HE : Hid _ := hE
  have HL : Hid _ := hl
  have c1 := box_cell hbox (i := 1) rfl
  have hbl := lt_of_block hbox
  have hml := h.mate.lt
  have hnsc := newSearch_call w (N := N) (by omega) hr
  have HNS : Hid _ := hnsc
  have HBX : Hid _ := hbox
  clear h hM hE hl hnsc hbox
  go_enter Tryd.func41, Tryd.ntmps41
  go_upto_region 2 with (go_at_call 54; refine Calls.mono HNS.out ?_; rintro e W1 ⟨be, bf, bb, q, rfl, he, hs, ha, ho, hge, hne, hB1⟩; obtain ⟨q1, q2, rfl⟩ := form_row ho; have hb1 : Box W1 bp _ 80 := (hB1.block _ hbl).trans HBX.out; have d2 := box_cell hb1 (i := 2) rfl; have d3 := box_cell hb1 (i := 3) rfl; have d4 := box_cell hb1 (i := 4) rfl; have d5 := box_cell hb1 (i := 5) rfl; have f2 := box_free hb1 2; have f3 := box_free hb1 3; have f4 := box_free hb1 4; have f5 := box_free hb1 5)
  have hs' : RowV W1 bf 3 N (fun x => .int .i64 (farZ ((fun _ => none : Nat → Option Nat) x))) := hs.congr (fun j _ => rfl)
  obtain ⟨hst, hT⟩ := pst_start (Q := [r]) (ev := fun x => x == r) (f := fun _ => none) (bs := fun x => x) H.out hB1 hb1 he hs' ha ho hge hne
  have hsk : Seek N E m r (fun x => x == r) (fun _ => none) (fun x => x) (fun _ => 0) [r] (fun _ _ => False) := ⟨Srch.start hr HL.out, by simp, fun x => by simp, fun _ _ h => h.elim⟩
  have HST : Hid _ := hst
  have HSK : Hid _ := hsk
  have l2 : ([r] : List Nat).length = 1 := rfl
  rw [l2] at HST hT
  generalize (((W1.setCell ⟨bp, 2, none⟩ (sl be N)).setCell ⟨bp, 3, none⟩ (sl bf N)).setCell ⟨bp, 4, none⟩ (sl bb N)).setCell ⟨bp, 5, none⟩ (.slice q1 1 q2) = W2 at HST hT ⊢
  clear hst hsk he hs hs' ha ho hne hB1 hb1 d2 d3 d4 d5 f2 f3 f4 f5 c1 HNS HBX l2
  go_wp2
  go_loopw [4, 5] (fun _ i wr => ∃ (at' : Nat) (q : Value) (ev : Nat → Bool) (f : Nat → Option Nat) (bs dep : Nat → Nat) (Q : List Nat) (D : Nat → Nat → Prop), i = .int .i64 (at' : Int) ∧ at' ≤ Q.length ∧ PSt wr bp w.heap.size g bm N ls m be bf bb q ev f bs Q ∧ Seek N E m r ev f bs dep Q D ∧ (∀ v ∈ Q.take at', ∀ u, E v u → D v u) ∧ Turns (fun k => k = bp) w wr) (fun _ i _ => N - (numOf i).toNat)
  case atStart => exact ⟨0, _, _, _, _, _, _, _, rfl, Nat.zero_le _, HST.out, HSK.out, by simp, hT⟩
  case round =>
    obtain ⟨at', q, ev, f, bs, dep, Q, D, rfl, hat, hst, hsk, hdn, hT'⟩ := hrel
    clear HST HSK hT
    have hQN : Q.length ≤ N := by
      have := nat_nodup_len Q (List.range N) hsk.nodup (fun e he => by simpa using hsk.srch.evlt e ((hsk.mem e).1 he))
      simpa using this
    obtain ⟨qo, qc, rfl⟩ := form_row hst.own
    have c5 := box_cell hst.box (i := 5) rfl
    by_cases hlt : at' < Q.length
    · obtain ⟨v, hv?⟩ : ∃ v, Q[at']? = some v := ⟨Q[at'], List.getElem?_eq_getElem hlt⟩
      have hvm := List.mem_of_getElem? hv?
      have hev := (hsk.mem v).1 hvm
      have hvN := hsk.srch.evlt v hev
      obtain ⟨gq, e1, cq⟩ := qcell hst.own hv?
      cases e1
      have c0 := box_cell hst.box (i := 0) rfl
      obtain ⟨xo, xc, g0w, g1⟩ := H.out.near.2.2 v hvN
      have g0 := cell_turns g0w hT' (fun e => H.out.near.1 e)
      have hln := HE.out.len v hvN
      have i1 : (0 : Int) ≤ (at' : Int) := by omega
      have i2 : (at' : Int) < (Q.length : Int) := by omega
      have i3 : (0 : Int) ≤ (v : Int) := by omega
      have i4 : (v : Int) < (N : Int) := by omega
      have HST : Hid _ := hst
      have HSK : Hid _ := hsk
      have HDN : Hid _ := hdn
      have HV : Hid _ := hv?
      have HEV : Hid _ := hev
      have HG1 : Hid _ := g1
      have HTT : Hid _ := hT'
      clear hst hsk hdn hv? hvm hev g1 hT' g0w
      go_wp2
      clear c5 c0 cq g0
      go_loopw [4, 45] (fun _ i wr => ∃ (t : Nat) (q : Value) (ev : Nat → Bool) (f : Nat → Option Nat) (bs dep : Nat → Nat) (Q : List Nat) (D : Nat → Nat → Prop), i = .int .i64 (t : Int) ∧ t ≤ (ls v).length ∧ PSt wr bp w.heap.size g bm N ls m be bf bb q ev f bs Q ∧ Seek N E m r ev f bs dep Q D ∧ (∀ v ∈ Q.take at', ∀ u, E v u → D v u) ∧ Q[at']? = some v ∧ (∀ u ∈ (ls v).take t, D v u) ∧ Turns (fun k => k = bp) w wr) (fun _ i _ => (ls v).length - (numOf i).toNat)
      case atStart => exact ⟨0, _, ev, f, bs, dep, Q, D, rfl, Nat.zero_le _, HST.out, HSK.out, HDN.out, HV.out, by simp, HTT.out⟩
      case round =>
        clear HST HSK HDN HV HEV HTT
        obtain ⟨t, q, ev, f, bs, dep, Q, D, rfl, ht, hst, hsk, hdn, hv?, hdv, hT'⟩ := hrel
        have hQN : Q.length ≤ N := by
          have := nat_nodup_len Q (List.range N) hsk.nodup (fun e he => by simpa using hsk.srch.evlt e ((hsk.mem e).1 he))
          simpa using this
        obtain ⟨qo, qc, rfl⟩ := form_row hst.own
        have hal := (List.getElem?_eq_some_iff.1 hv?).1
        have hev := (hsk.mem v).1 (List.mem_of_getElem? hv?)
        by_cases htl : t < (ls v).length
        · obtain ⟨u, hu?⟩ : ∃ u, (ls v)[t]? = some u := ⟨(ls v)[t], List.getElem?_eq_getElem htl⟩
          have huE := (HE.out.mem v u hvN).1 (List.mem_of_getElem? hu?)
          have huN := (HE.out.lt v u huE).2
          obtain ⟨bx, hbx1, hbx2, rfl, cw0⟩ := HG1.out t u hu?
          have cw := cell_turns cw0 hT' (fun e => hbx1 e)
          have j1 : (0 : Int) ≤ (t : Int) := by omega
          have j2 : (t : Int) < ((ls v).length : Int) := by omega
          have j3 : (0 : Int) ≤ (u : Int) := by omega
          have j4 : (u : Int) < (N : Int) := by omega
          have c1 := box_cell hst.box (i := 1) rfl
          have c2 := box_cell hst.box (i := 2) rfl
          have c3 := box_cell hst.box (i := 3) rfl
          have c4 := box_cell hst.box (i := 4) rfl
          have cbu := hst.bas.cell huN
          have cbv := hst.bas.cell hvN
          have hT2 : ∀ n, Turns (fun k => k = bp) w (wr.drewN n) := fun n => hT'.trans (Turns.of_below (below_drewN (Below.refl _ _) n) _)
          have hst2 : ∀ n, PSt (wr.drewN n) bp w.heap.size g bm N ls m be bf bb (.slice qo Q.length qc) ev f bs Q := fun n => hst.below (below_drewN (Below.refl _ _) n)
          have htk : ∀ (D' : Nat → Nat → Prop), (∀ a ∈ (ls v).take t, D' v a) → D' v u → ∀ a ∈ (ls v).take (t + 1), D' v a := fun D' h1 h2 a ha => by
            rw [show (ls v).take (t + 1) = (ls v).take t ++ [u] from by
              obtain ⟨h1, h2⟩ := List.getElem?_eq_some_iff.1 hu?
              rw [List.take_succ_eq_append_getElem h1, h2]] at ha
            rcases List.mem_append.1 ha with ha | ha
            · exact h1 a ha
            · simp at ha; rw [ha]; exact h2
          have HST2 : Hid _ := hst2
          have HT2 : Hid _ := hT2
          have HSK : Hid _ := hsk
          have HDN : Hid _ := hdn
          have HDV : Hid _ := hdv
          have HV : Hid _ := hv?
          have HEV : Hid _ := hev
          have HUE : Hid _ := huE
          have HTK : Hid _ := htk
          clear hst hsk hdn hdv hv? hev hu? huE hT' hst2 hT2 htk cw0
          by_cases hbb : bs u = bs v
          · have hb1 : (((bs u : Nat) : Int) == ((bs v : Nat) : Int)) = true := by rw [hbb]; simp
            have HBB : Hid _ := hbb
            clear hbb
            go_upto_region 9 with (fail)
            go_quiet (fail)
            go_wp2
            go_roundw
            case rel => exact ⟨t + 1, _, ev, f, bs, dep, Q, _, by go_num, by omega, HST2.out nq, HSK.out.same HEV.out HBB.out, fun a ha b hb => Or.inl (HDN.out a ha b hb), HV.out, HTK.out (fun a b => D a b ∨ (a = v ∧ b = u)) (fun a ha => Or.inl (HDV.out a ha)) (Or.inr ⟨rfl, rfl⟩), HT2.out nq⟩
            case measure => simp [numOf]; omega
          · have hb1 : (((bs u : Nat) : Int) == ((bs v : Nat) : Int)) = false := by rw [beq_eq_false_iff_ne]; omega
            have HBB : Hid _ := hbb
            clear hbb
            go_upto_region 9 with (fail)
            go_quiet (fail)
            have hst3 := HST2.out nq
            have hT3 := HT2.out nq
            generalize wr.drewN nq = W3 at hst3 hT3 ⊢
            clear c1 c2 c3 c4 cbu cbv cw HST2 HT2 hb1
            have c1 := box_cell hst3.box (i := 1) rfl
            have c2 := box_cell hst3.box (i := 2) rfl
            have c3 := box_cell hst3.box (i := 3) rfl
            have ce := hst3.even.cell huN
            have cs := hst3.src.cell huN
            have fs := hst3.src.free u
            have cm := hst3.mate.cell huN
            have HST3 : Hid _ := hst3
            clear hst3
            cases heu : ev u
            · rw [heu] at ce
              cases hfu : f u with
              | some x =>
                rw [hfu] at cs
                have z1 : farZ (some x) = (x : Int) := rfl
                rw [z1] at cs
                have k1 : ((x : Int) == -1) = false := by simp
                have hod := HSK.out.oddly HEV.out heu (by rw [hfu]; simp)
                have HOD : Hid _ := hod
                clear hod z1 hfu cm fs
                go_wp2
                go_roundw
                case rel => exact ⟨t + 1, _, ev, f, bs, dep, Q, _, by go_num, by omega, HST3.out, HOD.out, fun a ha b hb => Or.inl (HDN.out a ha b hb), HV.out, HTK.out (fun a b => D a b ∨ (a = v ∧ b = u)) (fun a ha => Or.inl (HDV.out a ha)) (Or.inr ⟨rfl, rfl⟩), hT3⟩
                case measure => simp [numOf]; omega
              | none =>
                rw [hfu] at cs
                have z1 : farZ none = -1 := rfl
                rw [z1] at cs
                have hst4 := HST3.out.setSrc u (some v) (v : Int) rfl
                have hT4 := hT3.after (setCell_turns W3 bf u (.int .i64 (v : Int))) (fun k e => Or.inr (by omega))
                go_upto_region 14 with (fail)
                generalize W3.setCell ⟨bf, u, none⟩ (.int .i64 (v : Int)) = W4 at hst4 hT4 ⊢
                clear c1 c2 c3 ce cs fs cm HST3 hT3
                have c1 := box_cell hst4.box (i := 1) rfl
                have cm := hst4.mate.cell huN
                cases hmu : m u with
                | none =>
                  rw [hmu, z1] at cm
                  have hag := HSK.out.srch.aug HM.out HE.out.sym HEV.out heu HUE.out huN hmu
                  have HST4 : Hid _ := hst4
                  have HAG : Hid _ := hag
                  clear hst4 hag hmu hfu heu z1
                  go_wp2
                  go_ret
                  exact ⟨some u, rfl, hT4, be, bf, bb, _, _, _, _, _, HST4.out, v, HAG.out⟩
                | some y =>
                  have z2 : farZ (some y) = (y : Int) := rfl
                  rw [hmu, z2] at cm
                  have hyN := (HM.out.lt _ _ hmu).2
                  have hgr := HSK.out.grows HM.out HE.out.sym HE.out.irr HEV.out heu hfu HUE.out hmu
                  have k1 : ((y : Int) == -1) = false := by simp
                  have hst5 : PSt W4.drew bp w.heap.size g bm N ls m be bf bb _ ev _ bs Q := hst4.below (Below.refl _ W4).drew
                  have hmk := mark_call hst5 hyN (by omega)
                  have hkp : ∀ {q' ev' Q'} {W5 : World}, PSt W5 bp w.heap.size g bm N ls m be bf bb q' ev' (fun x => if x = u then some v else f x) bs Q' → W5.cell? ⟨bp, 1, none⟩ = some (sl bm N) ∧ W5.cell? ⟨bm, u, none⟩ = some (.int .i64 (y : Int)) := fun h5 => ⟨box_cell h5.box (i := 1) rfl, by have := h5.mate.cell huN; rw [hmu] at this; exact this⟩
                  have y0 : W4.cell? ⟨bp, 1, none⟩ = some (sl bm N) ∧ W4.cell? ⟨bm, u, none⟩ = some (.int .i64 (y : Int)) := ⟨c1, cm⟩
                  have HMK : Hid _ := hmk
                  have HGR : Hid _ := hgr
                  have HKP : Hid _ := @hkp
                  have HST5 : Hid _ := hst5
                  clear hmk hgr hkp hst4 hst5 hmu hfu heu z1 z2
                  go_upto_region 16 with (fail)
                  go_region_held3 (fun w' => w'.cell? ⟨bp, 1, none⟩ = some (sl bm N) ∧ w'.cell? ⟨bm, u, none⟩ = some (.int .i64 (y : Int)))
                    (first | exact hkk | exact y0 | assumption | go_keep)
                    ((go_at_call 56; refine Calls.mono HMK.out ?_; rintro e W5 ⟨rfl, hT5, q5, hst5, hq5⟩; have hkk := HKP.out hst5))
                  obtain ⟨hsk5, hey, _⟩ := HGR.out
                  rw [hey] at hst5
                  simp only [Bool.false_eq_true, if_false] at hst5
                  have HST6 : Hid _ := hst5
                  have HSK6 : Hid _ := hsk5
                  have hT6 : Turns (fun k => k = bp) w W5 := (hT4.trans (Turns.of_below (Below.refl _ W4).drew _)).after hT5 (fun k hk => by
                    rcases hk with e | e | e
                    · exact Or.inl e
                    · exact Or.inr (by omega)
                    · exact Or.inr (HST5.out.qlt e).1)
                  clear hst5 hsk5 hkk hey
                  go_wp2
                  go_roundw
                  case rel => exact ⟨t + 1, q5, _, _, _, _, Q ++ [y], _, by go_num, by omega, HST6.out, HSK6.out, fun a ha b hb => Or.inl (HDN.out a (by rwa [List.take_append_of_le_length (by omega)] at ha) b hb), by rw [List.getElem?_append_left (by omega)]; exact HV.out, HTK.out (fun a b => D a b ∨ (a = v ∧ b = u)) (fun a ha => Or.inl (HDV.out a ha)) (Or.inr ⟨rfl, rfl⟩), hT6⟩
                  case measure => simp [numOf]; omega
            · rw [heu] at ce
              have hfold := fold_call HST3.out (by omega) HM.out HE.out.sym HSK.out heu HEV.out (HE.out.sym _ _ HUE.out)
              have HFO : Hid _ := hfold
              clear hfold cs fs cm
              go_wp2_with (first
                | (go_at_call 55; refine Calls.mono HFO.out ?_; rintro e W4 ⟨rfl, hT4, q4, ev4, f4, bs4, t4, hst4, hsk4⟩)
                | go_in)
              have hT4' := hT3.after hT4 (fun k hk => hk)
              go_roundw
              case rel => exact ⟨t + 1, q4, ev4, f4, bs4, dep, Q ++ t4, _, by go_num, by omega, hst4, hsk4, fun a ha b hb => Or.inl (HDN.out a (by rwa [List.take_append_of_le_length (by omega)] at ha) b hb), by rw [List.getElem?_append_left (by omega)]; exact HV.out, HTK.out (fun a b => D a b ∨ (a = v ∧ b = u)) (fun a ha => Or.inl (HDV.out a ha)) (Or.inr ⟨rfl, rfl⟩), hT4'⟩
              case measure => simp [numOf]; omega
        · have hte : (ls v).length = t := by omega
          have hnext : ∀ a ∈ Q.take (at' + 1), ∀ u, E a u → D a u := fun a ha u hau => by
            rw [List.take_succ_eq_append_getElem hal] at ha
            rcases List.mem_append.1 ha with ha | ha
            · exact hdn a ha u hau
            · have e : a = v := by
                have := (List.getElem?_eq_some_iff.1 hv?).2
                simp at ha
                rw [ha, this]
              subst e
              exact hdv u (by rw [← hte, List.take_length]; exact (HE.out.mem a u hvN).2 hau)
          have HST : Hid _ := hst
          have HSK : Hid _ := hsk
          have HNX : Hid _ := hnext
          have HTT : Hid _ := hT'
          have j2 : ¬ (t : Int) < ((ls v).length : Int) := by omega
          clear hst hsk hdn hdv hnext hT' hv? hev hte
          go_wp2
          go_roundw
          case rel => exact ⟨at' + 1, _, ev, f, bs, dep, Q, D, by go_num, by omega, HST.out, HSK.out, HNX.out, HTT.out⟩
          case measure => simp [numOf]; omega
    · have hae : at' = Q.length := by omega
      have hfin : Found N E m r ev f bs Q none := ⟨dep, D, hsk, fun v u hv hu => hdn v (by rw [hae, List.take_length]; exact (hsk.mem v).2 hv) u hu⟩
      have HST : Hid _ := hst
      have HFN : Hid _ := hfin
      have HTT : Hid _ := hT'
      have i2 : ¬ (at' : Int) < (Q.length : Int) := by omega
      clear hst hsk hdn hfin hT' hae
      go_wp2
      go_ret
      exact ⟨none, rfl, HTT.out, be, bf, bb, _, ev, f, bs, Q, HST.out, HFN.out⟩
end
end Go.Proofs.YtenjkhgpfmfgmaaDoor
