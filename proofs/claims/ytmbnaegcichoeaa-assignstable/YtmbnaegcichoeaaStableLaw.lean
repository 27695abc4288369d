/- AssignStable's walk. -/
import Derived.Test.YtmbnaegcichoeaaBegun
import Derived.Test.YtmbnaegcichoeaaCopy
import Derived.Test.YtmbnaegcichoeaaStMath
import Derived.Test.YtmbnaegcichoeaaLikesF
namespace Go.Proofs.Ytmbnaegcichoeaa
open Go.RowKit Go.Maps
attribute [local go_sem ↓] Go.wp_at_zero Go.wp_at_succ

/-- The two copies that the law makes. -/
def Copies (W1 wd : World) (s5 s6 : Value) (la lb : List (List Int)) : Prop := RowsAt wd s5 la ∧ RowsAt wd s6 lb ∧ Below W1.heap.size W1 wd

set_option maxRecDepth 4000 in
set_option maxHeartbeats 3000000 in
theorem stableLaw_bad {w : World} {va vb : Value} {la lb : List (List Int)} (hA : RowsAt w va la) (hB : RowsAt w vb lb) {fc fd : Int} (hf : likeF la lb = (fc, fd)) (hne : fc ≠ 0) :
    Calls Try.prog 4 #[va, vb] w fun e w' => e = .returned (.bool true) ∧ Below w.heap.size w w' := by
  have HA : Hid (RowsAt w va la) := hA
  have HB : Hid (RowsAt w vb lb) := hB
  have HF : Hid (likeF la lb = (fc, fd)) := hf
  have HN : Hid (fc ≠ 0) := hne
  have k1 : (fc != 0) = true := by simp [hne]
  obtain ⟨ao, acap, rfl, _⟩ := hA
  obtain ⟨bo, bcap, rfl, _⟩ := hB
  clear hf hne
  go_enter Try.func4, Try.ntmps4
  go_upto_region 1 with (fail)
  have hB1 : Below w.heap.size w ((w.alloc (Obj.cells #[.slice ao la.length acap] 22)).alloc (Obj.cells #[.slice bo lb.length bcap] 22)) := below2 _ _
  have hxa : Box ((w.alloc (Obj.cells #[.slice ao la.length acap] 22)).alloc (Obj.cells #[.slice bo lb.length bcap] 22)) w.heap.size #[.slice ao la.length acap] 22 := at2_0 _ _ _ _
  have hxb : Box ((w.alloc (Obj.cells #[.slice ao la.length acap] 22)).alloc (Obj.cells #[.slice bo lb.length bcap] 22)) (w.heap.size + 1) #[.slice bo lb.length bcap] 22 := at2_1 _ _ _ _
  obtain ⟨ba, hba⟩ : ∃ b, b = w.heap.size := ⟨_, rfl⟩
  obtain ⟨bb, hbb⟩ : ∃ b, b = w.heap.size + 1 := ⟨_, rfl⟩
  rw [← hba] at hxa
  rw [← hbb] at hxb
  rw [← hbb, ← hba]
  generalize ((w.alloc (Obj.cells #[.slice ao la.length acap] 22)).alloc (Obj.cells #[.slice bo lb.length bcap] 22)) = W1 at hB1 hxa hxb ⊢
  have HXA : Hid (Box W1 ba #[.slice ao la.length acap] 22) := hxa
  have HXB : Hid (Box W1 bb #[.slice bo lb.length bcap] 22) := hxb
  have hlow : w.heap.size ≤ ba ∧ w.heap.size ≤ bb := by omega
  have H5A : Hid (∀ W, Below W1.heap.size W1 W → Calls Try.prog 5 #[.slice ao la.length acap] W fun e w' => ∃ v', e = .returned v' ∧ RowsAt w' v' la ∧ Below W.heap.size W w') := fun W hW => rows_call ((HA.out.below hB1).below hW)
  have H5B : Hid (∀ W, Below W1.heap.size W1 W → Calls Try.prog 5 #[.slice bo lb.length bcap] W fun e w' => ∃ v', e = .returned v' ∧ RowsAt w' v' lb ∧ Below W.heap.size W w') := fun W hW => rows_call ((HB.out.below hB1).below hW)
  have c0a := box_cell (i := 0) hxa rfl
  have c0b := box_cell (i := 0) hxb rfl
  have l0a := box_lt hxa
  have l0b := box_lt hxb
  have KEEP : Hid (∀ W, Below W1.heap.size W1 W → W.cell? ⟨ba, 0, none⟩ = some (.slice ao la.length acap) ∧ W.cell? ⟨bb, 0, none⟩ = some (.slice bo lb.length bcap) ∧ Below W1.heap.size W1 W) := fun W hW => ⟨(hW.cell (p := ⟨ba, 0, none⟩) l0a).trans c0a, (hW.cell (p := ⟨bb, 0, none⟩) l0b).trans c0b, hW⟩
  clear hxa hxb hba hbb
  go_cut [5, 6] from 12 to 15 (fun s5 s6 wd => Copies W1 wd s5 s6 la lb)
  case first =>
    have hB11 : Below W1.heap.size W1 W1.drew := (Below.refl _ W1).drew
    go_region_held3 (fun W => W.cell? ⟨ba, 0, none⟩ = some (.slice ao la.length acap) ∧ W.cell? ⟨bb, 0, none⟩ = some (.slice bo lb.length bcap) ∧ Below W1.heap.size W1 W) (first | exact KEEP.out _ hB11 | exact KEEP.out _ hbA | exact KEEP.out _ hbB) (first
      | (go_at_call 5; have hh := HCA; clear hh; (with_reducible refine Calls.mono (H5B.out _ hbA) ?_); rintro e WB ⟨vB, rfl, hrB, hbB0⟩; have hbB := below_next hbA hbB0; have HCB : Hid (RowsAt WB vB lb) := hrB; have HCA2 : Hid (RowsAt WB vA la) := HCA.out.below hbB0; clear hrB)
      | (go_at_call 5; (with_reducible refine Calls.mono (H5A.out _ hB11) ?_); rintro e WA ⟨vA, rfl, hrA, hbA0⟩; have hbA := below_next hB11 hbA0; have HCA : Hid (RowsAt WA vA la) := hrA; clear hrA))
    all_goals
      go_wp2_with fail
      go_meet
      case rel => exact ⟨HCA2.out, HCB.out, hbB⟩
  case rest =>
    obtain ⟨hr5, hr6, hbc⟩ := hcut
    have HR5 : Hid (RowsAt wc u5 la) := hr5
    have HR6 : Hid (RowsAt wc u6 lb) := hr6
    obtain ⟨po, pcap, rfl, _⟩ := hr5
    obtain ⟨qo, qcap, rfl, _⟩ := hr6
    obtain ⟨c2, c3, _⟩ := KEEP.out wc hbc
    have hBc := below_next hB1 hbc
    have h11 := likesFault_call (HA.out.below hBc) (HB.out.below hBc)
    rw [HF.out] at h11
    have H11 : Hid (Calls Try.prog 11 #[.slice ao la.length acap, .slice bo lb.length bcap] wc fun e w' => e = .returned (.agg #[.int .i64 fc, .int .i64 fd]) ∧ Below wc.heap.size wc w') := h11
    clear h11 H5A H5B
    go_upto_region 3 with (first | (go_at_call 11; refine Calls.mono H11.out ?_; rintro e W2 ⟨rfl, hb2⟩) | go_in)
    clear c2 c3
    have t7 := two_new W2 (.int .i64 fc) (.int .i64 fd) 25
    have hb2a := below_alloc hb2 (Obj.cells #[.int .i64 fc, .int .i64 fd] 25)
    have HR53 : Hid (RowsAt (W2.alloc (Obj.cells #[.int .i64 fc, .int .i64 fd] 25)) (.slice po la.length pcap) la) := HR5.out.below hb2a
    have HR63 : Hid (RowsAt (W2.alloc (Obj.cells #[.int .i64 fc, .int .i64 fd] 25)) (.slice qo lb.length qcap) lb) := HR6.out.below hb2a
    have hb13 := below_next hbc hb2a
    obtain ⟨b7, hb7⟩ : ∃ b, b = W2.heap.size := ⟨_, rfl⟩
    rw [← hb7] at t7 ⊢
    generalize W2.alloc (Obj.cells #[.int .i64 fc, .int .i64 fd] 25) = W3 at t7 HR53 HR63 hb13 ⊢
    have HT7 : Hid (Two W3 b7 (.int .i64 fc) (.int .i64 fd) 25) := t7
    clear hb2 hb2a HR5 HR6 hb7 hBc hbc H11 t7
    go_upto_region 4 with (first | (go_at_call 12; refine Calls.mono (stable_bad HR53.out HR63.out HF.out HN.out) ?_; rintro e W4 ⟨rfl, hb4⟩) | go_in)
    have hb34 : Below W3.heap.size W3 ((W4.alloc (Obj.cells #[.slice none 0 0] 27)).alloc (Obj.cells #[.int .i64 fc, .int .i64 fd] 25)) := below_alloc (below_alloc hb4 _) _
    have x8 : Box ((W4.alloc (Obj.cells #[.slice none 0 0] 27)).alloc (Obj.cells #[.int .i64 fc, .int .i64 fd] 25)) W4.heap.size #[.slice none 0 0] 27 := at2_0 _ _ _ _
    have t9 : Two ((W4.alloc (Obj.cells #[.slice none 0 0] 27)).alloc (Obj.cells #[.int .i64 fc, .int .i64 fd] 25)) (W4.heap.size + 1) (.int .i64 fc) (.int .i64 fd) 25 := two_nxt _ _ _ _ _
    obtain ⟨b8, hb8⟩ : ∃ b, b = W4.heap.size := ⟨_, rfl⟩
    obtain ⟨b9, hb9⟩ : ∃ b, b = W4.heap.size + 1 := ⟨_, rfl⟩
    rw [← hb8] at x8
    rw [← hb9] at t9
    rw [← hb9, ← hb8]
    generalize ((W4.alloc (Obj.cells #[.slice none 0 0] 27)).alloc (Obj.cells #[.int .i64 fc, .int .i64 fd] 25)) = W5 at hb34 x8 t9 ⊢
    have HX8 : Hid (Box W5 b8 #[.slice none 0 0] 27) := x8
    have HT9 : Hid (Two W5 b9 (.int .i64 fc) (.int .i64 fd) 25) := t9
    have HT75 : Hid (Two W5 b7 (.int .i64 fc) (.int .i64 fd) 25) := two_next HT7.out hb34
    have hb15 := below_next hb13 hb34
    have hB5 := below_next hB1 hb15
    have h8 := begun_call W5
    have H8 : Hid (Calls Try.prog 8 #[] W5 fun e w' => e = .returned (.bool true) ∧ Below W5.heap.size W5 w') := h8
    have HL1 : Hid (∀ W6, Below W5.heap.size W5 W6 → Calls Try.prog 9 #[.slice po la.length pcap, .slice ao la.length acap] W6 fun e w' => e = .returned (.bool true) ∧ ∃ m, w' = W6.drewN m) := fun W6 hW => lists_true _ _ la W6 ((HR53.out.below hb34).below hW) (HA.out.below (below_next hB5 hW))
    have HL2 : Hid (∀ W6, Below W5.heap.size W5 W6 → Calls Try.prog 9 #[.slice qo lb.length qcap, .slice bo lb.length bcap] W6 fun e w' => e = .returned (.bool true) ∧ ∃ m, w' = W6.drewN m) := fun W6 hW => lists_true _ _ lb W6 ((HR63.out.below hb34).below hW) (HB.out.below (below_next hB5 hW))
    have hneq := neq25 fc fd
    clear h8 x8 t9 hb8 hb9 hb34 hb4 HT7
    go_upto_region 6 with (first
      | (go_at_call 8; refine Calls.mono H8.out ?_; rintro e W6 ⟨rfl, hb6⟩; have t96 := two_next HT9.out hb6; have t76 := two_next HT75.out hb6; obtain ⟨q0, q1⟩ := cell_two t96; obtain ⟨q2, q3⟩ := cell_two t76; obtain ⟨c2, c3, _⟩ := KEEP.out W6 (below_next hb15 hb6))
      | (go_at_call 9; (with_reducible refine Calls.mono (HL1.out _ hb6) ?_); rintro e W7 ⟨rfl, m7, hw7⟩; subst hw7; have hb67 := below_drewN hb6 m7)
      | (go_at_call 9; (with_reducible refine Calls.mono (HL2.out _ hb67) ?_); rintro e W8 ⟨rfl, m8, hw8⟩; subst hw8; have hb68 := below_drewN hb67 m8)
      | go_in)
    have c8 : W6.cell? ⟨b8, 0, none⟩ = some (.slice none 0 0) := (hb6.cell (p := ⟨b8, 0, none⟩) (box_lt HX8.out)).trans (box_cell HX8.out rfl)
    go_wp2
    go_ret
    exact ⟨rfl, by have := below_next hB5 hb68; rwa [World.drewN_drewN] at this⟩
set_option maxRecDepth 4000 in
set_option maxHeartbeats 3000000 in
theorem stableLaw_ok {w : World} {va vb : Value} {la lb : List (List Int)} (hA : RowsAt w va la) (hB : RowsAt w vb lb) (hf : likeF la lb = (0, 0)) :
    Calls Try.prog 4 #[va, vb] w fun e w' => e = .returned (.bool true) ∧ Below w.heap.size w w' := by
  have HA : Hid (RowsAt w va la) := hA
  have HB : Hid (RowsAt w vb lb) := hB
  have HF : Hid (likeF la lb = (0, 0)) := hf
  have hz : (likeF la lb).1 = 0 := by rw [hf]
  obtain ⟨_, hn, hlb, hna, hnb⟩ := likeF_good hz
  have HNA : Hid (∀ l ∈ la, Nam la.length l) := hna
  have HNB : Hid (∀ l ∈ lb, Nam la.length l) := hnb
  have HLB : Hid (lb.length = la.length) := hlb
  clear hz hlb hna hnb
  obtain ⟨ao, acap, rfl, _⟩ := hA
  obtain ⟨bo, bcap, rfl, _⟩ := hB
  clear hf
  go_enter Try.func4, Try.ntmps4
  go_upto_region 1 with (fail)
  have hB1 : Below w.heap.size w ((w.alloc (Obj.cells #[.slice ao la.length acap] 22)).alloc (Obj.cells #[.slice bo lb.length bcap] 22)) := below2 _ _
  have hxa : Box ((w.alloc (Obj.cells #[.slice ao la.length acap] 22)).alloc (Obj.cells #[.slice bo lb.length bcap] 22)) w.heap.size #[.slice ao la.length acap] 22 := at2_0 _ _ _ _
  have hxb : Box ((w.alloc (Obj.cells #[.slice ao la.length acap] 22)).alloc (Obj.cells #[.slice bo lb.length bcap] 22)) (w.heap.size + 1) #[.slice bo lb.length bcap] 22 := at2_1 _ _ _ _
  obtain ⟨ba, hba⟩ : ∃ b, b = w.heap.size := ⟨_, rfl⟩
  obtain ⟨bb, hbb⟩ : ∃ b, b = w.heap.size + 1 := ⟨_, rfl⟩
  rw [← hba] at hxa
  rw [← hbb] at hxb
  rw [← hbb, ← hba]
  generalize ((w.alloc (Obj.cells #[.slice ao la.length acap] 22)).alloc (Obj.cells #[.slice bo lb.length bcap] 22)) = W1 at hB1 hxa hxb ⊢
  have HXA : Hid (Box W1 ba #[.slice ao la.length acap] 22) := hxa
  have HXB : Hid (Box W1 bb #[.slice bo lb.length bcap] 22) := hxb
  have hlow : w.heap.size ≤ ba ∧ w.heap.size ≤ bb := by omega
  have H5A : Hid (∀ W, Below W1.heap.size W1 W → Calls Try.prog 5 #[.slice ao la.length acap] W fun e w' => ∃ v', e = .returned v' ∧ RowsAt w' v' la ∧ Below W.heap.size W w') := fun W hW => rows_call ((HA.out.below hB1).below hW)
  have H5B : Hid (∀ W, Below W1.heap.size W1 W → Calls Try.prog 5 #[.slice bo lb.length bcap] W fun e w' => ∃ v', e = .returned v' ∧ RowsAt w' v' lb ∧ Below W.heap.size W w') := fun W hW => rows_call ((HB.out.below hB1).below hW)
  have c0a := box_cell (i := 0) hxa rfl
  have c0b := box_cell (i := 0) hxb rfl
  have l0a := box_lt hxa
  have l0b := box_lt hxb
  have KEEP : Hid (∀ W, Below W1.heap.size W1 W → W.cell? ⟨ba, 0, none⟩ = some (.slice ao la.length acap) ∧ W.cell? ⟨bb, 0, none⟩ = some (.slice bo lb.length bcap) ∧ Below W1.heap.size W1 W) := fun W hW => ⟨(hW.cell (p := ⟨ba, 0, none⟩) l0a).trans c0a, (hW.cell (p := ⟨bb, 0, none⟩) l0b).trans c0b, hW⟩
  clear hxa hxb hba hbb
  go_cut [5, 6] from 12 to 15 (fun s5 s6 wd => Copies W1 wd s5 s6 la lb)
  case first =>
    have hB11 : Below W1.heap.size W1 W1.drew := (Below.refl _ W1).drew
    go_region_held3 (fun W => W.cell? ⟨ba, 0, none⟩ = some (.slice ao la.length acap) ∧ W.cell? ⟨bb, 0, none⟩ = some (.slice bo lb.length bcap) ∧ Below W1.heap.size W1 W) (first | exact KEEP.out _ hB11 | exact KEEP.out _ hbA | exact KEEP.out _ hbB) (first
      | (go_at_call 5; have hh := HCA; clear hh; (with_reducible refine Calls.mono (H5B.out _ hbA) ?_); rintro e WB ⟨vB, rfl, hrB, hbB0⟩; have hbB := below_next hbA hbB0; have HCB : Hid (RowsAt WB vB lb) := hrB; have HCA2 : Hid (RowsAt WB vA la) := HCA.out.below hbB0; clear hrB)
      | (go_at_call 5; (with_reducible refine Calls.mono (H5A.out _ hB11) ?_); rintro e WA ⟨vA, rfl, hrA, hbA0⟩; have hbA := below_next hB11 hbA0; have HCA : Hid (RowsAt WA vA la) := hrA; clear hrA))
    all_goals
      go_wp2_with fail
      go_meet
      case rel => exact ⟨HCA2.out, HCB.out, hbB⟩
  case rest =>
    obtain ⟨hr5, hr6, hbc⟩ := hcut
    have HR5 : Hid (RowsAt wc u5 la) := hr5
    have HR6 : Hid (RowsAt wc u6 lb) := hr6
    obtain ⟨po, pcap, rfl, _⟩ := hr5
    obtain ⟨qo, qcap, rfl, _⟩ := hr6
    obtain ⟨c2, c3, _⟩ := KEEP.out wc hbc
    have hBc := below_next hB1 hbc
    have h11 := likesFault_call (HA.out.below hBc) (HB.out.below hBc)
    rw [HF.out] at h11
    have H11 : Hid (Calls Try.prog 11 #[.slice ao la.length acap, .slice bo lb.length bcap] wc fun e w' => e = .returned (.agg #[.int .i64 0, .int .i64 0]) ∧ Below wc.heap.size wc w') := h11
    clear h11 H5A H5B
    go_upto_region 3 with (first | (go_at_call 11; refine Calls.mono H11.out ?_; rintro e W2 ⟨rfl, hb2⟩) | go_in)
    clear c2 c3
    have t7 := two_new W2 (.int .i64 0) (.int .i64 0) 25
    have hb2a := below_alloc hb2 (Obj.cells #[.int .i64 0, .int .i64 0] 25)
    have HR53 : Hid (RowsAt (W2.alloc (Obj.cells #[.int .i64 0, .int .i64 0] 25)) (.slice po la.length pcap) la) := HR5.out.below hb2a
    have HR63 : Hid (RowsAt (W2.alloc (Obj.cells #[.int .i64 0, .int .i64 0] 25)) (.slice qo lb.length qcap) lb) := HR6.out.below hb2a
    have hb13 := below_next hbc hb2a
    obtain ⟨b7, hb7⟩ : ∃ b, b = W2.heap.size := ⟨_, rfl⟩
    rw [← hb7] at t7 ⊢
    generalize W2.alloc (Obj.cells #[.int .i64 0, .int .i64 0] 25) = W3 at t7 HR53 HR63 hb13 ⊢
    have HT7 : Hid (Two W3 b7 (.int .i64 0) (.int .i64 0) 25) := t7
    clear hb2 hb2a HR5 HR6 hb7 hBc hbc H11 t7
    go_upto_region 4 with (first | (go_at_call 12; refine Calls.mono (stable_ok HR53.out HR63.out HF.out) ?_; rintro e W4 ⟨bt, rfl, hbt, hst, hb4⟩) | go_in)
    obtain ⟨has, ask, hgs, hopt, hrow⟩ := hst
    have hrow5 : RowV ((W4.alloc (Obj.cells #[sl bt la.length] 27)).alloc (Obj.cells #[.int .i64 0, .int .i64 0] 25)) bt 3 la.length (iv (fun x => (nameA la x (ask x - 1) : Int))) := by
      have h1 := hrow.block (Below.heap_alloc _ (Obj.cells #[sl bt la.length] 27) _ hrow.lt)
      exact h1.block (Below.heap_alloc _ (Obj.cells #[.int .i64 0, .int .i64 0] 25) _ h1.lt)
    have hb34 : Below W3.heap.size W3 ((W4.alloc (Obj.cells #[sl bt la.length] 27)).alloc (Obj.cells #[.int .i64 0, .int .i64 0] 25)) := below_alloc (below_alloc hb4 _) _
    have x8 : Box ((W4.alloc (Obj.cells #[sl bt la.length] 27)).alloc (Obj.cells #[.int .i64 0, .int .i64 0] 25)) W4.heap.size #[sl bt la.length] 27 := at2_0 _ _ _ _
    have t9 : Two ((W4.alloc (Obj.cells #[sl bt la.length] 27)).alloc (Obj.cells #[.int .i64 0, .int .i64 0] 25)) (W4.heap.size + 1) (.int .i64 0) (.int .i64 0) 25 := two_nxt _ _ _ _ _
    obtain ⟨b8, hb8⟩ : ∃ b, b = W4.heap.size := ⟨_, rfl⟩
    obtain ⟨b9, hb9⟩ : ∃ b, b = W4.heap.size + 1 := ⟨_, rfl⟩
    rw [← hb8] at x8
    rw [← hb9] at t9
    rw [← hb9, ← hb8]
    generalize ((W4.alloc (Obj.cells #[sl bt la.length] 27)).alloc (Obj.cells #[.int .i64 0, .int .i64 0] 25)) = W5 at hb34 x8 t9 hrow5 ⊢
    have HX8 : Hid (Box W5 b8 #[sl bt la.length] 27) := x8
    have HT9 : Hid (Two W5 b9 (.int .i64 0) (.int .i64 0) 25) := t9
    have HT75 : Hid (Two W5 b7 (.int .i64 0) (.int .i64 0) 25) := two_next HT7.out hb34
    have hb15 := below_next hb13 hb34
    have hB5 := below_next hB1 hb15
    have h8 := begun_call W5
    have H8 : Hid (Calls Try.prog 8 #[] W5 fun e w' => e = .returned (.bool true) ∧ Below W5.heap.size W5 w') := h8
    have HL1 : Hid (∀ W6, Below W5.heap.size W5 W6 → Calls Try.prog 9 #[.slice po la.length pcap, .slice ao la.length acap] W6 fun e w' => e = .returned (.bool true) ∧ ∃ m, w' = W6.drewN m) := fun W6 hW => lists_true _ _ la W6 ((HR53.out.below hb34).below hW) (HA.out.below (below_next hB5 hW))
    have HL2 : Hid (∀ W6, Below W5.heap.size W5 W6 → Calls Try.prog 9 #[.slice qo lb.length qcap, .slice bo lb.length bcap] W6 fun e w' => e = .returned (.bool true) ∧ ∃ m, w' = W6.drewN m) := fun W6 hW => lists_true _ _ lb W6 ((HR63.out.below hb34).below hW) (HB.out.below (below_next hB5 hW))
    have hneq := neq25 0 0
    have HROW : Hid (RowV W5 bt 3 la.length (iv (fun x => (nameA la x (ask x - 1) : Int)))) := hrow5
    have HGS : Hid (Gs la.length la.length la.length (nameA la) (placeB lb) has ask) := hgs
    have HOPT : Hid (Opt la.length (nameA la) (placeB lb) has ask) := hopt
    clear hrow hrow5 hgs hopt h8 x8 t9 hb8 hb9 hb34 hb4 HT7
    go_upto_region 6 with (first
      | (go_at_call 8; refine Calls.mono H8.out ?_; rintro e W6 ⟨rfl, hb6⟩; have t96 := two_next HT9.out hb6; have t76 := two_next HT75.out hb6; obtain ⟨q0, q1⟩ := cell_two t96; obtain ⟨q2, q3⟩ := cell_two t76; obtain ⟨c2, c3, _⟩ := KEEP.out W6 (below_next hb15 hb6))
      | (go_at_call 9; (with_reducible refine Calls.mono (HL1.out _ hb6) ?_); rintro e W7 ⟨rfl, m7, hw7⟩; subst hw7; have hb67 := below_drewN hb6 m7)
      | (go_at_call 9; (with_reducible refine Calls.mono (HL2.out _ hb67) ?_); rintro e W8 ⟨rfl, m8, hw8⟩; subst hw8; have hb68 := below_drewN hb67 m8)
      | go_in)
    have hb58 : Below W5.heap.size W5 (W6.drewN (m7 + m8)) := by rw [← World.drewN_drewN]; exact hb68
    clear q0 q1 q2 q3 c2 c3 t96 t76 hb6 hb67 hb68 H8 HL1 HL2 HT9 hneq
    generalize W6.drewN (m7 + m8) = W8 at hb58 ⊢
    have t78 := two_next HT75.out hb58
    obtain ⟨q2, q3⟩ := cell_two t78
    obtain ⟨c2, c3, _⟩ := KEEP.out W8 (below_next hb15 hb58)
    go_upto_region 9 with (fail)
    have hb59 : Below W5.heap.size W5 (W8.alloc (Obj.cells #[.int .i64 (la.length : Int)] 3)) := below_alloc hb58 _
    have xn : Box (W8.alloc (Obj.cells #[.int .i64 (la.length : Int)] 3)) W8.heap.size #[.int .i64 (la.length : Int)] 3 := heap_alloc_new _ _
    obtain ⟨bn, hbn⟩ : ∃ b, b = W8.heap.size := ⟨_, rfl⟩
    rw [← hbn] at xn ⊢
    generalize W8.alloc (Obj.cells #[.int .i64 (la.length : Int)] 3) = W9 at hb59 xn ⊢
    have HXN : Hid (Box W9 bn #[.int .i64 (la.length : Int)] 3) := xn
    have HR9 : Hid (RowV W9 bt 3 la.length (iv (fun x => (nameA la x (ask x - 1) : Int)))) := HROW.out.block (hb59.block _ HROW.out.lt)
    have HX89 : Hid (Box W9 b8 #[sl bt la.length] 27) := (hb59.block _ (box_lt HX8.out)).trans HX8.out
    have hb19 := below_next hb15 hb59
    have hB9 := below_next hB1 hb19
    have HK0 : Hid (∀ i, i < la.length → nameA la i (ask i - 1) < la.length) := fun i hi => (HGS.out.done hi).2.1
    have HKI : Hid (∀ i j, i < la.length → j < la.length → nameA la i (ask i - 1) = nameA la j (ask j - 1) → i = j) := HGS.out.stable.inj
    have hnum : ∀ W, Below W9.heap.size W9 W → NumF W (some ⟨bt, 0, none⟩) la.length (fun i => (nameA la i (ask i - 1) : Int)) := fun W hW j hj => ⟨bt, 0, rfl, by
      have := (HR9.out.block (hW.block _ HR9.out.lt)).cell hj
      rw [Nat.zero_add]; exact this⟩
    have h10 := all_true (vc := la.length) (hnum W9 (Below.refl _ _)) (by omega) (Nat.le_refl _) (fun j hj => by have := HK0.out j hj; omega) (fun i j hi hj e => HKI.out i j hi hj (by omega))
    have H10 : Hid (Calls Try.prog 10 #[.slice (some ⟨bt, 0, none⟩) la.length la.length, .int .i64 (la.length : Int)] W9 fun e w' => e = .returned (.bool true) ∧ Below W9.heap.size W9 w') := h10
    have H13 : Hid (∀ W, Below W9.heap.size W9 W → Calls Try.prog 13 #[.slice ao la.length acap, .slice bo lb.length bcap, .slice (some ⟨bt, 0, none⟩) la.length la.length] W fun e w' => e = .returned (.bool true) ∧ Below W.heap.size W w') := fun W hW => by
      refine (isStable_call (vc := la.length) (HA.out.below (below_next hB9 hW)) (HB.out.below (below_next hB9 hW)) rfl HLB.out hn HNA.out HNB.out (hnum W hW) HK0.out HKI.out).mono ?_
      rintro e w' ⟨⟨g, rfl, hg⟩, hb⟩
      have : g = true := hg.2 (stm_of rfl HNA.out HGS.out.stable)
      rw [this]
      exact ⟨rfl, hb⟩
    have c8 := box_cell (i := 0) HX89.out rfl
    have cn := box_cell (i := 0) HXN.out rfl
    clear h10 xn hbn t78 q2 q3 c2 c3 hb58 hb15 HROW HX8 HT75
    go_upto_region 11 with (first
      | (go_at_call 10; refine Calls.mono H10.out ?_; rintro e W10 ⟨rfl, hb10⟩; have c8' := (hb10.cell (p := ⟨b8, 0, none⟩) (box_lt HX89.out)).trans c8; obtain ⟨c2, c3, _⟩ := KEEP.out W10 (below_next hb19 hb10))
      | (go_at_call 13; refine Calls.mono (H13.out _ hb10) ?_; rintro e W11 ⟨rfl, hb11⟩)
      | go_in)
    have hb911 := below_next hb10 hb11
    have hb111 := below_next hb19 hb911
    have hB11 := below_next hB1 hb111
    have HX11 : Hid (Box W11 b8 #[sl bt la.length] 27) := (hb911.block _ (box_lt HX89.out)).trans HX89.out
    have HN11 : Hid (Box W11 bn #[.int .i64 (la.length : Int)] 3) := (hb911.block _ (box_lt HXN.out)).trans HXN.out
    have HR11 : Hid (RowV W11 bt 3 la.length (iv (fun x => (nameA la x (ask x - 1) : Int)))) := HR9.out.block (hb911.block _ HR9.out.lt)
    clear c8 cn c8' c2 c3 hb10 hb11 hb911 HX89 HXN HR9 H10 H13 hnum
    have cn := box_cell (i := 0) HN11.out rfl
    by_cases h6 : 6 < la.length
    · have k6 : (la.length : Int) > 6 := by omega
      go_wp2
      go_ret
      exact ⟨rfl, hB11⟩
    · have k6 : ¬ (la.length : Int) > 6 := by omega
      obtain ⟨c2, c3, _⟩ := KEEP.out W11 hb111
      go_upto_region 14 with (fail)
      obtain ⟨bok, hbok⟩ : ∃ b, b = W11.heap.size := ⟨_, rfl⟩
      have hxok : Box (W11.alloc (Obj.cells #[.bool true] 4)) bok #[.bool true] 4 := by rw [hbok]; exact heap_alloc_new _ _
      have hb12 : Below W11.heap.size W11 (W11.alloc (Obj.cells #[.bool true] 4)) := below_alloc (Below.refl _ _) _
      rw [← hbok]
      generalize W11.alloc (Obj.cells #[.bool true] 4) = W12 at hxok hb12 ⊢
      have hdo : DoIt W11 bok la.length #[ptr ba, ptr bb, ptr bn, ptr bok, ptr b8] := fun W L vo vc hW hbx hlen hnd hlt hll => by
        obtain ⟨p1, p2⟩ := list_perm hlen hnd hlt
        have hN : NumF W vo la.length (fun i => (L.getD i 0 : Int)) := by have := hll.1; rwa [hlen] at this
        exact fn15_call (M0 := fun i => nameA la i (ask i - 1)) (M := fun i => L.getD i 0) (bt := bt) (HA.out.below hB11) (HB.out.below hB11) rfl HLB.out hn HNA.out HNB.out c2 c3 cn (box_cell (i := 0) HX11.out rfl) HR11.out HK0.out (best_of rfl HLB.out HNA.out HNB.out HGS.out HOPT.out) hW hbx (by omega) hN p1 p2 hll.2
      have h14 := allOrders_call hn (by omega) hdo hb12 hxok
      have H14 : Hid (Calls Try.prog 14 #[.int .i64 (la.length : Int), .func (.func 15) #[] #[ptr ba, ptr bb, ptr bn, ptr bok, ptr b8]] W12 (DoneO bok W12)) := h14
      have hbok1 : W11.heap.size ≤ bok := by omega
      have cn12 := (hb12.cell (p := ⟨bn, 0, none⟩) (box_lt HN11.out)).trans cn
      clear h14 hdo hbok cn c2 c3
      go_wp2_with (first | (go_at_call 14; refine Calls.mono H14.out ?_; rintro e W13 ⟨rfl, ht13, hx13⟩; have cok := box_cell (i := 0) hx13 rfl) | go_in)
      go_ret
      refine ⟨rfl, Turns.below (below_next hB11 hb12) ht13 (below_next hB11 hb12).size (fun k hk => ?_)⟩
      have := hB11.size
      omega
end Go.Proofs.Ytmbnaegcichoeaa
