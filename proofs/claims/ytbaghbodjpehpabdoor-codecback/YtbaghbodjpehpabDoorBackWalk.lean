/- The walk of CodecBack: it answers true, and what was there stays. -/
import Derived.Test.YtbaghbodjpehpabDoorBackMath
namespace Go.Proofs.YtbaghbodjpehpabDoor
open Go.RowKit Go.Maps
attribute [local go_sem ↓] Go.wp_at_zero Go.wp_at_succ

theorem two_self {w : World} {b : Nat} {x y : Value} {t : TypeId} (h : Two w b x y t) (x' y' : Value) : Two ((w.setCell ⟨b, 0, none⟩ x').setCell ⟨b, 1, none⟩ y') b x' y' t := by
  have h' : w.heap[b]? = some (.cells #[x, y] t (0, 0)) := h
  simp [Two, World.setCell, Array.getElem?_modify, h']

set_option maxRecDepth 100000 in
set_option maxHeartbeats 8000000 in
theorem back_bad (n : Int) (v : Value) (es : List Pair) (s : ByteArray) (w : World) (hE : EdgesAt w v es) {c d : Int} {S : ByteArray} (hc0 : c ≠ 0) (h5 : ∀ w' v, EdgesAt w' v es → Says 5 #[.agg #[.int .i64 n, v]] w' S c d)
    (A : Ans) (h7 : ∀ w, Tells 7 #[.string s] w A) (h9 : A.c ≠ 0 ∨ (A.c = 0 ∧ ∀ w v, EdgesAt w v A.es → Says 5 #[.agg #[.int .i64 A.n, v]] w s 0 0)) :
    Calls Tryd.prog 3 #[.agg #[.int .i64 n, v], .string s] w fun e w' => e = .returned (.bool true) ∧ Below w.heap.size w w' := by
  have HE : Hid _ := hE
  have H5 : Hid _ := h5
  have H7 : Hid _ := h7
  have H9 : Hid _ := h9
  clear hE h5 h7 h9
  have hc1 : (c == 0) = false := by simpa using hc0
  have tg0 := two_new w (.int .i64 n) v 24
  have hb0 := below_alloc (Below.refl w.heap.size w) (Obj.cells #[.int .i64 n, v] 24)
  go_enter Tryd.func3, Tryd.ntmps3
  go_upto_region 3 with (go_at_call 4; refine (codecBegun_true _).mono ?_; rintro e w1 ⟨rfl, hb1⟩)
  have tg1 := two_next tg0 hb1
  have hB1 := below_next hb0 hb1
  clear tg0 hb0 hb1
  obtain ⟨a1, a2⟩ := cell_two tg1
  go_upto_region 4 with (go_at_call 5; refine (H5.out _ _ (EdgesAt.below HE.out hB1)).mono ?_; rintro e w2 ⟨rfl, hb2⟩)
  have q2 := below_alloc (Below.refl w2.heap.size w2) (Obj.cells #[.int .i64 c, .int .i64 d] 27)
  have tf := two_new w2 (.int .i64 c) (.int .i64 d) 27
  have hB := below_next hB1 (below_next hb2 q2)
  have hbw : w.heap.size ≤ w2.heap.size := (below_next hB1 hb2).size
  have hbf : w2.heap.size < (w2.alloc (Obj.cells #[.int .i64 c, .int .i64 d] 27)).heap.size := by simp
  generalize w2.heap.size = bf at tf hbw hbf ⊢
  generalize w2.alloc (Obj.cells #[.int .i64 c, .int .i64 d] 27) = W at tf hB hbf ⊢
  clear q2 hb2 hB1 tg1 a1 a2 H5 HE
  obtain ⟨e1, e2⟩ := cell_two tf
  go_upto_region 11 with (go_at_call 7; refine (H7.out _).mono ?_; rintro e w7 ⟨hb7, ao7, c7, rfl, hE7, hf7⟩; obtain ⟨z0, z1, z2⟩ := kk (two_alloc (two_next tf hb7) (Obj.cells #[.int .i64 A.n, .slice ao7 A.es.length c7] 24)))
  have q7 := below_alloc (Below.refl w7.heap.size w7) (Obj.cells #[.int .i64 A.n, .slice ao7 A.es.length c7] 24)
  have ta := two_new w7 (.int .i64 A.n) (.slice ao7 A.es.length c7) 24
  have tf7 := two_next tf (below_next hb7 q7)
  have hsz7 : bf < w7.heap.size := Nat.lt_of_lt_of_le hbf hb7.size
  have hY := hE7.below q7
  have hB7 := below_next hB (below_next hb7 q7)
  have hne : w7.heap.size ≠ bf := by omega
  have hfar : ∀ x, ao7 = some x → x.block ≠ bf := fun x hx => by have := hf7 x hx; omega
  generalize w7.heap.size = ba at ta hne ⊢
  generalize w7.alloc (Obj.cells #[.int .i64 A.n, .slice ao7 A.es.length c7] 24) = V at ta tf7 hY hB7 z0 z1 z2 ⊢
  have ta8 := two_far ta hne.symm (.int .i64 A.c) (.int .i64 A.pos)
  have tf8 := two_self tf7 (.int .i64 A.c) (.int .i64 A.pos)
  have hY8 := (hY.setCell (p := ⟨bf, 0, none⟩) hfar (.int .i64 A.c)).setCell (p := ⟨bf, 1, none⟩) hfar (.int .i64 A.pos)
  have hB8 := (hB7.setCell (p := ⟨bf, 0, none⟩) hbw (.int .i64 A.c)).setCell (p := ⟨bf, 1, none⟩) hbw (.int .i64 A.pos)
  generalize (V.setCell ⟨bf, 0, none⟩ (.int .i64 A.c)).setCell ⟨bf, 1, none⟩ (.int .i64 A.pos) = U at ta8 tf8 hY8 hB8 ⊢
  clear z0 z1 z2 ta tf7 hY hB7 hb7 hE7 hf7 q7 hfar tf hB
  obtain ⟨d0, d1⟩ := cell_two tf8
  rcases H9.out with hc | ⟨hc, hpk⟩
  · have hc1 : (A.c != 0) = true := by simpa using hc
    go_wp2
    go_ret
    exact ⟨rfl, hB8⟩
  · have hc1 : (A.c != 0) = false := by simpa using hc
    have HPK : Hid _ := hpk
    clear hpk
    obtain ⟨d3, d4⟩ := cell_two ta8
    go_upto_region 14 with (go_at_call 5; refine (HPK.out _ _ hY8).mono ?_; rintro e w9 ⟨rfl, hb9⟩; obtain ⟨z0, z1, z2⟩ := kk (two_next tf8 hb9))
    have tf9 := two_self (two_next tf8 hb9) (.int .i64 0) (.int .i64 0)
    have hB9 := ((below_next hB8 hb9).setCell (p := ⟨bf, 0, none⟩) hbw (.int .i64 0)).setCell (p := ⟨bf, 1, none⟩) hbw (.int .i64 0)
    generalize (w9.setCell ⟨bf, 0, none⟩ (.int .i64 0)).setCell ⟨bf, 1, none⟩ (.int .i64 0) = U2 at tf9 hB9 ⊢
    clear z0 z1 z2
    obtain ⟨d5, d6⟩ := cell_two tf9
    go_wp2
    go_ret
    exact ⟨rfl, hB9⟩

set_option maxRecDepth 100000 in
set_option maxHeartbeats 8000000 in
theorem back_good (m : Nat) (ao : Option Addr) (cap : Nat) (es : List Pair) (s : ByteArray) (w : World) (hE : EdgesAt w (.slice ao es.length cap) es) {S T : ByteArray} {L : List Pair} (hl : L.length = es.length) (h5 : ∀ w' v, EdgesAt w' v es → Says 5 #[.agg #[.int .i64 m, v]] w' S 0 0)
    (h6 : ∀ w' v, Below w.heap.size w w' → EdgesAt w' v es → Says 6 #[.agg #[.int .i64 m, v]] w' T 0 0) (hU : ∀ w, Tells 7 #[.string S] w ⟨m, L, 0, 0⟩) (h8 : ∀ w, Tells 8 #[.string T] w ⟨m, L, 0, 0⟩)
    (A : Ans) (h7 : ∀ w, Tells 7 #[.string s] w A) (h9 : A.c ≠ 0 ∨ (A.c = 0 ∧ ∀ w v, EdgesAt w v A.es → Says 5 #[.agg #[.int .i64 A.n, v]] w s 0 0)) :
    Calls Tryd.prog 3 #[.agg #[.int .i64 m, .slice ao es.length cap], .string s] w fun e w' => e = .returned (.bool true) ∧ Below w.heap.size w w' := by
  have HE : Hid _ := hE
  have H5 : Hid _ := h5
  have H6 : Hid _ := h6
  have HU : Hid _ := hU
  have H8 : Hid _ := h8
  have H7 : Hid _ := h7
  have H9 : Hid _ := h9
  have HLen : Hid _ := hl
  clear hE h5 h6 h7 h8 h9 hU hl
  have tg0 := two_new w (.int .i64 m) (.slice ao es.length cap) 24
  have hb0 := below_alloc (Below.refl w.heap.size w) (Obj.cells #[.int .i64 m, .slice ao es.length cap] 24)
  go_enter Tryd.func3, Tryd.ntmps3
  go_upto_region 3 with (go_at_call 4; refine (codecBegun_true _).mono ?_; rintro e w1 ⟨rfl, hb1⟩)
  have tg1 := two_next tg0 hb1
  have hB1 := below_next hb0 hb1
  clear tg0 hb0 hb1
  obtain ⟨a1, a2⟩ := cell_two tg1
  go_upto_region 4 with (go_at_call 5; refine (H5.out _ _ (EdgesAt.below HE.out hB1)).mono ?_; rintro e w2 ⟨rfl, hb2⟩)
  have q2 := below_next hb2 (below_alloc (Below.refl w2.heap.size w2) (Obj.cells #[.int .i64 0, .int .i64 0] 27))
  have tf := two_new w2 (.int .i64 0) (.int .i64 0) 27
  have tg := two_next tg1 q2
  have hB := below_next hB1 q2
  have hbw : w.heap.size ≤ w2.heap.size := (below_next hB1 hb2).size
  have hbf : w2.heap.size < (w2.alloc (Obj.cells #[.int .i64 0, .int .i64 0] 27)).heap.size := by simp
  generalize w2.heap.size = bf at tf hbw hbf ⊢
  generalize w2.alloc (Obj.cells #[.int .i64 0, .int .i64 0] 27) = W at tf tg hB hbf ⊢
  clear q2 hb2 hB1 tg1 a1 a2 H5
  obtain ⟨e1, e2⟩ := cell_two tf
  obtain ⟨a1, a2⟩ := cell_two tg
  go_upto_region 6 with (go_at_call 6; refine (H6.out _ _ hB (EdgesAt.below HE.out hB)).mono ?_; rintro e w3 ⟨rfl, hb3⟩)
  have q3 := below_next hb3 (below_alloc (Below.refl w3.heap.size w3) (Obj.cells #[.int .i64 0, .int .i64 0] 27))
  have te := two_new w3 (.int .i64 0) (.int .i64 0) 27
  replace tg := two_next tg q3
  replace tf := two_next tf q3
  replace hB := below_next hB q3
  replace hbf := Nat.lt_of_lt_of_le hbf q3.size
  generalize w3.heap.size = be at te ⊢
  generalize w3.alloc (Obj.cells #[.int .i64 0, .int .i64 0] 27) = W3 at tg tf te hB hbf ⊢
  clear q3 hb3 e1 e2 a1 a2 H6
  go_upto_region 7 with (go_at_call 7; refine (HU.out _).mono ?_; rintro e wa ⟨hba, aoa, ca, rfl, hEa, hfa⟩)
  have qa := below2 (w := wa) (Obj.cells #[.int .i64 m, .slice aoa L.length ca] 24) (Obj.cells #[.int .i64 0, .int .i64 0] 27)
  have xa := below_next hba qa
  have taa := two_alloc (two_new wa (.int .i64 m) (.slice aoa L.length ca) 24) (Obj.cells #[.int .i64 0, .int .i64 0] 27)
  have tha := two_newb wa (Obj.cells #[.int .i64 m, .slice aoa L.length ca] 24) (.int .i64 0) (.int .i64 0) 27
  have hYa := hEa.below qa
  replace tg := two_next tg xa
  replace tf := two_next tf xa
  replace te := two_next te xa
  replace hB := below_next hB xa
  replace hbf := Nat.lt_of_lt_of_le hbf xa.size
  generalize wa.heap.size = baa at taa tha ⊢
  generalize (wa.alloc (Obj.cells #[.int .i64 m, .slice aoa L.length ca] 24)).alloc (Obj.cells #[.int .i64 0, .int .i64 0] 27) = Va at tg tf te hB hbf taa tha hYa ⊢
  clear hba hEa hfa qa xa
  go_upto_region 8 with (go_at_call 8; refine (H8.out _).mono ?_; rintro e wb ⟨hbb, aob, cb, rfl, hEb, hfb⟩)
  have qb := below2 (w := wb) (Obj.cells #[.int .i64 m, .slice aob L.length cb] 24) (Obj.cells #[.int .i64 0, .int .i64 0] 27)
  have xb := below_next hbb qb
  have tab := two_alloc (two_new wb (.int .i64 m) (.slice aob L.length cb) 24) (Obj.cells #[.int .i64 0, .int .i64 0] 27)
  have thb := two_newb wb (Obj.cells #[.int .i64 m, .slice aob L.length cb] 24) (.int .i64 0) (.int .i64 0) 27
  have hYb := hEb.below qb
  replace tg := two_next tg xb
  replace tf := two_next tf xb
  replace te := two_next te xb
  replace taa := two_next taa xb
  replace tha := two_next tha xb
  replace hYa := hYa.below xb
  replace hB := below_next hB xb
  replace hbf := Nat.lt_of_lt_of_le hbf xb.size
  generalize wb.heap.size = bab at tab thb ⊢
  generalize (wb.alloc (Obj.cells #[.int .i64 m, .slice aob L.length cb] 24)).alloc (Obj.cells #[.int .i64 0, .int .i64 0] 27) = Vb at tg tf te hB hbf tab thb hYb taa tha hYa ⊢
  clear hbb hEb hfb qb xb
  obtain ⟨k1, k2⟩ := cell_two te
  obtain ⟨k3, k4⟩ := cell_two tha
  obtain ⟨k5, k6⟩ := cell_two thb
  obtain ⟨k7, k8⟩ := cell_two taa
  obtain ⟨k9, k10⟩ := cell_two tab
  obtain ⟨k11, k12⟩ := cell_two tg
  have hll : ((L.length : Int) != (es.length : Int)) = false := by rw [HLen.out]; simp
  have hmm : ((m : Int) != (m : Int)) = false := by simp
  go_upto_region 10 with (go_at_call 9; refine (same_true m _ _ L _ hYa hYb).mono ?_; rintro e w5 ⟨rfl, hb5⟩; obtain ⟨p7, p8⟩ := cell_two (two_next taa hb5); obtain ⟨p11, p12⟩ := cell_two (two_next tg hb5))
  replace tf := two_next tf hb5
  replace hB := below_next hB hb5
  replace hbf := Nat.lt_of_lt_of_le hbf hb5.size
  clear k1 k2 k3 k4 k5 k6 k7 k8 k9 k10 k11 k12 p7 p8 p11 p12 tg te taa tha tab thb hYa hYb hb5 H8 HU HE hll hmm HLen
  obtain ⟨e1, e2⟩ := cell_two tf
  go_upto_region 11 with (go_at_call 7; refine (H7.out _).mono ?_; rintro e w7 ⟨hb7, ao7, c7, rfl, hE7, hf7⟩; obtain ⟨z0, z1, z2⟩ := kk (two_alloc (two_next tf hb7) (Obj.cells #[.int .i64 A.n, .slice ao7 A.es.length c7] 24)))
  have q7 := below_alloc (Below.refl w7.heap.size w7) (Obj.cells #[.int .i64 A.n, .slice ao7 A.es.length c7] 24)
  have ta := two_new w7 (.int .i64 A.n) (.slice ao7 A.es.length c7) 24
  have tf7 := two_next tf (below_next hb7 q7)
  have hsz7 : bf < w7.heap.size := Nat.lt_of_lt_of_le hbf hb7.size
  have hY := hE7.below q7
  have hB7 := below_next hB (below_next hb7 q7)
  have hne : w7.heap.size ≠ bf := by omega
  have hfar : ∀ x, ao7 = some x → x.block ≠ bf := fun x hx => by have := hf7 x hx; omega
  generalize w7.heap.size = ba at ta hne ⊢
  generalize w7.alloc (Obj.cells #[.int .i64 A.n, .slice ao7 A.es.length c7] 24) = V at ta tf7 hY hB7 z0 z1 z2 ⊢
  have ta8 := two_far ta hne.symm (.int .i64 A.c) (.int .i64 A.pos)
  have tf8 := two_self tf7 (.int .i64 A.c) (.int .i64 A.pos)
  have hY8 := (hY.setCell (p := ⟨bf, 0, none⟩) hfar (.int .i64 A.c)).setCell (p := ⟨bf, 1, none⟩) hfar (.int .i64 A.pos)
  have hB8 := (hB7.setCell (p := ⟨bf, 0, none⟩) hbw (.int .i64 A.c)).setCell (p := ⟨bf, 1, none⟩) hbw (.int .i64 A.pos)
  generalize (V.setCell ⟨bf, 0, none⟩ (.int .i64 A.c)).setCell ⟨bf, 1, none⟩ (.int .i64 A.pos) = U at ta8 tf8 hY8 hB8 ⊢
  clear z0 z1 z2 ta tf7 hY hB7 hb7 hE7 hf7 q7 hfar tf hB
  obtain ⟨d0, d1⟩ := cell_two tf8
  rcases H9.out with hc | ⟨hc, hpk⟩
  · have hc1 : (A.c != 0) = true := by simpa using hc
    go_wp2
    go_ret
    exact ⟨rfl, hB8⟩
  · have hc1 : (A.c != 0) = false := by simpa using hc
    have HPK : Hid _ := hpk
    clear hpk
    obtain ⟨d3, d4⟩ := cell_two ta8
    go_upto_region 14 with (go_at_call 5; refine (HPK.out _ _ hY8).mono ?_; rintro e w9 ⟨rfl, hb9⟩; obtain ⟨z0, z1, z2⟩ := kk (two_next tf8 hb9))
    have tf9 := two_self (two_next tf8 hb9) (.int .i64 0) (.int .i64 0)
    have hB9 := ((below_next hB8 hb9).setCell (p := ⟨bf, 0, none⟩) hbw (.int .i64 0)).setCell (p := ⟨bf, 1, none⟩) hbw (.int .i64 0)
    generalize (w9.setCell ⟨bf, 0, none⟩ (.int .i64 0)).setCell ⟨bf, 1, none⟩ (.int .i64 0) = U2 at tf9 hB9 ⊢
    clear z0 z1 z2
    obtain ⟨d5, d6⟩ := cell_two tf9
    go_wp2
    go_ret
    exact ⟨rfl, hB9⟩
end Go.Proofs.YtbaghbodjpehpabDoor
