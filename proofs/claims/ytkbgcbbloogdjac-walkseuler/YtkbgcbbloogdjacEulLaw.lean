/- The walk of WalksEuler: it answers true, and what was there stays. -/
import Derived.Deep.RegionHeld3
import Derived.Test.YtkbgcbbloogdjacBegun
import Derived.Test.YtkbgcbbloogdjacEulMath
import Derived.Test.YtkbgcbbloogdjacRefAlong
import Derived.Test.YtkbgcbbloogdjacOn
import Derived.Test.YtkbgcbbloogdjacSame
import Derived.Test.YtkbgcbbloogdjacOwn
import Derived.Test.YtkbgcbbloogdjacGrid
import Derived.Test.YtkbgcbbloogdjacGirthMath
namespace Go.Proofs.Ytkbgcbbloogdjac
open Go.RowKit Go.Maps
attribute [local go_sem ↓] Go.wp_at_zero Go.wp_at_succ

set_option maxRecDepth 20000 in
set_option maxHeartbeats 4000000 in
theorem eulLaw_bad (n : Int) (ao : Option Addr) (cap : Nat) (es : List Pair) (w : World) (hE : EdgesAt w (.slice ao es.length cap) es) (hcap : es.length ≤ cap) {c d : Int} (hck : chk n es = (c, d)) (hc : c ≠ 0) :
    Calls Try.prog 5 #[.agg #[.int .i64 n, .slice ao es.length cap]] w fun e w' => e = .returned (.bool true) ∧ Below w.heap.size w w' := by
  have hc1 : (c != 0) = true := by simpa using hc
  have hcc : (chk n es).1 ≠ 0 := by rw [hck]; exact hc
  have hgi := fun (w' : World) (v : Value) (h : EdgesAt w' v es) => euler_bad n v es w' h hcc
  simp only [hck] at hgi
  have HCK : Hid _ := hck
  have H2 : Hid _ := hgi
  have HE : Hid _ := hE
  clear hck hcc hgi hc hE
  go_enter Try.func5, Try.ntmps5
  go_upto_region 2 with (go_at_call 7; refine (own_any n ao cap es _ ?_).mono ?_; exact EdgesAt.below HE.out (below_alloc (Below.refl _ _) _); rintro e w1 ⟨hb, oo, oc, rfl, hEo, hocap⟩)
  have tg := two_on (two_new w (.int .i64 n) (.slice ao es.length cap) 24) hb (Obj.cells #[.int .i64 n, .slice oo es.length oc] 24)
  have to' := two_new w1 (.int .i64 n) (.slice oo es.length oc) 24
  have hB := below_on (below_alloc (Below.refl _ w) (Obj.cells #[.int .i64 n, .slice ao es.length cap] 24)) hb (Obj.cells #[.int .i64 n, .slice oo es.length oc] 24)
  have hEg := EdgesAt.below HE.out hB
  replace hEo := hEo.below (below_alloc (Below.refl _ w1) (Obj.cells #[.int .i64 n, .slice oo es.length oc] 24))
  generalize w1.alloc (Obj.cells #[.int .i64 n, .slice oo es.length oc] 24) = W1 at tg to' hB hEg hEo ⊢
  clear hb
  obtain ⟨y1, y2⟩ := cell_two tg
  go_upto_region 3 with (go_at_call 19; refine (refCheck_as hEg hcap HCK.out).mono ?_; rintro e w2 ⟨rfl, hb⟩)
  replace tg := two_on tg hb (Obj.cells #[.int .i64 c, .int .i64 d] 27)
  replace to' := two_on to' hb (Obj.cells #[.int .i64 c, .int .i64 d] 27)
  have tw := two_new w2 (.int .i64 c) (.int .i64 d) 27
  replace hB := below_on hB hb (Obj.cells #[.int .i64 c, .int .i64 d] 27)
  replace hEg := hEg.on hb (Obj.cells #[.int .i64 c, .int .i64 d] 27)
  replace hEo := hEo.on hb (Obj.cells #[.int .i64 c, .int .i64 d] 27)
  generalize w2.alloc (Obj.cells #[.int .i64 c, .int .i64 d] 27) = W2 at tg to' tw hB hEg hEo ⊢
  clear hb y1 y2
  obtain ⟨y1, y2⟩ := cell_two to'
  go_upto_region 4 with (go_at_call 21; refine (H2.out _ _ hEo).mono ?_; rintro e w3 ⟨rfl, hb⟩)
  replace tg := two_on tg hb (Obj.cells #[.int .i64 c, .int .i64 d] 27)
  replace to' := two_on to' hb (Obj.cells #[.int .i64 c, .int .i64 d] 27)
  replace tw := two_on tw hb (Obj.cells #[.int .i64 c, .int .i64 d] 27)
  have tf := two_new w3 (.int .i64 c) (.int .i64 d) 27
  replace hB := below_on hB hb (Obj.cells #[.int .i64 c, .int .i64 d] 27)
  replace hEg := hEg.on hb (Obj.cells #[.int .i64 c, .int .i64 d] 27)
  replace hEo := hEo.on hb (Obj.cells #[.int .i64 c, .int .i64 d] 27)
  generalize w3.alloc (Obj.cells #[.int .i64 c, .int .i64 d] 27) = W3 at tg to' tw tf hB hEg hEo ⊢
  clear hb y1 y2
  have heq := eql27 c d
  go_wp2_with (first
    | (go_at_call 11; refine (begun_call _).mono ?_; rintro e w6 ⟨rfl, hb6⟩; replace tg := two_next tg hb6; replace to' := two_next to' hb6; replace tf := two_next tf hb6; replace tw := two_next tw hb6; replace hB := below_next hB hb6; replace hEg := hEg.below hb6; replace hEo := hEo.below hb6; obtain ⟨a1, a2⟩ := cell_two tg; obtain ⟨a3, a4⟩ := cell_two to')
    | (go_at_call 12; refine (kept_true n _ _ es _ hEo hEg).mono ?_; rintro e w7 ⟨rfl, hb7⟩; obtain ⟨d5, d6⟩ := cell_two (two_next tw hb7); obtain ⟨d7, d8⟩ := cell_two (two_next tf hb7)))
  go_ret
  exact ⟨rfl, below_next hB hb7⟩

theorem eulEnd_below {m : Nat} {es : List Pair} {base : Nat} {w' w'' : World} {v : Value} {c : Int} (h : EulEnd m es base w' v c) (hb : Below w'.heap.size w' w'') : EulEnd m es base w'' v c := by
  rcases h with h | h | ⟨h0, K, h1, h2, h3, s, P2, A, h4, h5, h6, h7, h8⟩
  · exact Or.inl h
  · exact Or.inr (Or.inl h)
  · exact Or.inr (Or.inr ⟨h0, K, h1, h2, h3, s, P2, A, h4, h5, h6, h7, row_on h8 hb⟩)
theorem no_edges {m : Nat} {es : List Pair} (hgood : ∀ e ∈ es, (0 ≤ e.1 ∧ e.1 < (m : Int) ∧ 0 ≤ e.2 ∧ e.2 < (m : Int)) ∧ e.1 ≠ e.2) (h : ∀ i, i < m → nbL m es i = []) : es = [] := by
  cases es with
  | nil => rfl
  | cons e l =>
    have he := hgood e (by simp)
    obtain ⟨a, b⟩ := e
    have h1 := h a.toNat (by simp at he; omega)
    refine absurd h1 (nb_iff.2 ⟨b.toNat, by simp at he; omega, ?_⟩)
    have ea : ((a.toNat : Nat) : Int) = a := by simp at he; omega
    have eb : ((b.toNat : Nat) : Int) = b := by simp at he; omega
    rw [ea, eb]
    simp [hasB]

set_option maxRecDepth 20000 in
set_option maxHeartbeats 8000000 in
theorem eulLaw_ok (m : Nat) (ao : Option Addr) (cap : Nat) (es : List Pair) (w : World) (hE : EdgesAt w (.slice ao es.length cap) es) (hcap : es.length ≤ cap) (hck : chk m es = (0, 0)) :
    Calls Try.prog 5 #[.agg #[.int .i64 (m : Int), .slice ao es.length cap]] w fun e w' => e = .returned (.bool true) ∧ Below w.heap.size w w' := by
  have hc0 : (chk m es).1 = 0 := by rw [hck]
  obtain ⟨_, hn0, hn1, hle, hgood⟩ := chk_good hc0
  have hm : m ≤ 100 := by omega
  have hgi := fun (w' : World) (o : Option Addr) (c : Nat) (h : EdgesAt w' (.slice o es.length c) es) => euler_ok m o c es w' h hc0
  have hirr : ∀ u : Nat, hasB es u u = false := fun u => by
    cases h : hasB es u u with
    | false => rfl
    | true => exact absurd rfl (hasB_range hgood h).2.2
  have hnone := no_edges hgood
  have hel : (allP m (hasB es)).length ≤ 1000 := Nat.le_trans (allP_has_le m es) hle
  obtain ⟨R, hR⟩ := ex2 (fun v x => Star (St m (pn (hasB es)) allB) v x)
  have hgrid := fun (W : World) (v : Value) (h : EdgesAt W v es) => gridOf_any m v es W h hm hle hgood
  have HGR : Hid _ := hgrid
  have H2 : Hid _ := hgi
  have HCK : Hid _ := hck
  have HE : Hid _ := hE
  have HG : Hid _ := hgood
  have HI : Hid _ := hirr
  have HR : Hid _ := hR
  have HNO : Hid _ := hnone
  clear hck hgi hE hc0 hn0 hn1 hgood hirr hR hgrid hnone
  go_enter Try.func5, Try.ntmps5
  go_upto_region 2 with (go_at_call 7; refine (own_any (m : Int) ao cap es _ ?_).mono ?_; exact EdgesAt.below HE.out (below_alloc (Below.refl _ _) _); rintro e w1 ⟨hb, oo, oc, rfl, hEo, hocap⟩)
  have tg := two_on (two_new w (.int .i64 (m : Int)) (.slice ao es.length cap) 24) hb (Obj.cells #[.int .i64 (m : Int), .slice oo es.length oc] 24)
  have to' := two_new w1 (.int .i64 (m : Int)) (.slice oo es.length oc) 24
  have hB := below_on (below_alloc (Below.refl _ w) (Obj.cells #[.int .i64 (m : Int), .slice ao es.length cap] 24)) hb (Obj.cells #[.int .i64 (m : Int), .slice oo es.length oc] 24)
  have hEg := EdgesAt.below HE.out hB
  replace hEo := hEo.below (below_alloc (Below.refl _ w1) (Obj.cells #[.int .i64 (m : Int), .slice oo es.length oc] 24))
  generalize w1.alloc (Obj.cells #[.int .i64 (m : Int), .slice oo es.length oc] 24) = W1 at tg to' hB hEg hEo ⊢
  clear hb
  obtain ⟨y1, y2⟩ := cell_two tg
  go_upto_region 3 with (go_at_call 19; refine (refCheck_as hEg hcap HCK.out).mono ?_; rintro e w2 ⟨rfl, hb⟩)
  replace tg := two_on tg hb (Obj.cells #[.int .i64 0, .int .i64 0] 27)
  replace to' := two_on to' hb (Obj.cells #[.int .i64 0, .int .i64 0] 27)
  have tw := two_new w2 (.int .i64 0) (.int .i64 0) 27
  replace hB := below_on hB hb (Obj.cells #[.int .i64 0, .int .i64 0] 27)
  replace hEg := hEg.on hb (Obj.cells #[.int .i64 0, .int .i64 0] 27)
  replace hEo := hEo.on hb (Obj.cells #[.int .i64 0, .int .i64 0] 27)
  generalize w2.alloc (Obj.cells #[.int .i64 0, .int .i64 0] 27) = W2 at tg to' tw hB hEg hEo ⊢
  clear hb y1 y2
  obtain ⟨y1, y2⟩ := cell_two to'
  go_upto_region 4 with (go_at_call 21; refine (H2.out _ _ _ hEo).mono ?_; rintro e w3 ⟨lv, fc, rfl, hb, hend⟩)
  replace hend := eulEnd_below hend (below_alloc (Below.refl _ w3) (Obj.cells #[.int .i64 fc, .int .i64 0] 27))
  replace tg := two_on tg hb (Obj.cells #[.int .i64 fc, .int .i64 0] 27)
  replace to' := two_on to' hb (Obj.cells #[.int .i64 fc, .int .i64 0] 27)
  replace tw := two_on tw hb (Obj.cells #[.int .i64 fc, .int .i64 0] 27)
  have tf := two_new w3 (.int .i64 fc) (.int .i64 0) 27
  replace hB := below_on hB hb (Obj.cells #[.int .i64 fc, .int .i64 0] 27)
  replace hEg := hEg.on hb (Obj.cells #[.int .i64 fc, .int .i64 0] 27)
  replace hEo := hEo.on hb (Obj.cells #[.int .i64 fc, .int .i64 0] 27)
  generalize w3.alloc (Obj.cells #[.int .i64 fc, .int .i64 0] 27) = W3 at tg to' tw tf hend hB hEg hEo ⊢
  clear hb y1 y2
  go_upto_region 9 with (first
    | (go_at_call 11; refine (begun_call _).mono ?_; rintro e w6 ⟨rfl, hb6⟩; replace tg := two_next tg hb6; replace to' := two_next to' hb6; replace tf := two_next tf hb6; replace tw := two_next tw hb6; replace hB := below_next hB hb6; replace hend := eulEnd_below hend hb6; replace hEg := hEg.below hb6; replace hEo := hEo.below hb6; obtain ⟨a1, a2⟩ := cell_two tg; obtain ⟨a3, a4⟩ := cell_two to')
    | (go_at_call 12; refine (kept_true (m : Int) _ _ es _ hEo hEg).mono ?_; rintro e w7 ⟨rfl, hb7⟩; replace tg := two_next tg hb7; replace tf := two_next tf hb7; replace tw := two_next tw hb7; replace hend := eulEnd_below hend hb7; replace hB := below_next hB hb7; replace hEg := hEg.below hb7; obtain ⟨b1, b2⟩ := cell_two tg; obtain ⟨b3, b4⟩ := cell_two tw)
    | (go_at_call 16; refine (HGR.out _ _ hEg).mono ?_; rintro e w8 ⟨hb8, go', gc, rfl, hG⟩; replace tg := two_next tg hb8; replace tf := two_next tf hb8; replace hend := eulEnd_below hend hb8; replace hB := below_next hB hb8))
  clear hEg hEo a1 a2 a3 a4 b1 b2 b3 b4 tw to'
  obtain ⟨g1, g2⟩ := cell_two tg
  obtain ⟨v1, v2⟩ := cell_two tf
  have hj := joined_call m go' gc (hasB es) w8 hG hm R HR.out
  have hji := joined_iff (m := m) (es := es) HR.out HI.out
  have hod := fun (W : World) (hb : Below w8.heap.size w8 W) => refOdd_call m go' gc (hasB es) W (hG.below hb) hm
  obtain ⟨OD, hOD⟩ : ∃ OD, OD = odds m es := ⟨_, rfl⟩
  have hod' : ∀ (W : World), Below w8.heap.size w8 W → Calls Try.prog 23 #[.slice go' m gc] W fun r w' => ∃ pv, r = .returned pv ∧ w'.ownsRow W.heap.size 3 1 pv OD.length (qv OD) ∧ Below W.heap.size W w' := by rw [hOD]; exact hod
  have HJ : Hid _ := hj
  have HJI : Hid _ := hji
  have HO : Hid _ := hod'
  have HGW : Hid _ := hG
  clear hj hji hod hod' hG
  rcases hend with ⟨rfl, rfl, hall⟩ | ⟨rfl, rfl, K, hK, hwhy⟩ | ⟨rfl, K, hK, hH, h2, s, P2, A, hs, hso, hgo, hAl, hown⟩
  · have hes := HNO.out hall
    have hJ : decide (bigs (piecesS m allB R) < 2) = true := decide_eq_true (HJI.out.2 (fun a b ha _ hna _ => absurd (hall a ha) hna))
    have hO0 : OD = [] := by
      rw [hOD]
      refine List.filter_eq_nil_iff.2 fun v hv hh => ?_
      rw [hall v (by simpa using hv)] at hh
      simp at hh
    rw [hJ] at HJ
    subst hO0
    have e1 : ((es.length : Int) == 0) = true := by rw [hes]; rfl
    have e2 : (es.length == 0) = true := by rw [hes]; rfl
    have hwk := fun (W : World) (hb : Below w8.heap.size w8 W) => refWalk_call m go' gc (hasB es) W (GridAt.below HGW.out hb) (lo := none) (lc := 0) (L := []) (fun k u hu => by simp at hu) (fun u hu => by simp at hu) (fun i x y hx => by simp at hx) (by simp)
    have HWK : Hid _ := hwk
    clear hwk hall hes hOD
    go_wp2_with (first
      | (go_at_call 22; refine Calls.mono HJ.out ?_; rintro e w9 ⟨rfl, hb9⟩; replace tg := two_next tg hb9; replace tf := two_next tf hb9; replace hB := below_next hB hb9)
      | (go_at_call 23; refine (HO.out _ hb9).mono ?_; rintro e wa ⟨pv, rfl, howa, hbA⟩; obtain ⟨oo2, oc2, rfl⟩ := form_row howa; replace tg := two_next tg hbA; replace tf := two_next tf hbA; replace hB := below_next hB hbA; obtain ⟨v3, v4⟩ := cell_two tf)
      | (go_at_call 24; refine (HWK.out _ (below_next hb9 hbA)).mono ?_; rintro e wb ⟨rfl, hbB⟩; replace tg := two_next tg hbB; replace hB := below_next hB hbB; obtain ⟨g3, g4⟩ := cell_two tg)
      | go_in)
    go_ret
    exact ⟨rfl, hB⟩
  · obtain ⟨b9, hb9e⟩ : ∃ b, b = w3.heap.size := ⟨_, rfl⟩
    rw [← hb9e] at tf v1 v2 ⊢
    clear hb9e
    by_cases hjj : bigs (piecesS m allB R) < 2
    · have hJ := decide_eq_true hjj
      rw [hJ] at HJ
      have hO2 : 2 < OD.length := by
        rw [hOD]
        rcases hwhy with h | h
        · exact h
        · obtain ⟨o, hd⟩ := dist_ex (N := m) (e := pn (hasB es)) (v := K)
          exact absurd ((hang_iff HR.out hK hd).2 (HJI.out.1 hjj)) h
      have z2 : (2 : Int) < (OD.length : Int) := by omega
      clear hwhy hjj hJ hO2 hOD
      go_upto_region 10 with (first
        | (go_at_call 22; refine Calls.mono HJ.out ?_; rintro e w9 ⟨rfl, hb9⟩; replace tf := two_next tf hb9; replace hB := below_next hB hb9)
        | (go_at_call 23; refine (HO.out _ hb9).mono ?_; rintro e WB ⟨pv, rfl, howa, hbA⟩; obtain ⟨oo2, oc2, rfl⟩ := form_row howa; replace tf := two_next tf hbA; replace hB := below_next hB hbA)
        | go_in)
      clear v1 v2 g1 g2 howa hbA hb9
      have hkeep : ∀ w', Below WB.heap.size WB w' → w'.cell? ⟨b9, 0, none⟩ = some (.int .i64 9) ∧ w'.cell? ⟨b9, 1, none⟩ = some (.int .i64 0) := fun w' hb => ⟨(cell_two (two_next tf hb)).1, (cell_two (two_next tf hb)).2⟩
      have HK : Hid _ := hkeep
      clear hkeep
      go_region_held3 (fun w' => w'.cell? ⟨b9, 0, none⟩ = some (.int .i64 9) ∧ w'.cell? ⟨b9, 1, none⟩ = some (.int .i64 0))
        (first | exact hkk | exact HK.out _ (Below.refl _ _).drew | assumption | go_keep)
        ((go_at_call 13; refine (refF_any 9 0 _).mono ?_; rintro e wA ⟨rfl, hbA⟩; have hbA' := (Below.refl WB.heap.size WB).drew.trans hbA; have hkk := HK.out _ hbA'))
      all_goals
        go_wp2
        go_ret
        exact ⟨rfl, below_next hB hbA'⟩
    · have hJ := decide_eq_false hjj
      rw [hJ] at HJ
      clear hwhy hjj hJ hOD
      go_upto_region 10 with (first
        | (go_at_call 22; refine Calls.mono HJ.out ?_; rintro e WB ⟨rfl, hb9⟩; replace tf := two_next tf hb9; replace hB := below_next hB hb9)
        | go_in)
      clear v1 v2 g1 g2 hb9
      have hkeep : ∀ w', Below WB.heap.size WB w' → w'.cell? ⟨b9, 0, none⟩ = some (.int .i64 9) ∧ w'.cell? ⟨b9, 1, none⟩ = some (.int .i64 0) := fun w' hb => ⟨(cell_two (two_next tf hb)).1, (cell_two (two_next tf hb)).2⟩
      have HK : Hid _ := hkeep
      clear hkeep
      go_region_held3 (fun w' => w'.cell? ⟨b9, 0, none⟩ = some (.int .i64 9) ∧ w'.cell? ⟨b9, 1, none⟩ = some (.int .i64 0))
        (first | exact hkk | exact HK.out _ (Below.refl _ _).drew | assumption | go_keep)
        ((go_at_call 13; refine (refF_any 9 0 _).mono ?_; rintro e wA ⟨rfl, hbA⟩; have hbA' := (Below.refl WB.heap.size WB).drew.trans hbA; have hkk := HK.out _ hbA'))
      all_goals
        go_wp2
        go_ret
        exact ⟨rfl, below_next hB hbA'⟩
  · obtain ⟨o, hd⟩ := dist_ex (N := m) (e := pn (hasB es)) (v := K)
    have hjj := HJI.out.2 ((hang_iff HR.out hK hd).1 hH)
    have hJ := decide_eq_true hjj
    rw [hJ] at HJ
    obtain ⟨hlt, hcnt⟩ := euler_walk HG.out hK hH h2 hs hso hgo
    have hes : es ≠ [] := fun e => by
      subst e
      obtain ⟨b, _, hb⟩ := nb_iff.1 hK.2.1
      simp [hasB] at hb
    have hpos : 0 < es.length := List.length_pos_iff.2 hes
    have e1 : ((es.length : Int) == 0) = false := by rw [beq_eq_false_iff_ne]; omega
    have e2 : (es.length == 0) = false := by rw [beq_eq_false_iff_ne]; omega
    have z2 : ¬ (2 : Int) < (OD.length : Int) := by rw [hOD]; omega
    obtain ⟨L, hL⟩ : ∃ L, L = A ++ [s] := ⟨_, rfl⟩
    rw [← hL] at hown hlt hcnt
    have hLl : L.length ≤ 100000 := by rw [hL]; simp; omega
    obtain ⟨lo, lc, rfl⟩ := form_row hown
    have hnum := nums_row hown
    have hwk := fun (W : World) (hb : Below w8.heap.size w8 W) => refWalk_call m go' gc (hasB es) W (GridAt.below HGW.out hb) (lo := lo) (lc := lc) (L := L) (NumsAt.below hnum hb) hlt (fun i x y hx hy => by
      have h0 := cntW_step hx hy
      have hx' := hlt x (List.mem_of_getElem? hx)
      have hy' := hlt y (List.mem_of_getElem? hy)
      rw [← hcnt x y hx' hy', plan0_iff HG.out] at h0
      by_cases c : hasB es x y = true
      · exact c
      · rw [if_neg c] at h0; omega) hLl
    have hal := fun (W : World) (hb : Below w8.heap.size w8 W) => along_call m go' gc (hasB es) W (GridAt.below HGW.out hb) hm hel (lo := lo) (lc := lc) (L := L) (NumsAt.below hnum hb) hLl
    have hone : ∀ (f : Nat → Int), (∀ i x y : Nat, (allP m (hasB es))[i]? = some ((x : Int), (y : Int)) → f i = cntW L x y) → ∀ i, i < (allP m (hasB es)).length → f i = 1 := fun f hf i hi => by
      obtain ⟨x, y, h1, h2, h3, h4⟩ := allP_mem.1 (List.getElem_mem hi)
      have hg : (allP m (hasB es))[i]? = some ((x : Int), (y : Int)) := by rw [List.getElem?_eq_getElem hi, h4]
      rw [hf i x y hg, ← hcnt x y (by omega) h2, plan0_iff HG.out, if_pos h3]
    have HWK : Hid _ := hwk
    have HAL : Hid _ := hal
    have HON : Hid _ := hone
    clear hwk hal hone hnum hown hcnt hlt hL hes hpos hjj hJ hd hgo hso hH hK h2 hOD
    go_upto_region 16 with (first
      | (go_at_call 22; refine Calls.mono HJ.out ?_; rintro e w9 ⟨rfl, hb9⟩; replace tg := two_next tg hb9; replace tf := two_next tf hb9; replace hB := below_next hB hb9)
      | (go_at_call 23; refine (HO.out _ hb9).mono ?_; rintro e wa ⟨pv, rfl, howa, hbA⟩; obtain ⟨oo2, oc2, rfl⟩ := form_row howa; replace tg := two_next tg hbA; replace tf := two_next tf hbA; replace hB := below_next hB hbA; obtain ⟨v3, v4⟩ := cell_two tf)
      | (go_at_call 24; refine (HWK.out _ (below_next hb9 hbA)).mono ?_; rintro e wb ⟨rfl, hbB⟩; replace tg := two_next tg hbB; replace hB := below_next hB hbB; obtain ⟨g3, g4⟩ := cell_two tg)
      | (go_at_call 25; refine (HAL.out _ (below_next (below_next hb9 hbA) hbB)).mono ?_; rintro e wc ⟨br, f, rfl, hrow, hf, hbC⟩; replace hB := below_next hB hbC)
      | go_in)
    have hf1 := HON.out f hf
    have hrow1 := hrow.congr (g := fun _ => .int .i64 1) (fun i hi => by rw [hf1 i hi])
    obtain ⟨E, hE2⟩ : ∃ E, E = (allP m (hasB es)).length := ⟨_, rfl⟩
    rw [← hE2] at hrow1 hel ⊢
    clear hE2 hf1 hrow hf g1 g2 v1 v2 g3 g4 v3 v4 e1 e2 z2 HAL HWK HJ HO HON
    go_wp2
    go_loopw [9] (fun i wr => ∃ k : Nat, k ≤ E ∧ i = .int .i64 (k : Int) ∧ wr = wc) (fun i _ => E - (numOf i).toNat)
    case atStart => exact ⟨0, Nat.zero_le _, rfl, rfl⟩
    case round =>
      obtain ⟨k, hk, rfl, rfl⟩ := hrel
      by_cases hkE : k < E
      · have ck := hrow1.cell hkE
        have i1 : (0 : Int) ≤ (k : Int) := by omega
        have i2 : (k : Int) < (E : Int) := by omega
        go_wp2
        go_roundw
        case rel => exact ⟨k + 1, by omega, by go_num, trivial⟩
        case measure => simp [numOf]; omega
      · have hke : E = k := by omega
        subst hke
        go_wp2
        go_ret
        exact ⟨rfl, hB⟩
end Go.Proofs.Ytkbgcbbloogdjac
