/- The walk of WalksPostman: it answers true, and what was there stays. -/
import Derived.BigQuiet
import Derived.Deep.RegionHeld3
import Derived.Test.YtkbgcbbloogdjacBegun
import Derived.Test.YtkbgcbbloogdjacEulMath
import Derived.Test.YtkbgcbbloogdjacRefAlong
import Derived.Test.YtkbgcbbloogdjacOn
import Derived.Test.YtkbgcbbloogdjacSame
import Derived.Test.YtkbgcbbloogdjacOwn
import Derived.Test.YtkbgcbbloogdjacGrid
import Derived.Test.YtkbgcbbloogdjacGirthMath
import Derived.Test.YtkbgcbbloogdjacPostWalk
import Derived.Test.YtkbgcbbloogdjacMates
namespace Go.Proofs.Ytkbgcbbloogdjac
open Go.RowKit Go.Maps
attribute [local go_sem ↓] Go.wp_at_zero Go.wp_at_succ

set_option maxRecDepth 20000 in
set_option maxHeartbeats 4000000 in
theorem postLaw_bad (n : Int) (ao : Option Addr) (cap : Nat) (es : List Pair) (w : World) (hE : EdgesAt w (.slice ao es.length cap) es) (hcap : es.length ≤ cap) {c d : Int} (hck : chk n es = (c, d)) (hc : c ≠ 0) :
    Calls Try.prog 6 #[.agg #[.int .i64 n, .slice ao es.length cap]] w fun e w' => e = .returned (.bool true) ∧ Below w.heap.size w w' := by
  have hc1 : (c != 0) = true := by simpa using hc
  have hcc : (chk n es).1 ≠ 0 := by rw [hck]; exact hc
  have hgi := fun (w' : World) (v : Value) (h : EdgesAt w' v es) => postman_bad n v es w' h hcc
  simp only [hck] at hgi
  have HCK : Hid _ := hck
  have H2 : Hid _ := hgi
  have HE : Hid _ := hE
  clear hck hcc hgi hc hE
  go_enter Try.func6, Try.ntmps6
  go_upto_region 2 with (go_at_call 7; refine (own_any n ao cap es _ ?_).mono ?_; exact EdgesAt.below HE.out (below_alloc (Below.refl _ _) _); rintro e w1 ⟨hb, oo, oc, rfl, hEo, hocap⟩)
  have tg := two_on (two_new w (.int .i64 n) (.slice ao es.length cap) 24) hb (Obj.cells #[.int .i64 n, .slice oo es.length oc] 24)
  have to' := two_new w1 (.int .i64 n) (.slice oo es.length oc) 24
  have hB := below_on (below_alloc (Below.refl _ w) (Obj.cells #[.int .i64 n, .slice ao es.length cap] 24)) hb (Obj.cells #[.int .i64 n, .slice oo es.length oc] 24)
  have hEg := EdgesAt.below HE.out hB
  replace hEo := hEo.below (below_alloc (Below.refl _ w1) (Obj.cells #[.int .i64 n, .slice oo es.length oc] 24))
  generalize w1.alloc (Obj.cells #[.int .i64 n, .slice oo es.length oc] 24) = W1 at tg to' hB hEg hEo ⊢
  clear hb
  obtain ⟨y1, y2⟩ := cell_two tg
  go_upto_region 3 with (go_at_call 19; refine (refCheck_as hEg hcap HCK.out).mono ?_; rintro e w2 ⟨rfl, hb⟩)
  replace tg := two_on tg hb (Obj.cells #[.int .i64 c, .int .i64 d] 27)
  replace to' := two_on to' hb (Obj.cells #[.int .i64 c, .int .i64 d] 27)
  have tw := two_new w2 (.int .i64 c) (.int .i64 d) 27
  replace hB := below_on hB hb (Obj.cells #[.int .i64 c, .int .i64 d] 27)
  replace hEg := hEg.on hb (Obj.cells #[.int .i64 c, .int .i64 d] 27)
  replace hEo := hEo.on hb (Obj.cells #[.int .i64 c, .int .i64 d] 27)
  generalize w2.alloc (Obj.cells #[.int .i64 c, .int .i64 d] 27) = W2 at tg to' tw hB hEg hEo ⊢
  clear hb y1 y2
  obtain ⟨y1, y2⟩ := cell_two to'
  go_upto_region 4 with (go_at_call 26; refine (H2.out _ _ hEo).mono ?_; rintro e w3 ⟨rfl, hb⟩)
  replace tg := two_on tg hb (Obj.cells #[.int .i64 c, .int .i64 d] 27)
  replace to' := two_on to' hb (Obj.cells #[.int .i64 c, .int .i64 d] 27)
  replace tw := two_on tw hb (Obj.cells #[.int .i64 c, .int .i64 d] 27)
  have tf := two_new w3 (.int .i64 c) (.int .i64 d) 27
  replace hB := below_on hB hb (Obj.cells #[.int .i64 c, .int .i64 d] 27)
  replace hEg := hEg.on hb (Obj.cells #[.int .i64 c, .int .i64 d] 27)
  replace hEo := hEo.on hb (Obj.cells #[.int .i64 c, .int .i64 d] 27)
  generalize w3.alloc (Obj.cells #[.int .i64 c, .int .i64 d] 27) = W3 at tg to' tw tf hB hEg hEo ⊢
  clear hb y1 y2
  have heq := eql27 c d
  go_wp2_with (first
    | (go_at_call 11; refine (begun_call _).mono ?_; rintro e w6 ⟨rfl, hb6⟩; replace tg := two_next tg hb6; replace to' := two_next to' hb6; replace tf := two_next tf hb6; replace tw := two_next tw hb6; replace hB := below_next hB hb6; replace hEg := hEg.below hb6; replace hEo := hEo.below hb6; obtain ⟨a1, a2⟩ := cell_two tg; obtain ⟨a3, a4⟩ := cell_two to')
    | (go_at_call 12; refine (kept_true n _ _ es _ hEo hEg).mono ?_; rintro e w7 ⟨rfl, hb7⟩; obtain ⟨d5, d6⟩ := cell_two (two_next tw hb7); obtain ⟨d7, d8⟩ := cell_two (two_next tf hb7)))
  go_ret
  exact ⟨rfl, below_next hB hb7⟩

theorem postEnd_below {m : Nat} {es : List Pair} {R : (Nat → Nat → Option Nat) → List Pair → Prop} {base : Nat} {w' w'' : World} {v : Value} {c : Int} (h : PostEnd m es R base w' v c) (hb : Below w'.heap.size w' w'') : PostEnd m es R base w'' v c := by
  rcases h with h | h | h | ⟨h0, K, h1, h2, h3, O, ps, P1, P2, A, h4, h5, h6, h7, h8, h9⟩
  · exact Or.inl h
  · exact Or.inr (Or.inl h)
  · exact Or.inr (Or.inr (Or.inl h))
  · exact Or.inr (Or.inr (Or.inr ⟨h0, K, h1, h2, h3, O, ps, P1, P2, A, h4, h5, h6, h7, h8, row_on h9 hb⟩))
theorem no_edges {m : Nat} {es : List Pair} (hgood : ∀ e ∈ es, (0 ≤ e.1 ∧ e.1 < (m : Int) ∧ 0 ≤ e.2 ∧ e.2 < (m : Int)) ∧ e.1 ≠ e.2) (h : ∀ i, i < m → nbL m es i = []) : es = [] := by
  cases es with
  | nil => rfl
  | cons e l =>
    have he := hgood e (by simp)
    obtain ⟨a, b⟩ := e
    have h1 := h a.toNat (by simp at he; omega)
    refine absurd h1 (nb_iff.2 ⟨b.toNat, by simp at he; omega, ?_⟩)
    have ea : ((a.toNat : Nat) : Int) = a := by simp at he; omega
    have eb : ((b.toNat : Nat) : Int) = b := by simp at he; omega
    rw [ea, eb]
    simp [hasB]
theorem odds_even {m : Nat} {es : List Pair} (hgood : ∀ e ∈ es, (0 ≤ e.1 ∧ e.1 < (m : Int) ∧ 0 ≤ e.2 ∧ e.2 < (m : Int)) ∧ e.1 ≠ e.2) : ∃ n, (odds m es).length = 2 * n := by
  have hgc := plan0_good hgood
  have hc := odd_count (fun a => degI (plan0 m es) a m) m
  rw [hands hgc.sym hgc.diag m, ← odds_deg] at hc
  exact ⟨(odds m es).length / 2, by omega⟩
theorem sumD_congr {O O' : Nat → Nat → Option Nat} : ∀ {ps : List Pair}, (∀ p ∈ ps, ∃ u v : Nat, p = ((u : Int), (v : Int)) ∧ O u v = O' u v) → sumD O ps = sumD O' ps
  | [], _ => rfl
  | p :: ps, h => by
    obtain ⟨u, v, rfl, h1⟩ := h p (by simp)
    have := sumD_congr (ps := ps) (fun q hq => h q (by simp [hq]))
    simp [sumD, h1, this]
/-- Postman of a graph in form. -/
theorem postman_all (m : Nat) (ao : Option Addr) (cap : Nat) (es : List Pair) (w : World) (hE : EdgesAt w (.slice ao es.length cap) es) (hc : (chk m es).1 = 0) :
    Calls Try.prog 26 #[.agg #[.int .i64 (m : Int), .slice ao es.length cap]] w fun r w' => ∃ v c, r = .returned (.tuple #[v, .agg #[.int .i64 c, .int .i64 0]]) ∧ Below w.heap.size w w' ∧ PostEnd m es (fun O ps => LeastOf O (odds m es) ps) w.heap.size w' v c := by
  obtain ⟨hck, hn0, hn1, hle, hgood⟩ := chk_good hc
  have hm : m ≤ 100 := by omega
  obtain ⟨n, hn⟩ := odds_even hgood
  refine postman_ok m ao cap es w hE hc (fun wn oo oc hex h12 hoc hod => ?_) (fun O ps h12 hr => ?_)
  · intro w' bx gf bf O hb hcell hft
    obtain ⟨K, hK, o, hd, hh⟩ := hex
    exact nearestN_call (n := n) (fun k u hu => by
      obtain ⟨_, b, h1, h2⟩ := hod k u hu
      exact ⟨b, h1, (hb.cell (by exact World.block_lt_of_cell? wn _ h2)).trans h2⟩) hoc hn (by omega) (fun u hu => (odds_mem hu).1) hm hcell hft (fun u v hu hv => hang_some (pn_symm es m) hd hK.1 hh (odds_mem hu).1 (odds_mem hv).1 (odds_mem hu).2 (odds_mem hv).2 (hft.dist u hu))
  · obtain ⟨h1, h2⟩ := pair_mem hr.1
    exact ⟨by omega, h2⟩

set_option maxRecDepth 20000 in
set_option maxHeartbeats 8000000 in
theorem postLaw_ok (m : Nat) (ao : Option Addr) (cap : Nat) (es : List Pair) (w : World) (hE : EdgesAt w (.slice ao es.length cap) es) (hcap : es.length ≤ cap) (hck : chk m es = (0, 0)) :
    Calls Try.prog 6 #[.agg #[.int .i64 (m : Int), .slice ao es.length cap]] w fun e w' => e = .returned (.bool true) ∧ Below w.heap.size w w' := by
  have hc0 : (chk m es).1 = 0 := by rw [hck]
  obtain ⟨_, hn0, hn1, hle, hgood⟩ := chk_good hc0
  have hm : m ≤ 100 := by omega
  obtain ⟨i29, hi29, hl0, hl1, hl2⟩ := info_parts Try.info29
  have hgi := fun (w' : World) (o : Option Addr) (c : Nat) (h : EdgesAt w' (.slice o es.length c) es) => postman_all m o c es w' h hc0
  have hirr : ∀ u : Nat, hasB es u u = false := fun u => by
    cases h : hasB es u u with
    | false => rfl
    | true => exact absurd rfl (hasB_range hgood h).2.2
  have hnone := no_edges hgood
  have hel : (allP m (hasB es)).length ≤ 1000 := Nat.le_trans (allP_has_le m es) hle
  obtain ⟨R, hR⟩ := ex2 (fun v x => Star (St m (pn (hasB es)) allB) v x)
  have hgrid := fun (W : World) (v : Value) (h : EdgesAt W v es) => gridOf_any m v es W h hm hle hgood
  have HGR : Hid _ := hgrid
  have H2 : Hid _ := hgi
  have HCK : Hid _ := hck
  have HC0 : Hid _ := hc0
  have HE : Hid _ := hE
  have HG : Hid _ := hgood
  have HI : Hid _ := hirr
  have HR : Hid _ := hR
  have HNO : Hid _ := hnone
  clear hck hgi hE hc0 hn0 hn1 hgood hirr hR hgrid hnone
  go_enter Try.func6, Try.ntmps6
  go_upto_region 2 with (go_at_call 7; refine (own_any (m : Int) ao cap es _ ?_).mono ?_; exact EdgesAt.below HE.out (below_alloc (Below.refl _ _) _); rintro e w1 ⟨hb, oo, oc, rfl, hEo, hocap⟩)
  have tg := two_on (two_new w (.int .i64 (m : Int)) (.slice ao es.length cap) 24) hb (Obj.cells #[.int .i64 (m : Int), .slice oo es.length oc] 24)
  have to' := two_new w1 (.int .i64 (m : Int)) (.slice oo es.length oc) 24
  have hB := below_on (below_alloc (Below.refl _ w) (Obj.cells #[.int .i64 (m : Int), .slice ao es.length cap] 24)) hb (Obj.cells #[.int .i64 (m : Int), .slice oo es.length oc] 24)
  have hEg := EdgesAt.below HE.out hB
  replace hEo := hEo.below (below_alloc (Below.refl _ w1) (Obj.cells #[.int .i64 (m : Int), .slice oo es.length oc] 24))
  generalize w1.alloc (Obj.cells #[.int .i64 (m : Int), .slice oo es.length oc] 24) = W1 at tg to' hB hEg hEo ⊢
  clear hb
  obtain ⟨y1, y2⟩ := cell_two tg
  go_upto_region 3 with (go_at_call 19; refine (refCheck_as hEg hcap HCK.out).mono ?_; rintro e w2 ⟨rfl, hb⟩)
  replace tg := two_on tg hb (Obj.cells #[.int .i64 0, .int .i64 0] 27)
  replace to' := two_on to' hb (Obj.cells #[.int .i64 0, .int .i64 0] 27)
  have tw := two_new w2 (.int .i64 0) (.int .i64 0) 27
  replace hB := below_on hB hb (Obj.cells #[.int .i64 0, .int .i64 0] 27)
  replace hEg := hEg.on hb (Obj.cells #[.int .i64 0, .int .i64 0] 27)
  replace hEo := hEo.on hb (Obj.cells #[.int .i64 0, .int .i64 0] 27)
  generalize w2.alloc (Obj.cells #[.int .i64 0, .int .i64 0] 27) = W2 at tg to' tw hB hEg hEo ⊢
  clear hb y1 y2
  obtain ⟨y1, y2⟩ := cell_two to'
  go_upto_region 4 with (go_at_call 26; refine (H2.out _ _ _ hEo).mono ?_; rintro e w3 ⟨lv, fc, rfl, hb, hend⟩)
  replace hend := postEnd_below hend (below_alloc (Below.refl _ w3) (Obj.cells #[.int .i64 fc, .int .i64 0] 27))
  replace tg := two_on tg hb (Obj.cells #[.int .i64 fc, .int .i64 0] 27)
  replace to' := two_on to' hb (Obj.cells #[.int .i64 fc, .int .i64 0] 27)
  replace tw := two_on tw hb (Obj.cells #[.int .i64 fc, .int .i64 0] 27)
  have tf := two_new w3 (.int .i64 fc) (.int .i64 0) 27
  replace hB := below_on hB hb (Obj.cells #[.int .i64 fc, .int .i64 0] 27)
  replace hEg := hEg.on hb (Obj.cells #[.int .i64 fc, .int .i64 0] 27)
  replace hEo := hEo.on hb (Obj.cells #[.int .i64 fc, .int .i64 0] 27)
  generalize w3.alloc (Obj.cells #[.int .i64 fc, .int .i64 0] 27) = W3 at tg to' tw tf hend hB hEg hEo ⊢
  clear hb y1 y2
  go_upto_region 9 with (first
    | (go_at_call 11; refine (begun_call _).mono ?_; rintro e w6 ⟨rfl, hb6⟩; replace tg := two_next tg hb6; replace to' := two_next to' hb6; replace tf := two_next tf hb6; replace tw := two_next tw hb6; replace hB := below_next hB hb6; replace hend := postEnd_below hend hb6; replace hEg := hEg.below hb6; replace hEo := hEo.below hb6; obtain ⟨a1, a2⟩ := cell_two tg; obtain ⟨a3, a4⟩ := cell_two to')
    | (go_at_call 12; refine (kept_true (m : Int) _ _ es _ hEo hEg).mono ?_; rintro e w7 ⟨rfl, hb7⟩; replace tg := two_next tg hb7; replace tf := two_next tf hb7; replace tw := two_next tw hb7; replace hend := postEnd_below hend hb7; replace hB := below_next hB hb7; replace hEg := hEg.below hb7; obtain ⟨b1, b2⟩ := cell_two tg; obtain ⟨b3, b4⟩ := cell_two tw)
    | (go_at_call 16; refine (HGR.out _ _ hEg).mono ?_; rintro e w8 ⟨hb8, go', gc, rfl, hG⟩; replace tg := two_next tg hb8; replace tf := two_next tf hb8; replace hend := postEnd_below hend hb8; replace hB := below_next hB hb8))
  clear hEg hEo a1 a2 a3 a4 b1 b2 b3 b4 tw to'
  obtain ⟨g1, g2⟩ := cell_two tg
  obtain ⟨v1, v2⟩ := cell_two tf
  have hj := joined_call m go' gc (hasB es) w8 hG hm R HR.out
  have hji := joined_iff (m := m) (es := es) HR.out HI.out
  have hod := fun (W : World) (hb : Below w8.heap.size w8 W) => refOdd_call m go' gc (hasB es) W (hG.below hb) hm
  obtain ⟨OD, hOD⟩ : ∃ OD, OD = odds m es := ⟨_, rfl⟩
  have hod' : ∀ (W : World), Below w8.heap.size w8 W → Calls Try.prog 23 #[.slice go' m gc] W fun r w' => ∃ pv, r = .returned pv ∧ w'.ownsRow W.heap.size 3 1 pv OD.length (qv OD) ∧ Below W.heap.size W w' := by rw [hOD]; exact hod
  have HJ : Hid _ := hj
  have HJI : Hid _ := hji
  have HO : Hid _ := hod'
  have HGW : Hid _ := hG
  clear hj hji hod hod' hG
  rcases hend with ⟨rfl, rfl, hall⟩ | ⟨rfl, rfl, K, hK, hwhy⟩ | ⟨rfl, rfl, K, hK, hH, h12⟩ | ⟨rfl, K, hK, hH, h12, O, ps, P1, P2, A, hd, hps, hways, hgo, hAl, hown⟩
  · have hes := HNO.out hall
    have hJ : decide (bigs (piecesS m allB R) < 2) = true := decide_eq_true (HJI.out.2 (fun a b ha _ hna _ => absurd (hall a ha) hna))
    have hO0 : OD = [] := by
      rw [hOD]
      refine List.filter_eq_nil_iff.2 fun v hv hh => ?_
      rw [hall v (by simpa using hv)] at hh
      simp at hh
    rw [hJ] at HJ
    subst hO0
    have e1 : ((es.length : Int) == 0) = true := by rw [hes]; rfl
    have e2 : (es.length == 0) = true := by rw [hes]; rfl
    have hwk := fun (W : World) (hb : Below w8.heap.size w8 W) => refWalk_call m go' gc (hasB es) W (GridAt.below HGW.out hb) (lo := none) (lc := 0) (L := []) (fun k u hu => by simp at hu) (fun u hu => by simp at hu) (fun i x y hx => by simp at hx) (by simp)
    have HWK : Hid _ := hwk
    clear hwk hall hes hOD
    go_wp2_with (first
      | (go_at_call 22; refine Calls.mono HJ.out ?_; rintro e w9 ⟨rfl, hb9⟩; replace tg := two_next tg hb9; replace tf := two_next tf hb9; replace hB := below_next hB hb9)
      | (go_at_call 23; refine (HO.out _ hb9).mono ?_; rintro e wa ⟨pv, rfl, howa, hbA⟩; obtain ⟨oo2, oc2, rfl⟩ := form_row howa; replace tg := two_next tg hbA; replace tf := two_next tf hbA; replace hB := below_next hB hbA; obtain ⟨v3, v4⟩ := cell_two tf)
      | (go_at_call 24; refine (HWK.out _ (below_next hb9 hbA)).mono ?_; rintro e wb ⟨rfl, hbB⟩; replace tg := two_next tg hbB; replace hB := below_next hB hbB; obtain ⟨g3, g4⟩ := cell_two tg)
      | go_in)
    go_ret
    exact ⟨rfl, hB⟩
  · obtain ⟨b9, hb9e⟩ : ∃ b, b = w3.heap.size := ⟨_, rfl⟩
    rw [← hb9e] at tf v1 v2 ⊢
    clear hb9e
    have hjj : ¬ bigs (piecesS m allB R) < 2 := fun hjj => by
      obtain ⟨o, hd⟩ := dist_ex (N := m) (e := pn (hasB es)) (v := K)
      exact absurd ((hang_iff HR.out hK hd).2 (HJI.out.1 hjj)) hwhy
    have hJ := decide_eq_false hjj
    rw [hJ] at HJ
    clear hwhy hjj hJ hOD
    go_upto_region 10 with (first
      | (go_at_call 22; refine Calls.mono HJ.out ?_; rintro e WB ⟨rfl, hb9⟩; replace tf := two_next tf hb9; replace hB := below_next hB hb9)
      | go_in)
    clear v1 v2 g1 g2 hb9
    have hkeep : ∀ w', Below WB.heap.size WB w' → w'.cell? ⟨b9, 0, none⟩ = some (.int .i64 9) ∧ w'.cell? ⟨b9, 1, none⟩ = some (.int .i64 0) := fun w' hb => ⟨(cell_two (two_next tf hb)).1, (cell_two (two_next tf hb)).2⟩
    have HK : Hid _ := hkeep
    clear hkeep
    go_region_held3 (fun w' => w'.cell? ⟨b9, 0, none⟩ = some (.int .i64 9) ∧ w'.cell? ⟨b9, 1, none⟩ = some (.int .i64 0))
      (first | exact hkk | exact HK.out _ (Below.refl _ _).drew | assumption | go_keep)
      ((go_at_call 13; refine (refF_any 9 0 _).mono ?_; rintro e wA ⟨rfl, hbA⟩; have hbA' := (Below.refl WB.heap.size WB).drew.trans hbA; have hkk := HK.out _ hbA'))
    all_goals
      go_wp2
      go_ret
      exact ⟨rfl, below_next hB hbA'⟩
  · obtain ⟨b9, hb9e⟩ : ∃ b, b = w3.heap.size := ⟨_, rfl⟩
    rw [← hb9e] at tf v1 v2 ⊢
    clear hb9e
    obtain ⟨o, hd⟩ := dist_ex (N := m) (e := pn (hasB es)) (v := K)
    have hJ := decide_eq_true (HJI.out.2 ((hang_iff HR.out hK hd).1 hH))
    rw [hJ] at HJ
    have z2 : (12 : Int) < (OD.length : Int) := by rw [hOD]; omega
    clear hJ hOD hd h12 hH hK
    go_upto_region 13 with (first
      | (go_at_call 22; refine Calls.mono HJ.out ?_; rintro e w9 ⟨rfl, hb9⟩; replace tf := two_next tf hb9; replace hB := below_next hB hb9)
      | (go_at_call 23; refine (HO.out _ hb9).mono ?_; rintro e WB ⟨pv, rfl, howa, hbA⟩; obtain ⟨oo2, oc2, rfl⟩ := form_row howa; replace tf := two_next tf hbA; replace hB := below_next hB hbA)
      | go_in)
    clear v1 v2 g1 g2 howa hbA hb9
    have hkeep : ∀ w', Below WB.heap.size WB w' → w'.cell? ⟨b9, 0, none⟩ = some (.int .i64 2) ∧ w'.cell? ⟨b9, 1, none⟩ = some (.int .i64 0) := fun w' hb => ⟨(cell_two (two_next tf hb)).1, (cell_two (two_next tf hb)).2⟩
    have HK : Hid _ := hkeep
    clear hkeep
    go_region_held3 (fun w' => w'.cell? ⟨b9, 0, none⟩ = some (.int .i64 2) ∧ w'.cell? ⟨b9, 1, none⟩ = some (.int .i64 0))
      (first | exact hkk | exact HK.out _ (Below.refl _ _).drew | assumption | go_keep)
      ((go_at_call 13; refine (refF_any 2 0 _).mono ?_; rintro e wA ⟨rfl, hbA⟩; have hbA' := (Below.refl WB.heap.size WB).drew.trans hbA; have hkk := HK.out _ hbA'))
    all_goals
      go_wp2
      go_ret
      exact ⟨rfl, below_next hB hbA'⟩
  · obtain ⟨o, hdo⟩ := dist_ex (N := m) (e := pn (hasB es)) (v := K)
    have hJ := decide_eq_true (HJI.out.2 ((hang_iff HR.out hK hdo).1 hH))
    rw [hJ] at HJ
    have hpl := (pair_mem hps.1).1
    obtain ⟨hlt, ⟨rr, hhead⟩, hcnt, hup, hpos, hlen⟩ := post_walk HC0.out hK hH hd hps.1 (by omega) hways hgo
    have hes : es ≠ [] := fun e => by
      subst e
      obtain ⟨b, _, hb⟩ := nb_iff.1 hK.2.1
      simp [hasB] at hb
    have hep : 0 < es.length := List.length_pos_iff.2 hes
    have e1 : ((es.length : Int) == 0) = false := by rw [beq_eq_false_iff_ne]; omega
    have e2 : (es.length == 0) = false := by rw [beq_eq_false_iff_ne]; omega
    have z2 : ¬ (12 : Int) < (OD.length : Int) := by rw [hOD]; omega
    obtain ⟨L, hL⟩ : ∃ L, L = A ++ [K] := ⟨_, rfl⟩
    rw [← hL] at hown hlt hcnt hhead
    have hLA : L.length = A.length + 1 := by rw [hL]; simp
    have hLl : L.length ≤ 100000 := by omega
    have h0K : L[0]? = some K := by rw [hhead]; rfl
    have hlK : L[A.length]? = some K := by rw [hL]; simp
    obtain ⟨lo, lc, rfl⟩ := form_row hown
    have hnum := nums_row hown
    have hwk := fun (W : World) (hb : Below w8.heap.size w8 W) => refWalk_call m go' gc (hasB es) W (GridAt.below HGW.out hb) (lo := lo) (lc := lc) (L := L) (NumsAt.below hnum hb) hlt (fun i x y hx hy => by
      have h0 := cntW_step hx hy
      have hx' := hlt x (List.mem_of_getElem? hx)
      have hy' := hlt y (List.mem_of_getElem? hy)
      rw [← hcnt x y hx' hy'] at h0
      exact hpos x y h0) hLl
    have hal := fun (W : World) (hb : Below w8.heap.size w8 W) => along_call m go' gc (hasB es) W (GridAt.below HGW.out hb) hm hel (lo := lo) (lc := lc) (L := L) (NumsAt.below hnum hb) hLl
    have hone : ∀ (f : Nat → Int), (∀ i x y : Nat, (allP m (hasB es))[i]? = some ((x : Int), (y : Int)) → f i = cntW L x y) → ∀ i, i < (allP m (hasB es)).length → ¬ f i < 1 := fun f hf i hi => by
      obtain ⟨x, y, h1, h2, h3, h4⟩ := allP_mem.1 (List.getElem_mem hi)
      have hg : (allP m (hasB es))[i]? = some ((x : Int), (y : Int)) := by rw [List.getElem?_eq_getElem hi, h4]
      rw [hf i x y hg, ← hcnt x y (by omega) h2]
      have := hup x y
      rw [plan0_iff HG.out, if_pos h3] at this
      omega
    obtain ⟨gl, e3, cK0⟩ := hnum 0 K h0K
    obtain ⟨gl', e4, cKl⟩ := hnum A.length K hlK
    cases e3
    cases e4
    have HWK : Hid _ := hwk
    have HAL : Hid _ := hal
    have HON : Hid _ := hone
    have HPS : Hid _ := hps
    have HLE : Hid _ := hlen
    have HDD : Hid _ := hd
    have HHG : Hid (Hang m es K) := hH
    have HFE : Hid (FirstE m es K) := hK
    have HOD : Hid _ := hOD
    obtain ⟨M, hM⟩ : ∃ M, M = L.length := ⟨_, rfl⟩
    have hMA : M = A.length + 1 := by omega
    have HMA : Hid _ := hMA
    rw [← hM] at hLl HWK HAL ⊢
    have e5 : ((M : Int) == 0) = false := by rw [beq_eq_false_iff_ne]; omega
    have e6 : (M == 0) = false := by rw [beq_eq_false_iff_ne]; omega
    have hAM : A.length = M - 1 := by omega
    rw [hAM] at cKl
    have m0 : 0 < M := by omega
    have m1 : (0 : Int) < (M : Int) := by omega
    have m2 : (0 : Int) ≤ (M : Int) - 1 := by omega
    clear hwk hal hone hnum hown hcnt hlt hL hes hep hJ hd hgo hH hK h12 hOD hdo hpl hhead hup hpos hlen hLA h0K hlK hps hways hAl hM hMA hAM
    go_upto_region 18 with (first
      | (go_at_call 22; refine Calls.mono HJ.out ?_; rintro e w9 ⟨rfl, hb9⟩; replace tg := two_next tg hb9; replace tf := two_next tf hb9; replace hB := below_next hB hb9)
      | (go_at_call 23; refine (HO.out _ hb9).mono ?_; rintro e wa ⟨pv, rfl, howa, hbA⟩; obtain ⟨oo2, oc2, rfl⟩ := form_row howa; replace tg := two_next tg hbA; replace tf := two_next tf hbA; replace hB := below_next hB hbA; obtain ⟨v3, v4⟩ := cell_two tf)
      | (go_at_call 24; refine (HWK.out _ (below_next hb9 hbA)).mono ?_; rintro e wb ⟨rfl, hbB⟩; replace tg := two_next tg hbB; replace hB := below_next hB hbB; obtain ⟨g3, g4⟩ := cell_two tg)
      | go_in)
    have hb8b := below_next (below_next hb9 hbA) hbB
    have cK1 := (hb8b.cell (by exact World.block_lt_of_cell? w8 _ cK0)).trans cK0
    have cK2 := (hb8b.cell (by exact World.block_lt_of_cell? w8 _ cKl)).trans cKl
    have hnOD := nums_row howa
    have hnODb := NumsAt.below hnOD hbB
    have HNO2 : Hid _ := hnODb
    have HB8 : Hid _ := hb8b
    clear hnOD hnODb howa g1 g2 v1 v2 g3 g4 v3 v4 tf hb9 hbA hbB hb8b cK0 cKl HJ HO HWK
    go_quiet (fail)
    rename Nat => nd
    have hb0 : Below wb.heap.size wb (wb.drewN nd) := below_drewN (Below.refl _ _) _
    replace tg := two_next tg hb0
    replace hB := below_next hB hb0
    have hb8 := below_next HB8.out hb0
    have hno := NumsAt.below HNO2.out hb0
    generalize wb.drewN nd = W9 at tg hB hb8 hno ⊢
    have HB9 : Hid _ := hb8
    have HNO9 : Hid _ := hno
    clear hb0 hb8 hno cK1 cK2 HB8 HNO2
    go_upto_region 21 with (first
      | (go_at_call 25; refine (HAL.out _ HB9.out).mono ?_; rintro e wc ⟨br, f, rfl, hrow, hf, hbC⟩)
      | go_in)
    have hf1 := HON.out f hf
    have HF1 : Hid _ := hf1
    obtain ⟨E, hE2⟩ : ∃ E, E = (allP m (hasB es)).length := ⟨_, rfl⟩
    rw [← hE2] at hrow hel HF1 ⊢
    replace tg := two_next tg hbC
    replace hB := below_next hB hbC
    have hb8c := below_next HB9.out hbC
    have hnoc := NumsAt.below HNO9.out hbC
    have HBC : Hid _ := hb8c
    have HNOC : Hid _ := hnoc
    clear hE2 hf1 hf HAL HON hb8c hnoc hbC HB9 HNO9
    obtain ⟨g1, g2⟩ := cell_two tg
    go_wp2
    go_loopw [10] (fun i wr => ∃ k : Nat, k ≤ E ∧ i = .int .i64 (k : Int) ∧ wr = wc) (fun i _ => E - (numOf i).toNat)
    case atStart => exact ⟨0, Nat.zero_le _, rfl, rfl⟩
    case round =>
      obtain ⟨k, hk, rfl, hw⟩ := hrel
      have hw' := hw.symm
      subst hw'
      clear hw
      by_cases hkE : k < E
      · have ck := hrow.cell hkE
        have q1 := HF1.out k hkE
        have i1 : (0 : Int) ≤ (k : Int) := by omega
        have i2 : (k : Int) < (E : Int) := by omega
        go_wp2
        go_roundw
        case rel => exact ⟨k + 1, by omega, by go_num, trivial⟩
        case measure => simp [numOf]; omega
      · have hke : E = k := by omega
        subst hke
        clear hrow HF1
        by_cases h8 : 8 < OD.length
        · have z8 : (8 : Int) < (OD.length : Int) := by omega
          go_wp2
          go_ret
          exact ⟨rfl, hB⟩
        · have z8 : ¬ (8 : Int) < (OD.length : Int) := by omega
          go_upto_region 30 with (fail)
          have hgdW := fun (W : World) (hb : Below wc.heap.size wc W) (v : Nat) (hv : v < m) => refFar_call m go' gc (hasB es) W (GridAt.below HGW.out (below_next HBC.out hb)) hm hv
          have HFW : Hid _ := hgdW
          clear hgdW g1 g2
          go_loopw [11, 12] (fun dv i wr => ∃ (k : Nat) (bs : Nat → Nat) (O' : Nat → Nat → Option Nat), k ≤ m ∧ i = .int .i64 (k : Int) ∧ wr.ownsRow wc.heap.size 29 1 dv k ((List.range k).map fun i => .slice (some ⟨bs i, 0, none⟩) m m) ∧ (∀ i, i < k → RowV wr (bs i) 3 m (fun x => .int .i64 (farZ (O' i x))) ∧ Dist m (pn (hasB es)) i (O' i)) ∧ Below wc.heap.size wc wr) (fun _ i _ => m - (numOf i).toNat)
          case atStart => exact ⟨0, fun _ => 0, fun _ _ => none, Nat.zero_le _, rfl, World.ownsRow_nil _ _ _ _, fun i h => by omega, Below.refl _ _⟩
          case round =>
            obtain ⟨k, bs, O', hk, rfl, hrowD, hrows, hBd⟩ := hrel
            have HRS : Hid _ := hrows
            clear hrows
            obtain ⟨g1, g2⟩ := cell_two (two_next tg hBd)
            obtain ⟨dvo, dvc, rfl⟩ := form_row hrowD
            by_cases hkm : k < m
            · have i2 : (k : Int) < (m : Int) := by omega
              have hszD := hBd.size
              go_wp2_with (first
                | (go_at_call 15; refine (HFW.out _ hBd k hkm).mono ?_; rintro e wx ⟨b, o, rfl, hbge, hrowb, hdb, hbX⟩; have hrowX := row_on hrowD hbX; have hszX := hbX.size)
                | (at_builtin; refine wpList_append_own _ rfl _ _ 53 rfl wc.heap.size 29 i29 (.slice none 0 0) 1 24 Try.underlying53 hi29 hl0 hl1 hl2 rfl (by decide) _ _ _ rfl (hrowX.alloc _) ⟨wx.heap.size, 0, none⟩ 1 1 [.slice (some ⟨b, 0, none⟩) m m] rfl rfl ?d1 ?d2 ?d3 ?d4 ?d5 ?_)
                | go_in)
              case d1 => exact cell_one_new _ _ _
              case d2 => first | rfl | (intro y hy; simp at hy; subst hy; rfl)
              case d3 => unfold maxLen; omega
              case d4 => omega
              case d5 => simp; omega
              intro v' w3' hown' hgrow _
              have T3 := (alloc_turns wx (Obj.cells #[.slice (some ⟨b, 0, none⟩) m m] 29) _).trans (Turns.of_grown hgrow)
              have hBX := below_next hBd hbX
              have hB3 := T3.below hBX hBX.size (fun j hj => (hrowX.lt j hj.symm).1)
              have hne3 : ∀ {bb : Nat} {f : Nat → Value}, RowV wx bb 3 m f → ¬ some bb = (Value.slice dvo k dvc).ownBlock := fun {bb f} hr hh => by
                obtain ⟨c1, h1⟩ := own_cells hrowX hh.symm
                obtain ⟨c2, h2, _⟩ := hr
                rw [h1] at h2; simp at h2
              have hrows' : ∀ i, i < k + 1 → RowV w3' (if i = k then b else bs i) 3 m (fun x => .int .i64 (farZ ((if i = k then o else O' i) x))) ∧ Dist m (pn (hasB es)) i (if i = k then o else O' i) := fun i hi => by
                by_cases c : i = k
                · subst c
                  simp only [if_true]
                  exact ⟨RowV.turns hrowb T3 (hne3 hrowb), hdb⟩
                · simp only [if_neg c]
                  obtain ⟨h1, h2⟩ := HRS.out i (by omega)
                  have h3 := RowV.below h1 hbX
                  exact ⟨RowV.turns h3 T3 (hne3 h3), h2⟩
              have hlist : (List.range (k + 1)).map (fun i => Value.slice (some ⟨if i = k then b else bs i, 0, none⟩) m m) = (List.range k).map (fun i => Value.slice (some ⟨bs i, 0, none⟩) m m) ++ [.slice (some ⟨b, 0, none⟩) m m] := by
                rw [List.range_succ, List.map_append]
                congr 1
                · refine List.map_congr_left fun i hi => ?_
                  have : i ≠ k := by simp at hi; omega
                  simp [this]
                · simp
              have HRS2 : Hid _ := hrows'
              have HLI : Hid _ := hlist
              clear hrows' hlist hne3 T3 hgrow hrowX hrowb hdb hbX hBX
              go_wp2
              go_roundw
              case rel => exact ⟨k + 1, fun i => if i = k then b else bs i, fun i => if i = k then o else O' i, by omega, by go_num, by rw [HLI.out]; exact hown', HRS2.out, hB3⟩
              case measure => simp [numOf]; omega
            · have hke : m = k := by omega
              subst hke
              have i2 : ¬ (m : Int) < (m : Int) := by omega
              have hmpos : 0 < m := Nat.lt_of_le_of_lt (Nat.zero_le _) HFE.out.1
              obtain ⟨gd, rfl⟩ : ∃ gd, dvo = some ⟨gd, 0, none⟩ := by
                rcases hrowD.2 with ⟨_, h⟩ | ⟨g, c, cur, e, _⟩
                · omega
                · cases e; exact ⟨g, rfl⟩
              have hDT : DT wr gd m O' := fun u hu => by
                refine ⟨bs u, ?_, (HRS.out u hu).1⟩
                have := hrowD.cells (g := gd) rfl u (.slice (some ⟨bs u, 0, none⟩) m m) (by simp [hu])
                rw [add_none] at this
                exact this
              obtain ⟨n, hn⟩ := odds_even HG.out
              have hmemO : ∀ u, u ∈ OD → u < m ∧ nbL m es u ≠ [] := fun u hu => odds_mem (by rw [← HOD.out]; exact hu)
              have hOD' : ∀ u v, u ∈ OD → v ∈ OD → ∃ D, O' u v = some D ∧ D ≤ 100 := fun u v hu hv => by
                obtain ⟨oH, hdH, hhH⟩ := HHG.out
                obtain ⟨h1, h2⟩ := hmemO u hu
                obtain ⟨h3, h4⟩ := hmemO v hv
                obtain ⟨D, hD⟩ := hang_some (pn_symm es m) hdH HFE.out.1 hhH h1 h3 h2 h4 (HRS.out u h1).2
                exact ⟨D, hD, by have := (HRS.out u h1).2.lt h3 hD; omega⟩
              have hmat := mates_call (N := m) (O := O') (od := OD) (fun u hu => (hmemO u hu).1) hOD' n wr.drew OD gd dvc oo2 oc2 (by rw [HOD.out]; exact hn) (by rw [← HOD.out] at hn; omega) (fun x hx => hx) (NumsAt.below (NumsAt.below HNOC.out hBd) (Below.refl _ wr).drew) (DT.below hDT (Below.refl _ wr).drew)
              have heq : ∀ ps2, LeastOf O' OD ps2 → (M : Int) - 1 = (es.length : Int) + (sumD O' ps2 : Int) := fun ps2 h2 => by
                have h1 := HPS.out
                have hcg : ∀ qs, PairOf qs (odds m es) → sumD O qs = sumD O' qs := fun qs hq => sumD_congr fun p hp => by
                  obtain ⟨u, v, e, hu, hv⟩ := (pair_mem hq).2 p hp
                  refine ⟨u, v, e, ?_⟩
                  exact (HDD.out u hu).same (HRS.out u (odds_mem hu).1).2 (odds_mem hv).1
                rw [HOD.out] at h2
                have a1 := h1.2 ps2 h2.1
                have a2 := h2.2 ps h1.1
                have a3 := hcg ps h1.1
                have a4 := hcg ps2 h2.1
                have a5 := HLE.out
                have a6 := HMA.out
                omega
              have HEQ : Hid _ := heq
              have HMT : Hid _ := hmat
              have hkeep : ∀ w', Below wr.heap.size wr w' → w'.cell? ⟨w.heap.size, 1, none⟩ = some (.slice ao es.length cap) := fun w' hb => (cell_two (two_next (two_next tg hBd) hb)).2
              have HK : Hid _ := hkeep
              have hBF := below_next hB hBd
              have n6 : n ≤ 6 := by rw [← HOD.out] at hn; omega
              have q1 : M ≤ 100000 := hLl
              clear hmat heq hkeep hDT hOD' hmemO hrowD hn
              go_upto_region 33 with (fail)
              go_region_held3 (fun w' => w'.cell? ⟨w.heap.size, 1, none⟩ = some (.slice ao es.length cap))
                (first | exact hkk | exact HK.out _ (Below.refl _ _).drew | assumption | go_keep)
                ((go_at_call 27; refine Calls.mono HMT.out ?_; rintro r wx ⟨ps2, rfl, hps2, hsl, hbX⟩; have hbx := (Below.refl wr.heap.size wr).drew.trans hbX; have hkk := HK.out _ hbx; have hq := HEQ.out ps2 hps2; have j1 : IntKind.i64.wrap ((M : Int) - 1) = (M : Int) - 1 := Go.IntWalk.i64_in _ (by omega); have j2 : IntKind.i64.wrap ((es.length : Int) + (sumD O' ps2 : Int)) = (es.length : Int) + (sumD O' ps2 : Int) := Go.IntWalk.i64_in _ (by omega)))
              all_goals
                go_wp2
                go_ret
                exact ⟨rfl, below_next hBF hbx⟩
end Go.Proofs.Ytkbgcbbloogdjac
