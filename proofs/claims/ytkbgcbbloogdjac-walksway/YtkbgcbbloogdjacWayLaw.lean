/- The walk of WalksWay: it answers true, and what was there stays. -/
import Derived.BigQuiet
import Derived.Deep.RegionHeld3
import Derived.Test.YtkbgcbbloogdjacBegun
import Derived.Test.YtkbgcbbloogdjacNodes
import Derived.Test.YtkbgcbbloogdjacRefGirth
import Derived.Test.YtkbgcbbloogdjacOn
import Derived.Test.YtkbgcbbloogdjacSame
import Derived.Test.YtkbgcbbloogdjacOwn
namespace Go.Proofs.Ytkbgcbbloogdjac
open Go.RowKit Go.Maps
attribute [local go_sem ↓] Go.wp_at_zero Go.wp_at_succ

set_option maxRecDepth 20000 in
set_option maxHeartbeats 4000000 in
theorem wayLaw_bad (n x y : Int) (ao : Option Addr) (cap : Nat) (es : List Pair) (w : World) (hE : EdgesAt w (.slice ao es.length cap) es) (hcap : es.length ≤ cap) {c d : Int} (hck : chk n es = (c, d)) (hc : c ≠ 0) :
    Calls Try.prog 4 #[.agg #[.int .i64 n, .slice ao es.length cap], .int .i64 x, .int .i64 y] w fun e w' => e = .returned (.bool true) ∧ Below w.heap.size w w' := by
  have hc1 : (c != 0) = true := by simpa using hc
  have hcc : (chk n es).1 ≠ 0 := by rw [hck]; exact hc
  have hop := fun (w' : World) (v nv : Value) (h : EdgesAt w' v es) => open_bad n v nv es w' h hcc
  have hgi := fun (w' : World) (v : Value) (h : EdgesAt w' v es) => girth_bad n v es w' h hcc
  simp only [hck] at hop hgi
  have hwf := fun (w' : World) (v : Value) (h : EdgesAt w' v es) => way_fault n x y v w' hc (fun W o hb ho => by
    have h1 := hop (W.alloc (Obj.cells #[.int .i64 x, .int .i64 y] 3)) v (.slice (some ⟨o, 0, none⟩) 2 2) (h.below (below_alloc hb _))
    refine h1.mono ?_
    rintro r w2 ⟨h2, h3⟩
    exact ⟨h2, by simpa using h3⟩)
  have HCK : Hid _ := hck
  have H1 : Hid _ := hwf
  have H2 : Hid _ := hgi
  have HE : Hid _ := hE
  have HC : Hid _ := hc
  clear hck hcc hop hgi hwf hc hE
  go_enter Try.func4, Try.ntmps4
  go_upto_region 2 with (go_at_call 7; refine (own_any n ao cap es _ ?_).mono ?_; exact EdgesAt.below HE.out (below_alloc (Below.refl _ _) _); rintro e w1 ⟨hb, oo, oc, rfl, hEo, hocap⟩)
  have tg := two_on (two_new w (.int .i64 n) (.slice ao es.length cap) 24) hb (Obj.cells #[.int .i64 n, .slice oo es.length oc] 24)
  have to' := two_new w1 (.int .i64 n) (.slice oo es.length oc) 24
  have hB := below_on (below_alloc (Below.refl _ w) (Obj.cells #[.int .i64 n, .slice ao es.length cap] 24)) hb (Obj.cells #[.int .i64 n, .slice oo es.length oc] 24)
  have hEg := EdgesAt.below HE.out hB
  replace hEo := hEo.below (below_alloc (Below.refl _ w1) (Obj.cells #[.int .i64 n, .slice oo es.length oc] 24))
  generalize w1.alloc (Obj.cells #[.int .i64 n, .slice oo es.length oc] 24) = W1 at tg to' hB hEg hEo ⊢
  clear hb
  obtain ⟨y1, y2⟩ := cell_two to'
  go_upto_region 3 with (go_at_call 17; refine (H1.out _ _ hEo).mono ?_; rintro e w2 ⟨rfl, hb⟩)
  replace tg := two_on tg hb (Obj.cells #[.int .i64 c, .int .i64 d] 27)
  replace to' := two_on to' hb (Obj.cells #[.int .i64 c, .int .i64 d] 27)
  have tf := two_new w2 (.int .i64 c) (.int .i64 d) 27
  replace hB := below_on hB hb (Obj.cells #[.int .i64 c, .int .i64 d] 27)
  replace hEg := hEg.on hb (Obj.cells #[.int .i64 c, .int .i64 d] 27)
  replace hEo := hEo.on hb (Obj.cells #[.int .i64 c, .int .i64 d] 27)
  generalize w2.alloc (Obj.cells #[.int .i64 c, .int .i64 d] 27) = W2 at tg to' tf hB hEg hEo ⊢
  clear hb y1 y2
  obtain ⟨y1, y2⟩ := cell_two to'
  go_upto_region 4 with (go_at_call 18; refine (H2.out _ _ hEo).mono ?_; rintro e w3 ⟨rfl, hb⟩)
  replace tg := two_on tg hb (Obj.cells #[.int .i64 c, .int .i64 d] 27)
  replace to' := two_on to' hb (Obj.cells #[.int .i64 c, .int .i64 d] 27)
  replace tf := two_on tf hb (Obj.cells #[.int .i64 c, .int .i64 d] 27)
  have te := two_new w3 (.int .i64 c) (.int .i64 d) 27
  replace hB := below_on hB hb (Obj.cells #[.int .i64 c, .int .i64 d] 27)
  replace hEg := hEg.on hb (Obj.cells #[.int .i64 c, .int .i64 d] 27)
  replace hEo := hEo.on hb (Obj.cells #[.int .i64 c, .int .i64 d] 27)
  generalize w3.alloc (Obj.cells #[.int .i64 c, .int .i64 d] 27) = W3 at tg to' tf te hB hEg hEo ⊢
  clear hb y1 y2
  obtain ⟨y1, y2⟩ := cell_two tg
  go_upto_region 5 with (go_at_call 19; refine (refCheck_as hEg hcap HCK.out).mono ?_; rintro e w4 ⟨rfl, hb⟩)
  replace tg := two_on tg hb (Obj.cells #[.int .i64 c, .int .i64 d] 27)
  replace to' := two_on to' hb (Obj.cells #[.int .i64 c, .int .i64 d] 27)
  replace tf := two_on tf hb (Obj.cells #[.int .i64 c, .int .i64 d] 27)
  replace te := two_on te hb (Obj.cells #[.int .i64 c, .int .i64 d] 27)
  have tu := two_new w4 (.int .i64 c) (.int .i64 d) 27
  replace hB := below_on hB hb (Obj.cells #[.int .i64 c, .int .i64 d] 27)
  replace hEg := hEg.on hb (Obj.cells #[.int .i64 c, .int .i64 d] 27)
  replace hEo := hEo.on hb (Obj.cells #[.int .i64 c, .int .i64 d] 27)
  generalize w4.alloc (Obj.cells #[.int .i64 c, .int .i64 d] 27) = W4 at tg to' tf te tu hB hEg hEo ⊢
  clear hb y1 y2
  obtain ⟨y1, y2⟩ := cell_two tg
  have hnd := fun (W : World) (lo : Option Addr) (ll lc : Nat) (h : EdgesAt W (.slice ao es.length cap) es) => nodes_bad n ao cap es lo ll lc W h hcap HCK.out HC.out
  have HN : Hid _ := hnd
  have hEg' := hEg.below (below_alloc (Below.refl _ W4) (Obj.cells #[.int .i64 x, .int .i64 y] 3))
  clear hnd
  go_upto_region 6 with (go_at_call 8; refine (HN.out _ _ _ _ hEg').mono ?_; rintro e w5 ⟨rfl, hb'⟩; have hb := below_next (below_alloc (Below.refl _ W4) (Obj.cells #[.int .i64 x, .int .i64 y] 3)) hb')
  replace tg := two_on tg hb (Obj.cells #[.int .i64 c, .int .i64 d] 27)
  replace to' := two_on to' hb (Obj.cells #[.int .i64 c, .int .i64 d] 27)
  replace tf := two_on tf hb (Obj.cells #[.int .i64 c, .int .i64 d] 27)
  replace te := two_on te hb (Obj.cells #[.int .i64 c, .int .i64 d] 27)
  replace tu := two_on tu hb (Obj.cells #[.int .i64 c, .int .i64 d] 27)
  have tw := two_new w5 (.int .i64 c) (.int .i64 d) 27
  replace hB := below_on hB hb (Obj.cells #[.int .i64 c, .int .i64 d] 27)
  replace hEg := hEg.on hb (Obj.cells #[.int .i64 c, .int .i64 d] 27)
  replace hEo := hEo.on hb (Obj.cells #[.int .i64 c, .int .i64 d] 27)
  generalize w5.alloc (Obj.cells #[.int .i64 c, .int .i64 d] 27) = W5 at tg to' tf te tu tw hB hEg hEo ⊢
  clear hb y1 y2
  clear hEg' hb'
  have hne := neq27 c d
  have heq := eql27 c d
  go_wp2_with (first
    | (go_at_call 11; refine (begun_call _).mono ?_; rintro e w6 ⟨rfl, hb6⟩; replace tg := two_next tg hb6; replace to' := two_next to' hb6; replace te := two_next te hb6; replace tf := two_next tf hb6; replace tu := two_next tu hb6; replace hB := below_next hB hb6; replace hEg := hEg.below hb6; replace hEo := hEo.below hb6; obtain ⟨a1, a2⟩ := cell_two tg; obtain ⟨a3, a4⟩ := cell_two to'; obtain ⟨a5, a6⟩ := cell_two te; obtain ⟨a7, a8⟩ := cell_two tu)
    | (go_at_call 12; refine (kept_true n _ _ es _ hEo hEg).mono ?_; rintro e w7 ⟨rfl, hb7⟩; obtain ⟨d5, d6⟩ := cell_two (two_next tu hb7); obtain ⟨d7, d8⟩ := cell_two (two_next tf hb7)))
  go_ret
  exact ⟨rfl, below_next hB hb7⟩

/-- What Way may answer: nothing and a fault, or the walk. -/
def WayIs (m : Nat) (es : List Pair) (x y : Int) (w' : World) (base : Nat) (nc nd : Int) (lv : Value) (fc fd : Int) : Prop :=
  (nc ≠ 0 ∧ fc = nc ∧ fd = nd ∧ lv = .slice none 0 0) ∨
  (nc = 0 ∧ ∃ x' y' : Nat, x = x' ∧ y = y' ∧ x' < m ∧ y' < m ∧ ∃ o, Dist m (pn (hasB es)) y' o ∧
    ((o x' = none ∧ fc = 9 ∧ fd = 0 ∧ lv = .slice none 0 0) ∨
     ∃ D S, o x' = some D ∧ HomeTo m (pn (hasB es)) o x' D D S ∧ fc = 0 ∧ fd = 0 ∧ w'.ownsRow base 3 1 lv (firstK S (D + 1)).length (qv (firstK S (D + 1)))))

theorem wayIs_below {m : Nat} {es : List Pair} {x y : Int} {w' w'' : World} {base : Nat} {nc nd : Int} {lv : Value} {fc fd : Int} (h : WayIs m es x y w' base nc nd lv fc fd) (hb : Below w'.heap.size w' w'') : WayIs m es x y w'' base nc nd lv fc fd := by
  rcases h with h | ⟨h0, x', y', h1, h2, h3, h4, o, h5, h | ⟨D, S, g1, g2, g3, g4, g5⟩⟩
  · exact Or.inl h
  · exact Or.inr ⟨h0, x', y', h1, h2, h3, h4, o, h5, Or.inl h⟩
  · exact Or.inr ⟨h0, x', y', h1, h2, h3, h4, o, h5, Or.inr ⟨D, S, g1, g2, g3, g4, row_on g5 hb⟩⟩

set_option maxRecDepth 20000 in
set_option maxHeartbeats 8000000 in
theorem wayLaw_ok (m : Nat) (x y : Int) (hx : I64 x) (hy : I64 y) (ao : Option Addr) (cap : Nat) (es : List Pair) (w : World) (hE : EdgesAt w (.slice ao es.length cap) es) (hcap : es.length ≤ cap) (hck : chk m es = (0, 0)) {nc nd : Int} (hnd : NodesAre m [x, y] nc nd)
    (hway : ∀ (w' : World) (o : Option Addr) (c : Nat), EdgesAt w' (.slice o es.length c) es → Calls Try.prog 17 #[.agg #[.int .i64 (m : Int), .slice o es.length c], .int .i64 x, .int .i64 y] w' fun r w'' => ∃ lv fc fd, r = .returned (.tuple #[lv, .agg #[.int .i64 fc, .int .i64 fd]]) ∧ WayIs m es x y w'' w'.heap.size nc nd lv fc fd ∧ Below w'.heap.size w' w'') :
    Calls Try.prog 4 #[.agg #[.int .i64 (m : Int), .slice ao es.length cap], .int .i64 x, .int .i64 y] w fun e w' => e = .returned (.bool true) ∧ Below w.heap.size w w' := by
  have hc0 : (chk m es).1 = 0 := by rw [hck]
  obtain ⟨_, hn0, hn1, hle, hgood⟩ := chk_good hc0
  have hm : m ≤ 100 := by omega
  have hgi := fun (w' : World) (o : Option Addr) (c : Nat) (h : EdgesAt w' (.slice o es.length c) es) => girth_ok m o c es w' h hc0
  have H1 : Hid _ := hway
  have H2 : Hid _ := hgi
  have HCK : Hid _ := hck
  have HE : Hid _ := hE
  have HG : Hid _ := hgood
  have HND : Hid _ := hnd
  have HX : Hid _ := hx
  have HY : Hid _ := hy
  clear hck hgi hway hE hc0 hn0 hn1 hgood hnd hx hy
  go_enter Try.func4, Try.ntmps4
  go_upto_region 2 with (go_at_call 7; refine (own_any (m : Int) ao cap es _ ?_).mono ?_; exact EdgesAt.below HE.out (below_alloc (Below.refl _ _) _); rintro e w1 ⟨hb, oo, oc, rfl, hEo, hocap⟩)
  have tg := two_on (two_new w (.int .i64 (m : Int)) (.slice ao es.length cap) 24) hb (Obj.cells #[.int .i64 (m : Int), .slice oo es.length oc] 24)
  have to' := two_new w1 (.int .i64 (m : Int)) (.slice oo es.length oc) 24
  have hB := below_on (below_alloc (Below.refl _ w) (Obj.cells #[.int .i64 (m : Int), .slice ao es.length cap] 24)) hb (Obj.cells #[.int .i64 (m : Int), .slice oo es.length oc] 24)
  have hEg := EdgesAt.below HE.out hB
  replace hEo := hEo.below (below_alloc (Below.refl _ w1) (Obj.cells #[.int .i64 (m : Int), .slice oo es.length oc] 24))
  generalize w1.alloc (Obj.cells #[.int .i64 (m : Int), .slice oo es.length oc] 24) = W1 at tg to' hB hEg hEo ⊢
  clear hb
  obtain ⟨y1, y2⟩ := cell_two to'
  go_upto_region 3 with (go_at_call 17; refine (H1.out _ _ _ hEo).mono ?_; rintro e w2 ⟨lv, fc, fd, rfl, hwi, hb⟩)
  replace tg := two_on tg hb (Obj.cells #[.int .i64 fc, .int .i64 fd] 27)
  replace to' := two_on to' hb (Obj.cells #[.int .i64 fc, .int .i64 fd] 27)
  have tf := two_new w2 (.int .i64 fc) (.int .i64 fd) 27
  replace hB := below_on hB hb (Obj.cells #[.int .i64 fc, .int .i64 fd] 27)
  replace hEg := hEg.on hb (Obj.cells #[.int .i64 fc, .int .i64 fd] 27)
  replace hEo := hEo.on hb (Obj.cells #[.int .i64 fc, .int .i64 fd] 27)
  have hwi2 : ∃ base, WayIs m es x y (w2.alloc (Obj.cells #[.int .i64 fc, .int .i64 fd] 27)) base nc nd lv fc fd := ⟨_, wayIs_below hwi (below_alloc (Below.refl _ w2) _)⟩
  clear hwi
  generalize w2.alloc (Obj.cells #[.int .i64 fc, .int .i64 fd] 27) = W2 at tg to' tf hwi2 hB hEg hEo ⊢
  clear hb y1 y2
  obtain ⟨bw, hwi⟩ := hwi2
  obtain ⟨y1, y2⟩ := cell_two to'
  go_upto_region 4 with (go_at_call 18; refine (H2.out _ _ _ hEo).mono ?_; rintro e w3 ⟨z, rfl, hzm, hmin, hb⟩)
  replace hwi := wayIs_below (wayIs_below hwi hb) (below_alloc (Below.refl _ w3) (Obj.cells #[.int .i64 0, .int .i64 0] 27))
  replace tg := two_on tg hb (Obj.cells #[.int .i64 0, .int .i64 0] 27)
  replace to' := two_on to' hb (Obj.cells #[.int .i64 0, .int .i64 0] 27)
  replace tf := two_on tf hb (Obj.cells #[.int .i64 0, .int .i64 0] 27)
  have te := two_new w3 (.int .i64 0) (.int .i64 0) 27
  replace hB := below_on hB hb (Obj.cells #[.int .i64 0, .int .i64 0] 27)
  replace hEg := hEg.on hb (Obj.cells #[.int .i64 0, .int .i64 0] 27)
  replace hEo := hEo.on hb (Obj.cells #[.int .i64 0, .int .i64 0] 27)
  generalize w3.alloc (Obj.cells #[.int .i64 0, .int .i64 0] 27) = W3 at tg to' tf te hwi hB hEg hEo ⊢
  clear hb y1 y2
  obtain ⟨y1, y2⟩ := cell_two tg
  have HMI : Hid _ := hmin
  clear hmin
  go_upto_region 5 with (go_at_call 19; refine (refCheck_as hEg hcap HCK.out).mono ?_; rintro e w4 ⟨rfl, hb⟩)
  replace hwi := wayIs_below (wayIs_below hwi hb) (below_alloc (Below.refl _ w4) (Obj.cells #[.int .i64 0, .int .i64 0] 27))
  replace tg := two_on tg hb (Obj.cells #[.int .i64 0, .int .i64 0] 27)
  replace to' := two_on to' hb (Obj.cells #[.int .i64 0, .int .i64 0] 27)
  replace tf := two_on tf hb (Obj.cells #[.int .i64 0, .int .i64 0] 27)
  replace te := two_on te hb (Obj.cells #[.int .i64 0, .int .i64 0] 27)
  have tu := two_new w4 (.int .i64 0) (.int .i64 0) 27
  replace hB := below_on hB hb (Obj.cells #[.int .i64 0, .int .i64 0] 27)
  replace hEg := hEg.on hb (Obj.cells #[.int .i64 0, .int .i64 0] 27)
  replace hEo := hEo.on hb (Obj.cells #[.int .i64 0, .int .i64 0] 27)
  generalize w4.alloc (Obj.cells #[.int .i64 0, .int .i64 0] 27) = W4 at tg to' tf te tu hwi hB hEg hEo ⊢
  clear hb y1 y2
  obtain ⟨y1, y2⟩ := cell_two tg
  have hEg' := hEg.below (below_alloc (Below.refl _ W4) (Obj.cells #[.int .i64 x, .int .i64 y] 3))
  have hnod := nodes_ok m ao cap es _ [x, y] _ hEg' hcap (intsAt_two W4 x y HX.out HY.out) (by simp) HCK.out HND.out
  have HN : Hid _ := hnod
  clear hnod
  go_upto_region 6 with (go_at_call 8; refine Calls.mono HN.out ?_; rintro e w5 ⟨rfl, hb'⟩; have hb := below_next (below_alloc (Below.refl _ W4) (Obj.cells #[.int .i64 x, .int .i64 y] 3)) hb')
  replace hwi := wayIs_below (wayIs_below hwi hb) (below_alloc (Below.refl _ w5) (Obj.cells #[.int .i64 nc, .int .i64 nd] 27))
  replace tg := two_on tg hb (Obj.cells #[.int .i64 nc, .int .i64 nd] 27)
  replace to' := two_on to' hb (Obj.cells #[.int .i64 nc, .int .i64 nd] 27)
  replace tf := two_on tf hb (Obj.cells #[.int .i64 nc, .int .i64 nd] 27)
  replace te := two_on te hb (Obj.cells #[.int .i64 nc, .int .i64 nd] 27)
  replace tu := two_on tu hb (Obj.cells #[.int .i64 nc, .int .i64 nd] 27)
  have tw := two_new w5 (.int .i64 nc) (.int .i64 nd) 27
  replace hB := below_on hB hb (Obj.cells #[.int .i64 nc, .int .i64 nd] 27)
  replace hEg := hEg.on hb (Obj.cells #[.int .i64 nc, .int .i64 nd] 27)
  replace hEo := hEo.on hb (Obj.cells #[.int .i64 nc, .int .i64 nd] 27)
  generalize w5.alloc (Obj.cells #[.int .i64 nc, .int .i64 nd] 27) = W5 at tg to' tf te tu tw hwi hB hEg hEo ⊢
  clear hb y1 y2
  clear hEg' hb' HN
  have hne := neq27 0 0
  have hgrid := fun (W : World) (v : Value) (h : EdgesAt W v es) => gridOf_any m v es W h hm hle HG.out
  have HGR : Hid _ := hgrid
  clear hgrid
  go_upto_region 11 with (first
    | (go_at_call 11; refine (begun_call _).mono ?_; rintro e w6 ⟨rfl, hb6⟩; replace tg := two_next tg hb6; replace to' := two_next to' hb6; replace te := two_next te hb6; replace tf := two_next tf hb6; replace tu := two_next tu hb6; replace tw := two_next tw hb6; replace hwi := wayIs_below hwi hb6; replace hB := below_next hB hb6; replace hEg := hEg.below hb6; replace hEo := hEo.below hb6; obtain ⟨a1, a2⟩ := cell_two tg; obtain ⟨a3, a4⟩ := cell_two to'; obtain ⟨a5, a6⟩ := cell_two te; obtain ⟨a7, a8⟩ := cell_two tu)
    | (go_at_call 12; refine (kept_true (m : Int) _ _ es _ hEo hEg).mono ?_; rintro e w7 ⟨rfl, hb7⟩; replace tg := two_next tg hb7; replace tf := two_next tf hb7; replace tu := two_next tu hb7; replace tw := two_next tw hb7; replace hwi := wayIs_below hwi hb7; replace hB := below_next hB hb7; replace hEg := hEg.below hb7; obtain ⟨b1, b2⟩ := cell_two tg; obtain ⟨b3, b4⟩ := cell_two tu)
    | (go_at_call 16; refine (HGR.out _ _ hEg).mono ?_; rintro e w8 ⟨hb8, go', gc, rfl, hG⟩; replace tg := two_next tg hb8; replace tf := two_next tf hb8; replace tw := two_next tw hb8; replace hwi := wayIs_below hwi hb8; replace hB := below_next hB hb8))
  clear hEg hEo a1 a2 a3 a4 a5 a6 a7 a8 b1 b2 b3 b4 te tu to' hne
  have hirr : ∀ u : Nat, hasB es u u = false := fun u => by
    cases h : hasB es u u with
    | false => rfl
    | true => exact absurd rfl (hasB_range HG.out h).2.2
  have hrg := refGirth_call m go' gc (hasB es) w8 hG hm (Nat.le_trans (allP_has_le m es) hle) (fun u v => hasB_comm es u v) hirr
  have hsame := fun (z' : Nat) (h' : MinE m (pn (hasB es)) (natE (allP m (hasB es))) z') => girth_same (es := es) hirr (fun a b => natE_all a b) HMI.out h'
  have HRG : Hid _ := hrg
  have HSA : Hid _ := hsame
  clear hirr hrg hsame
  obtain ⟨y1, y2⟩ := cell_two tg
  go_cut [78] from 70 (fun s78 wc => s78 = .bool false ∧ Below w8.heap.size w8 wc)
  case first =>
    by_cases h30 : m ≤ 30
    · have h30' : (m : Int) ≤ 30 := by omega
      go_wp2_with (go_at_call 20; refine Calls.mono HRG.out ?_; rintro e w9 ⟨z', rfl, hmz, hb9⟩; have hzz := HSA.out z' hmz; subst hzz)
      go_meet
      case rel => exact ⟨rfl, hb9⟩
    · have h30' : ¬ (m : Int) ≤ 30 := by omega
      go_wp2_with fail
      go_meet
      case rel => exact ⟨rfl, Below.refl _ _⟩
  case rest =>
    obtain ⟨rfl, hbc⟩ := hcut
    clear y1 y2 HRG HSA HMI
    replace tg := two_next tg hbc
    replace tf := two_next tf hbc
    replace tw := two_next tw hbc
    replace hwi := wayIs_below hwi hbc
    replace hB := below_next hB hbc
    replace hG := GridAt.below hG hbc
    obtain ⟨y1, y2⟩ := cell_two tw
    obtain ⟨v1, v2⟩ := cell_two tf
    rcases hwi with ⟨h0, rfl, rfl, rfl⟩ | ⟨rfl, x', y', rfl, rfl, hxm, hym, o, hdi, hwi⟩
    · have h0' : (fc != 0) = true := by simpa using h0
      have heq := eql27 fc fd
      go_wp2_with fail
      go_ret
      exact ⟨rfl, hB⟩
    · have HDI : Hid _ := hdi
      clear hdi
      go_upto_region 16 with (go_at_call 15; refine (refFar_call m go' gc (hasB es) _ hG hm hym).mono ?_; rintro e w9 ⟨bd, o', rfl, hbd, hrow, hdi', hb9⟩)
      have hoo : ∀ u, u < m → o' u = o u := fun u hu => hdi'.same HDI.out hu
      replace hrow := hrow.congr (g := fun u => .int .i64 (farZ (o u))) (fun u hu => by rw [hoo u hu])
      replace tg := two_next tg hb9
      replace tf := two_next tf hb9
      replace hB := below_next hB hb9
      replace hG := GridAt.below hG hb9
      have cx := hrow.cell hxm
      have i1 : (0 : Int) ≤ (x' : Int) := by omega
      have i2 : (x' : Int) < (m : Int) := by omega
      clear hoo hdi' y1 y2 v1 v2 tw
      obtain ⟨v1, v2⟩ := cell_two tf
      rcases hwi with ⟨hox, rfl, rfl, rfl⟩ | ⟨D, S, hox, hho, rfl, rfl, hown⟩
      · have z1 : farZ (o x') < 0 := farZ_neg.2 hox
        have heq := eql27 9 0
        clear hox
        go_upto_region 17 with (fail)
        obtain ⟨b9, hb9e⟩ : ∃ b, b = w2.heap.size := ⟨_, rfl⟩
        rw [← hb9e] at tf v1 v2 ⊢
        have hkeep : ∀ w', Below w9.heap.size w9 w' → w'.cell? ⟨b9, 0, none⟩ = some (.int .i64 9) ∧ w'.cell? ⟨b9, 1, none⟩ = some (.int .i64 0) := fun w' hb => ⟨(cell_two (two_next tf hb)).1, (cell_two (two_next tf hb)).2⟩
        have HK : Hid _ := hkeep
        clear hkeep hb9e
        go_region_held3 (fun w' => w'.cell? ⟨b9, 0, none⟩ = some (.int .i64 9) ∧ w'.cell? ⟨b9, 1, none⟩ = some (.int .i64 0))
          (first | exact hkk | exact HK.out _ (Below.refl _ _).drew | assumption | go_keep)
          ((go_at_call 13; refine (refF_any 9 0 _).mono ?_; rintro e wA ⟨rfl, hbA⟩; have hbA' := (Below.refl w9.heap.size w9).drew.trans hbA; have hkk := HK.out _ hbA'))
        all_goals
          go_wp2
          go_ret
          exact ⟨rfl, below_next hB hbA'⟩
      · have hDm := HDI.out.lt hxm hox
        have z1 : ¬ farZ (o x') < 0 := fun h => by rw [farZ_neg, hox] at h; cases h
        have zD : farZ (o x') = (D : Int) := by rw [hox]; rfl
        rw [zD] at cx z1
        obtain ⟨gq, pc2, rfl, hcq⟩ : ∃ gq pc2, lv = .slice (some ⟨gq, 0, none⟩) (D + 1) pc2 ∧ ∀ i, i ≤ D → wc.cell? ⟨gq, i, none⟩ = some (.int .i64 (S i : Int)) := by
          have hl := firstK_len S (D + 1)
          obtain ⟨po2, pc2, rfl⟩ := form_row hown
          have hg : ∀ i, i ≤ D → ∃ gq, po2 = some ⟨gq, 0, none⟩ ∧ wc.cell? ⟨gq, i, none⟩ = some (.int .i64 (S i : Int)) := fun i hi => qcell hown (firstK_get (by omega))
          obtain ⟨gq, rfl, _⟩ := hg 0 (Nat.zero_le _)
          refine ⟨gq, pc2, by rw [hl], fun i hi => ?_⟩
          obtain ⟨g', e', h'⟩ := hg i hi
          cases e'
          exact h'
        have hcq9 : ∀ i, i ≤ D → w9.cell? ⟨gq, i, none⟩ = some (.int .i64 (S i : Int)) := fun i hi => (hb9.cell (by exact World.block_lt_of_cell? wc _ (hcq i hi))).trans (hcq i hi)
        have c0 := hcq9 0 (Nat.zero_le _)
        rw [hho.start] at c0
        have HCQ : Hid _ := hcq9
        have HHO : Hid _ := hho
        have HOX : Hid _ := hox
        have HROW : Hid _ := hrow
        have HGD : Hid _ := hG
        obtain ⟨M, hM⟩ : ∃ M, M = D + 1 := ⟨_, rfl⟩
        rw [← hM]
        have HM : Hid _ := hM
        have hM1 : (M : Int) = (D : Int) + 1 := by omega
        have hM2 : 0 < M := by omega
        have hM3 : M ≤ 100 := by omega
        clear hcq hcq9 hho hown hox hrow zD hG hM
        go_upto_region 21 with (fail)
        go_loopw [16] (fun i wr => ∃ t : Nat, t + 1 ≤ M ∧ i = .int .i64 ((t : Int) + 1) ∧ Below w9.heap.size w9 wr) (fun i _ => M - (numOf i).toNat)
        case atStart => exact ⟨0, by omega, rfl, Below.refl _ _⟩
        case round =>
          obtain ⟨t, ht, rfl, hBr⟩ := hrel
          clear v1 v2 cx c0
          by_cases htM : t + 1 < M
          · have htD : t + 1 ≤ D := by have := HM.out; omega
            have m4 : (t : Int) + 1 < (M : Int) := by omega
            go_upto_region 25 with (fail)
            go_loopw [17, 18] (fun q i wr => ∃ k : Nat, i = .int .i64 (k : Int) ∧ ((k ≤ S (t + 1) ∧ q = .int .i64 (-1)) ∨ (k = S (t + 1) + 1 ∧ q = .int .i64 (S (t + 1) : Int))) ∧ Below w9.heap.size w9 wr) (fun _ i _ => m + 1 - (numOf i).toNat)
            case atStart => exact ⟨0, rfl, Or.inl ⟨Nat.zero_le _, rfl⟩, hBr⟩
            case round =>
              obtain ⟨k, rfl, hkq, hBq⟩ := hrel
              clear hBr
              have a1 := HHO.out.lt t (by omega)
              have a2 := HHO.out.lt (t + 1) htD
              obtain ⟨yy1, yy2⟩ := cell_two (two_next tg hBq)
              have e1 := (hBq.cell (by exact World.block_lt_of_cell? w9 _ (HCQ.out t (by omega)))).trans (HCQ.out t (by omega))
              have e2 := (hBq.cell (by exact World.block_lt_of_cell? w9 _ (HCQ.out (t + 1) htD))).trans (HCQ.out (t + 1) htD)
              rcases hkq with ⟨hky, rfl⟩ | ⟨rfl, rfl⟩
              · have hkm : k < m := by omega
                have hrw := RowV.below HROW.out hBq
                have d1 := hrw.cell hkm
                have d2 := hrw.cell a1.1
                have hz : farZ (o (S t)) = ((D - t : Nat) : Int) := by rw [a1.2]; rfl
                rw [hz] at d2
                obtain ⟨_, _, ee, hgc⟩ := HGD.out
                cases ee
                obtain ⟨gg, gb, rfl, g0, g1⟩ := hgc (S t) a1.1
                have g1k := g1 k hkm
                have g0' := (hBq.cell (by exact World.block_lt_of_cell? w9 _ g0)).trans g0
                have g1' := (hBq.cell (by exact World.block_lt_of_cell? w9 _ g1k)).trans g1k
                obtain ⟨q, hq⟩ : ∃ q, q = D - t := ⟨_, rfl⟩
                rw [← hq] at d2
                have hq1 : 1 ≤ q := by omega
                have hq2 : q ≤ 100 := by omega
                have j1 : (0 : Int) ≤ (t : Int) := by omega
                have j2 : (t : Int) < (M : Int) := by omega
                have j3 : (0 : Int) ≤ (S t : Int) := by omega
                have j4 : (S t : Int) < (m : Int) := by omega
                have j5 : (0 : Int) ≤ (k : Int) := by omega
                have j6 : (k : Int) < (m : Int) := by omega
                have hfk : farZ (o k) = (q : Int) - 1 ↔ o k = some (D - (t + 1)) := by
                  rw [← farZ_eq]
                  omega
                have HFK : Hid _ := hfk
                have HA1 : Hid _ := a1
                have HA2 : Hid _ := a2
                clear g0 g1 g1k hgc hz hfk a1 a2 hrw
                cases hedge : hasB es (S t) k with
                | false =>
                  have hky2 : k ≠ S (t + 1) := fun e => by
                    have := HHO.out.edge t (by omega)
                    rw [← e] at this
                    have h2 : hasB es (S t) k = true := this
                    rw [hedge] at h2
                    cases h2
                  rw [hedge] at g1'
                  clear hedge
                  go_upto_region 27 with (fail)
                  go_quiet (fail)
                  all_goals
                    go_wp2
                    go_roundw
                    case rel => exact ⟨k + 1, by go_num, Or.inl ⟨by omega, rfl⟩, below_drewN hBq _⟩
                    case measure => simp [numOf]; omega
                | true =>
                  rw [hedge] at g1'
                  by_cases hk3 : k = S (t + 1)
                  · have hb1 : (farZ (o k) == (q : Int) - 1) = true := by
                      rw [beq_iff_eq, HFK.out, hk3]
                      exact HA2.out.2
                    have HK3 : Hid _ := hk3
                    clear hedge hk3
                    go_upto_region 27 with (fail)
                    go_quiet (fail)
                    all_goals
                      go_wp2
                      go_roundw
                      case rel => exact ⟨k + 1, by go_num, Or.inr ⟨by rw [HK3.out], by rw [HK3.out]⟩, below_drewN hBq _⟩
                      case measure => simp [numOf]; omega
                  · have hb1 : (farZ (o k) == (q : Int) - 1) = false := by
                      cases hc : (farZ (o k) == (q : Int) - 1) with
                      | false => rfl
                      | true =>
                        rw [beq_iff_eq, HFK.out] at hc
                        exact absurd ⟨hedge, hc⟩ (HHO.out.least t k (by omega) (by omega))
                    have hlt3 : k + 1 ≤ S (t + 1) := by omega
                    have HK3 : Hid _ := hlt3
                    clear hedge hk3 hlt3
                    go_upto_region 27 with (fail)
                    go_quiet (fail)
                    all_goals
                      go_wp2
                      go_roundw
                      case rel => exact ⟨k + 1, by go_num, Or.inl ⟨HK3.out, rfl⟩, below_drewN hBq _⟩
                      case measure => simp [numOf]; omega
              · have q1 : ¬ (S (t + 1) : Int) < 0 := by omega
                have j1 : (0 : Int) ≤ (t : Int) + 1 := by omega
                clear a1 a2
                go_wp2
                all_goals
                  go_roundw
                  case rel => exact ⟨t + 1, by omega, by go_num, hBq⟩
                  case measure => simp [numOf]; omega
          · have m4 : ¬ (t : Int) + 1 < (M : Int) := by omega
            go_wp2
            go_ret
            exact ⟨rfl, below_next hB hBr⟩
end Go.Proofs.Ytkbgcbbloogdjac
