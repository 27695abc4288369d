/- The walk of PartsWhole: it answers true, and what was there stays. -/
import Derived.Test.YtgepibidhebbiabWholeMath
import Derived.Test.YtgepibidhebbiabOwn
import Derived.Test.YtgepibidhebbiabRefCheck
namespace Go.Proofs.Ytgepibidhebbiab
open Go.RowKit Go.Maps
attribute [local go_sem ↓] Go.wp_at_zero Go.wp_at_succ

/-- An edge list goes on through a call and a box. -/
theorem EdgesAt.on {W w1 : World} {v : Value} {es : List Pair} (h : EdgesAt W v es) (hb : Below W.heap.size W w1) (o : Obj) : EdgesAt (w1.alloc o) v es := (h.below hb).below (below_alloc (Below.refl _ _) o)
theorem two_on {W w1 : World} {b : Nat} {x y : Value} {t : TypeId} (h : Two W b x y t) (hb : Below W.heap.size W w1) (o : Obj) : Two (w1.alloc o) b x y t := two_alloc (two_next h hb) o
theorem below_on {w W w1 : World} (h : Below w.heap.size w W) (hb : Below W.heap.size W w1) (o : Obj) : Below w.heap.size w (w1.alloc o) := below_alloc (below_next h hb) o
theorem row_on {W w1 : World} {base : Nat} {t : TypeId} {sz : Nat} {v : Value} {n : Nat} {xs : List Value} (h : W.ownsRow base t sz v n xs) (hb : Below W.heap.size W w1) : w1.ownsRow base t sz v n xs := ownsRow_blocks h fun b hb' => hb.block b (h.lt b hb').2
theorem row_al {W : World} {base : Nat} {t : TypeId} {sz : Nat} {v : Value} {n : Nat} {xs : List Value} (h : W.ownsRow base t sz v n xs) (o : Obj) : (W.alloc o).ownsRow base t sz v n xs := row_on h (below_alloc (Below.refl _ _) o)
theorem lists_al {W : World} {base : Nat} {v : Value} {ls : List (List Nat)} (h : ListsAt W base v ls) (o : Obj) : ListsAt (W.alloc o) base v ls := h.below (below_alloc (Below.refl _ _) o)

theorem exP (P : Pair → Nat → Nat → Prop) : ∃ R : Pair → Nat → Nat → Bool, ∀ x v w, R x v w = true ↔ P x v w := by
  classical exact ⟨fun x v w => decide (P x v w), by simp⟩

set_option maxRecDepth 20000 in
set_option maxHeartbeats 4000000 in
theorem whole_bad (n : Int) (ao : Option Addr) (cap : Nat) (es : List Pair) (w : World) (hE : EdgesAt w (.slice ao es.length cap) es) (hcap : es.length ≤ cap) {c d : Int} (hck : chk n es = (c, d)) (hc : c ≠ 0) :
    Calls Try.prog 3 #[.agg #[.int .i64 n, .slice ao es.length cap]] w fun e w' => e = .returned (.bool true) ∧ Below w.heap.size w w' := by
  have hc1 : (c != 0) = true := by simpa using hc
  have hcc : (chk n es).1 ≠ 0 := by rw [hck]; exact hc
  have HCK : Hid _ := hck
  have Hc : Hid _ := hcc
  have hbadC := fun (w' : World) (v : Value) (h : EdgesAt w' v es) => components_bad n v es w' h hcc
  have hbadB := fun (w' : World) (v : Value) (h : EdgesAt w' v es) => bridges_bad n v es w' h hcc
  have hbadV := fun (w' : World) (v : Value) (h : EdgesAt w' v es) => cuts_bad n v es w' h hcc
  simp only [hck] at hbadC hbadB hbadV
  have H1 : Hid _ := hbadC
  have H2 : Hid _ := hbadB
  have H3 : Hid _ := hbadV
  clear hck hcc hbadC hbadB hbadV hc
  have HE : Hid _ := hE
  clear hE
  go_enter Try.func3, Try.ntmps3
  go_upto_region 2 with (go_at_call 8; refine (own_any n ao cap es _ ?_).mono ?_; exact EdgesAt.below HE.out (below_alloc (Below.refl _ _) _); rintro e w1 ⟨hb, oo, oc, rfl, hEo, hocap⟩)
  have tg := two_on (two_new w (.int .i64 n) (.slice ao es.length cap) 24) hb (Obj.cells #[.int .i64 n, .slice oo es.length oc] 24)
  have to := two_new w1 (.int .i64 n) (.slice oo es.length oc) 24
  have hB := below_on (below_alloc (Below.refl _ w) (Obj.cells #[.int .i64 n, .slice ao es.length cap] 24)) hb (Obj.cells #[.int .i64 n, .slice oo es.length oc] 24)
  have hEg := EdgesAt.below HE.out hB
  replace hEo := hEo.below (below_alloc (Below.refl _ w1) (Obj.cells #[.int .i64 n, .slice oo es.length oc] 24))
  generalize w1.alloc (Obj.cells #[.int .i64 n, .slice oo es.length oc] 24) = W1 at tg to hB hEg hEo ⊢
  clear hb
  obtain ⟨y1, y2⟩ := cell_two tg
  go_upto_region 3 with (go_at_call 9; refine (refCheck_as hEg hcap HCK.out).mono ?_; rintro e w2 ⟨rfl, hb⟩)
  replace tg := two_on tg hb (Obj.cells #[.int .i64 c, .int .i64 d] 27)
  replace to := two_on to hb (Obj.cells #[.int .i64 c, .int .i64 d] 27)
  have tw := two_new w2 (.int .i64 c) (.int .i64 d) 27
  replace hB := below_on hB hb (Obj.cells #[.int .i64 c, .int .i64 d] 27)
  replace hEg := hEg.on hb (Obj.cells #[.int .i64 c, .int .i64 d] 27)
  replace hEo := hEo.on hb (Obj.cells #[.int .i64 c, .int .i64 d] 27)
  generalize w2.alloc (Obj.cells #[.int .i64 c, .int .i64 d] 27) = W2 at tg to tw hB hEg hEo ⊢
  clear hb y1 y2
  obtain ⟨y1, y2⟩ := cell_two to
  go_upto_region 4 with (go_at_call 10; refine (H1.out _ _ hEo).mono ?_; rintro e w3 ⟨rfl, hb⟩)
  replace tg := two_on tg hb (Obj.cells #[.int .i64 c, .int .i64 d] 27)
  replace to := two_on to hb (Obj.cells #[.int .i64 c, .int .i64 d] 27)
  replace tw := two_on tw hb (Obj.cells #[.int .i64 c, .int .i64 d] 27)
  have tf := two_new w3 (.int .i64 c) (.int .i64 d) 27
  replace hB := below_on hB hb (Obj.cells #[.int .i64 c, .int .i64 d] 27)
  replace hEg := hEg.on hb (Obj.cells #[.int .i64 c, .int .i64 d] 27)
  replace hEo := hEo.on hb (Obj.cells #[.int .i64 c, .int .i64 d] 27)
  generalize w3.alloc (Obj.cells #[.int .i64 c, .int .i64 d] 27) = W3 at tg to tw tf hB hEg hEo ⊢
  clear hb y1 y2
  obtain ⟨y1, y2⟩ := cell_two to
  go_upto_region 5 with (go_at_call 11; refine (H2.out _ _ hEo).mono ?_; rintro e w4 ⟨rfl, hb⟩)
  replace tg := two_on tg hb (Obj.cells #[.int .i64 c, .int .i64 d] 27)
  replace to := two_on to hb (Obj.cells #[.int .i64 c, .int .i64 d] 27)
  replace tw := two_on tw hb (Obj.cells #[.int .i64 c, .int .i64 d] 27)
  replace tf := two_on tf hb (Obj.cells #[.int .i64 c, .int .i64 d] 27)
  have te := two_new w4 (.int .i64 c) (.int .i64 d) 27
  replace hB := below_on hB hb (Obj.cells #[.int .i64 c, .int .i64 d] 27)
  replace hEg := hEg.on hb (Obj.cells #[.int .i64 c, .int .i64 d] 27)
  replace hEo := hEo.on hb (Obj.cells #[.int .i64 c, .int .i64 d] 27)
  generalize w4.alloc (Obj.cells #[.int .i64 c, .int .i64 d] 27) = W4 at tg to tw tf te hB hEg hEo ⊢
  clear hb y1 y2
  obtain ⟨y1, y2⟩ := cell_two to
  go_upto_region 6 with (go_at_call 12; refine (H3.out _ _ hEo).mono ?_; rintro e w5 ⟨rfl, hb⟩)
  replace tg := two_on tg hb (Obj.cells #[.int .i64 c, .int .i64 d] 27)
  replace to := two_on to hb (Obj.cells #[.int .i64 c, .int .i64 d] 27)
  replace tw := two_on tw hb (Obj.cells #[.int .i64 c, .int .i64 d] 27)
  replace tf := two_on tf hb (Obj.cells #[.int .i64 c, .int .i64 d] 27)
  replace te := two_on te hb (Obj.cells #[.int .i64 c, .int .i64 d] 27)
  have th := two_new w5 (.int .i64 c) (.int .i64 d) 27
  replace hB := below_on hB hb (Obj.cells #[.int .i64 c, .int .i64 d] 27)
  replace hEg := hEg.on hb (Obj.cells #[.int .i64 c, .int .i64 d] 27)
  replace hEo := hEo.on hb (Obj.cells #[.int .i64 c, .int .i64 d] 27)
  generalize w5.alloc (Obj.cells #[.int .i64 c, .int .i64 d] 27) = W5 at tg to tw tf te th hB hEg hEo ⊢
  clear hb y1 y2
  obtain ⟨y1, y2⟩ := cell_two to
  clear y1 y2
  have hne := neq27 c d
  obtain ⟨z1, z2⟩ := cell_two tw
  go_wp2_with (first
    | (go_at_call 13; refine (begun_true _).mono ?_; rintro e w6 ⟨rfl, hb6⟩; replace tg := two_next tg hb6; replace to := two_next to hb6; replace tw := two_next tw hb6; replace tf := two_next tf hb6; replace te := two_next te hb6; replace th := two_next th hb6; replace hB := below_next hB hb6; replace hEg := hEg.below hb6; replace hEo := hEo.below hb6; obtain ⟨a1, a2⟩ := cell_two tg; obtain ⟨a3, a4⟩ := cell_two to; obtain ⟨a5, a6⟩ := cell_two tw; obtain ⟨a7, a8⟩ := cell_two tf; obtain ⟨a9, a10⟩ := cell_two te; obtain ⟨a11, a12⟩ := cell_two th)
    | (go_at_call 14; refine (kept_true n _ _ es _ hEo hEg).mono ?_; rintro e w7 ⟨rfl, hb7⟩; obtain ⟨d5, d6⟩ := cell_two (two_next tw hb7)))
  go_ret
  exact ⟨rfl, below_next hB hb7⟩

set_option maxRecDepth 20000 in
set_option maxHeartbeats 4000000 in
theorem whole_ok (m : Nat) (ao : Option Addr) (cap : Nat) (es : List Pair) (w : World) (hE : EdgesAt w (.slice ao es.length cap) es) (hcap : es.length ≤ cap) (hck : chk m es = (0, 0)) :
    Calls Try.prog 3 #[.agg #[.int .i64 (m : Int), .slice ao es.length cap]] w fun e w' => e = .returned (.bool true) ∧ Below w.heap.size w w' := by
  have hc0 : (chk m es).1 = 0 := by rw [hck]
  obtain ⟨_, hn0, hn1, hl, hgood⟩ := chk_good hc0
  have hm : m ≤ 100 := by omega
  obtain ⟨R, hR⟩ := ex2 (fun v x => Star (St m (pn (hasB es)) allB) v x)
  obtain ⟨RK, hRK⟩ := ex2 (fun i j => Star (LkF m (allP m (hasB es))) i j)
  obtain ⟨Rx, hRx⟩ := ex3 (fun y v x => Star (St m (pn (hasB es)) (notB y)) v x)
  obtain ⟨Re, hRe⟩ := exP (fun e v x => Star (St m (pn (hasB (lessL (allP m (hasB es)) e))) allB) v x)
  have hfl : (allP m (hasB es)).length ≤ 1000 := Nat.le_trans (allP_has_le m es) hl
  have hbrS := bridges_same hgood hRK hR hRe
  have hcuS := cuts_same hgood hRK hR hRx
  have hC := fun (w' : World) (o : Option Addr) (c : Nat) (h : EdgesAt w' (.slice o es.length c) es) => components_ok m o c es w' h hc0 R hR
  have hBr := fun (w' : World) (o : Option Addr) (c : Nat) (h : EdgesAt w' (.slice o es.length c) es) => bridges_ok m o c es w' h hc0 RK hRK
  have hCu := fun (w' : World) (o : Option Addr) (c : Nat) (h : EdgesAt w' (.slice o es.length c) es) => cuts_ok m o c es w' h hc0 RK hRK
  have rC := fun (w' : World) (o : Option Addr) (c : Nat) (h : GridAt w' (.slice o m c) m (hasB es)) => refComps_call m o c (hasB es) w' h hm R hR
  have rB := fun (w' : World) (o : Option Addr) (c : Nat) (h : GridAt w' (.slice o m c) m (hasB es)) => refBridges_call m o c (hasB es) w' h hm hfl R hR Re hRe
  have rV := fun (w' : World) (o : Option Addr) (c : Nat) (h : GridAt w' (.slice o m c) m (hasB es)) => refCuts_call m o c (hasB es) w' h hm R hR Rx hRx
  rw [← hbrS] at rB
  rw [← hcuS] at rV
  have hbs1 : (singles (blocksS (allP m (hasB es)) RK)).length ≤ 1000 ∧ ∀ e ∈ singles (blocksS (allP m (hasB es)) RK), I64 e.1 ∧ I64 e.2 := by
    refine ⟨by rw [hbrS]; exact Nat.le_trans (refBridgesTo_le _ _ _ _ _) hfl, fun e he => ?_⟩
    rw [hbrS] at he
    have h1 := (List.mem_filter.1 he).1
    rw [List.take_length] at h1
    obtain ⟨u, v, h2, h3, _, rfl⟩ := allP_mem.1 h1
    constructor <;> constructor <;> simp <;> omega
  have hcs1 : (cutsTo (blocksS (allP m (hasB es)) RK) m).length ≤ 1000 ∧ ∀ x ∈ cutsTo (blocksS (allP m (hasB es)) RK) m, x ≤ 1000000 := by
    refine ⟨by have := cutsTo_le (blocksS (allP m (hasB es)) RK) m; omega, fun x hx => ?_⟩
    have := (List.mem_filter.1 hx).1
    simp at this
    omega
  have hps1 : (piecesS m allB R).length ≤ 1000 ∧ ∀ l ∈ piecesS m allB R, l.length ≤ 1000 ∧ ∀ x ∈ l, x ≤ 1000 := by
    refine ⟨by have : (piecesS m allB R).length ≤ m := piecesTo_le m allB R m; omega, fun l hl => ?_⟩
    obtain ⟨q, hq⟩ := List.mem_iff_getElem?.1 hl
    obtain ⟨h1, h2⟩ := piece_lt hq
    exact ⟨by omega, fun x hx => by have := h2 x hx; omega⟩
  obtain ⟨CS, hCS⟩ : ∃ CS, CS = piecesS m allB R := ⟨_, rfl⟩
  obtain ⟨BR, hBR⟩ : ∃ BR, BR = singles (blocksS (allP m (hasB es)) RK) := ⟨_, rfl⟩
  obtain ⟨CU, hCU⟩ : ∃ CU, CU = cutsTo (blocksS (allP m (hasB es)) RK) m := ⟨_, rfl⟩
  rw [← hCS] at hC rC hps1
  rw [← hBR] at hBr rB hbs1
  rw [← hCU] at hCu rV hcs1
  have HC : Hid _ := hC
  have HBr : Hid _ := hBr
  have HCu : Hid _ := hCu
  have RC : Hid _ := rC
  have RB : Hid _ := rB
  have RV : Hid _ := rV
  have HBS : Hid _ := hbs1
  have HCS : Hid _ := hcs1
  have HPS : Hid _ := hps1
  have HGD : Hid _ := hgood
  have HCK : Hid _ := hck
  clear hC hBr hCu rC rB rV hbs1 hcs1 hps1 hCS hBR hCU hbrS hcuS hR hRK hRx hRe hfl hgood hck hc0 hn0 hn1
  have HE : Hid _ := hE
  clear hE
  go_enter Try.func3, Try.ntmps3
  go_upto_region 2 with (go_at_call 8; refine (own_any (m : Int) ao cap es _ ?_).mono ?_; exact EdgesAt.below HE.out (below_alloc (Below.refl _ _) _); rintro e w1 ⟨hb, oo, oc, rfl, hEo, hocap⟩)
  have tg := two_on (two_new w (.int .i64 (m : Int)) (.slice ao es.length cap) 24) hb (Obj.cells #[.int .i64 (m : Int), .slice oo es.length oc] 24)
  have to := two_new w1 (.int .i64 (m : Int)) (.slice oo es.length oc) 24
  have hB := below_on (below_alloc (Below.refl _ w) (Obj.cells #[.int .i64 (m : Int), .slice ao es.length cap] 24)) hb (Obj.cells #[.int .i64 (m : Int), .slice oo es.length oc] 24)
  have hEg := EdgesAt.below HE.out hB
  replace hEo := hEo.below (below_alloc (Below.refl _ w1) (Obj.cells #[.int .i64 (m : Int), .slice oo es.length oc] 24))
  generalize w1.alloc (Obj.cells #[.int .i64 (m : Int), .slice oo es.length oc] 24) = W1 at tg to hB hEg hEo ⊢
  clear hb
  obtain ⟨y1, y2⟩ := cell_two tg
  go_upto_region 3 with (go_at_call 9; refine (refCheck_as hEg hcap HCK.out).mono ?_; rintro e w2 ⟨rfl, hb⟩)
  replace tg := two_on tg hb (Obj.cells #[.int .i64 0, .int .i64 0] 27)
  replace to := two_on to hb (Obj.cells #[.int .i64 0, .int .i64 0] 27)
  have tw := two_new w2 (.int .i64 0) (.int .i64 0) 27
  replace hB := below_on hB hb (Obj.cells #[.int .i64 0, .int .i64 0] 27)
  replace hEg := hEg.on hb (Obj.cells #[.int .i64 0, .int .i64 0] 27)
  replace hEo := hEo.on hb (Obj.cells #[.int .i64 0, .int .i64 0] 27)
  generalize w2.alloc (Obj.cells #[.int .i64 0, .int .i64 0] 27) = W2 at tg to tw hB hEg hEo ⊢
  clear hb y1 y2
  obtain ⟨y1, y2⟩ := cell_two to
  go_upto_region 4 with (go_at_call 10; refine (HC.out _ _ _ hEo).mono ?_; rintro e w3 ⟨cv, rfl, hls, hb⟩; obtain ⟨co, cc, rfl⟩ := hls.form)
  replace tg := two_on tg hb (Obj.cells #[.int .i64 0, .int .i64 0] 27)
  replace to := two_on to hb (Obj.cells #[.int .i64 0, .int .i64 0] 27)
  replace tw := two_on tw hb (Obj.cells #[.int .i64 0, .int .i64 0] 27)
  have tf := two_new w3 (.int .i64 0) (.int .i64 0) 27
  replace hB := below_on hB hb (Obj.cells #[.int .i64 0, .int .i64 0] 27)
  replace hEg := hEg.on hb (Obj.cells #[.int .i64 0, .int .i64 0] 27)
  replace hEo := hEo.on hb (Obj.cells #[.int .i64 0, .int .i64 0] 27)
  replace hls := lists_al hls (Obj.cells #[.int .i64 0, .int .i64 0] 27)
  generalize w3.alloc (Obj.cells #[.int .i64 0, .int .i64 0] 27) = W3 at tg to tw tf hB hEg hEo hls ⊢
  clear hb y1 y2
  obtain ⟨y1, y2⟩ := cell_two to
  go_upto_region 5 with (go_at_call 11; refine (HBr.out _ _ _ hEo).mono ?_; rintro e w4 ⟨bv, rfl, hbr, hb⟩; obtain ⟨bo, bc, rfl⟩ := form_row hbr)
  replace tg := two_on tg hb (Obj.cells #[.int .i64 0, .int .i64 0] 27)
  replace to := two_on to hb (Obj.cells #[.int .i64 0, .int .i64 0] 27)
  replace tw := two_on tw hb (Obj.cells #[.int .i64 0, .int .i64 0] 27)
  replace tf := two_on tf hb (Obj.cells #[.int .i64 0, .int .i64 0] 27)
  have te := two_new w4 (.int .i64 0) (.int .i64 0) 27
  replace hB := below_on hB hb (Obj.cells #[.int .i64 0, .int .i64 0] 27)
  replace hEg := hEg.on hb (Obj.cells #[.int .i64 0, .int .i64 0] 27)
  replace hEo := hEo.on hb (Obj.cells #[.int .i64 0, .int .i64 0] 27)
  replace hls := lists_al (hls.below hb) (Obj.cells #[.int .i64 0, .int .i64 0] 27)
  replace hbr := row_al hbr (Obj.cells #[.int .i64 0, .int .i64 0] 27)
  generalize w4.alloc (Obj.cells #[.int .i64 0, .int .i64 0] 27) = W4 at tg to tw tf te hB hEg hEo hls hbr ⊢
  clear hb y1 y2
  obtain ⟨y1, y2⟩ := cell_two to
  go_upto_region 6 with (go_at_call 12; refine (HCu.out _ _ _ hEo).mono ?_; rintro e w5 ⟨vv, rfl, hcu, hb⟩; obtain ⟨vo, vc, rfl⟩ := form_row hcu)
  replace tg := two_on tg hb (Obj.cells #[.int .i64 0, .int .i64 0] 27)
  replace to := two_on to hb (Obj.cells #[.int .i64 0, .int .i64 0] 27)
  replace tw := two_on tw hb (Obj.cells #[.int .i64 0, .int .i64 0] 27)
  replace tf := two_on tf hb (Obj.cells #[.int .i64 0, .int .i64 0] 27)
  replace te := two_on te hb (Obj.cells #[.int .i64 0, .int .i64 0] 27)
  have th := two_new w5 (.int .i64 0) (.int .i64 0) 27
  replace hB := below_on hB hb (Obj.cells #[.int .i64 0, .int .i64 0] 27)
  replace hEg := hEg.on hb (Obj.cells #[.int .i64 0, .int .i64 0] 27)
  replace hEo := hEo.on hb (Obj.cells #[.int .i64 0, .int .i64 0] 27)
  replace hls := lists_al (hls.below hb) (Obj.cells #[.int .i64 0, .int .i64 0] 27)
  replace hbr := row_al (row_on hbr hb) (Obj.cells #[.int .i64 0, .int .i64 0] 27)
  replace hcu := row_al hcu (Obj.cells #[.int .i64 0, .int .i64 0] 27)
  generalize w5.alloc (Obj.cells #[.int .i64 0, .int .i64 0] 27) = W5 at tg to tw tf te th hB hEg hEo hls hbr hcu ⊢
  clear hb y1 y2
  obtain ⟨y1, y2⟩ := cell_two to
  clear y1 y2
  have hne := neq27 0 0
  have hIn := ListsAt.in hls HPS.out.1 HPS.out.2
  have hEb := edgesAt_row hbr HBS.out.2 (by have := HBS.out.1; omega)
  have hIc := intsAt_q hcu HCS.out.2 (by have := HCS.out.1; omega)
  clear hls hbr hcu
  have hmm : (m : Int) ≤ 100 := by omega
  by_cases h40 : 40 < m
  · have h41 : (40 : Int) < (m : Int) := by omega
    go_wp2_with (first
    | (go_at_call 13; refine (begun_true _).mono ?_; rintro e w6 ⟨rfl, hb6⟩; replace tg := two_next tg hb6; replace to := two_next to hb6; replace tw := two_next tw hb6; replace tf := two_next tf hb6; replace te := two_next te hb6; replace th := two_next th hb6; replace hB := below_next hB hb6; replace hEg := hEg.below hb6; replace hEo := hEo.below hb6; replace hIn := hIn.below hb6; replace hEb := hEb.below hb6; replace hIc := hIc.below hb6; obtain ⟨a1, a2⟩ := cell_two tg; obtain ⟨a3, a4⟩ := cell_two to; obtain ⟨a5, a6⟩ := cell_two tw; obtain ⟨a7, a8⟩ := cell_two tf; obtain ⟨a9, a10⟩ := cell_two te; obtain ⟨a11, a12⟩ := cell_two th)
    | (go_at_call 14; refine (kept_true (m : Int) _ _ es _ hEo hEg).mono ?_; rintro e w7 ⟨rfl, hb7⟩; replace tg := two_next tg hb7; replace tw := two_next tw hb7; replace hB := below_next hB hb7; replace hEg := hEg.below hb7; replace hIn := hIn.below hb7; replace hEb := hEb.below hb7; replace hIc := hIc.below hb7; obtain ⟨d1, d2⟩ := cell_two tg; obtain ⟨d5, d6⟩ := cell_two tw)
    | (go_at_call 15; refine (gridOf_any m _ es _ hEg hm hl HGD.out).mono ?_; rintro e w8 ⟨hb8, go', gc, rfl, hG⟩; replace tg := two_next tg hb8; replace hB := below_next hB hb8; replace hIn := hIn.below hb8; replace hEb := hEb.below hb8; replace hIc := hIc.below hb8)
    | (go_at_call 17; refine (RC.out _ _ _ hG).mono ?_; rintro e w9 ⟨v9, rfl, hls9, hb9⟩; obtain ⟨c9, k9, rfl⟩ := hls9.form; replace tg := two_next tg hb9; replace hB := below_next hB hb9; replace hIn := hIn.below hb9; replace hEb := hEb.below hb9; replace hIc := hIc.below hb9; replace hG := hG.below hb9)
    | (go_at_call 16; refine (lists_true _ _ CS _ hIn (ListsAt.in hls9 HPS.out.1 HPS.out.2)).mono ?_; rintro e wa ⟨rfl, hba⟩; replace tg := two_next tg hba; replace hB := below_next hB hba; replace hEb := hEb.below hba; replace hIc := hIc.below hba; replace hG := hG.below hba; obtain ⟨f1, f2⟩ := cell_two tg))
    go_ret
    exact ⟨rfl, hB⟩
  · have h41 : ¬ (40 : Int) < (m : Int) := by omega
    go_wp2_with (first
    | (go_at_call 13; refine (begun_true _).mono ?_; rintro e w6 ⟨rfl, hb6⟩; replace tg := two_next tg hb6; replace to := two_next to hb6; replace tw := two_next tw hb6; replace tf := two_next tf hb6; replace te := two_next te hb6; replace th := two_next th hb6; replace hB := below_next hB hb6; replace hEg := hEg.below hb6; replace hEo := hEo.below hb6; replace hIn := hIn.below hb6; replace hEb := hEb.below hb6; replace hIc := hIc.below hb6; obtain ⟨a1, a2⟩ := cell_two tg; obtain ⟨a3, a4⟩ := cell_two to; obtain ⟨a5, a6⟩ := cell_two tw; obtain ⟨a7, a8⟩ := cell_two tf; obtain ⟨a9, a10⟩ := cell_two te; obtain ⟨a11, a12⟩ := cell_two th)
    | (go_at_call 14; refine (kept_true (m : Int) _ _ es _ hEo hEg).mono ?_; rintro e w7 ⟨rfl, hb7⟩; replace tg := two_next tg hb7; replace tw := two_next tw hb7; replace hB := below_next hB hb7; replace hEg := hEg.below hb7; replace hIn := hIn.below hb7; replace hEb := hEb.below hb7; replace hIc := hIc.below hb7; obtain ⟨d1, d2⟩ := cell_two tg; obtain ⟨d5, d6⟩ := cell_two tw)
    | (go_at_call 15; refine (gridOf_any m _ es _ hEg hm hl HGD.out).mono ?_; rintro e w8 ⟨hb8, go', gc, rfl, hG⟩; replace tg := two_next tg hb8; replace hB := below_next hB hb8; replace hIn := hIn.below hb8; replace hEb := hEb.below hb8; replace hIc := hIc.below hb8)
    | (go_at_call 17; refine (RC.out _ _ _ hG).mono ?_; rintro e w9 ⟨v9, rfl, hls9, hb9⟩; obtain ⟨c9, k9, rfl⟩ := hls9.form; replace tg := two_next tg hb9; replace hB := below_next hB hb9; replace hIn := hIn.below hb9; replace hEb := hEb.below hb9; replace hIc := hIc.below hb9; replace hG := hG.below hb9)
    | (go_at_call 16; refine (lists_true _ _ CS _ hIn (ListsAt.in hls9 HPS.out.1 HPS.out.2)).mono ?_; rintro e wa ⟨rfl, hba⟩; replace tg := two_next tg hba; replace hB := below_next hB hba; replace hEb := hEb.below hba; replace hIc := hIc.below hba; replace hG := hG.below hba; obtain ⟨f1, f2⟩ := cell_two tg)
    | (go_at_call 19; refine (RB.out _ _ _ hG).mono ?_; rintro e wb ⟨vb, rfl, hrb, hbb⟩; obtain ⟨c10, k10, rfl⟩ := form_row hrb; replace hB := below_next hB hbb; replace hEb := hEb.below hbb; replace hIc := hIc.below hbb; replace hG := hG.below hbb)
    | (go_at_call 18; refine (pairs_true _ _ BR _ hEb (edgesAt_row hrb HBS.out.2 (by have := HBS.out.1; omega))).mono ?_; rintro e wc ⟨rfl, hbc⟩; replace hB := below_next hB hbc; replace hIc := hIc.below hbc; replace hG := hG.below hbc)
    | (go_at_call 21; refine (RV.out _ _ _ hG).mono ?_; rintro e wd ⟨vd, rfl, hrd, hbd⟩; obtain ⟨c11, k11, rfl⟩ := form_row hrd; replace hB := below_next hB hbd; replace hIc := hIc.below hbd)
    | (go_at_call 20; refine (ints_true _ _ (CU.map fun (x : Nat) => (x : Int)) _ (by simpa using hIc) (by simpa using intsAt_q hrd HCS.out.2 (by have := HCS.out.1; omega))).mono ?_; rintro e we ⟨rfl, hbe⟩; replace hB := below_next hB hbe))
    go_ret
    exact ⟨rfl, hB⟩
end Go.Proofs.Ytgepibidhebbiab
