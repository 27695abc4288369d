/- The walk of PartsSides: it answers true, and what was there stays. -/
import Derived.Test.YtgepibidhebbiabRefRing
import Derived.Test.YtgepibidhebbiabWholeWalk
namespace Go.Proofs.Ytgepibidhebbiab
open Go.RowKit Go.Maps
attribute [local go_sem ↓] Go.wp_at_zero Go.wp_at_succ

set_option maxRecDepth 20000 in
set_option maxHeartbeats 4000000 in
theorem sidesLaw_bad (n : Int) (ao : Option Addr) (cap : Nat) (es : List Pair) (w : World) (hE : EdgesAt w (.slice ao es.length cap) es) (hcap : es.length ≤ cap) {c d : Int} (hck : chk n es = (c, d)) (hc : c ≠ 0) :
    Calls Try.prog 5 #[.agg #[.int .i64 n, .slice ao es.length cap]] w fun e w' => e = .returned (.bool true) ∧ Below w.heap.size w w' := by
  have hc1 : (c != 0) = true := by simpa using hc
  have hcc : (chk n es).1 ≠ 0 := by rw [hck]; exact hc
  have HCK : Hid _ := hck
  have hbad := fun (w' : World) (v : Value) (h : EdgesAt w' v es) => sides_bad n v es w' h hcc
  simp only [hck] at hbad
  have H1 : Hid _ := hbad
  have HE : Hid _ := hE
  clear hck hcc hbad hc hE
  go_enter Try.func5, Try.ntmps5
  go_upto_region 2 with (go_at_call 8; refine (own_any n ao cap es _ ?_).mono ?_; exact EdgesAt.below HE.out (below_alloc (Below.refl _ _) _); rintro e w1 ⟨hb, oo, oc, rfl, hEo, hocap⟩)
  have tg := two_on (two_new w (.int .i64 n) (.slice ao es.length cap) 24) hb (Obj.cells #[.int .i64 n, .slice oo es.length oc] 24)
  have to := two_new w1 (.int .i64 n) (.slice oo es.length oc) 24
  have hB := below_on (below_alloc (Below.refl _ w) (Obj.cells #[.int .i64 n, .slice ao es.length cap] 24)) hb (Obj.cells #[.int .i64 n, .slice oo es.length oc] 24)
  have hEg := EdgesAt.below HE.out hB
  replace hEo := hEo.below (below_alloc (Below.refl _ w1) (Obj.cells #[.int .i64 n, .slice oo es.length oc] 24))
  generalize w1.alloc (Obj.cells #[.int .i64 n, .slice oo es.length oc] 24) = W1 at tg to hB hEg hEo ⊢
  clear hb
  obtain ⟨y1, y2⟩ := cell_two tg
  go_upto_region 3 with (go_at_call 9; refine (refCheck_as hEg hcap HCK.out).mono ?_; rintro e w2 ⟨rfl, hb⟩)
  replace tg := two_on tg hb (Obj.cells #[.int .i64 c, .int .i64 d] 27)
  replace to := two_on to hb (Obj.cells #[.int .i64 c, .int .i64 d] 27)
  have tw := two_new w2 (.int .i64 c) (.int .i64 d) 27
  replace hB := below_on hB hb (Obj.cells #[.int .i64 c, .int .i64 d] 27)
  replace hEg := hEg.on hb (Obj.cells #[.int .i64 c, .int .i64 d] 27)
  replace hEo := hEo.on hb (Obj.cells #[.int .i64 c, .int .i64 d] 27)
  generalize w2.alloc (Obj.cells #[.int .i64 c, .int .i64 d] 27) = W2 at tg to tw hB hEg hEo ⊢
  clear hb y1 y2
  obtain ⟨y1, y2⟩ := cell_two to
  go_upto_region 4 with (go_at_call 24; refine (H1.out _ _ hEo).mono ?_; rintro e w3 ⟨rfl, hb⟩)
  replace tg := two_on tg hb (Obj.cells #[.int .i64 c, .int .i64 d] 27)
  replace to := two_on to hb (Obj.cells #[.int .i64 c, .int .i64 d] 27)
  replace tw := two_on tw hb (Obj.cells #[.int .i64 c, .int .i64 d] 27)
  have tf := two_new w3 (.int .i64 c) (.int .i64 d) 27
  replace hB := below_on hB hb (Obj.cells #[.int .i64 c, .int .i64 d] 27)
  replace hEg := hEg.on hb (Obj.cells #[.int .i64 c, .int .i64 d] 27)
  replace hEo := hEo.on hb (Obj.cells #[.int .i64 c, .int .i64 d] 27)
  generalize w3.alloc (Obj.cells #[.int .i64 c, .int .i64 d] 27) = W3 at tg to tw tf hB hEg hEo ⊢
  clear hb y1 y2
  have hne := neq27 c d
  obtain ⟨z1, z2⟩ := cell_two tw
  go_wp2_with (first
    | (go_at_call 13; refine (begun_true _).mono ?_; rintro e w6 ⟨rfl, hb6⟩; replace tg := two_next tg hb6; replace to := two_next to hb6; replace tw := two_next tw hb6; replace tf := two_next tf hb6; replace hB := below_next hB hb6; replace hEg := hEg.below hb6; replace hEo := hEo.below hb6; obtain ⟨a1, a2⟩ := cell_two tg; obtain ⟨a3, a4⟩ := cell_two to; obtain ⟨a5, a6⟩ := cell_two tw; obtain ⟨a7, a8⟩ := cell_two tf)
    | (go_at_call 14; refine (kept_true n _ _ es _ hEo hEg).mono ?_; rintro e w7 ⟨rfl, hb7⟩; obtain ⟨d5, d6⟩ := cell_two (two_next tw hb7)))
  go_ret
  exact ⟨rfl, below_next hB hb7⟩

/-- What is known of the two answers. -/
theorem sides_meet {m : Nat} {e R : Nat → Nat → Bool} {far : Nat → Nat} (h : FarAll m e R far m) (hR : ∀ v x, R v x = true ↔ Star (St m e allB) v x) (hs : ∀ a b, a < m → b < m → e a b = true → e b a = true) {a b : Nat} (ha : a < m) (hb : b < m) (hab : e a b = true) : far a % 2 = far b % 2 ↔ far a = far b := by
  have h1 := h.near hR ha hb hab
  have h2 := h.near hR hb ha (hs a b ha hb hab)
  omega
theorem intsAt_rowV {w : World} {b N : Nat} {f : Nat → Nat} (h : RowV w b 3 N (fun x => .int .i64 (f x : Nat))) (hN : N ≤ 1000) (hf : ∀ x, f x ≤ 1000) : IntsAt w (.slice (some ⟨b, 0, none⟩) N N) (((List.range N).map f).map fun (x : Nat) => (x : Int)) := by
  have hl : (((List.range N).map f).map fun (x : Nat) => (x : Int)).length = N := by simp
  refine ⟨some ⟨b, 0, none⟩, N, by rw [hl], by rw [hl]; omega, fun x hx => ?_, fun k hk => ⟨b, 0, rfl, ?_⟩⟩
  · simp at hx
    obtain ⟨y, _, rfl⟩ := hx
    have := hf y
    exact ⟨by omega, by omega⟩
  · rw [hl] at hk
    have := h.cell hk
    simpa using this

set_option maxRecDepth 20000 in
set_option maxHeartbeats 4000000 in
theorem sidesLaw_ok (m : Nat) (ao : Option Addr) (cap : Nat) (es : List Pair) (w : World) (hE : EdgesAt w (.slice ao es.length cap) es) (hcap : es.length ≤ cap) (hck : chk m es = (0, 0)) :
    Calls Try.prog 5 #[.agg #[.int .i64 (m : Int), .slice ao es.length cap]] w fun e w' => e = .returned (.bool true) ∧ Below w.heap.size w w' := by
  have hc0 : (chk m es).1 = 0 := by rw [hck]
  obtain ⟨_, hn0, hn1, hl, hgood⟩ := chk_good hc0
  have hm : m ≤ 100 := by omega
  obtain ⟨R, hR⟩ := ex2 (fun v x => Star (St m (pn (hasB es)) allB) v x)
  have hS := fun (w' : World) (o : Option Addr) (c : Nat) (h : EdgesAt w' (.slice o es.length c) es) => sides_ok m o c es w' h hc0 R hR
  have HSD : Hid _ := hS
  have HR : Hid _ := hR
  have HGD : Hid _ := hgood
  have HCK : Hid _ := hck
  have HE : Hid _ := hE
  clear hS hR hgood hck hc0 hn0 hn1 hE
  go_enter Try.func5, Try.ntmps5
  go_upto_region 2 with (go_at_call 8; refine (own_any (m : Int) ao cap es _ ?_).mono ?_; exact EdgesAt.below HE.out (below_alloc (Below.refl _ _) _); rintro e w1 ⟨hb, oo, oc, rfl, hEo, hocap⟩)
  have tg := two_on (two_new w (.int .i64 (m : Int)) (.slice ao es.length cap) 24) hb (Obj.cells #[.int .i64 (m : Int), .slice oo es.length oc] 24)
  have to := two_new w1 (.int .i64 (m : Int)) (.slice oo es.length oc) 24
  have hB := below_on (below_alloc (Below.refl _ w) (Obj.cells #[.int .i64 (m : Int), .slice ao es.length cap] 24)) hb (Obj.cells #[.int .i64 (m : Int), .slice oo es.length oc] 24)
  have hEg := EdgesAt.below HE.out hB
  replace hEo := hEo.below (below_alloc (Below.refl _ w1) (Obj.cells #[.int .i64 (m : Int), .slice oo es.length oc] 24))
  generalize w1.alloc (Obj.cells #[.int .i64 (m : Int), .slice oo es.length oc] 24) = W1 at tg to hB hEg hEo ⊢
  clear hb
  obtain ⟨y1, y2⟩ := cell_two tg
  go_upto_region 3 with (go_at_call 9; refine (refCheck_as hEg hcap HCK.out).mono ?_; rintro e w2 ⟨rfl, hb⟩)
  replace tg := two_on tg hb (Obj.cells #[.int .i64 0, .int .i64 0] 27)
  replace to := two_on to hb (Obj.cells #[.int .i64 0, .int .i64 0] 27)
  have tw := two_new w2 (.int .i64 0) (.int .i64 0) 27
  replace hB := below_on hB hb (Obj.cells #[.int .i64 0, .int .i64 0] 27)
  replace hEg := hEg.on hb (Obj.cells #[.int .i64 0, .int .i64 0] 27)
  replace hEo := hEo.on hb (Obj.cells #[.int .i64 0, .int .i64 0] 27)
  generalize w2.alloc (Obj.cells #[.int .i64 0, .int .i64 0] 27) = W2 at tg to tw hB hEg hEo ⊢
  clear hb y1 y2
  obtain ⟨y1, y2⟩ := cell_two to
  go_upto_region 4 with (go_at_call 24; refine (HSD.out _ _ _ hEo).mono ?_; rintro e w3 ⟨v1, v2, far, rfl, ⟨hfa, hsd⟩, hb⟩)
  replace tg := two_on tg hb (Obj.cells #[.int .i64 0, .int .i64 0] 27)
  replace to := two_on to hb (Obj.cells #[.int .i64 0, .int .i64 0] 27)
  replace tw := two_on tw hb (Obj.cells #[.int .i64 0, .int .i64 0] 27)
  have tf := two_new w3 (.int .i64 0) (.int .i64 0) 27
  replace hB := below_on hB hb (Obj.cells #[.int .i64 0, .int .i64 0] 27)
  replace hEg := hEg.on hb (Obj.cells #[.int .i64 0, .int .i64 0] 27)
  replace hEo := hEo.on hb (Obj.cells #[.int .i64 0, .int .i64 0] 27)
  have hba := below_alloc (Below.refl _ w3) (Obj.cells #[.int .i64 0, .int .i64 0] 27)
  generalize w3.alloc (Obj.cells #[.int .i64 0, .int .i64 0] 27) = W3 at tg to tw tf hB hEg hEo hba ⊢
  clear hb y1 y2
  have HFA : Hid _ := hfa
  clear hfa
  have hne := neq27 0 0
  obtain ⟨z1, z2⟩ := cell_two tw
  have hsym := pn_symm es m
  have HSY : Hid _ := hsym
  clear hsym
  rcases hsd with ⟨rfl, hrow, hno⟩ | ⟨rfl, ⟨g, n, c, rg, rfl, hn3, hn2, hge, hrn, hring⟩, a, b, ha, hb', hab, hfe⟩
  · obtain ⟨so, sc, rfl⟩ := form_row hrow
    have hle : ((List.range m).map fun x => far x % 2).length = m := by simp
    have hI := intsAt_q (L := (List.range m).map fun x => far x % 2) (by rw [hle]; exact hrow) (fun x hx => by simp at hx; obtain ⟨y, _, rfl⟩ := hx; omega) (by rw [hle]; omega)
    replace hI := hI.below hba
    have HNO : Hid _ := hno
    clear hno hrow hle hba
    go_wp2_with (first
      | (go_at_call 13; refine (begun_true _).mono ?_; rintro e w6 ⟨rfl, hb6⟩; replace tg := two_next tg hb6; replace to := two_next to hb6; replace tw := two_next tw hb6; replace tf := two_next tf hb6; replace hB := below_next hB hb6; replace hEg := hEg.below hb6; replace hEo := hEo.below hb6; replace hI := hI.below hb6; obtain ⟨a1, a2⟩ := cell_two tg; obtain ⟨a3, a4⟩ := cell_two to; obtain ⟨a5, a6⟩ := cell_two tw; obtain ⟨a7, a8⟩ := cell_two tf)
      | (go_at_call 14; refine (kept_true (m : Int) _ _ es _ hEo hEg).mono ?_; rintro e w7 ⟨rfl, hb7⟩; replace tg := two_next tg hb7; replace tw := two_next tw hb7; replace hB := below_next hB hb7; replace hEg := hEg.below hb7; replace hI := hI.below hb7; obtain ⟨d1, d2⟩ := cell_two tg; obtain ⟨d5, d6⟩ := cell_two tw)
      | (go_at_call 15; refine (gridOf_any m _ es _ hEg hm hl HGD.out).mono ?_; rintro e w8 ⟨hb8, go', gc, rfl, hG⟩; replace hB := below_next hB hb8; replace hI := hI.below hb8)
      | (go_at_call 25; refine (refSides_call m go' gc (hasB es) _ hG hm HSY.out R HR.out HFA.out).mono ?_; rintro e w9 ⟨hb9, hh⟩; replace hB := below_next hB hb9; replace hI := hI.below hb9; obtain ⟨bs, rfl, hrs, _⟩ := hh.resolve_right (fun ⟨_, a, b, h1, h2, h3, h4⟩ => HNO.out a b h1 h2 h3 ((sides_meet HFA.out HR.out HSY.out h1 h2 h3).1 h4)))
      | (go_at_call 20; refine (ints_true _ _ _ _ hI (intsAt_rowV hrs (by omega) (fun x => by omega))).mono ?_; rintro e wa ⟨rfl, hba⟩; replace hB := below_next hB hba))
    go_ret
    exact ⟨rfl, hB⟩
  · replace hrn := hrn.block (hba.block _ hrn.lt)
    have HNO : Hid _ := And.intro ha (And.intro hb' (And.intro hab hfe))
    have HRI : Hid _ := hring
    have hmod : (n : Int).tmod 2 = 1 := by rw [Int.tmod_eq_emod_of_nonneg (by omega)]; omega
    clear ha hb' hab hfe hba hring hn2
    go_wp2_with (first
      | (go_at_call 13; refine (begun_true _).mono ?_; rintro e w6 ⟨rfl, hb6⟩; replace tg := two_next tg hb6; replace to := two_next to hb6; replace tw := two_next tw hb6; replace tf := two_next tf hb6; replace hB := below_next hB hb6; replace hEg := hEg.below hb6; replace hEo := hEo.below hb6; replace hrn := hrn.block (hb6.block _ hrn.lt); obtain ⟨a1, a2⟩ := cell_two tg; obtain ⟨a3, a4⟩ := cell_two to; obtain ⟨a5, a6⟩ := cell_two tw; obtain ⟨a7, a8⟩ := cell_two tf)
      | (go_at_call 14; refine (kept_true (m : Int) _ _ es _ hEo hEg).mono ?_; rintro e w7 ⟨rfl, hb7⟩; replace tg := two_next tg hb7; replace tw := two_next tw hb7; replace hB := below_next hB hb7; replace hEg := hEg.below hb7; replace hrn := hrn.block (hb7.block _ hrn.lt); obtain ⟨d1, d2⟩ := cell_two tg; obtain ⟨d5, d6⟩ := cell_two tw)
      | (go_at_call 15; refine (gridOf_any m _ es _ hEg hm hl HGD.out).mono ?_; rintro e w8 ⟨hb8, go', gc, rfl, hG⟩; replace hB := below_next hB hb8; replace hrn := hrn.block (hb8.block _ hrn.lt))
      | (go_at_call 25; refine (refSides_call m go' gc (hasB es) _ hG hm HSY.out R HR.out HFA.out).mono ?_; rintro e w9 ⟨hb9, hh⟩; replace hB := below_next hB hb9; replace hrn := hrn.block (hb9.block _ hrn.lt); replace hG := hG.below hb9; obtain ⟨rfl, _⟩ := hh.resolve_left (fun ⟨_, _, _, h⟩ => h a b HNO.out.1 HNO.out.2.1 HNO.out.2.2.1 ((sides_meet HFA.out HR.out HSY.out HNO.out.1 HNO.out.2.1 HNO.out.2.2.1).2 HNO.out.2.2.2)))
      | (go_at_call 26; refine (refRing_call m go' gc (hasB es) _ hG hrn hn3 HRI.out).mono ?_; rintro e wa ⟨rfl, hbR⟩; replace hB := below_next hB hbR))
    go_ret
    exact ⟨rfl, hB⟩
end Go.Proofs.Ytgepibidhebbiab
