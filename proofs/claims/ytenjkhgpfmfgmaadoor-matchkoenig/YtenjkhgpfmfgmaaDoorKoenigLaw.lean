/- The walk of MatchKoenig: it answers true, and what was there stays; what its examples ask is a condition still. -/
import Derived.Test.YtenjkhgpfmfgmaaDoorCoverW
import Derived.Test.YtenjkhgpfmfgmaaDoorRefSides
import Derived.Test.YtenjkhgpfmfgmaaDoorTutteLaw
namespace Go.Proofs.YtenjkhgpfmfgmaaDoor
open Go.RowKit Go.Maps
attribute [local go_sem ↓] Go.wp_at_zero Go.wp_at_succ

theorem par_eq {N : Nat} {es : List Pair} {R : Nat → Nat → Bool} {far : Nat → Nat} (h : FarAll N (pn (hasB es)) R far N) (hR : ∀ v x, R v x = true ↔ Star (St N (pn (hasB es)) allB) v x) {a b : Nat} (ha : a < N) (hb : b < N) (hab : pn (hasB es) a b = true) (e : far a % 2 = far b % 2) : far a = far b := by
  have h2 := h.near hR ha hb hab
  have h3 := h.near hR hb ha (pn_symm es N a b ha hb hab)
  omega

set_option maxRecDepth 20000 in
set_option maxHeartbeats 4000000 in
theorem koenigLaw_bad (n : Int) (ao : Option Addr) (cap : Nat) (es : List Pair) (w : World) (hE : EdgesAt w (.slice ao es.length cap) es) (hcap : es.length ≤ cap) (hbg : BegunAt w) {c d : Int} (hck : chk n es = (c, d)) (hc : c ≠ 0) :
    Calls Tryd.prog 5 #[.agg #[.int .i64 n, .slice ao es.length cap]] w fun e w' => e = .returned (.bool true) ∧ Below w.heap.size w w' := by
  have hc1 : (c == 0) = false := by simpa using hc
  have hgi := fun (w' : World) (v : Value) (h : EdgesAt w' v es) => cover_bad n v es w' h hck hc
  have HCK : Hid _ := hck
  have H2 : Hid _ := hgi
  have HE : Hid _ := hE
  have HBG : Hid _ := hbg
  clear hck hgi hc hE hbg
  go_enter Tryd.func5, Tryd.ntmps5
  go_upto_region 2 with (go_at_call 7; refine (own_any (n) ao cap es _ ?_).mono ?_; exact EdgesAt.below HE.out (below_alloc (Below.refl _ _) _); rintro e w1 ⟨hb, oo, oc, rfl, hEo, hocap⟩)
  have tg := two_on (two_new w (.int .i64 (n)) (.slice ao es.length cap) 24) hb (Obj.cells #[.int .i64 (n), .slice oo es.length oc] 24)
  have to' := two_new w1 (.int .i64 (n)) (.slice oo es.length oc) 24
  have hB := below_on (below_alloc (Below.refl _ w) (Obj.cells #[.int .i64 (n), .slice ao es.length cap] 24)) hb (Obj.cells #[.int .i64 (n), .slice oo es.length oc] 24)
  have hEg := EdgesAt.below HE.out hB
  replace hEo := hEo.below (below_alloc (Below.refl _ w1) (Obj.cells #[.int .i64 (n), .slice oo es.length oc] 24))
  generalize w1.alloc (Obj.cells #[.int .i64 (n), .slice oo es.length oc] 24) = W1 at tg to' hB hEg hEo ⊢
  clear hb
  obtain ⟨y1, y2⟩ := cell_two tg
  go_upto_region 3 with (go_at_call 8; refine (refCheck_as hEg hcap HCK.out).mono ?_; rintro e w2 ⟨rfl, hb⟩)
  replace tg := two_on tg hb (Obj.cells #[.int .i64 c, .int .i64 d] 27)
  replace to' := two_on to' hb (Obj.cells #[.int .i64 c, .int .i64 d] 27)
  have tw := two_new w2 (.int .i64 c) (.int .i64 d) 27
  replace hB := below_on hB hb (Obj.cells #[.int .i64 c, .int .i64 d] 27)
  replace hEg := hEg.on hb (Obj.cells #[.int .i64 c, .int .i64 d] 27)
  replace hEo := hEo.on hb (Obj.cells #[.int .i64 c, .int .i64 d] 27)
  generalize w2.alloc (Obj.cells #[.int .i64 c, .int .i64 d] 27) = W2 at tg to' tw hB hEg hEo ⊢
  clear hb y1 y2
  obtain ⟨y1, y2⟩ := cell_two to'
  go_upto_region 4 with (go_at_call 19; refine (H2.out _ _ hEo).mono ?_; rintro e w3 ⟨rfl, hb⟩)
  replace tg := two_on tg hb (Obj.cells #[.int .i64 c, .int .i64 d] 27)
  replace to' := two_on to' hb (Obj.cells #[.int .i64 c, .int .i64 d] 27)
  replace tw := two_on tw hb (Obj.cells #[.int .i64 c, .int .i64 d] 27)
  have tf := two_new w3 (.int .i64 c) (.int .i64 d) 27
  replace hB := below_on hB hb (Obj.cells #[.int .i64 c, .int .i64 d] 27)
  replace hEg := hEg.on hb (Obj.cells #[.int .i64 c, .int .i64 d] 27)
  replace hEo := hEo.on hb (Obj.cells #[.int .i64 c, .int .i64 d] 27)
  generalize w3.alloc (Obj.cells #[.int .i64 c, .int .i64 d] 27) = W3 at tg to' tw tf hB hEg hEo ⊢
  clear hb y1 y2
  have heq := neq27 c d
  go_wp2_with (first
    | (go_at_call 10; refine (HBG.out _ hB).mono ?_; rintro e w6 ⟨rfl, hb6⟩; replace tg := two_next tg hb6; replace to' := two_next to' hb6; replace tf := two_next tf hb6; replace tw := two_next tw hb6; replace hB := below_next hB hb6; replace hEg := hEg.below hb6; replace hEo := hEo.below hb6; obtain ⟨a1, a2⟩ := cell_two tg; obtain ⟨a3, a4⟩ := cell_two to'; obtain ⟨a5, a6⟩ := cell_two tw; obtain ⟨a7, a8⟩ := cell_two tf)
    | (go_at_call 11; refine (kept_true (n) _ _ es _ hEo hEg).mono ?_; rintro e w7 ⟨rfl, hb7⟩; obtain ⟨d5, d6⟩ := cell_two (two_next tw hb7); obtain ⟨d7, d8⟩ := cell_two (two_next tf hb7); obtain ⟨d1, d2⟩ := cell_two (two_next tg hb7)))
  go_ret
  exact ⟨rfl, below_next hB hb7⟩

set_option maxRecDepth 20000 in
set_option maxHeartbeats 8000000 in
theorem koenigLaw_ok (m : Nat) (ao : Option Addr) (cap : Nat) (es : List Pair) (w : World) (hE : EdgesAt w (.slice ao es.length cap) es) (hcap : es.length ≤ cap) (hbg : BegunAt w) (hck : chk m es = (0, 0)) :
    Calls Tryd.prog 5 #[.agg #[.int .i64 (m : Int), .slice ao es.length cap]] w fun e w' => e = .returned (.bool true) ∧ Below w.heap.size w w' := by
  have hc0 : (chk m es).1 = 0 := by rw [hck]
  obtain ⟨_, hn0, hn1, hle, hgood⟩ := chk_good hc0
  have hm : m ≤ 100 := by omega
  obtain ⟨R, hR⟩ := ex2 (Star (St m (pn (hasB es)) allB))
  have hgi := fun (w' : World) (o : Option Addr) (c : Nat) (h : EdgesAt w' (.slice o es.length c) es) => cover_ok m o c es w' h hc0 R hR
  have HR : Hid _ := hR
  have HSY : Hid _ := pn_symm es m
  have hgrid := fun (W : World) (v : Value) (h : EdgesAt W v es) => gridOf_any m v es W h hm hle hgood
  have HGR : Hid _ := hgrid
  have H2 : Hid _ := hgi
  have HCK : Hid _ := hck
  have HE : Hid _ := hE
  have HG : Hid _ := hgood
  have HBG : Hid _ := hbg
  clear hR hck hgi hE hc0 hn0 hn1 hgood hgrid hbg
  go_enter Tryd.func5, Tryd.ntmps5
  go_upto_region 2 with (go_at_call 7; refine (own_any ((m : Int)) ao cap es _ ?_).mono ?_; exact EdgesAt.below HE.out (below_alloc (Below.refl _ _) _); rintro e w1 ⟨hb, oo, oc, rfl, hEo, hocap⟩)
  have tg := two_on (two_new w (.int .i64 ((m : Int))) (.slice ao es.length cap) 24) hb (Obj.cells #[.int .i64 ((m : Int)), .slice oo es.length oc] 24)
  have to' := two_new w1 (.int .i64 ((m : Int))) (.slice oo es.length oc) 24
  have hB := below_on (below_alloc (Below.refl _ w) (Obj.cells #[.int .i64 ((m : Int)), .slice ao es.length cap] 24)) hb (Obj.cells #[.int .i64 ((m : Int)), .slice oo es.length oc] 24)
  have hEg := EdgesAt.below HE.out hB
  replace hEo := hEo.below (below_alloc (Below.refl _ w1) (Obj.cells #[.int .i64 ((m : Int)), .slice oo es.length oc] 24))
  generalize w1.alloc (Obj.cells #[.int .i64 ((m : Int)), .slice oo es.length oc] 24) = W1 at tg to' hB hEg hEo ⊢
  clear hb
  obtain ⟨y1, y2⟩ := cell_two tg
  go_upto_region 3 with (go_at_call 8; refine (refCheck_as hEg hcap HCK.out).mono ?_; rintro e w2 ⟨rfl, hb⟩)
  replace tg := two_on tg hb (Obj.cells #[.int .i64 0, .int .i64 0] 27)
  replace to' := two_on to' hb (Obj.cells #[.int .i64 0, .int .i64 0] 27)
  have tw := two_new w2 (.int .i64 0) (.int .i64 0) 27
  have hw2 : w.heap.size ≤ w2.heap.size := (below_next hB hb).size
  replace hB := below_on hB hb (Obj.cells #[.int .i64 0, .int .i64 0] 27)
  replace hEg := hEg.on hb (Obj.cells #[.int .i64 0, .int .i64 0] 27)
  replace hEo := hEo.on hb (Obj.cells #[.int .i64 0, .int .i64 0] 27)
  generalize w2.alloc (Obj.cells #[.int .i64 0, .int .i64 0] 27) = W2 at tg to' tw hB hEg hEo ⊢
  clear hb y1 y2
  obtain ⟨y1, y2⟩ := cell_two to'
  go_upto_region 4 with (go_at_call 19; refine (H2.out _ _ _ hEo).mono ?_; rintro e w3 ⟨pv, cv, cc, far, rfl, hfar, hb, hto⟩)
  have hwf : w3.heap.size ≠ w2.heap.size := by have h1 := lt_of_block tw; have h2 := hb.size; omega
  have HFA : Hid _ := hfar
  clear hfar
  rcases hto with ⟨⟨a, b, ha, hb', hab, hfe⟩, rfl, rfl, hc8⟩ | ⟨hno, hc0', mm, S, hmat, hlen, hcov, hop, hoa⟩
  · subst hc8
    replace tg := two_on tg hb (Obj.cells #[.int .i64 8, .int .i64 0] 27)
    replace to' := two_on to' hb (Obj.cells #[.int .i64 8, .int .i64 0] 27)
    replace tw := two_on tw hb (Obj.cells #[.int .i64 8, .int .i64 0] 27)
    have tf := two_new w3 (.int .i64 8) (.int .i64 0) 27
    replace hB := below_on hB hb (Obj.cells #[.int .i64 8, .int .i64 0] 27)
    replace hEg := hEg.on hb (Obj.cells #[.int .i64 8, .int .i64 0] 27)
    replace hEo := hEo.on hb (Obj.cells #[.int .i64 8, .int .i64 0] 27)
    generalize w3.alloc (Obj.cells #[.int .i64 8, .int .i64 0] 27) = W3 at tg to' tw tf hB hEg hEo ⊢
    clear hb y1 y2
    go_upto_region 6 with (first
      | (go_at_call 10; refine (HBG.out _ hB).mono ?_; rintro e w6 ⟨rfl, hb6⟩; replace tg := two_next tg hb6; replace to' := two_next to' hb6; replace tf := two_next tf hb6; replace tw := two_next tw hb6; replace hB := below_next hB hb6; replace hEg := hEg.below hb6; replace hEo := hEo.below hb6; obtain ⟨a1, a2⟩ := cell_two tg; obtain ⟨a3, a4⟩ := cell_two to')
      | (go_at_call 11; refine (kept_true ((m : Int)) _ _ es _ hEo hEg).mono ?_; rintro e w7 ⟨rfl, hb7⟩))
    have hb67 := below_next hb6 hb7
    replace tg := two_next tg hb7
    replace tw := two_next tw hb7
    replace tf := two_next tf hb7
    replace hB := below_next hB hb7
    replace hEg := hEg.below hb7
    clear a1 a2 a3 a4 to' hEo hb6 hb7 hb67
    obtain ⟨v1, v2⟩ := cell_two tg
    obtain ⟨v3, v4⟩ := cell_two tw
    go_upto_region 10 with (first
      | (go_at_call 12; refine (HGR.out _ _ hEg).mono ?_; rintro e WB ⟨hbB, go', gc, rfl, hgrid⟩)
      | (go_at_call 20; refine (refSides_call m go' gc (hasB es) _ hgrid hm HSY.out R HR.out HFA.out).mono ?_; rintro e w9 ⟨hb9, hh⟩; obtain ⟨rfl, _⟩ := hh.resolve_left (fun ⟨_, _, _, h⟩ => h a b ha hb' hab (by rw [hfe])))
      | (go_at_call 21; refine (refF_any 8 0 _).mono ?_; rintro e wF ⟨rfl, hbF⟩; have hbT := below_next (below_next hbB hb9) hbF; have tw' := two_next tw hbT; obtain ⟨p1, p2⟩ := cell_two tw'; have f1 := free_two tw' 0; have f2 := free_two tw' 1)
      | go_in)
    have tx := two_setN (x' := .int .i64 8) (y' := .int .i64 0) tw'
    have ty := two_far (o := 1) (u := .int .i64 0) (two_far (o := 0) (u := .int .i64 8) (two_next tf hbT) hwf) hwf
    have hB9 := ((below_next hB hbT).setCell (p := ⟨w2.heap.size, 0, none⟩) hw2 (.int .i64 8)).setCell (p := ⟨w2.heap.size, 1, none⟩) hw2 (.int .i64 0)
    generalize (wF.setCell ⟨w2.heap.size, 0, none⟩ (.int .i64 8)).setCell ⟨w2.heap.size, 1, none⟩ (.int .i64 0) = WX at tx ty hB9 ⊢
    clear p1 p2 f1 f2 v1 v2 v3 v4 tw' tw tf tg
    obtain ⟨v3, v4⟩ := cell_two tx
    obtain ⟨v5, v6⟩ := cell_two ty
    have heq := neq27 8 0
    go_wp2
    go_ret
    exact ⟨rfl, hB9⟩
  · have HNO : Hid _ := hno
    clear hno
    subst hc0'
    obtain ⟨po, pc, rfl⟩ := form_row hop
    obtain ⟨so, sc, rfl⟩ := form_row hoa
    have hpl := prs_len mm m
    have hEp : EdgesAt w3 (.slice po (prs mm m).length pc) (castL (prsN mm m)) := by
      rw [prsN_cast]
      refine edgesAt_row hop (fun e he => ?_) (by omega)
      unfold prs at he
      obtain ⟨v, hv, rfl⟩ := List.mem_map.1 he
      simp at hv
      have hu : (mm v).getD 0 ≤ 100 := by
        cases hmv : mm v with
        | none => simp
        | some u =>
          have := (hmat.lt _ _ hmv).2
          simp only [Option.getD_some]
          omega
      constructor
      · unfold I64; constructor <;> (simp only []; omega)
      · unfold I64; constructor <;> (simp only []; omega)
    have hNs : NumsAt w3 so (listN m S) := numsAt_own hoa
    replace hEp := hEp.below (below_alloc (Below.refl _ w3) (Obj.cells #[.int .i64 0, .int .i64 0] 27))
    replace hNs := hNs.below (below_alloc (Below.refl _ w3) (Obj.cells #[.int .i64 0, .int .i64 0] 27))
    replace tg := two_on tg hb (Obj.cells #[.int .i64 0, .int .i64 0] 27)
    replace to' := two_on to' hb (Obj.cells #[.int .i64 0, .int .i64 0] 27)
    replace tw := two_on tw hb (Obj.cells #[.int .i64 0, .int .i64 0] 27)
    have tf := two_new w3 (.int .i64 0) (.int .i64 0) 27
    replace hB := below_on hB hb (Obj.cells #[.int .i64 0, .int .i64 0] 27)
    replace hEg := hEg.on hb (Obj.cells #[.int .i64 0, .int .i64 0] 27)
    replace hEo := hEo.on hb (Obj.cells #[.int .i64 0, .int .i64 0] 27)
    obtain ⟨plen, hplen⟩ : ∃ k, k = (prs mm m).length := ⟨_, rfl⟩
    obtain ⟨L, hL⟩ : ∃ L, L = listN m S := ⟨_, rfl⟩
    have HEP : Hid _ := hEp
    rw [← hL] at hNs hlen ⊢
    have HNS : Hid _ := hNs
    have HMT : Hid _ := hmat
    have HCV : Hid _ := hcov
    rw [← hplen] at HEP hpl hlen ⊢
    rw [hlen]
    have HLN : Hid _ := hlen
    clear hlen
    have HPL : Hid _ := hplen
    have HL : Hid _ := hL
    generalize w3.alloc (Obj.cells #[.int .i64 0, .int .i64 0] 27) = W3 at tg to' tw tf hB hEg hEo HEP HNS ⊢
    clear hb y1 y2 hEp hNs hmat hop hoa hplen hL hcov
    go_upto_region 6 with (first
      | (go_at_call 10; refine (HBG.out _ hB).mono ?_; rintro e w6 ⟨rfl, hb6⟩; replace tg := two_next tg hb6; replace to' := two_next to' hb6; replace tf := two_next tf hb6; replace tw := two_next tw hb6; replace hB := below_next hB hb6; replace hEg := hEg.below hb6; replace hEo := hEo.below hb6; obtain ⟨a1, a2⟩ := cell_two tg; obtain ⟨a3, a4⟩ := cell_two to')
      | (go_at_call 11; refine (kept_true ((m : Int)) _ _ es _ hEo hEg).mono ?_; rintro e w7 ⟨rfl, hb7⟩))
    have hb67 := below_next hb6 hb7
    replace tg := two_next tg hb7
    replace tw := two_next tw hb7
    replace tf := two_next tf hb7
    replace hB := below_next hB hb7
    replace hEg := hEg.below hb7
    have hEp7 := EdgesAt.below HEP.out hb67
    have hNs7 := NumsAt.below HNS.out hb67
    clear a1 a2 a3 a4 to' hEo hb6 hb7 hb67 HEP HNS
    obtain ⟨v1, v2⟩ := cell_two tg
    obtain ⟨v3, v4⟩ := cell_two tw
    go_upto_region 10 with (first
      | (go_at_call 12; refine (HGR.out _ _ hEg).mono ?_; rintro e WB ⟨hbB, go', gc, rfl, hgrid⟩)
      | (go_at_call 20; refine (refSides_call m go' gc (hasB es) _ hgrid hm HSY.out R HR.out HFA.out).mono ?_; rintro e w9 ⟨hb9, hh⟩; obtain ⟨bs, rfl, _, _⟩ := hh.resolve_right (fun ⟨_, a, b, h1, h2, h3, h4⟩ => HNO.out a b h1 h2 h3 (par_eq HFA.out HR.out h1 h2 h3 h4)))
      | go_in)
    have hbT := below_next hbB hb9
    replace tg := two_next tg hbT
    replace tw := two_next tw hbT
    replace tf := two_next tf hbT
    replace hB := below_next hB hbT
    replace hEg := hEg.below hbT
    replace hEp7 := hEp7.below hbT
    replace hNs7 := hNs7.below hbT
    clear v1 v2 v3 v4 hbB hb9 hgrid hbT
    obtain ⟨v1, v2⟩ := cell_two tg
    obtain ⟨v3, v4⟩ := cell_two tw
    obtain ⟨v5, v6⟩ := cell_two tf
    have heq := neq27 0 0
    go_upto_region 15 with (first
      | (go_at_call 12; refine (HGR.out _ _ hEg).mono ?_; rintro e WC ⟨hbC, gq', gqc, rfl, hgr2⟩)
      | go_in)
    replace tg := two_next tg hbC
    replace hB := below_next hB hbC
    replace hEg := hEg.below hbC
    replace hEp7 := hEp7.below hbC
    replace hNs7 := hNs7.below hbC
    clear v1 v2 v3 v4 v5 v6 hbC tw tf heq
    have hmf := mform_prs HMT.out
    have hlt : ∀ x ∈ L, x < m := fun x hx => by rw [HL.out] at hx; exact (listN_mem.1 hx).1
    have hma : Calls Tryd.prog 13 #[.slice gq' m gqc, .slice po plen pc] WC (fun r w' => r = .returned (.bool true) ∧ Below WC.heap.size WC w') := matching_true hgr2 hEp7 hm (by rw [prsN_len, ← HPL.out]; omega) hmf
    have hri : ∀ W', Below WC.heap.size WC W' → Calls Tryd.prog 14 #[.slice so plen sc, .int .i64 (m : Int)] W' fun e w'' => e = .returned (.bool true) ∧ Below W'.heap.size W' w'' := fun W' hb => by
      rw [← HLN.out]
      have h1 := NumsAt.below hNs7 hb
      exact rising_true h1 (by rw [HLN.out]; omega) hlt (by rw [HL.out]; exact listN_rising m _)
    have HMA : Hid _ := hma
    have HRI : Hid _ := hri
    clear hma hri hmf hgr2 hEp7
    obtain ⟨v1, v2⟩ := cell_two tg
    go_upto_region 17 with (first
      | (go_at_call 13; refine Calls.mono HMA.out ?_; rintro e wx ⟨rfl, hbX⟩; have e1 := (cell_two (two_next tg hbX)).1)
      | (go_at_call 14; refine (HRI.out _ hbX).mono ?_; rintro e wy ⟨rfl, hbY⟩))
    have hbXY := below_next hbX hbY
    replace tg := two_next tg hbXY
    replace hB := below_next hB hbXY
    replace hEg := hEg.below hbXY
    replace hNs7 := hNs7.below hbXY
    clear v1 v2 hbX hbY hbXY e1 HMA HRI
    obtain ⟨v1, v2⟩ := cell_two tg
    have hmk := make44 m (by omega)
    have hr0 : RowB (wy.alloc (.cells (rep m (.bool false)) 4)) wy.heap.size m (fun _ => false) := rowB_rep (heap_alloc_new _ _)
    have hB0 : Below wy.heap.size wy (wy.alloc (.cells (rep m (.bool false)) 4)) := below_alloc (Below.refl _ _) _
    have HLT : Hid _ := hlt
    have HNS : Hid _ := hNs7
    have HEG : Hid _ := hEg
    clear hlt hNs7 hEg
    go_wp2
    have HR0 : Hid _ := hr0
    clear hr0 hmk v1 v2
    generalize wy.alloc (.cells (rep m (.bool false)) 4) = W0 at HR0 hB0 ⊢
    go_loopw [12] (fun i wr => ∃ k : Nat, k ≤ plen ∧ i = .int .i64 (k : Int) ∧ RowB wr wy.heap.size m (fun x => (L.take k).contains x) ∧ Below wy.heap.size wy wr) (fun i _ => plen - (numOf i).toNat)
    case atStart => exact ⟨0, Nat.zero_le _, rfl, RowB.congr HR0.out (fun j _ => by simp), hB0⟩
    case round =>
      obtain ⟨k, hk, rfl, hrow, hBr⟩ := hrel
      clear HR0 hB0
      by_cases hkl : k < plen
      · obtain ⟨x, hx?⟩ : ∃ x, L[k]? = some x := ⟨L[k]'(by rw [HLN.out]; exact hkl), List.getElem?_eq_getElem _⟩
        have hxm := HLT.out x (List.mem_of_getElem? hx?)
        obtain ⟨bL, rfl, cx0⟩ := HNS.out k x hx?
        have cx := (hBr.cell (by exact World.block_lt_of_cell? wy _ cx0)).trans cx0
        have cr := hrow.cell hxm
        have fr := hrow.free x
        have hrowN := (hrow.set x).congr (r := fun j => (L.take (k + 1)).contains j) (fun j _ => by
          obtain ⟨h1, h2⟩ := List.getElem?_eq_some_iff.1 hx?
          rw [List.take_succ_eq_append_getElem h1, h2]
          rw [Bool.eq_iff_iff]
          simp [or_comm])
        have hBN := hBr.setCell (p := ⟨wy.heap.size, x, none⟩) (Nat.le_refl _) (.bool true)
        have i1 : (0 : Int) ≤ (k : Int) := by omega
        have i2 : (k : Int) < (plen : Int) := by omega
        have i3 : (0 : Int) ≤ (x : Int) := by omega
        have i4 : (x : Int) < (m : Int) := by omega
        have HRN : Hid _ := hrowN
        clear hrow hrowN hx? cx0 hBr
        go_wp2
        go_roundw
        case rel => exact ⟨k + 1, by omega, by go_num, HRN.out, hBN⟩
        case measure => simp [numOf]; omega
      · have hke : L.length = k := by rw [HLN.out]; omega
        have i2 : ¬ (k : Int) < (plen : Int) := by omega
        have hrow2 : RowB wr wy.heap.size m S := hrow.congr (fun j hj => by
          rw [← hke, List.take_length, Bool.eq_iff_iff, HL.out]
          simp [listN, hj])
        have tg2 := two_next tg hBr
        have hEg2 := EdgesAt.below HEG.out hBr
        have hB2 := below_next hB hBr
        obtain ⟨_, _, e5, _, _, hcells⟩ := hEg2
        cases e5
        have HCE : Hid _ := hcells
        clear hrow hBr hcells
        go_wp2
        obtain ⟨Wz, hWz⟩ : ∃ Wz, Wz = wr := ⟨_, rfl⟩
        rw [← hWz] at hrow2 tg2 HCE hB2 ⊢
        clear hWz
        go_loopw [13] (fun i wx => ∃ k : Nat, k ≤ es.length ∧ i = .int .i64 (k : Int) ∧ wx = Wz) (fun i _ => es.length - (numOf i).toNat)
        case atStart => exact ⟨0, Nat.zero_le _, rfl, rfl⟩
        case round =>
          obtain ⟨q, hq, rfl, hwx⟩ := hrel
          have hwx' := hwx.symm
          subst hwx'
          obtain ⟨v1, v2⟩ := cell_two tg2
          by_cases hql : q < es.length
          · obtain ⟨bb, off, rfl, c0, c1⟩ := HCE.out q hql
            obtain ⟨⟨g1, g2, g3, g4⟩, _⟩ := HG.out es[q] (List.getElem_mem hql)
            obtain ⟨x, hx⟩ : ∃ x : Nat, es[q].1 = x := ⟨es[q].1.toNat, by omega⟩
            obtain ⟨y, hy⟩ : ∃ y : Nat, es[q].2 = y := ⟨es[q].2.toNat, by omega⟩
            rw [hx] at c0 g1 g2
            rw [hy] at c1 g3 g4
            have hxy : Ef m es x y := ⟨by omega, by omega, List.any_eq_true.2 ⟨es[q], List.getElem_mem hql, by rw [hx, hy]; simp⟩⟩
            have hor := HCV.out x y hxy
            have cx := hrow2.cell (j := x) (by omega)
            have cy := hrow2.cell (j := y) (by omega)
            have i1 : (0 : Int) ≤ (q : Int) := by omega
            have i2 : (q : Int) < (es.length : Int) := by omega
            cases hSx : S x with
            | true =>
              rw [hSx] at cx
              clear cy hor hxy hx hy hSx
              go_wp2
              go_roundw
              case rel => exact ⟨q + 1, by omega, by go_num, trivial⟩
              case measure => simp [numOf]; omega
            | false =>
              have hSy := hor.resolve_left (by rw [hSx]; simp)
              rw [hSx] at cx
              rw [hSy] at cy
              clear hor hxy hx hy hSx hSy
              go_wp2
              go_roundw
              case rel => exact ⟨q + 1, by omega, by go_num, trivial⟩
              case measure => simp [numOf]; omega
          · have i2 : ¬ (q : Int) < (es.length : Int) := by omega
            go_wp2
            go_ret
            exact ⟨rfl, hB2⟩
end Go.Proofs.YtenjkhgpfmfgmaaDoor
