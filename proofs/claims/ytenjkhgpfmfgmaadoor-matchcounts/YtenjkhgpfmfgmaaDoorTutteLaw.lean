/- The walk of MatchTutte: it answers true, and what was there stays; what its examples ask is a condition still. -/
import Derived.Deep.RegionHeld3
import Derived.Test.YtenjkhgpfmfgmaaDoorTutteM
import Derived.Test.YtenjkhgpfmfgmaaDoorWholeWalk
import Derived.Test.YtenjkhgpfmfgmaaDoorSame
import Derived.Test.YtenjkhgpfmfgmaaDoorOwn
namespace Go.Proofs.YtenjkhgpfmfgmaaDoor
open Go.RowKit Go.Maps
attribute [local go_sem ↓] Go.wp_at_zero Go.wp_at_succ

/-- The examples of the document come out right, from the world w on. -/
def BegunAt (w : World) : Prop := ∀ w', Below w.heap.size w w' → Calls Tryd.prog 10 #[] w' fun e w'' => e = .returned (.bool true) ∧ Below w'.heap.size w' w''

set_option maxRecDepth 20000 in
set_option maxHeartbeats 4000000 in
theorem tutteLaw_bad (n : Int) (ao : Option Addr) (cap : Nat) (es : List Pair) (w : World) (hE : EdgesAt w (.slice ao es.length cap) es) (hcap : es.length ≤ cap) (hbg : BegunAt w) {c d : Int} (hck : chk n es = (c, d)) (hc : c ≠ 0) :
    Calls Tryd.prog 3 #[.agg #[.int .i64 n, .slice ao es.length cap]] w fun e w' => e = .returned (.bool true) ∧ Below w.heap.size w w' := by
  have hc1 : (c == 0) = false := by simpa using hc
  have hgi := fun (w' : World) (v : Value) (h : EdgesAt w' v es) => most_bad n v es w' h hck hc
  have HCK : Hid _ := hck
  have H2 : Hid _ := hgi
  have HE : Hid _ := hE
  have HBG : Hid _ := hbg
  clear hck hgi hc hE hbg
  go_enter Tryd.func3, Tryd.ntmps3
  go_upto_region 2 with (go_at_call 7; refine (own_any (n) ao cap es _ ?_).mono ?_; exact EdgesAt.below HE.out (below_alloc (Below.refl _ _) _); rintro e w1 ⟨hb, oo, oc, rfl, hEo, hocap⟩)
  have tg := two_on (two_new w (.int .i64 (n)) (.slice ao es.length cap) 24) hb (Obj.cells #[.int .i64 (n), .slice oo es.length oc] 24)
  have to' := two_new w1 (.int .i64 (n)) (.slice oo es.length oc) 24
  have hB := below_on (below_alloc (Below.refl _ w) (Obj.cells #[.int .i64 (n), .slice ao es.length cap] 24)) hb (Obj.cells #[.int .i64 (n), .slice oo es.length oc] 24)
  have hEg := EdgesAt.below HE.out hB
  replace hEo := hEo.below (below_alloc (Below.refl _ w1) (Obj.cells #[.int .i64 (n), .slice oo es.length oc] 24))
  generalize w1.alloc (Obj.cells #[.int .i64 (n), .slice oo es.length oc] 24) = W1 at tg to' hB hEg hEo ⊢
  clear hb
  obtain ⟨y1, y2⟩ := cell_two tg
  go_upto_region 3 with (go_at_call 8; refine (refCheck_as hEg hcap HCK.out).mono ?_; rintro e w2 ⟨rfl, hb⟩)
  replace tg := two_on tg hb (Obj.cells #[.int .i64 c, .int .i64 d] 27)
  replace to' := two_on to' hb (Obj.cells #[.int .i64 c, .int .i64 d] 27)
  have tw := two_new w2 (.int .i64 c) (.int .i64 d) 27
  replace hB := below_on hB hb (Obj.cells #[.int .i64 c, .int .i64 d] 27)
  replace hEg := hEg.on hb (Obj.cells #[.int .i64 c, .int .i64 d] 27)
  replace hEo := hEo.on hb (Obj.cells #[.int .i64 c, .int .i64 d] 27)
  generalize w2.alloc (Obj.cells #[.int .i64 c, .int .i64 d] 27) = W2 at tg to' tw hB hEg hEo ⊢
  clear hb y1 y2
  obtain ⟨y1, y2⟩ := cell_two to'
  go_upto_region 4 with (go_at_call 9; refine (H2.out _ _ hEo).mono ?_; rintro e w3 ⟨rfl, hb⟩)
  replace tg := two_on tg hb (Obj.cells #[.int .i64 c, .int .i64 d] 27)
  replace to' := two_on to' hb (Obj.cells #[.int .i64 c, .int .i64 d] 27)
  replace tw := two_on tw hb (Obj.cells #[.int .i64 c, .int .i64 d] 27)
  have tf := two_new w3 (.int .i64 c) (.int .i64 d) 27
  replace hB := below_on hB hb (Obj.cells #[.int .i64 c, .int .i64 d] 27)
  replace hEg := hEg.on hb (Obj.cells #[.int .i64 c, .int .i64 d] 27)
  replace hEo := hEo.on hb (Obj.cells #[.int .i64 c, .int .i64 d] 27)
  generalize w3.alloc (Obj.cells #[.int .i64 c, .int .i64 d] 27) = W3 at tg to' tw tf hB hEg hEo ⊢
  clear hb y1 y2
  have heq := neq27 c d
  go_wp2_with (first
    | (go_at_call 10; refine (HBG.out _ hB).mono ?_; rintro e w6 ⟨rfl, hb6⟩; replace tg := two_next tg hb6; replace to' := two_next to' hb6; replace tf := two_next tf hb6; replace tw := two_next tw hb6; replace hB := below_next hB hb6; replace hEg := hEg.below hb6; replace hEo := hEo.below hb6; obtain ⟨a1, a2⟩ := cell_two tg; obtain ⟨a3, a4⟩ := cell_two to'; obtain ⟨a5, a6⟩ := cell_two tw; obtain ⟨a7, a8⟩ := cell_two tf)
    | (go_at_call 11; refine (kept_true (n) _ _ es _ hEo hEg).mono ?_; rintro e w7 ⟨rfl, hb7⟩; obtain ⟨d5, d6⟩ := cell_two (two_next tw hb7); obtain ⟨d7, d8⟩ := cell_two (two_next tf hb7); obtain ⟨d1, d2⟩ := cell_two (two_next tg hb7)))
  go_ret
  exact ⟨rfl, below_next hB hb7⟩

set_option maxRecDepth 20000 in
set_option maxHeartbeats 8000000 in
theorem tutteLaw_ok (m : Nat) (ao : Option Addr) (cap : Nat) (es : List Pair) (w : World) (hE : EdgesAt w (.slice ao es.length cap) es) (hcap : es.length ≤ cap) (hbg : BegunAt w) (hck : chk m es = (0, 0)) :
    Calls Tryd.prog 3 #[.agg #[.int .i64 (m : Int), .slice ao es.length cap]] w fun e w' => e = .returned (.bool true) ∧ Below w.heap.size w w' := by
  have hc0 : (chk m es).1 = 0 := by rw [hck]
  obtain ⟨_, hn0, hn1, hle, hgood⟩ := chk_good hc0
  have hm : m ≤ 100 := by omega
  have hgi := fun (w' : World) (o : Option Addr) (c : Nat) (h : EdgesAt w' (.slice o es.length c) es) => most_ok m o c es w' h hck
  have hgrid := fun (W : World) (v : Value) (h : EdgesAt W v es) => gridOf_any m v es W h hm hle hgood
  have HGR : Hid _ := hgrid
  have H2 : Hid _ := hgi
  have HCK : Hid _ := hck
  have HE : Hid _ := hE
  have HG : Hid _ := hgood
  have HBG : Hid _ := hbg
  clear hck hgi hE hc0 hn0 hn1 hgood hgrid hbg
  go_enter Tryd.func3, Tryd.ntmps3
  go_upto_region 2 with (go_at_call 7; refine (own_any ((m : Int)) ao cap es _ ?_).mono ?_; exact EdgesAt.below HE.out (below_alloc (Below.refl _ _) _); rintro e w1 ⟨hb, oo, oc, rfl, hEo, hocap⟩)
  have tg := two_on (two_new w (.int .i64 ((m : Int))) (.slice ao es.length cap) 24) hb (Obj.cells #[.int .i64 ((m : Int)), .slice oo es.length oc] 24)
  have to' := two_new w1 (.int .i64 ((m : Int))) (.slice oo es.length oc) 24
  have hB := below_on (below_alloc (Below.refl _ w) (Obj.cells #[.int .i64 ((m : Int)), .slice ao es.length cap] 24)) hb (Obj.cells #[.int .i64 ((m : Int)), .slice oo es.length oc] 24)
  have hEg := EdgesAt.below HE.out hB
  replace hEo := hEo.below (below_alloc (Below.refl _ w1) (Obj.cells #[.int .i64 ((m : Int)), .slice oo es.length oc] 24))
  generalize w1.alloc (Obj.cells #[.int .i64 ((m : Int)), .slice oo es.length oc] 24) = W1 at tg to' hB hEg hEo ⊢
  clear hb
  obtain ⟨y1, y2⟩ := cell_two tg
  go_upto_region 3 with (go_at_call 8; refine (refCheck_as hEg hcap HCK.out).mono ?_; rintro e w2 ⟨rfl, hb⟩)
  replace tg := two_on tg hb (Obj.cells #[.int .i64 0, .int .i64 0] 27)
  replace to' := two_on to' hb (Obj.cells #[.int .i64 0, .int .i64 0] 27)
  have tw := two_new w2 (.int .i64 0) (.int .i64 0) 27
  replace hB := below_on hB hb (Obj.cells #[.int .i64 0, .int .i64 0] 27)
  replace hEg := hEg.on hb (Obj.cells #[.int .i64 0, .int .i64 0] 27)
  replace hEo := hEo.on hb (Obj.cells #[.int .i64 0, .int .i64 0] 27)
  generalize w2.alloc (Obj.cells #[.int .i64 0, .int .i64 0] 27) = W2 at tg to' tw hB hEg hEo ⊢
  clear hb y1 y2
  obtain ⟨y1, y2⟩ := cell_two to'
  go_upto_region 4 with (go_at_call 9; refine (H2.out _ _ _ hEo).mono ?_; rintro e w3 ⟨pv, av, rfl, hb, mm, evs, Ods, ks, dB, nB, hmat, hknd, hop, hoa⟩)
  obtain ⟨po, pc, rfl⟩ := form_row hop
  obtain ⟨so, sc, rfl⟩ := form_row hoa
  have hpl := prs_len mm m
  have hal := listN_len m (fun x => !dB x && nB x)
  have hEp : EdgesAt w3 (.slice po (prs mm m).length pc) (castL (prsN mm m)) := by
    rw [prsN_cast]
    refine edgesAt_row hop (fun e he => ?_) (by omega)
    unfold prs at he
    obtain ⟨v, hv, rfl⟩ := List.mem_map.1 he
    simp at hv
    have hu : (mm v).getD 0 ≤ 100 := by
      cases hmv : mm v with
      | none => simp
      | some u =>
        have := (hmat.lt _ _ hmv).2
        simp only [Option.getD_some]
        omega
    constructor
    · unfold I64; constructor <;> (simp only []; omega)
    · unfold I64; constructor <;> (simp only []; omega)
  have hNs : NumsAt w3 so (listN m fun x => !dB x && nB x) := numsAt_own hoa
  replace hEp := hEp.below (below_alloc (Below.refl _ w3) (Obj.cells #[.int .i64 0, .int .i64 0] 27))
  replace hNs := hNs.below (below_alloc (Below.refl _ w3) (Obj.cells #[.int .i64 0, .int .i64 0] 27))
  replace tg := two_on tg hb (Obj.cells #[.int .i64 0, .int .i64 0] 27)
  replace to' := two_on to' hb (Obj.cells #[.int .i64 0, .int .i64 0] 27)
  replace tw := two_on tw hb (Obj.cells #[.int .i64 0, .int .i64 0] 27)
  have tf := two_new w3 (.int .i64 0) (.int .i64 0) 27
  replace hB := below_on hB hb (Obj.cells #[.int .i64 0, .int .i64 0] 27)
  replace hEg := hEg.on hb (Obj.cells #[.int .i64 0, .int .i64 0] 27)
  replace hEo := hEo.on hb (Obj.cells #[.int .i64 0, .int .i64 0] 27)
  obtain ⟨plen, hplen⟩ : ∃ k, k = (prs mm m).length := ⟨_, rfl⟩
  obtain ⟨slen, hslen⟩ : ∃ k, k = (listN m fun x => !dB x && nB x).length := ⟨_, rfl⟩
  have HEP : Hid _ := hEp
  have HNS : Hid _ := hNs
  have HMT : Hid _ := hmat
  have HKN : Hid _ := hknd
  rw [← hplen] at HEP hpl ⊢
  rw [← hslen] at hal ⊢
  have HPL : Hid _ := hplen
  have HSL : Hid _ := hslen
  generalize w3.alloc (Obj.cells #[.int .i64 0, .int .i64 0] 27) = W3 at tg to' tw tf hB hEg hEo HEP HNS ⊢
  clear hb y1 y2 hEp hNs hmat hknd hop hoa hplen hslen
  have heq := neq27 0 0
  go_upto_region 6 with (first
    | (go_at_call 10; refine (HBG.out _ hB).mono ?_; rintro e w6 ⟨rfl, hb6⟩; replace tg := two_next tg hb6; replace to' := two_next to' hb6; replace tf := two_next tf hb6; replace tw := two_next tw hb6; replace hB := below_next hB hb6; replace hEg := hEg.below hb6; replace hEo := hEo.below hb6; obtain ⟨a1, a2⟩ := cell_two tg; obtain ⟨a3, a4⟩ := cell_two to'; obtain ⟨a5, a6⟩ := cell_two tw; obtain ⟨a7, a8⟩ := cell_two tf)
    | (go_at_call 11; refine (kept_true ((m : Int)) _ _ es _ hEo hEg).mono ?_; rintro e w7 ⟨rfl, hb7⟩; obtain ⟨d5, d6⟩ := cell_two (two_next tw hb7); obtain ⟨d7, d8⟩ := cell_two (two_next tf hb7); obtain ⟨d1, d2⟩ := cell_two (two_next tg hb7)))
  have hb67 := below_next hb6 hb7
  replace tg := two_next tg hb7
  replace tw := two_next tw hb7
  replace hB := below_next hB hb7
  replace hEg := hEg.below hb7
  have hEp7 := EdgesAt.below HEP.out hb67
  have hNs7 := NumsAt.below HNS.out hb67
  clear a1 a2 a3 a4 a5 a6 a7 a8 d1 d2 d5 d6 d7 d8 tf to' hEo hb6 hb7 hb67 HEP HNS
  obtain ⟨v1, v2⟩ := cell_two tg
  obtain ⟨v3, v4⟩ := cell_two tw
  go_upto_region 9 with (first
    | (go_at_call 12; refine (HGR.out _ _ hEg).mono ?_; rintro e WB ⟨hbB, go', gc, rfl, hgrid⟩)
    | go_in)
  replace tg := two_next tg hbB
  replace hB := below_next hB hbB
  have hEpB := hEp7.below hbB
  have hNsB := hNs7.below hbB
  obtain ⟨bB, R, u1, u2, u3, u4, u5⟩ := tutte HMT.out (nbs_of HG.out hle) HKN.out
  have hmf := mform_prs HMT.out
  have hma : ∀ W', Below WB.heap.size WB W' → Calls Tryd.prog 13 #[.slice go' m gc, .slice po plen pc] W' fun e w'' => e = .returned (.bool true) ∧ Below W'.heap.size W' w'' := fun W' hb => matching_true (GridAt.below hgrid hb) (EdgesAt.below hEpB hb) hm (by rw [prsN_len, ← HPL.out]; omega) hmf
  have hri : ∀ W', Below WB.heap.size WB W' → Calls Tryd.prog 14 #[.slice so slen sc, .int .i64 (m : Int)] W' fun e w'' => e = .returned (.bool true) ∧ Below W'.heap.size W' w'' := fun W' hb => by
    rw [HSL.out]
    exact rising_true (NumsAt.below hNsB hb) (by rw [← HSL.out]; omega) (fun x hx => (listN_mem.1 hx).1) (listN_rising m _)
  have hod : ∀ W', Below WB.heap.size WB W' → Calls Tryd.prog 15 #[.slice go' m gc, .slice so slen sc] W' fun e w'' => e = .returned (.int .i64 (cnt m bB : Int)) ∧ Below W'.heap.size W' w'' := fun W' hb => by
    rw [HSL.out]
    by_cases h0 : m = 0
    · subst h0
      exact oddParts_zero
    · exact oddParts_call (GridAt.below hgrid hb) hm (by omega) (NumsAt.below hNsB hb) (by rw [← HSL.out]; omega) (fun x => listN_mem) u1 R u2 u3 u4
  have hcn : cnt m bB ≤ m := Nat.le_trans (List.length_filter_le _ _) (by simp)
  have hfin : (m : Int) - 2 * (plen : Int) = (cnt m bB : Int) - (slen : Int) := by
    rw [HPL.out, HSL.out]
    omega
  have hkeep : ∀ w', Below WB.heap.size WB w' → Below WB.heap.size WB w' ∧ w'.cell? ⟨w.heap.size, 0, none⟩ = some (.int .i64 (m : Int)) := fun w' hb => ⟨hb, (cell_two (two_next tg hb)).1⟩
  have HK : Hid _ := hkeep
  have HMA : Hid _ := hma
  have HRI : Hid _ := hri
  have HOD : Hid _ := hod
  obtain ⟨cn, hcnz⟩ : ∃ k, k = cnt m bB := ⟨_, rfl⟩
  rw [← hcnz] at HOD hfin hcn
  have r1 : IntKind.i64.wrap (2 * (plen : Int)) = 2 * (plen : Int) := Go.IntWalk.i64_in _ (by omega)
  have r2 : IntKind.i64.wrap ((m : Int) - 2 * (plen : Int)) = (m : Int) - 2 * (plen : Int) := Go.IntWalk.i64_in _ (by omega)
  have r3 : IntKind.i64.wrap ((cn : Int) - (slen : Int)) = (cn : Int) - (slen : Int) := Go.IntWalk.i64_in _ (by omega)
  have r4 : (((m : Int) - 2 * (plen : Int)) == ((cn : Int) - (slen : Int))) = true := by rw [hfin]; simp
  clear hma hri hod hkeep hmf u1 u2 u3 u4 u5 hfin hgrid hEpB hNsB hEp7 hNs7 v1 v2 v3 v4 hcnz hEg tw
  go_region_held3 (fun w' => Below WB.heap.size WB w' ∧ w'.cell? ⟨w.heap.size, 0, none⟩ = some (.int .i64 (m : Int)))
    (first | exact HK.out _ (Below.refl _ _).drew | exact HK.out _ hbx | exact HK.out _ hby | exact HK.out _ hbz | assumption | go_keep)
    ((first
      | (go_at_call 13; refine (HMA.out _ (Below.refl _ _).drew).mono ?_; rintro r wx ⟨rfl, hbX⟩; have hbx := (Below.refl WB.heap.size WB).drew.trans hbX)
      | (go_at_call 14; refine (HRI.out _ hbx).mono ?_; rintro r wy ⟨rfl, hbY⟩; have hby := below_next hbx hbY)
      | (go_at_call 15; refine (HOD.out _ hby).mono ?_; rintro r wz ⟨rfl, hbZ⟩; have hbz := below_next hby hbZ)))
  all_goals
    go_wp2
    go_ret
    exact ⟨rfl, below_next hB hbz⟩
end Go.Proofs.YtenjkhgpfmfgmaaDoor
