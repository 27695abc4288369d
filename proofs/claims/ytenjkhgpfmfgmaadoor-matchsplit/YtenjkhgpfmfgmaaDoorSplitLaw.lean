/- The walk of MatchSplit: it answers true, and what was there stays; what its examples ask is a condition still. -/
import Derived.Test.YtenjkhgpfmfgmaaDoorSplitC
import Derived.Test.YtenjkhgpfmfgmaaDoorNuW
import Derived.Test.YtenjkhgpfmfgmaaDoorTutteLaw
namespace Go.Proofs.YtenjkhgpfmfgmaaDoor
open Go.RowKit Go.Maps
attribute [local go_sem ↓] Go.wp_at_zero Go.wp_at_succ

theorem wrap_pow' {N : Nat} (hN : N ≤ 14) : wrap64 ((2 : Int) ^ N) = ((2 ^ N : Nat) : Int) := by
  have h1 : 2 ^ N ≤ 2 ^ 14 := Nat.pow_le_pow_right (by omega) hN
  have e : (2 : Int) ^ N = ((2 ^ N : Nat) : Int) := by push_cast; rfl
  rw [e]
  unfold wrap64
  generalize 2 ^ N = P at h1 ⊢
  omega
theorem Kn.block {N : Nat} {E : Nat → Nat → Prop} {w w' : World} {b : Nat} {F : Nat → Option Nat} (h : Kn N E w b F) (hb : w'.heap[b]? = w.heap[b]?) : Kn N E w' b F := ⟨h.far.block hb, h.ok⟩
/-- Has one of the nodes below u that are in D an edge with v? -/
def bsd (es : List Pair) (dB : Nat → Bool) (v u : Nat) : Bool := (List.range u).any fun z => dB z && hasB es z v
theorem bsd_succ (es : List Pair) (dB : Nat → Bool) (v u : Nat) : bsd es dB v (u + 1) = (bsd es dB v u || (dB u && hasB es u v)) := by
  unfold bsd
  rw [List.range_succ, List.any_append]
  simp

set_option maxRecDepth 20000 in
set_option maxHeartbeats 4000000 in
theorem splitLaw_bad (n : Int) (ao : Option Addr) (cap : Nat) (es : List Pair) (w : World) (hE : EdgesAt w (.slice ao es.length cap) es) (hcap : es.length ≤ cap) (hbg : BegunAt w) {c d : Int} (hck : chk n es = (c, d)) (hc : c ≠ 0) :
    Calls Tryd.prog 4 #[.agg #[.int .i64 n, .slice ao es.length cap]] w fun e w' => e = .returned (.bool true) ∧ Below w.heap.size w w' := by
  have hc1 : (c == 0) = false := by simpa using hc
  have hgi := fun (w' : World) (v : Value) (h : EdgesAt w' v es) => split_bad n v es w' h hck hc
  have HCK : Hid _ := hck
  have H2 : Hid _ := hgi
  have HE : Hid _ := hE
  have HBG : Hid _ := hbg
  clear hck hgi hc hE hbg
  go_enter Tryd.func4, Tryd.ntmps4
  go_upto_region 2 with (go_at_call 7; refine (own_any (n) ao cap es _ ?_).mono ?_; exact EdgesAt.below HE.out (below_alloc (Below.refl _ _) _); rintro e w1 ⟨hb, oo, oc, rfl, hEo, hocap⟩)
  have tg := two_on (two_new w (.int .i64 (n)) (.slice ao es.length cap) 24) hb (Obj.cells #[.int .i64 (n), .slice oo es.length oc] 24)
  have to' := two_new w1 (.int .i64 (n)) (.slice oo es.length oc) 24
  have hB := below_on (below_alloc (Below.refl _ w) (Obj.cells #[.int .i64 (n), .slice ao es.length cap] 24)) hb (Obj.cells #[.int .i64 (n), .slice oo es.length oc] 24)
  have hEg := EdgesAt.below HE.out hB
  replace hEo := hEo.below (below_alloc (Below.refl _ w1) (Obj.cells #[.int .i64 (n), .slice oo es.length oc] 24))
  generalize w1.alloc (Obj.cells #[.int .i64 (n), .slice oo es.length oc] 24) = W1 at tg to' hB hEg hEo ⊢
  clear hb
  obtain ⟨y1, y2⟩ := cell_two tg
  go_upto_region 3 with (go_at_call 8; refine (refCheck_as hEg hcap HCK.out).mono ?_; rintro e w2 ⟨rfl, hb⟩)
  replace tg := two_on tg hb (Obj.cells #[.int .i64 c, .int .i64 d] 27)
  replace to' := two_on to' hb (Obj.cells #[.int .i64 c, .int .i64 d] 27)
  have tw := two_new w2 (.int .i64 c) (.int .i64 d) 27
  replace hB := below_on hB hb (Obj.cells #[.int .i64 c, .int .i64 d] 27)
  replace hEg := hEg.on hb (Obj.cells #[.int .i64 c, .int .i64 d] 27)
  replace hEo := hEo.on hb (Obj.cells #[.int .i64 c, .int .i64 d] 27)
  generalize w2.alloc (Obj.cells #[.int .i64 c, .int .i64 d] 27) = W2 at tg to' tw hB hEg hEo ⊢
  clear hb y1 y2
  obtain ⟨y1, y2⟩ := cell_two to'
  go_upto_region 4 with (go_at_call 16; refine (H2.out _ _ hEo).mono ?_; rintro e w3 ⟨rfl, hb⟩)
  replace tg := two_on tg hb (Obj.cells #[.int .i64 c, .int .i64 d] 27)
  replace to' := two_on to' hb (Obj.cells #[.int .i64 c, .int .i64 d] 27)
  replace tw := two_on tw hb (Obj.cells #[.int .i64 c, .int .i64 d] 27)
  have tf := two_new w3 (.int .i64 c) (.int .i64 d) 27
  replace hB := below_on hB hb (Obj.cells #[.int .i64 c, .int .i64 d] 27)
  replace hEg := hEg.on hb (Obj.cells #[.int .i64 c, .int .i64 d] 27)
  replace hEo := hEo.on hb (Obj.cells #[.int .i64 c, .int .i64 d] 27)
  generalize w3.alloc (Obj.cells #[.int .i64 c, .int .i64 d] 27) = W3 at tg to' tw tf hB hEg hEo ⊢
  clear hb y1 y2
  have heq := neq27 c d
  go_wp2_with (first
    | (go_at_call 10; refine (HBG.out _ hB).mono ?_; rintro e w6 ⟨rfl, hb6⟩; replace tg := two_next tg hb6; replace to' := two_next to' hb6; replace tf := two_next tf hb6; replace tw := two_next tw hb6; replace hB := below_next hB hb6; replace hEg := hEg.below hb6; replace hEo := hEo.below hb6; obtain ⟨a1, a2⟩ := cell_two tg; obtain ⟨a3, a4⟩ := cell_two to'; obtain ⟨a5, a6⟩ := cell_two tw; obtain ⟨a7, a8⟩ := cell_two tf)
    | (go_at_call 11; refine (kept_true (n) _ _ es _ hEo hEg).mono ?_; rintro e w7 ⟨rfl, hb7⟩; obtain ⟨d5, d6⟩ := cell_two (two_next tw hb7); obtain ⟨d7, d8⟩ := cell_two (two_next tf hb7); obtain ⟨d1, d2⟩ := cell_two (two_next tg hb7)))
  go_ret
  exact ⟨rfl, below_next hB hb7⟩

set_option maxRecDepth 20000 in
set_option maxHeartbeats 8000000 in
theorem splitLaw_ok (m : Nat) (ao : Option Addr) (cap : Nat) (es : List Pair) (w : World) (hE : EdgesAt w (.slice ao es.length cap) es) (hcap : es.length ≤ cap) (hbg : BegunAt w) (hck : chk m es = (0, 0)) :
    Calls Tryd.prog 4 #[.agg #[.int .i64 (m : Int), .slice ao es.length cap]] w fun e w' => e = .returned (.bool true) ∧ Below w.heap.size w w' := by
  have hc0 : (chk m es).1 = 0 := by rw [hck]
  obtain ⟨_, hn0, hn1, hle, hgood⟩ := chk_good hc0
  have hm : m ≤ 100 := by omega
  have hgi := fun (w' : World) (o : Option Addr) (c : Nat) (h : EdgesAt w' (.slice o es.length c) es) => split_ok m o c es w' h hck
  have hgrid := fun (W : World) (v : Value) (h : EdgesAt W v es) => gridOf_any m v es W h hm hle hgood
  have HGR : Hid _ := hgrid
  have H2 : Hid _ := hgi
  have HCK : Hid _ := hck
  have HE : Hid _ := hE
  have HG : Hid _ := hgood
  have HBG : Hid _ := hbg
  clear hck hgi hE hc0 hn0 hn1 hgood hgrid hbg
  go_enter Tryd.func4, Tryd.ntmps4
  go_upto_region 2 with (go_at_call 7; refine (own_any ((m : Int)) ao cap es _ ?_).mono ?_; exact EdgesAt.below HE.out (below_alloc (Below.refl _ _) _); rintro e w1 ⟨hb, oo, oc, rfl, hEo, hocap⟩)
  have tg := two_on (two_new w (.int .i64 ((m : Int))) (.slice ao es.length cap) 24) hb (Obj.cells #[.int .i64 ((m : Int)), .slice oo es.length oc] 24)
  have to' := two_new w1 (.int .i64 ((m : Int))) (.slice oo es.length oc) 24
  have hB := below_on (below_alloc (Below.refl _ w) (Obj.cells #[.int .i64 ((m : Int)), .slice ao es.length cap] 24)) hb (Obj.cells #[.int .i64 ((m : Int)), .slice oo es.length oc] 24)
  have hEg := EdgesAt.below HE.out hB
  replace hEo := hEo.below (below_alloc (Below.refl _ w1) (Obj.cells #[.int .i64 ((m : Int)), .slice oo es.length oc] 24))
  generalize w1.alloc (Obj.cells #[.int .i64 ((m : Int)), .slice oo es.length oc] 24) = W1 at tg to' hB hEg hEo ⊢
  clear hb
  obtain ⟨y1, y2⟩ := cell_two tg
  go_upto_region 3 with (go_at_call 8; refine (refCheck_as hEg hcap HCK.out).mono ?_; rintro e w2 ⟨rfl, hb⟩)
  replace tg := two_on tg hb (Obj.cells #[.int .i64 0, .int .i64 0] 27)
  replace to' := two_on to' hb (Obj.cells #[.int .i64 0, .int .i64 0] 27)
  have tw := two_new w2 (.int .i64 0) (.int .i64 0) 27
  replace hB := below_on hB hb (Obj.cells #[.int .i64 0, .int .i64 0] 27)
  replace hEg := hEg.on hb (Obj.cells #[.int .i64 0, .int .i64 0] 27)
  replace hEo := hEo.on hb (Obj.cells #[.int .i64 0, .int .i64 0] 27)
  generalize w2.alloc (Obj.cells #[.int .i64 0, .int .i64 0] 27) = W2 at tg to' tw hB hEg hEo ⊢
  clear hb y1 y2
  obtain ⟨y1, y2⟩ := cell_two to'
  go_upto_region 4 with (go_at_call 16; refine (H2.out _ _ _ hEo).mono ?_; rintro e w3 ⟨dv, av, cv, rfl, hb, mm, evs, Ods, ks, dB, nB, hmat, hknd, hod, hoa, hoc⟩)
  obtain ⟨aB, haB⟩ : ∃ aB : Nat → Bool, aB = fun x => !dB x && nB x := ⟨_, rfl⟩
  obtain ⟨cB, hcB⟩ : ∃ cB : Nat → Bool, cB = fun x => !dB x && !nB x := ⟨_, rfl⟩
  rw [← haB] at hoa
  rw [← hcB] at hoc
  have lsm : ∀ p : Nat → Bool, ∀ x ∈ listN m p, x ≤ 1000000 := fun p x hx => by have := (listN_mem.1 hx).1; omega
  have lsl : ∀ p : Nat → Bool, (listN m p).length ≤ 1000000 := fun p => by have := listN_len m p; omega
  have hId : IntsAt (w3.alloc (Obj.cells #[.int .i64 0, .int .i64 0] 27)) dv ((listN m dB).map fun (x : Nat) => (x : Int)) := (intsAt_q hod (lsm _) (lsl _)).below (below_alloc (Below.refl _ w3) _)
  have hIa : IntsAt (w3.alloc (Obj.cells #[.int .i64 0, .int .i64 0] 27)) av ((listN m aB).map fun (x : Nat) => (x : Int)) := (intsAt_q hoa (lsm _) (lsl _)).below (below_alloc (Below.refl _ w3) _)
  have hIc : IntsAt (w3.alloc (Obj.cells #[.int .i64 0, .int .i64 0] 27)) cv ((listN m cB).map fun (x : Nat) => (x : Int)) := (intsAt_q hoc (lsm _) (lsl _)).below (below_alloc (Below.refl _ w3) _)
  obtain ⟨do', dc, rfl⟩ := form_row hod
  obtain ⟨ao', ac, rfl⟩ := form_row hoa
  obtain ⟨co', cc, rfl⟩ := form_row hoc
  replace tg := two_on tg hb (Obj.cells #[.int .i64 0, .int .i64 0] 27)
  replace to' := two_on to' hb (Obj.cells #[.int .i64 0, .int .i64 0] 27)
  replace tw := two_on tw hb (Obj.cells #[.int .i64 0, .int .i64 0] 27)
  have tf := two_new w3 (.int .i64 0) (.int .i64 0) 27
  replace hB := below_on hB hb (Obj.cells #[.int .i64 0, .int .i64 0] 27)
  replace hEg := hEg.on hb (Obj.cells #[.int .i64 0, .int .i64 0] 27)
  replace hEo := hEo.on hb (Obj.cells #[.int .i64 0, .int .i64 0] 27)
  have HID : Hid _ := And.intro hId (And.intro hIa hIc)
  have HMT : Hid _ := hmat
  have HKN : Hid _ := hknd
  have HAB : Hid _ := haB
  have HCB : Hid _ := hcB
  have HLM : Hid _ := And.intro lsm lsl
  obtain ⟨ld, hld⟩ : ∃ k, k = (listN m dB).length := ⟨_, rfl⟩
  obtain ⟨la, hla⟩ : ∃ k, k = (listN m aB).length := ⟨_, rfl⟩
  obtain ⟨lc, hlc⟩ : ∃ k, k = (listN m cB).length := ⟨_, rfl⟩
  rw [← hld, ← hla, ← hlc] at HID ⊢
  generalize w3.alloc (Obj.cells #[.int .i64 0, .int .i64 0] 27) = W3 at tg to' tw tf hB hEg hEo HID ⊢
  clear hb y1 y2 hId hIa hIc hmat hknd hod hoa hoc haB hcB lsm lsl hld hla hlc
  have heq := neq27 0 0
  go_upto_region 8 with (first
    | (go_at_call 10; refine (HBG.out _ hB).mono ?_; rintro e w6 ⟨rfl, hb6⟩; replace tg := two_next tg hb6; replace to' := two_next to' hb6; replace tf := two_next tf hb6; replace tw := two_next tw hb6; replace hB := below_next hB hb6; replace hEg := hEg.below hb6; replace hEo := hEo.below hb6; obtain ⟨a1, a2⟩ := cell_two tg; obtain ⟨a3, a4⟩ := cell_two to'; obtain ⟨a5, a6⟩ := cell_two tw; obtain ⟨a7, a8⟩ := cell_two tf)
    | (go_at_call 11; refine (kept_true ((m : Int)) _ _ es _ hEo hEg).mono ?_; rintro e w7 ⟨rfl, hb7⟩; obtain ⟨d5, d6⟩ := cell_two (two_next tw hb7)))
  have hb67 := below_next hb6 hb7
  replace tg := two_next tg hb7
  replace hB := below_next hB hb7
  replace hEg := hEg.below hb7
  have hI7 := And.intro (IntsAt.below HID.out.1 hb67) (And.intro (IntsAt.below HID.out.2.1 hb67) (IntsAt.below HID.out.2.2 hb67))
  clear a1 a2 a3 a4 a5 a6 a7 a8 d5 d6 tf tw to' hEo hb6 hb7 hb67 HID
  obtain ⟨v1, v2⟩ := cell_two tg
  by_cases hm14 : 14 < m
  · have q1 : (14 : Int) < (m : Int) := by omega
    clear hI7
    go_wp2
    go_ret
    exact ⟨rfl, hB⟩
  have hm14' : m ≤ 14 := by omega
  have q1 : ¬ (14 : Int) < (m : Int) := by omega
  have HI7 : Hid _ := hI7
  clear hI7 hm14
  go_upto_region 11 with (first
    | (go_at_call 12; refine (HGR.out _ _ hEg).mono ?_; rintro e WB ⟨hbB, go', gc, rfl, hgrid⟩)
    | go_in)
  replace tg := two_next tg hbB
  replace hB := below_next hB hbB
  have hIB := And.intro (IntsAt.below HI7.out.1 hbB) (And.intro (IntsAt.below HI7.out.2.1 hbB) (IntsAt.below HI7.out.2.2 hbB))
  have HIB : Hid _ := hIB
  have HGD : Hid (GridAt WB (.slice go' m gc) m (hasB es)) := hgrid
  clear hIB HI7 hgrid v1 v2 hbB hEg
  obtain ⟨v1, v2⟩ := cell_two (two_alloc tg (.map #[] 0))
  have v3 := (cell_two tg).1
  have hmm := @run_makeMap Tryd.prog
  have hmk := make44 m (by omega)
  obtain ⟨P, hP⟩ : ∃ P, P = 2 ^ m := ⟨_, rfl⟩
  have hwp := wrap_pow' hm14'
  have hP0 := Nat.two_pow_pos m
  have hPle : 2 ^ m ≤ 2 ^ 14 := Nat.pow_le_pow_right (by omega) hm14'
  rw [← hP] at hwp hP0 hPle
  obtain ⟨AL, hAL⟩ : ∃ A, A = P - 1 := ⟨_, rfl⟩
  have hwa : wrap64 ((P : Int) - 1) = (AL : Int) := by unfold wrap64; omega
  have hALb : ∀ z, AL.testBit z = decide (z < m) := fun z => by rw [hAL, hP]; exact Nat.testBit_two_pow_sub_one ..
  have hALl : AL < 2 ^ m := by rw [← hP]; omega
  have hAL14 : AL < 16384 := by omega
  have HALB : Hid _ := hALb
  have HALL : Hid _ := hALl
  have hr0 : RowB ((WB.alloc (.map #[] 0)).alloc (.cells (rep m (.bool false)) 4)) (WB.heap.size + 1) m (fun _ => false) := rowB_rep (by have := heap_alloc_new (WB.alloc (.map #[] 0)) (.cells (rep m (.bool false)) 4); simpa using this)
  have hf0 : FarAt ((WB.alloc (.map #[] 0)).alloc (.cells (rep m (.bool false)) 4)) WB.heap.size 16384 (fun _ => none) := (farAt_made WB 16384).block ((below_alloc (Below.refl _ (WB.alloc (.map #[] 0))) _).block _ (by simp))
  have hk0 : Kn m (Ef m es) ((WB.alloc (.map #[] 0)).alloc (.cells (rep m (.bool false)) 4)) WB.heap.size (fun _ => none) := ⟨hf0, fun _ _ h => by cases h⟩
  have hB0 : Below WB.heap.size WB ((WB.alloc (.map #[] 0)).alloc (.cells (rep m (.bool false)) 4)) := below_alloc (below_alloc (Below.refl _ _) _) _
  have HR0 : Hid _ := hr0
  have HK0 : Hid _ := hk0
  clear hr0 hf0 hk0 hALb hALl hAL hP hPle hP0
  go_wp2
  clear hmk hmm v1 v2 v3
  generalize (WB.alloc (.map #[] 0)).alloc (.cells (rep m (.bool false)) 4) = W0 at HR0 HK0 hB0 ⊢
  go_loopw [13] (fun i wx => ∃ (v : Nat) (F : Nat → Option Nat), v ≤ m ∧ i = .int .i64 (v : Int) ∧ RowB wx (WB.heap.size + 1) m (fun z => decide (z < v) && dB z) ∧ Kn m (Ef m es) wx WB.heap.size F ∧ Below WB.heap.size WB wx) (fun i _ => m - (numOf i).toNat)
  case atStart => exact ⟨0, _, Nat.zero_le _, rfl, RowB.congr HR0.out (fun j _ => by simp), HK0.out, hB0⟩
  case round =>
    obtain ⟨v, F, hv, rfl, hrow, hK, hBx⟩ := hrel
    clear HR0 HK0 hB0
    obtain ⟨v1, v2⟩ := cell_two (two_next tg hBx)
    have hrl := hrow.lt
    by_cases hvm : v < m
    · have i1 : (0 : Int) ≤ (v : Int) := by omega
      have i2 : (v : Int) < (m : Int) := by omega
      obtain ⟨Pv, hPv⟩ : ∃ P, P = 2 ^ v := ⟨_, rfl⟩
      have hwv := wrap_pow hvm hm14'
      have hbv : AL.testBit v = true := by rw [HALB.out]; simpa using hvm
      have hle' := bit_le hbv
      have hout := bit_out hbv
      rw [← hPv] at hwv hle' hout
      obtain ⟨A1, hA1⟩ : ∃ A1, A1 = AL - Pv := ⟨_, rfl⟩
      have hsub : wrap64 ((AL : Int) - (Pv : Int)) = (A1 : Int) := by rw [hA1]; exact wrap_sub hle' hAL14
      rw [← hA1] at hout
      have hA1l : A1 ≤ AL := by rw [hA1]; exact Nat.sub_le _ _
      have hGx := GridAt.below HGD.out hBx
      have hnb := nbs_of HG.out hle
      have HC1 : Hid _ := nu_call (b := WB.heap.size) hm14' hnb (AL + 1) A1 (Nat.lt_succ_of_le hA1l) (Nat.lt_of_le_of_lt hA1l HALL.out) wr F hGx hK
      have HC2 : Hid (∀ (W' : World) (F' : Nat → Option Nat), Turns (fun k => k = WB.heap.size) wr W' → Kn m (Ef m es) W' WB.heap.size F' → Calls Tryd.prog 17 #[.slice go' m gc, .int .i64 (AL : Int), .map (some WB.heap.size)] W' fun r w' => ∃ (d : Nat) (F'' : Nat → Option Nat), r = .returned (.int .i64 (d : Int)) ∧ IsNu m (Ef m es) AL.testBit d ∧ Kn m (Ef m es) w' WB.heap.size F'' ∧ Turns (fun k => k = WB.heap.size) W' w') := fun W' F' ht hk => nu_call (b := WB.heap.size) hm14' hnb (AL + 1) AL (Nat.lt_succ_self _) HALL.out W' F' (by
        have hB' := ht.below hBx hBx.size (fun k e => by omega)
        exact GridAt.below HGD.out hB') hk
      have HOU : Hid _ := hout
      have HNB : Hid _ := hnb
      have HKK : Hid _ := hK
      have HRW : Hid _ := hrow
      clear hbv hle' hout hA1 hA1l hPv hGx hnb hK hrow
      have HBQ : Hid (∀ d1 d2 : Nat, IsNu m (Ef m es) A1.testBit d1 → IsNu m (Ef m es) AL.testBit d2 → ((d1 : Int) == (d2 : Int)) = dB v) := fun d1 d2 h1 h2 => by
        have hiff := HKN.out.gal.split HMT.out HNB.out.sym HNB.out.irr HNB.out.lt (v := v) (s := AL.testBit) (s' := A1.testBit) (fun z hz => by rw [HALB.out]; simpa using hz) (fun z hz => by rw [HOU.out]; unfold outB; rw [HALB.out]; simp [hz]) hvm h2 h1
        rw [Bool.eq_iff_iff, HKN.out.d v, ← hiff]
        simp
        omega
      go_upto_region 16 with (first
        | (go_at_call 17; first
            | (have hh := hT1; clear hh; refine Calls.mono (HC2.out _ _ hT1 hK1) ?_; rintro e W5 ⟨d2, F2, rfl, hn2, hK2, hT2⟩; have hbq := HBQ.out d1 d2 HN1.out hn2; have hT12 := hT1.trans hT2; have hrow5 := RowB.turns HRW.out hT12 (by omega); have fr := hrow5.free v; have cr := hrow5.cell hvm; clear hn2)
            | (refine Calls.mono HC1.out ?_; rintro e W4 ⟨d1, F1, rfl, hn1, hK1, hT1⟩; have HN1 : Hid _ := hn1; clear hn1))
        | go_in)
      have hrowN := (hrow5.put v (dB v)).congr (r := fun z => decide (z < v + 1) && dB z) (fun j _ => by
        by_cases e : j = v
        · subst e; simp
        · rw [if_neg e]
          have : decide (j < v + 1) = decide (j < v) := by rw [decide_eq_decide]; omega
          rw [this])
      have hKN : Kn m (Ef m es) (W5.setCell ⟨WB.heap.size + 1, v, none⟩ (.bool (dB v))) WB.heap.size F2 := hK2.block (Below.heap_setCell _ _ _ _ (by simp))
      have hBN := (hT12.below hBx hBx.size (fun k e => by omega)).setCell (p := ⟨WB.heap.size + 1, v, none⟩) (by simp) (.bool (dB v))
      have HRN : Hid _ := hrowN
      have HKNN : Hid _ := hKN
      clear hrow5 hrowN hKN hK2 hK1 hT1 hT2 hT12 fr cr hBx HC1 HC2 HBQ v1 v2 hbq
      generalize W5.setCell ⟨WB.heap.size + 1, v, none⟩ (.bool (dB v)) = W6 at HRN HKNN hBN ⊢
      go_wp2
      go_roundw
      case rel => exact ⟨v + 1, F2, by omega, by go_num, HRN.out, HKNN.out, hBN⟩
      case measure => simp [numOf]; omega
    · have hve : m = v := by omega
      have i2 : ¬ (v : Int) < (m : Int) := by omega
      have hrow2 : RowB wr (WB.heap.size + 1) m dB := hrow.congr (fun j hj => by simp; omega)
      have tgz := two_next tg hBx
      have hBz := below_next hB hBx
      have hGz : GridAt wr (.slice go' m gc) m (hasB es) := GridAt.below HGD.out hBx
      have hIz := And.intro (IntsAt.below HIB.out.1 hBx) (And.intro (IntsAt.below HIB.out.2.1 hBx) (IntsAt.below HIB.out.2.2 hBx))
      obtain ⟨go2, gc2, eg, hgz⟩ := hGz
      cases eg
      have HGZ : Hid _ := hgz
      have HIZ : Hid _ := hIz
      have HRZ : Hid _ := hrow2
      clear hrow hrow2 hK hgz hIz hBx hve
      obtain ⟨Wz, hWz⟩ : ∃ Wz, Wz = wr := ⟨_, rfl⟩
      rw [← hWz] at tgz hBz HGZ HIZ HRZ v1 v2 ⊢
      clear hWz
      go_wp2
      go_loopw [14, 15, 16, 17] (fun s2 s3 s4 i wx => ∃ j : Nat, j ≤ m ∧ i = .int .i64 (j : Int) ∧ Thr wx Wz.heap.size s2 s3 s4 (listN j dB) (listN j aB) (listN j cB) ∧ Below Wz.heap.size Wz wx) (fun _ _ _ i _ => m - (numOf i).toNat)
      case atStart => exact ⟨0, Nat.zero_le _, rfl, ⟨World.ownsRow_nil _ _ _ _, World.ownsRow_nil _ _ _ _, World.ownsRow_nil _ _ _ _, fun k h => by simp [Value.ownBlock] at h, fun k h => by simp [Value.ownBlock] at h, fun k h => by simp [Value.ownBlock] at h⟩, Below.refl _ _⟩
      case round =>
        obtain ⟨j, hj, rfl, hthr, hBr⟩ := hrel
        obtain ⟨xo, xc, rfl⟩ := form_row hthr.oa
        obtain ⟨yo, yc, rfl⟩ := form_row hthr.ob
        obtain ⟨zo, zc, rfl⟩ := form_row hthr.oc
        clear v1 v2
        obtain ⟨v1, v2⟩ := cell_two (two_next tgz hBr)
        by_cases hjm : j < m
        · have i1 : (0 : Int) ≤ (j : Int) := by omega
          have i2 : (j : Int) < (m : Int) := by omega
          have l1 := listN_len j dB
          have l2 := listN_len j aB
          have l3 := listN_len j cB
          have hbz := hBr.size
          have hrowx : RowB wr (WB.heap.size + 1) m dB := RowB.block HRZ.out (hBr.block _ (RowB.lt HRZ.out))
          have cj := hrowx.cell hjm
          have hoa := hthr.oa
          have hob := hthr.ob
          have hoc := hthr.oc
          have HT0 : Hid _ := hthr
          have HT1 : Hid _ := hthr.rot
          have HT2 : Hid _ := hthr.rot.rot
          have HRX : Hid _ := hrowx
          clear hthr hrowx
          obtain ⟨Wy, hWy⟩ : ∃ Wy, Wy = wr := ⟨_, rfl⟩
          rw [← hWy] at hBr HRX cj hoa hob hoc HT0 HT1 HT2 hbz v1 v2 ⊢
          clear hWy
          go_wp2
          go_loopw [18, 19] (fun s18 i wy => ∃ u : Nat, u ≤ m ∧ i = .int .i64 (u : Int) ∧ s18 = .bool (bsd es dB j u) ∧ wy = Wy) (fun _ i _ => m - (numOf i).toNat)
          case atStart => exact ⟨0, Nat.zero_le _, rfl, by simp [bsd], rfl⟩
          case round =>
            obtain ⟨u, hu, rfl, rfl, hwy⟩ := hrel
            have hwy' := hwy.symm
            subst hwy'
            by_cases hum : u < m
            · have k1 : (0 : Int) ≤ (u : Int) := by omega
              have k2 : (u : Int) < (m : Int) := by omega
              obtain ⟨gg, gb, hgo, g0w, g1w⟩ := HGZ.out u hum
              have g0 := (hBr.cell (by exact World.block_lt_of_cell? Wz _ g0w)).trans g0w
              have g1 := (hBr.cell (by exact World.block_lt_of_cell? Wz _ (g1w j hjm))).trans (g1w j hjm)
              have cu := RowB.cell HRX.out hum
              have hbs := bsd_succ es dB j u
              subst hgo
              cases hbb : bsd es dB j u with
              | true =>
                have hbs' : bsd es dB j (u + 1) = true := by rw [hbs, hbb]; rfl
                have HBS : Hid _ := hbs'
                clear hbs hbs' hbb g0w g1w
                go_wp2
                go_roundw
                case rel => exact ⟨u + 1, by omega, by go_num, by rw [HBS.out], trivial⟩
                case measure => simp [numOf]; omega
              | false =>
                cases hdu : dB u with
                | false =>
                  have hbs' : bsd es dB j (u + 1) = false := by rw [hbs, hbb, hdu]; rfl
                  have HBS : Hid _ := hbs'
                  rw [hdu] at cu
                  clear hbs hbs' hbb g0w g1w hdu
                  go_wp2
                  go_roundw
                  case rel => exact ⟨u + 1, by omega, by go_num, by rw [HBS.out], trivial⟩
                  case measure => simp [numOf]; omega
                | true =>
                  cases hpu : hasB es u j with
                  | false =>
                    have hbs' : bsd es dB j (u + 1) = false := by rw [hbs, hbb, hdu, hpu]; rfl
                    have HBS : Hid _ := hbs'
                    rw [hdu] at cu
                    rw [hpu] at g1
                    clear hbs hbs' hbb g0w g1w hdu hpu
                    go_wp2
                    go_roundw
                    case rel => exact ⟨u + 1, by omega, by go_num, by rw [HBS.out], trivial⟩
                    case measure => simp [numOf]; omega
                  | true =>
                    have hbs' : bsd es dB j (u + 1) = true := by rw [hbs, hbb, hdu, hpu]; rfl
                    have HBS : Hid _ := hbs'
                    rw [hdu] at cu
                    rw [hpu] at g1
                    clear hbs hbs' hbb g0w g1w hdu hpu
                    go_wp2
                    go_roundw
                    case rel => exact ⟨u + 1, by omega, by go_num, by rw [HBS.out], trivial⟩
                    case measure => simp [numOf]; omega
            · have hue : u = m := by omega
              subst hue
              have k2 : ¬ (u : Int) < (u : Int) := by omega
              have hbn : bsd es dB j u = nB j := by
                rw [Bool.eq_iff_iff, HKN.out.n j]
                unfold bsd
                rw [List.any_eq_true]
                constructor
                · rintro ⟨z, hz, hzz⟩
                  simp only [Bool.and_eq_true] at hzz
                  exact ⟨z, (HKN.out.d z).1 hzz.1, by simpa using hz, hjm, hzz.2⟩
                · rintro ⟨z, hz, hzE⟩
                  exact ⟨z, by simpa using hzE.1, by simp only [Bool.and_eq_true]; exact ⟨(HKN.out.d z).2 hz, hzE.2.2⟩⟩
              rw [hbn]
              clear hbn
              cases hd : dB j
              · cases hn : nB j
                · rw [hd] at cj
                  have HE1 : Hid _ := (show listN (j + 1) dB = listN j dB by rw [listN_succ, hd]; simp)
                  have HE2 : Hid _ := (show listN (j + 1) aB = listN j aB by rw [listN_succ, HAB.out]; simp [hd, hn])
                  have HE3 : Hid _ := (show listN (j + 1) cB = listN j cB ++ [j] by rw [listN_succ, HCB.out]; simp [hd, hn])
                  clear hd hn
                  go_wp2_with (first
                    | (at_builtin; refine wpList_pushA (x := j) rfl _ _ rfl rfl rfl hoc (by omega) (by omega) ?_; intro g1 c1 w3 hown1 hgr1 hat1)
                    | go_in)
                  have T := (alloc_turns Wy (Obj.cells #[.int .i64 (j : Int)] 3) _).trans (Turns.of_grown hgr1)
                  have hB3 := T.below hBr hbz (fun q hq => (World.ownsRow.lt hoc q hq.symm).1)
                  have ht3 := (HT2.out.push hown1 hgr1 hat1).rot
                  rw [List.length_append] at ht3
                  go_roundw
                  case rel => exact ⟨j + 1, by omega, by go_num, by rw [HE1.out, HE2.out, HE3.out]; exact ht3, hB3⟩
                  case measure => simp [numOf]; omega
                · rw [hd] at cj
                  have HE1 : Hid _ := (show listN (j + 1) dB = listN j dB by rw [listN_succ, hd]; simp)
                  have HE2 : Hid _ := (show listN (j + 1) aB = listN j aB ++ [j] by rw [listN_succ, HAB.out]; simp [hd, hn])
                  have HE3 : Hid _ := (show listN (j + 1) cB = listN j cB by rw [listN_succ, HCB.out]; simp [hd, hn])
                  clear hd hn
                  go_wp2_with (first
                    | (at_builtin; refine wpList_pushA (x := j) rfl _ _ rfl rfl rfl hob (by omega) (by omega) ?_; intro g1 c1 w3 hown1 hgr1 hat1)
                    | go_in)
                  have T := (alloc_turns Wy (Obj.cells #[.int .i64 (j : Int)] 3) _).trans (Turns.of_grown hgr1)
                  have hB3 := T.below hBr hbz (fun q hq => (World.ownsRow.lt hob q hq.symm).1)
                  have ht3 := (HT1.out.push hown1 hgr1 hat1).rot.rot
                  rw [List.length_append] at ht3
                  go_roundw
                  case rel => exact ⟨j + 1, by omega, by go_num, by rw [HE1.out, HE2.out, HE3.out]; exact ht3, hB3⟩
                  case measure => simp [numOf]; omega
              · rw [hd] at cj
                have HE1 : Hid _ := (show listN (j + 1) dB = listN j dB ++ [j] by rw [listN_succ, hd]; simp)
                have HE2 : Hid _ := (show listN (j + 1) aB = listN j aB by rw [listN_succ, HAB.out]; simp [hd])
                have HE3 : Hid _ := (show listN (j + 1) cB = listN j cB by rw [listN_succ, HCB.out]; simp [hd])
                clear hd
                go_wp2_with (first
                  | (at_builtin; refine wpList_pushA (x := j) rfl _ _ rfl rfl rfl hoa (by omega) (by omega) ?_; intro g1 c1 w3 hown1 hgr1 hat1)
                  | go_in)
                have T := (alloc_turns Wy (Obj.cells #[.int .i64 (j : Int)] 3) _).trans (Turns.of_grown hgr1)
                have hB3 := T.below hBr hbz (fun q hq => (World.ownsRow.lt hoa q hq.symm).1)
                have ht3 := HT0.out.push hown1 hgr1 hat1
                rw [List.length_append] at ht3
                go_roundw
                case rel => exact ⟨j + 1, by omega, by go_num, by rw [HE1.out, HE2.out, HE3.out]; exact ht3, hB3⟩
                case measure => simp [numOf]; omega
        · have hje : j = m := by omega
          subst hje
          have i2 : ¬ (j : Int) < (j : Int) := by omega
          have hx1 := intsAt_q hthr.oa (HLM.out.1 _) (HLM.out.2 _)
          have hx2 := intsAt_q hthr.ob (HLM.out.1 _) (HLM.out.2 _)
          have hx3 := intsAt_q hthr.oc (HLM.out.1 _) (HLM.out.2 _)
          have HX1 : Hid _ := ints_true _ _ _ wr (IntsAt.below HIZ.out.1 hBr) hx1
          have HX2 : Hid _ := fun (W' : World) (hb : Below wr.heap.size wr W') => ints_true _ _ _ W' (IntsAt.below (IntsAt.below HIZ.out.2.1 hBr) hb) (hx2.below hb)
          have HX3 : Hid _ := fun (W' : World) (hb : Below wr.heap.size wr W') => ints_true _ _ _ W' (IntsAt.below (IntsAt.below HIZ.out.2.2 hBr) hb) (hx3.below hb)
          have hBend := below_next hBz hBr
          clear hthr hx1 hx2 hx3
          go_wp2_with (first
            | (go_at_call 18; first
                | (have hh := hb2; clear hh; refine Calls.mono (HX3.out _ hb2) ?_; rintro e U3 ⟨rfl, hc3⟩; have hb3 := below_next hb2 hc3)
                | (have hh := hb1; clear hh; refine Calls.mono (HX2.out _ hb1) ?_; rintro e U2 ⟨rfl, hc2⟩; have hb2 := below_next hb1 hc2)
                | (refine Calls.mono HX1.out ?_; rintro e U1 ⟨rfl, hb1⟩))
            | go_in)
          go_ret
          exact ⟨rfl, below_next hBend hb3⟩
end Go.Proofs.YtenjkhgpfmfgmaaDoor
