/- find: what hangs together is found out. -/
import Derived.Test.YtfdlndljpmamgaaJoinW
import Derived.Maps.RangeWalk
import Derived.BigQuiet
namespace Go.Proofs.Ytfdlndljpmamgaa
set_option maxRecDepth 8000
open Go.RowKit Go.Maps
attribute [local go_sem ↓] Go.wp_at_zero Go.wp_at_succ
theorem RanP.turns {w w' : World} {b r n cnt : Nat} {T : Lit → Prop} {left : Lit → Bool} {M : Nat → Prop} (h : RanP w b r n T left cnt) (ht : Turns M w w') (h1 : ¬ M b) (h2 : ¬ M r) : RanP w' b r n T left cnt := by
  obtain ⟨D, h3, h4⟩ := h
  refine ⟨D, ?_, h4⟩
  have l1 := h3.owns.lt
  have l2 := h3.lt
  obtain ⟨es, clock, since, seen, c0, hb, F, hs, hD, hr, rest⟩ := h3
  exact ⟨es, clock, since, seen, c0, (ht.block b l1 h1).trans hb, F, hs, hD, (ht.block r l2 h2).trans hr, rest⟩
theorem RanP.rlt {w : World} {b r n cnt : Nat} {T : Lit → Prop} {left : Lit → Bool} (h : RanP w b r n T left cnt) : r < w.heap.size := by
  obtain ⟨D, h3, _⟩ := h
  exact h3.lt
/-- The edges that the range has met. -/
def met (E : Ed) (left : Lit → Bool) : Ed := fun a b => E a b && !left (kl (a : Int) (b : Int))
theorem met_start {E : Ed} {left : Lit → Bool} {N : Nat} (hE : ∀ u v, E u v = true → u < v ∧ v < N) (hN : N ≤ 1000) (h : ∀ l, inE E l → left l = true) (a b : Nat) : met E left a b = false := by
  unfold met
  cases hab : E a b with
  | false => rfl
  | true =>
    have := hE a b hab
    rw [h _ ((inE_iff (by omega) (by omega)).2 hab)]
    rfl
theorem met_end {E : Ed} {left : Lit → Bool} (h : ∀ l, left l = false) (a b : Nat) : met E left a b = E a b := by
  unfold met; rw [h]; simp
theorem met_step {E : Ed} {left : Lit → Bool} {N u v : Nat} (hE : ∀ u v, E u v = true → u < v ∧ v < N) (hN : N ≤ 1000) (huv : E u v = true) (a b : Nat) : met E (fun z => left z && !z.sameKey (kl (u : Int) (v : Int))) a b = updE (met E left) u v true a b := by
  have h0 := hE u v huv
  by_cases e : a = u ∧ b = v
  · obtain ⟨rfl, rfl⟩ := e
    have hk : (kl (a : Int) (b : Int)).sameKey (kl (a : Int) (b : Int)) = true := WideAt.sameKey_self (Try.law59.key (key_mk (natI (by omega)) (natI (by omega))))
    rw [upd_new]
    simp [met, huv, hk]
  · have e1 : updE (met E left) u v true a b = met E left a b := by unfold updE; rw [if_neg e]
    rw [e1]
    cases hab : E a b with
    | false => simp [met, hab]
    | true =>
      have h1 := hE a b hab
      have hne : kl (a : Int) (b : Int) ≠ kl (u : Int) (v : Int) := fun h => e (kl_inj (by omega) (by omega) (by omega) (by omega) h)
      simp [met, hab, sameKey_ne hne]
theorem Turns.trans' {tb g : Nat} {a b c : World} (h : Turns (fun k => k = tb) a b) (k : Turns (fun k => k = tb ∨ k = g) b c) (hg : a.heap.size ≤ g) : Turns (fun k => k = tb) a c :=
  ⟨k.os.trans h.os, k.tape.trans h.tape, k.output.trans h.output, Nat.le_trans h.size k.size, fun z hz hn => (k.block z (Nat.lt_of_lt_of_le hz h.size) (fun e => by rcases e with e | e; exact hn e; omega)).trans (h.block z hz hn)⟩
set_option maxHeartbeats 4000000 in
theorem find_call {w : World} {tb em n N : Nat} {E : Ed} (hb : Box w tb (on5 (.int .u32 0) (.int .i32 1) (.int .u32 0) (.int .i64 0) (.slice none 0 0)) 78) (he : EdM w em n E) (hN : N ≤ 100) (hE : ∀ u v, E u v = true → u < v ∧ v < N) :
    Calls Try.prog 52 #[ptr tb, .int .i64 (N : Int), .map (some em)] w fun e w' => e = .returned (.tuple #[]) ∧ ∃ lab c pv, Fnd N E lab c ∧ LabAt w' pv N lab ∧ (∀ x, pv.ownBlock = some x → w.heap.size ≤ x) ∧ Box w' tb (on5 (.int .u32 0) (.int .i32 1) (.int .u32 0) (.int .i64 (c : Int)) pv) 78 ∧ Turns (fun k => k = tb) w w' := by
  have htl : tb < w.heap.size := lt_of_block hb
  have hel := he.lt
  have hte : em ≠ tb := fun e => by
    obtain ⟨es, c, h⟩ := he.obj
    rw [e, hb] at h; cases h
  have c3 : w.cell? ⟨tb, 3, none⟩ = some (.int .i64 0) := box_cell hb rfl
  have f3 := box_free hb 3
  have HEE : Hid (∀ u v, E u v = true → u < v ∧ v < N) := hE
  have HB := hid' hb
  have HEM := hid' he
  have HX : Hid (tb < w.heap.size ∧ em < w.heap.size ∧ em ≠ tb ∧ N ≤ 100) := ⟨htl, hel, hte, hN⟩
  clear hb he hE htl hel hte
  go_enter Try.func52, Try.ntmps52
  go_upto_region 2 with (fail)
  have hb0 := box_set HB.out 3 (.int .i64 (N : Int))
  have ht0 := setCell_turns w tb 3 (.int .i64 (N : Int))
  clear c3 f3
  generalize w.setCell ⟨tb, 3, none⟩ (.int .i64 (N : Int)) = W0 at hb0 ht0 ⊢
  have HW0 : Hid (Box W0 tb (on5 (.int .u32 0) (.int .i32 1) (.int .u32 0) (.int .i64 (N : Int)) (.slice none 0 0)) 78 ∧ Turns (fun k => k = tb) w W0) := ⟨hb0, ht0⟩
  clear hb0 ht0
  go_loopw [6, 13] (fun _ i wr => ∃ k : Nat, k ≤ N ∧ i = .int .i64 (k : Int) ∧ Hid (∃ po pc, Box wr tb (on5 (.int .u32 0) (.int .i32 1) (.int .u32 0) (.int .i64 (N : Int)) (.slice po k pc)) 78 ∧ wr.ownsRow w.heap.size 3 1 (.slice po k pc) k (qv (List.range k)) ∧ Turns (fun k => k = tb) w wr)) (fun _ i _ => N - (numOf i).toNat)
  case atStart => exact ⟨0, Nat.zero_le _, rfl, ⟨none, 0, HW0.out.1, World.ownsRow_nil _ _ _ _, HW0.out.2⟩⟩
  case round =>
    obtain ⟨k, hk, rfl, hJ⟩ := hrel
    obtain ⟨po, pc, hbx, hrow, hT⟩ := hJ.out
    have hsz := hT.size
    by_cases hlt : k < N
    · have d4 : wr.cell? ⟨tb, 4, none⟩ = some (.slice po k pc) := box_cell hbx rfl
      have htb : ∀ x, (Value.slice po k pc).ownBlock = some x → x ≠ tb := fun x hx e => by
        have := (hrow.lt x hx).1
        have := HX.out.1
        omega
      have HR := hid' hrow
      have HBX := hid' hbx
      have HT := hid' hT
      have HTB := hid' htb
      have HSZ : Hid (w.heap.size ≤ wr.heap.size) := hsz
      clear hJ hbx hrow hT htb hsz
      have hrow' : wr.ownsRow w.heap.size 3 1 (.slice po (List.range k).length pc) (List.range k).length (qv (List.range k)) := by rw [List.length_range]; exact HR.out
      have HRR := hid' hrow'
      clear hrow'
      go_upto_region 4 with (fail)
      go_wp2_with (first | (at_builtin; refine wpList_pushA (l := List.range k) (x := k) (po := po) (pc := pc) rfl _ _ rfl (by rw [List.length_range]; rfl) rfl HRR.out (by simp; omega) HSZ.out ?_; intro g c w2 h1 hg hor; rw [List.length_append, List.length_range, List.length_singleton] at *; have hT2 := grown_turns hg; have hbx2 := box_turns HBX.out hT2 (fun e => HTB.out _ e rfl); have e0 := box_cell (i := 4) hbx2 rfl; have f0 := box_free hbx2 4) | go_in)
      go_roundw
      case rel =>
        refine ⟨k + 1, by omega, by go_num, ⟨some ⟨g, 0, none⟩, c, box_set hbx2 4 _, ?_, Turns.trans ?_ (setCell_turns w2 tb 4 _)⟩⟩
        rotate_left
        · exact ⟨hT2.os.trans HT.out.os, hT2.tape.trans HT.out.tape, hT2.output.trans HT.out.output, Nat.le_trans HT.out.size hT2.size, fun x hx hn => (hT2.block x (Nat.lt_of_lt_of_le hx HT.out.size) (fun e => by have := (HR.out.lt x e).1; omega)).trans (HT.out.block x hx hn)⟩
        have hgt : g ≠ tb := fun e => by
          have := (h1.lt g rfl).1
          have := HX.out.1
          omega
        rw [List.range_succ]
        exact ownsRow_blocks h1 (fun b hb => (setCell_turns w2 tb 4 _).block b (h1.lt b hb).2 (by rw [own_slice hb]; exact hgt))
      case measure => simp [numOf]; omega
    · have hke : k = N := by omega
      subst hke
      have hLab : LabAt wr (.slice po k pc) k (List.range k) := by
        rcases hrow.2 with ⟨h0, h1⟩ | ⟨g, cap, cur, h0, h1, h2, h3, h4, h5, h6⟩
        · exact Or.inl ⟨h1, h0⟩
        · cases h0
          refine Or.inr ⟨g, pc, rfl, rowC_own hrow fun j hj => ?_⟩
          rw [getD_range hj]
          simp [qv, hj]
      have HL := hid' hLab
      have HBX := hid' hbx
      have HT := hid' hT
      have HO : Hid (∀ x, (Value.slice po k pc).ownBlock = some x → w.heap.size ≤ x) := fun x hx => (hrow.lt x hx).1
      have HEM2 : Hid (EdM wr em n E) := HEM.out.block (hT.block em HX.out.2.1 HX.out.2.2.1)
      clear hJ hbx hrow hT hLab
      obtain ⟨pv, hpv⟩ : ∃ pv, Value.slice po k pc = pv := ⟨_, rfl⟩
      rw [hpv] at HL HBX HO
      clear hpv hsz hlt hk HEM
      go_wp2_with (first | (at_range; refine wpList_range_P rfl _ rfl rfl HEM2.out ?_; intro w2 left0 cnt0 hR0 hL0 hg0 hs0) | go_in)
      go_frame
      obtain ⟨r, hr⟩ : ∃ r, r = wr.heap.size := ⟨_, rfl⟩
      have hT0 : Turns (fun _ => False) wr w2 := (Turns.of_grown hg0).mono fun _ _ e => by cases e
      have HR0 : Hid (RanP w2 em r n (inE E) left0 cnt0 ∧ Fnd k (met E left0) (List.range k) k ∧ LabAt w2 pv k (List.range k) ∧ Box w2 tb (on5 (.int .u32 0) (.int .i32 1) (.int .u32 0) (.int .i64 (k : Int)) pv) 78 ∧ Turns (fun k => k = tb) w w2) :=
        ⟨by rw [hr]; exact hR0, (fnd_start k).congr fun a b => (met_start HEE.out (by omega) hL0 a b).symm, HL.out.turns hT0 (fun _ _ h => h), box_turns HBX.out hT0 (fun h => h), HT.out.trans (hT0.mono fun _ _ h => h.elim)⟩
      have HR9 : Hid (w.heap.size ≤ r ∧ (∀ x, pv.ownBlock = some x → x < r)) := by
        refine ⟨by rw [hr]; exact HT.out.size, fun x hx => ?_⟩
        obtain ⟨cs, h⟩ := HL.out.obj hx
        rw [hr]; exact lt_of_block h
      rw [← hr]
      clear hR0 hL0 hg0 hs0 HEM2 HL HBX HT hT0 hr
      go_loopw [29] (fun _ wz => ∃ left cnt lab c, Hid (RanP wz em r n (inE E) left cnt ∧ Fnd k (met E left) lab c ∧ LabAt wz pv k lab ∧ Box wz tb (on5 (.int .u32 0) (.int .i32 1) (.int .u32 0) (.int .i64 (c : Int)) pv) 78 ∧ Turns (fun k => k = tb) w wz)) (fun _ wz => wz.rangeLeft em r)
      case atStart => exact ⟨left0, cnt0, _, _, HR0⟩
      case round =>
        clear HR0
        obtain ⟨left, cnt, lab, c, hI⟩ := hrel
        have HTT : Hid (∀ l, inE E l → ∃ u v, I64 u ∧ I64 v ∧ l = kl u v) := fun l ⟨u, v, hu, hv, _, h1⟩ => ⟨(u : Int), (v : Int), natI (by omega), natI (by omega), h1⟩
        go_wp2_with (first | (at_next; refine wpList_next_P rfl _ rfl HTT.out rfl hI.out.1 ?_ ?_) | go_in)
        · intro hl0
          have HF : Hid (Fnd k E lab c) := hI.out.2.1.congr (met_end hl0)
          clear hl0
          go_wp2
          go_end0
          exact ⟨rfl, lab, c, pv, HF.out, hI.out.2.2.1, HO.out, hI.out.2.2.2.1, hI.out.2.2.2.2⟩
        · intro x y w3 cnt3 hx hy hTx hR3 hlt3 hg3 hs3 hen
          obtain ⟨u, v, hu, hv, huv, hke⟩ := hTx
          have huv2 := HEE.out u v huv
          obtain ⟨hxu, hyv⟩ := key_inj hx hy (natI (u := u) (by omega)) (natI (u := v) (by omega)) hke
          subst hxu; subst hyv
          have hT3 : Turns (fun k => k = r) wr w3 := (Turns.of_grown hg3).mono fun _ _ e => by cases e; rfl
          have HLE : Hid (wr.rangeLeft em r = cnt) := hI.out.1.left_eq
          have HLT : Hid (cnt3 < cnt) := hlt3
          have HUV : Hid (E u v = true) := huv
          have hrl : r < wr.heap.size := hI.out.1.rlt
          have hem : em < wr.heap.size := hI.out.1.map.lt
          have hpr : ∀ x, pv.ownBlock = some x → ¬ x = r := fun x hx e => by have := HR9.out.2 x hx; omega
          have htr : ¬ tb = r := fun e => by have := HX.out.1; have := HR9.out.1; omega
          have l3 := hI.out.2.2.1.turns hT3 hpr
          have b3 := box_turns hI.out.2.2.2.1 hT3 htr
          have t3 : Turns (fun k => k = tb) w w3 := by
            have := hI.out.2.2.2.2
            exact ⟨hT3.os.trans this.os, hT3.tape.trans this.tape, hT3.output.trans this.output, Nat.le_trans this.size hT3.size, fun z hz hn => (hT3.block z (Nat.lt_of_lt_of_le hz this.size) (fun e => by have := HR9.out.1; omega)).trans (this.block z hz hn)⟩
          have HF : Hid (Fnd k (met E left) lab c) := hI.out.2.1
          rcases l3 with ⟨h0, _⟩ | ⟨g, cap, hpv, hrow⟩
          · omega
          · subst hpv
            have hll : lab.length = k := HF.out.len
            have hbu : lab.getD u 0 ≤ u := (HF.out.low u (by omega)).1
            have hbv : lab.getD v 0 ≤ v := (HF.out.low v (by omega)).1
            have HLB : Hid (∀ i, i < k → lab.getD i 0 ≤ 1000) := fun i hi => by have := (HF.out.low i hi).1; omega
            have HLL : Hid (lab.length = k) := hll
            have HM : Hid (RanP w3 em r n (inE E) (fun z => left z && !z.sameKey (kl (u : Int) (v : Int))) cnt3 ∧ RowC w3 g 3 k (fun i => numV (lab.getD i 0)) ∧ Box w3 tb (on5 (.int .u32 0) (.int .i32 1) (.int .u32 0) (.int .i64 (c : Int)) (.slice (some ⟨g, 0, none⟩) k cap)) 78 ∧ Turns (fun k => k = tb) w w3) := ⟨hR3, hrow, b3, t3⟩
            have HGR : Hid (g < r ∧ w.heap.size ≤ g ∧ g ≠ tb ∧ g ≠ em) := by
              refine ⟨HR9.out.2 g rfl, HO.out g rfl, fun e => ?_, fun e => ?_⟩
              · have := HX.out.1; have := HO.out g rfl; omega
              · have := HX.out.2.1; have := HO.out g rfl; omega
            clear hx hy hke hR3 hlt3 hg3 hs3 hT3 hI hpr htr b3 t3 hll hrow hrl hem
            go_upto_region 9 with (fail)
            have t7 := two_new w3 (.int .i64 (u : Int)) (.int .i64 (v : Int)) 59
            have hB4 := below_alloc (Below.refl _ w3) (Obj.cells #[.int .i64 (u : Int), .int .i64 (v : Int)] 59)
            have HM4 : Hid (∀ A, Below (w3.alloc (Obj.cells #[.int .i64 (u : Int), .int .i64 (v : Int)] 59)).heap.size (w3.alloc (Obj.cells #[.int .i64 (u : Int), .int .i64 (v : Int)] 59)) A → RanP A em r n (inE E) (fun z => left z && !z.sameKey (kl (u : Int) (v : Int))) cnt3 ∧ RowC A g 3 k (fun i => numV (lab.getD i 0)) ∧ Box A tb (on5 (.int .u32 0) (.int .i32 1) (.int .u32 0) (.int .i64 (c : Int)) (.slice (some ⟨g, 0, none⟩) k cap)) 78 ∧ Turns (fun k => k = tb) w A) := fun A hA => by
              have hA2 := Turns.of_below (below_next hB4 hA) (fun _ => False)
              exact ⟨HM.out.1.turns hA2 (fun h => h) (fun h => h), HM.out.2.1.turns hA2 (fun h => h), box_turns HM.out.2.2.1 hA2 (fun h => h), HM.out.2.2.2.trans (hA2.mono fun _ _ h => h.elim)⟩
            have HT7 : Hid (∀ A, Below (w3.alloc (Obj.cells #[.int .i64 (u : Int), .int .i64 (v : Int)] 59)).heap.size (w3.alloc (Obj.cells #[.int .i64 (u : Int), .int .i64 (v : Int)] 59)) A → Two A w3.heap.size (.int .i64 (u : Int)) (.int .i64 (v : Int)) 59) := fun A hA => two_next t7 hA
            obtain ⟨_, m2, m3, _⟩ := HM4.out _ (Below.refl _ _)
            have e4 := box_cell m3 (i := 4) rfl
            obtain ⟨p0, p1⟩ := cell_two t7
            have q0 := m2.cell (j := u) (by omega)
            have q1 := m2.cell (j := v) (by omega)
            clear HM hB4 t7 m2 m3 hen
            generalize w3.heap.size = b7 at *
            generalize w3.alloc (Obj.cells #[.int .i64 (u : Int), .int .i64 (v : Int)] 59) = W4 at *
            have i1 : (0 : Int) ≤ (u : Int) := by omega
            have i2 : (u : Int) < (k : Int) := by omega
            have i3 : (0 : Int) ≤ (v : Int) := by omega
            have i4 : (v : Int) < (k : Int) := by omega
            obtain ⟨lu, hlu⟩ : ∃ x, lab.getD u 0 = x := ⟨_, rfl⟩
            obtain ⟨lv, hlv⟩ : ∃ x, lab.getD v 0 = x := ⟨_, rfl⟩
            have HLU := hid' hlu
            have HLV := hid' hlv
            simp only [numV] at q0 q1
            rw [hlu] at q0
            rw [hlv] at q1
            have hbu2 : lu ≤ 1000 := by omega
            have hbv2 : lv ≤ 1000 := by omega
            have HBND : Hid (u < k ∧ v < k ∧ lu ≤ 1000 ∧ lv ≤ 1000) := ⟨by omega, by omega, hbu2, hbv2⟩
            clear hlu hlv hbu hbv huv huv2 hu hv
            by_cases hne : lu = lv
            · have z1 : ((lu : Int) != (lv : Int)) = false := by simp [hne]
              have HNE := hid' hne
              clear hne
              go_quiet (fail)
              have HA := HM4.out _ (drewN_below W4 nq)
              have HA' : Hid (RanP (W4.drewN nq) em r n (inE E) (fun z => left z && !z.sameKey (kl (u : Int) (v : Int))) cnt3 ∧ Fnd k (met E (fun z => left z && !z.sameKey (kl (u : Int) (v : Int)))) lab c ∧ LabAt (W4.drewN nq) (.slice (some ⟨g, 0, none⟩) k cap) k lab ∧ Box (W4.drewN nq) tb (on5 (.int .u32 0) (.int .i32 1) (.int .u32 0) (.int .i64 (c : Int)) (.slice (some ⟨g, 0, none⟩) k cap)) 78 ∧ Turns (fun k => k = tb) w (W4.drewN nq)) :=
                ⟨HA.1, (HF.out.within HBND.out.1 HBND.out.2.1 (by rw [HLU.out, HLV.out]; exact HNE.out)).congr (fun a b => (met_step HEE.out (by omega) HUV.out a b).symm), Or.inr ⟨g, cap, rfl, HA.2.1⟩, HA.2.2.1, HA.2.2.2⟩
              clear HA e4 p0 p1 q0 q1
              generalize W4.drewN nq = W5 at *
              go_wp2
              go_roundw
              case rel => exact ⟨_, cnt3, lab, c, HA'⟩
              case measure => rw [HA'.out.1.left_eq, HLE.out]; exact HLT.out
            · have z1 : ((lu : Int) != (lv : Int)) = true := by simp; omega
              have HNE := hid' hne
              clear hne
              go_quiet (fail)
              have HB5 : Hid (Below W4.heap.size W4 (W4.drewN nq)) := drewN_below W4 nq
              obtain ⟨_, m2, m3, _⟩ := HM4.out _ HB5.out
              have e5 : (W4.drewN nq).cell? ⟨tb, 4, none⟩ = some (.slice (some ⟨g, 0, none⟩) k cap) := box_cell m3 rfl
              obtain ⟨o0, o1⟩ := cell_two (HT7.out _ HB5.out)
              have r0 := m2.cell (j := u) HBND.out.1
              have r1 := m2.cell (j := v) HBND.out.2.1
              simp only [numV] at r0 r1
              rw [HLU.out] at r0
              rw [HLV.out] at r1
              clear m2 m3 e4 p0 p1 q0 q1
              generalize W4.drewN nq = W5 at *
              have e5g := cell_growD e5
              have o0g := cell_growD o0
              have o1g := cell_growD o1
              have r0g := cell_growD r0
              have r1g := cell_growD r1
              go_upto_region 10 with (fail)
              refine wp_region_tailT 17 (by kernel_rfl) (by kernel_rfl) (by kernel_rfl) (by decide) ?_
              simp only [List.take_succ_cons, List.take_zero, List.drop_succ_cons, List.drop_zero]
              repeat (go_big_quiet_step (fail))
              refine wpQuiet_nil ?_
              rintro _ ⟨gp, rfl⟩
              have HB6 : Hid (Below W4.heap.size W4 (growD W5 gp)) := below_next HB5.out (growD_below W5 gp)
              clear e5 o0 o1 r0 r1 e5g o0g o1g r0g r1g
              generalize growD W5 gp = W6 at *
              obtain ⟨n1, n2, n3, n4⟩ := HM4.out _ HB6.out
              have hj := HF.out.join HBND.out.1 HBND.out.2.1 (by rw [HLU.out, HLV.out]; exact HNE.out)
              rw [HLU.out, HLV.out] at hj
              have hcb : c ≤ 1000 := by
                rw [HF.out.count]
                refine Nat.le_trans (List.length_filter_le _ _) ?_
                simp; omega
              rw [HLL.out.symm] at n2 n3
              have CJ := hid' (join_call n3 n2 (by rw [HLL.out]; omega) (by rw [HLL.out]; exact HLB.out) HBND.out.2.2.1 HBND.out.2.2.2 hj.1 hcb)
              have HN := hid' (And.intro n1 n4)
              have HJ := hid' hj.2
              clear n1 n2 n3 n4 hj hcb
              go_wp2_with (first | (go_at_call 59; refine Calls.mono CJ.out ?_; rintro e w7 ⟨rfl, hb7, hr7, hT7⟩) | go_in)
              have HA' : Hid (RanP w7 em r n (inE E) (fun z => left z && !z.sameKey (kl (u : Int) (v : Int))) cnt3 ∧ Fnd k (met E (fun z => left z && !z.sameKey (kl (u : Int) (v : Int)))) (relab (max lu lv) (min lu lv) lab) (c - 1) ∧ LabAt w7 (.slice (some ⟨g, 0, none⟩) k cap) k (relab (max lu lv) (min lu lv) lab) ∧ Box w7 tb (on5 (.int .u32 0) (.int .i32 1) (.int .u32 0) (.int .i64 ((c - 1 : Nat) : Int)) (.slice (some ⟨g, 0, none⟩) k cap)) 78 ∧ Turns (fun k => k = tb) w w7) := by
                refine ⟨HN.out.1.turns hT7 (fun e => ?_) (fun e => ?_), HJ.out.congr (fun a b => (met_step HEE.out (by omega) HUV.out a b).symm), Or.inr ⟨g, cap, rfl, ?_⟩, ?_, ?_⟩
                · rcases e with e | e
                  · exact HX.out.2.2.1 e
                  · exact HGR.out.2.2.2 e.symm
                · rcases e with e | e
                  · have := HX.out.1; have := HR9.out.1; omega
                  · have := HGR.out.1; omega
                · rw [← HLL.out]
                  refine hr7.congr fun j hj => ?_
                  rw [relab_get hj]
                  unfold relabTo
                  by_cases e : lab.getD j 0 = max lu lv
                  · rw [if_pos ⟨hj, e⟩, if_pos e]
                  · rw [if_neg (fun h => e h.2), if_neg e]
                · rw [← HLL.out]; exact hb7
                · exact HN.out.2.trans' hT7 HGR.out.2.1
              clear hb7 hr7 hT7 HN HJ CJ
              go_roundw
              case rel => exact ⟨_, cnt3, _, _, HA'⟩
              case measure => rw [HA'.out.1.left_eq, HLE.out]; exact HLT.out
end Go.Proofs.Ytfdlndljpmamgaa
