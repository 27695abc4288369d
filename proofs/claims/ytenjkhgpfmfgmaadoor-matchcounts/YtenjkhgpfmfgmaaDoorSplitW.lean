/- split: the three kinds of nodes. -/
import Derived.Test.YtenjkhgpfmfgmaaDoorNearMk
import Derived.Test.YtenjkhgpfmfgmaaDoorGallai
namespace Go.Proofs.YtenjkhgpfmfgmaaDoor
open Go.RowKit Go.Maps
attribute [local go_sem ↓] Go.wp_at_zero Go.wp_at_succ

def kd (dB nB : Nat → Bool) (x : Nat) : Int := if dB x = true then 2 else if nB x = true then 1 else 0
def orB (p : Nat → Bool) (y x : Nat) : Bool := p x || x == y
theorem kd_d (dB nB : Nat → Bool) (y x : Nat) : kd (orB dB y) nB x = if x = y then 2 else kd dB nB x := by
  unfold kd orB
  by_cases e : x = y
  · simp [e]
  · simp [e]
theorem kd_n (dB nB : Nat → Bool) (y x : Nat) : kd dB (orB nB y) x = if x = y then max (kd dB nB y) 1 else kd dB nB x := by
  unfold kd orB
  by_cases e : x = y
  · subst e
    have m1 : max (0 : Int) 1 = 1 := by decide
    have m2 : max (2 : Int) 1 = 2 := by decide
    have m3 : max (1 : Int) 1 = 1 := by decide
    cases dB x
    · cases nB x
      · simp [m1]
      · simp [m3]
    · simp [m2]
  · simp [e]

/-- A search more. -/
theorem Gal.next {K N : Nat} {E : Nat → Nat → Prop} {m : Nat → Option Nat} {evs : Nat → Nat → Bool} {Ods : Nat → Nat → Prop} {ks : Nat → Nat → Nat} (h : Gal K E m evs Ods ks) {ev : Nat → Bool} {Od : Nat → Prop} {k : Nat → Nat} (ht : Trap E m K (fun z => ev z = true) Od k) (hw : Ways E m K (fun z => ev z = true) k) (_ : N = N) :
    Gal (K + 1) E m (fun r => if r = K then ev else evs r) (fun r => if r = K then Od else Ods r) (fun r => if r = K then k else ks r) := by
  refine ⟨fun r hr hl => ?_, fun r hr hl => ?_⟩
  · by_cases e : r = K
    · subst e; simpa using ht
    · simpa [e] using h.trap r (by omega) hl
  · by_cases e : r = K
    · subst e; simpa using hw
    · simpa [e] using h.ways r (by omega) hl
theorem Gal.skip {K : Nat} {E : Nat → Nat → Prop} {m : Nat → Option Nat} {evs : Nat → Nat → Bool} {Ods : Nat → Nat → Prop} {ks : Nat → Nat → Nat} (h : Gal K E m evs Ods ks) (hK : m K ≠ none) : Gal (K + 1) E m evs Ods ks :=
  ⟨fun r hr hl => h.trap r (by have : r ≠ K := fun e => hK (e ▸ hl); omega) hl, fun r hr hl => h.ways r (by have : r ≠ K := fun e => hK (e ▸ hl); omega) hl⟩
theorem ind_skip {K : Nat} {m : Nat → Option Nat} {evs : Nat → Nat → Bool} (hK : m K ≠ none) (x : Nat) : InD (K + 1) m evs x ↔ InD K m evs x :=
  ⟨fun ⟨r, h1, h2, h3⟩ => ⟨r, by have : r ≠ K := fun e => hK (e ▸ h2); omega, h2, h3⟩, fun ⟨r, h1, h2, h3⟩ => ⟨r, by omega, h2, h3⟩⟩
theorem ind_next {K : Nat} {m : Nat → Option Nat} {evs : Nat → Nat → Bool} {ev : Nat → Bool} (hK : m K = none) (x : Nat) : InD (K + 1) m (fun r => if r = K then ev else evs r) x ↔ InD K m evs x ∨ ev x = true := by
  constructor
  · rintro ⟨r, h1, h2, h3⟩
    by_cases e : r = K
    · subst e; right; simpa using h3
    · left; exact ⟨r, by omega, h2, by simpa [e] using h3⟩
  · rintro (⟨r, h1, h2, h3⟩ | h)
    · exact ⟨r, by omega, h2, by simpa [show r ≠ K by omega] using h3⟩
    · exact ⟨K, by omega, hK, by simpa using h⟩

/-- The kinds so far. -/
structure Knd (K N : Nat) (E : Nat → Nat → Prop) (m : Nat → Option Nat) (evs : Nat → Nat → Bool) (Ods : Nat → Nat → Prop) (ks : Nat → Nat → Nat) (dB nB : Nat → Bool) : Prop where
  gal : Gal K E m evs Ods ks
  d : ∀ x, dB x = true ↔ InD K m evs x
  n : ∀ x, nB x = true ↔ ∃ y, InD K m evs y ∧ E y x

/-- Three rows that grow. -/
structure Thr (w : World) (base : Nat) (a b c : Value) (A B C : List Nat) : Prop where
  oa : w.ownsRow base 3 1 a A.length (qv A)
  ob : w.ownsRow base 3 1 b B.length (qv B)
  oc : w.ownsRow base 3 1 c C.length (qv C)
  ab : ∀ k, a.ownBlock = some k → b.ownBlock ≠ some k
  bc : ∀ k, b.ownBlock = some k → c.ownBlock ≠ some k
  ca : ∀ k, c.ownBlock = some k → a.ownBlock ≠ some k
theorem Thr.rot {w : World} {base : Nat} {a b c : Value} {A B C : List Nat} (h : Thr w base a b c A B C) : Thr w base b c a B C A := ⟨h.ob, h.oc, h.oa, h.bc, h.ca, h.ab⟩
theorem Thr.push {w w1 : World} {base : Nat} {ao : Option Addr} {ac : Nat} {b c : Value} {A B C : List Nat} {o : Obj} {x g1 c1 : Nat} (h : Thr w base (.slice ao A.length ac) b c A B C)
    (hown : w1.ownsRow base 3 1 (.slice (some ⟨g1, 0, none⟩) (A ++ [x]).length c1) (A ++ [x]).length (qv (A ++ [x]))) (hg : (w.alloc o).grownBy w1 (Value.slice ao A.length ac).ownBlock) (hat : (Value.slice ao A.length ac).ownBlock = some g1 ∨ w.heap.size ≤ g1) :
    Thr w1 base (.slice (some ⟨g1, 0, none⟩) (A ++ [x]).length c1) b c (A ++ [x]) B C := by
  have T := (alloc_turns w o (fun k => some k = (Value.slice ao A.length ac).ownBlock)).trans (Turns.of_grown hg)
  have hg1 : ∀ {v : Value} {V : List Nat}, w.ownsRow base 3 1 v V.length (qv V) → (∀ k, (Value.slice ao A.length ac).ownBlock = some k → v.ownBlock ≠ some k) → ∀ k, (Value.slice (some ⟨g1, 0, none⟩) (A ++ [x]).length c1).ownBlock = some k → v.ownBlock ≠ some k := fun hv hn k hk hh => by
    have e : g1 = k := by simpa [Value.ownBlock] using hk
    subst e
    rcases hat with h1 | h1
    · exact hn g1 h1 hh
    · have := (World.ownsRow.lt hv g1 hh).2; omega
  refine ⟨hown, ownsRow_blocks h.ob (fun k hk => T.block k (h.ob.lt k hk).2 (fun e => h.ab k e.symm hk)), ownsRow_blocks h.oc (fun k hk => T.block k (h.oc.lt k hk).2 (fun e => h.ca k hk e.symm)), hg1 h.ob h.ab, h.bc, fun k hk hh => hg1 h.oc (fun k h1 h2 => h.ca k h2 h1) k hh hk⟩
theorem listN_succ (k : Nat) (p : Nat → Bool) : listN (k + 1) p = listN k p ++ (if p k = true then [k] else []) := by
  unfold listN
  rw [List.range_succ, List.filter_append]
  congr 1
  by_cases h : p k = true
  · simp [h]
  · simp [h]
theorem listN_len (k : Nat) (p : Nat → Bool) : (listN k p).length ≤ k := by
  unfold listN
  exact Nat.le_trans (List.length_filter_le _ _) (by simp)

set_option maxRecDepth 4000 in
set_option maxHeartbeats 8000000 in
theorem split_call2 {w : World} {bp g bm N : Nat} {ls : Nat → List Nat} {m : Nat → Option Nat} {E : Nat → Nat → Prop} (h : PB w bp g bm N ls m) (hN : N ≤ 100) (hM : Mat N E m) (hE : Nbs N ls E) (htr : ∀ r, r < N → m r = none → ∃ Ev Od k, Trap E m r Ev Od k) :
    Calls Tryd.prog 28 #[.pointer (some ⟨bp, 0, none⟩)] w fun e w' => ∃ dv av cv, e = .returned (.tuple #[dv, av, cv]) ∧ PB w' bp g bm N ls m ∧ Turns (fun k => k = bp) w w' ∧ ∃ evs Ods ks dB nB, Knd N N E m evs Ods ks dB nB ∧ w'.ownsRow w.heap.size 3 1 dv (listN N dB).length (qv (listN N dB)) ∧ w'.ownsRow w.heap.size 3 1 av (listN N fun x => !dB x && nB x).length (qv (listN N fun x => !dB x && nB x)) ∧ w'.ownsRow w.heap.size 3 1 cv (listN N fun x => !dB x && !nB x).length (qv (listN N fun x => !dB x && !nB x)) ∧ ∀ k, av.ownBlock = some k → cv.ownBlock ≠ some k := by
  obtain ⟨i3, hi3, hz0, hz1, hz2⟩ := info_parts Tryd.info3s
  have hmk := make29 N (by omega)
  obtain ⟨eo, en, ec, fo, fn, fc, bo, bn, bc, qo, qn, qc, hbox⟩ := h.box
  have c1 := box_cell hbox (i := 1) rfl
  have hbl := lt_of_block hbox
  have hml := h.mate.lt
  have H : Hid _ := h
  have HM : Hid _ := hM
  have HE : Hid _ := hE
  have HTR : Hid _ := htr
  have hpb0 := h.below (below_alloc (Below.refl _ w) (.cells (rep N (.int .i64 0)) 3))
  have hr0 : RowV (w.alloc (.cells (rep N (.int .i64 0)) 3)) w.heap.size 3 N (fun _ => .int .i64 0) := rowV_rep (heap_alloc_new _ _)
  have d1 := all_alloc c1
  clear h hM hE htr
  go_enter Tryd.func28, Tryd.ntmps28
  go_wp2
  have hT0 : Turns (fun k => k = bp) w (w.alloc (.cells (rep N (.int .i64 0)) 3)) := alloc_turns _ _ _
  have hk0 : Knd 0 N E m (fun _ _ => false) (fun _ _ => False) (fun _ _ => 0) (fun _ => false) (fun _ => false) := ⟨⟨fun r hr => absurd hr (Nat.not_lt_zero _), fun r hr => absurd hr (Nat.not_lt_zero _)⟩, fun x => ⟨fun h => (by cases h), fun ⟨r, hr, _⟩ => absurd hr (Nat.not_lt_zero _)⟩, fun x => ⟨fun h => (by cases h), fun ⟨y, ⟨r, hr, _⟩, _⟩ => absurd hr (Nat.not_lt_zero _)⟩⟩
  have HPB0 : Hid _ := hpb0
  have HR0 : Hid _ := hr0
  have HK0 : Hid _ := hk0
  clear c1 d1 hbox hpb0 hr0 hk0 hmk
  generalize w.alloc (.cells (rep N (.int .i64 0)) 3) = W0 at HPB0 HR0 hT0 ⊢
  go_loopw [25] (fun i wr => ∃ (k : Nat) (evs : Nat → Nat → Bool) (Ods : Nat → Nat → Prop) (ks : Nat → Nat → Nat) (dB nB : Nat → Bool), k ≤ N ∧ i = .int .i64 (k : Int) ∧ PB wr bp g bm N ls m ∧ RowV wr w.heap.size 3 N (fun x => .int .i64 (kd dB nB x)) ∧ Knd k N E m evs Ods ks dB nB ∧ Turns (fun k => k = bp) w wr) (fun i _ => N - (numOf i).toNat)
  case atStart => exact ⟨0, _, _, _, _, _, Nat.zero_le _, rfl, HPB0.out, RowV.congr HR0.out (fun j _ => by simp [kd]), HK0.out, hT0⟩
  case round =>
    obtain ⟨k, evs, Ods, ks, dB, nB, hk, rfl, hpb, hrow, hknd, hT⟩ := hrel
    clear HPB0 HR0 HK0 hT0
    by_cases hkN : k < N
    · have cm := hpb.mate.cell hkN
      have i1 : (0 : Int) ≤ (k : Int) := by omega
      have i2 : (k : Int) < (N : Int) := by omega
      have hrl := hrow.lt
      cases hmk : m k with
      | some y =>
        rw [hmk] at cm
        have z1 : farZ (some y) = (y : Int) := rfl
        rw [z1] at cm
        have k1 : ((y : Int) == -1) = false := by simp
        have hkn : Knd (k + 1) N E m evs Ods ks dB nB := ⟨hknd.gal.skip (by rw [hmk]; simp), fun x => (hknd.d x).trans (ind_skip (by rw [hmk]; simp) x).symm, fun x => (hknd.n x).trans ⟨fun ⟨y, h1, h2⟩ => ⟨y, (ind_skip (by rw [hmk]; simp) y).2 h1, h2⟩, fun ⟨y, h1, h2⟩ => ⟨y, (ind_skip (by rw [hmk]; simp) y).1 h1, h2⟩⟩⟩
        have HPB : Hid _ := hpb
        have HROW : Hid _ := hrow
        have HKN : Hid _ := hkn
        clear hpb hrow hknd hkn hmk z1
        go_wp2
        go_roundw
        case rel => exact ⟨k + 1, evs, Ods, ks, dB, nB, by omega, by go_num, HPB.out, HROW.out, HKN.out, hT⟩
        case measure => simp [numOf]; omega
      | none =>
        rw [hmk] at cm
        have z1 : farZ none = -1 := rfl
        rw [z1] at cm
        have hsk := seek_call hpb hN HM.out HE.out hkN hmk
        have HSK : Hid _ := hsk
        have HPB : Hid _ := hpb
        have HROW : Hid _ := hrow
        have HKN : Hid _ := hknd
        have HMK : Hid _ := hmk
        clear hsk hpb hrow hknd hmk z1
        go_upto_region 7 with (go_at_call 41; refine Calls.mono HSK.out ?_; rintro e W1 ⟨z, rfl, hT1, be, bf, bb, q, ev, f, bs, Q, hst1, hfd1⟩)
        obtain rfl : z = none := by
          cases z with
          | none => rfl
          | some u =>
            exfalso
            obtain ⟨v, l, ha⟩ := hfd1
            obtain ⟨Ev, Od, kk, ht⟩ := HTR.out k hkN HMK.out
            exact (ht.past HM.out HE.out.sym ha).1 rfl
        obtain ⟨dep, D, hsk1, hD⟩ := hfd1
        obtain ⟨htp, hwy⟩ := hsk1.trap HM.out HE.out.sym hD
        have hrow1 := RowV.turns HROW.out hT1 (fun e => by omega)
        have hT2 : Turns (fun k => k = bp) w W1 := hT.trans hT1
        have hQN : Q.length ≤ N := by
          have := nat_nodup_len Q (List.range N) hsk1.nodup (fun e he => by simpa using hsk1.srch.evlt e ((hsk1.mem e).1 he))
          simpa using this
        obtain ⟨qo, qc, rfl⟩ := form_row hst1.own
        have c5 := box_cell hst1.box (i := 5) rfl
        have hown1 := hst1.own
        have hbox1 := hst1.box
        have hQlt : ∀ x, x ∈ Q → x < N := fun x hx => hsk1.srch.evlt x ((hsk1.mem x).1 hx)
        have HQM : Hid _ := hsk1.mem
        have HQL : Hid _ := hQlt
        have HTP : Hid _ := htp
        have HWY : Hid _ := hwy
        have HO1 : Hid _ := hown1
        have HB1 : Hid _ := hbox1
        have HR1 : Hid _ := hrow1
        clear hsk1 hD hst1 htp hwy hQlt hown1 hbox1 hrow1 HROW HSK
        go_wp2
        clear c5 cm
        go_loopw [41] (fun i wx => ∃ (t : Nat) (d' n' : Nat → Bool), t ≤ Q.length ∧ i = .int .i64 (t : Int) ∧ RowV wx w.heap.size 3 N (fun x => .int .i64 (kd d' n' x)) ∧ (∀ x, d' x = true ↔ dB x = true ∨ x ∈ Q.take t) ∧ (∀ x, n' x = true ↔ nB x = true ∨ ∃ y ∈ Q.take t, E y x) ∧ wx.ownsRow wr.heap.size 3 1 (.slice qo Q.length qc) Q.length (qv Q) ∧ Box wx bp #[sl g N, sl bm N, sl be N, sl bf N, sl bb N, .slice qo Q.length qc] 80 ∧ Turns (fun k => k = bp) w wx) (fun i _ => Q.length - (numOf i).toNat)
        case atStart => exact ⟨0, dB, nB, Nat.zero_le _, rfl, HR1.out, fun x => by simp, fun x => by simp, HO1.out, HB1.out, hT2⟩
        case round =>
          obtain ⟨t, d', n', ht, rfl, hrow2, hd2, hn2, hown2, hbox2, hT3⟩ := hrel
          clear hT2 HR1 HO1 HB1
          by_cases htl : t < Q.length
          · obtain ⟨v, hv?⟩ : ∃ v, Q[t]? = some v := ⟨Q[t], List.getElem?_eq_getElem htl⟩
            have hvN := HQL.out v (List.mem_of_getElem? hv?)
            obtain ⟨gq, e1, cq⟩ := qcell hown2 hv?
            cases e1
            have hqb := (World.ownsRow.lt hown2 gq rfl)
            have ckv := hrow2.cell hvN
            have fkv := hrow2.free v
            have hrow3 := (hrow2.set v (.int .i64 2)).congr (g := fun x => .int .i64 (kd (orB d' v) n' x)) (fun j _ => by rw [kd_d]; by_cases e : j = v <;> simp [e])
            have hT4 : Turns (fun k => k = bp) w (wr.setCell ⟨w.heap.size, v, none⟩ (.int .i64 2)) := hT3.after (setCell_turns _ _ _ _) (fun k e => Or.inr (by omega))
            have hbox3 : Box (wr.setCell ⟨w.heap.size, v, none⟩ (.int .i64 2)) bp _ 80 := box_turns hbox2 (setCell_turns _ _ _ _) (fun (e : bp = w.heap.size) => by omega)
            have hown3 : (wr.setCell ⟨w.heap.size, v, none⟩ (.int .i64 2)).ownsRow _ 3 1 (.slice (some ⟨gq, 0, none⟩) Q.length qc) Q.length (qv Q) := ownsRow_blocks hown2 (fun b hb => Below.heap_setCell _ _ _ _ (fun (e : b = w.heap.size) => by have := (World.ownsRow.lt hown2 b hb).1; omega))
            have j1 : (0 : Int) ≤ (t : Int) := by omega
            have j2 : (t : Int) < (Q.length : Int) := by omega
            have j3 : (0 : Int) ≤ (v : Int) := by omega
            have j4 : (v : Int) < (N : Int) := by omega
            obtain ⟨xo, xc, g0w, g1⟩ := H.out.near.2.2 v hvN
            have hln := HE.out.len v hvN
            have HV : Hid _ := hv?
            have HD2 : Hid _ := hd2
            have HN2 : Hid _ := hn2
            go_upto_region 11 with (fail)
            generalize wr.setCell ⟨w.heap.size, v, none⟩ (.int .i64 2) = W3 at hrow3 hT4 hbox3 hown3 ⊢
            clear hrow2 hd2 hn2 hown2 hbox2 hT3 ckv fkv cq hv?
            have g0 := cell_turns g0w hT4 (fun e => H.out.near.1 e)
            have c0 := box_cell hbox3 (i := 0) rfl
            have HR3 : Hid _ := hrow3
            have HB3 : Hid _ := hbox3
            have HO3 : Hid _ := hown3
            have HG1 : Hid _ := g1
            clear hrow3 hbox3 hown3 g1 g0w
            go_wp2
            clear g0 c0
            go_loopw [56] (fun i wx => ∃ (s : Nat) (n3 : Nat → Bool), s ≤ (ls v).length ∧ i = .int .i64 (s : Int) ∧ RowV wx w.heap.size 3 N (fun x => .int .i64 (kd (orB d' v) n3 x)) ∧ (∀ x, n3 x = true ↔ n' x = true ∨ x ∈ (ls v).take s) ∧ wx.ownsRow _ 3 1 (.slice (some ⟨gq, 0, none⟩) Q.length qc) Q.length (qv Q) ∧ Box wx bp #[sl g N, sl bm N, sl be N, sl bf N, sl bb N, .slice (some ⟨gq, 0, none⟩) Q.length qc] 80 ∧ Turns (fun k => k = bp) w wx) (fun i _ => (ls v).length - (numOf i).toNat)
            case atStart => exact ⟨0, n', Nat.zero_le _, rfl, HR3.out, fun x => by simp, HO3.out, HB3.out, hT4⟩
            case round =>
              obtain ⟨s, n3, hs, rfl, hrow4, hn3, hown4, hbox4, hT5⟩ := hrel
              clear hT4 HR3 HB3 HO3
              by_cases hsl : s < (ls v).length
              · obtain ⟨u, hu?⟩ : ∃ u, (ls v)[s]? = some u := ⟨(ls v)[s], List.getElem?_eq_getElem hsl⟩
                have huN := (HE.out.lt v u ((HE.out.mem v u hvN).1 (List.mem_of_getElem? hu?))).2
                obtain ⟨bx, hbx1, hbx2, rfl, cw0⟩ := HG1.out s u hu?
                have cw := cell_turns cw0 hT5 (fun e => hbx1 e)
                have cku := hrow4.cell huN
                have fku := hrow4.free u
                have hrow5 := (hrow4.set u (.int .i64 (max (kd (orB d' v) n3 u) 1))).congr (g := fun x => .int .i64 (kd (orB d' v) (orB n3 u) x)) (fun j _ => by rw [kd_n]; by_cases e : j = u <;> simp [e])
                have hT6 : Turns (fun k => k = bp) w (wr.setCell ⟨w.heap.size, u, none⟩ (.int .i64 (max (kd (orB d' v) n3 u) 1))) := hT5.after (setCell_turns _ _ _ _) (fun k e => Or.inr (by omega))
                have hbox5 : Box (wr.setCell ⟨w.heap.size, u, none⟩ (.int .i64 (max (kd (orB d' v) n3 u) 1))) bp _ 80 := box_turns hbox4 (setCell_turns _ _ _ _) (fun (e : bp = w.heap.size) => by omega)
                have hown5 := ownsRow_blocks hown4 (w' := wr.setCell ⟨w.heap.size, u, none⟩ (.int .i64 (max (kd (orB d' v) n3 u) 1))) (fun b hb => Below.heap_setCell _ _ _ _ (fun (e : b = w.heap.size) => by have := (World.ownsRow.lt hown4 b hb).1; omega))
                have hn5 : ∀ x, orB n3 u x = true ↔ n' x = true ∨ x ∈ (ls v).take (s + 1) := fun x => by
                  obtain ⟨h1, h2⟩ := List.getElem?_eq_some_iff.1 hu?
                  rw [List.take_succ_eq_append_getElem h1, h2]
                  unfold orB
                  simp only [Bool.or_eq_true, beq_iff_eq, hn3 x, List.mem_append, List.mem_singleton]
                  exact or_assoc
                obtain ⟨kz, hkz⟩ : ∃ kz, kz = kd (orB d' v) n3 u := ⟨_, rfl⟩
                rw [← hkz] at cku hrow5 hT6 hbox5 hown5
                have l1 : (0 : Int) ≤ (s : Int) := by omega
                have l2 : (s : Int) < ((ls v).length : Int) := by omega
                have l3 : (0 : Int) ≤ (u : Int) := by omega
                have l4 : (u : Int) < (N : Int) := by omega
                have HR5 : Hid _ := hrow5
                have HB5 : Hid _ := hbox5
                have HO5 : Hid _ := hown5
                have HN5 : Hid _ := hn5
                clear hrow4 hrow5 hbox4 hbox5 hown4 hown5 hn3 hn5 hu? cw0 hT5 hkz
                go_wp2
                go_roundw
                case rel => exact ⟨s + 1, orB n3 u, by omega, by go_num, HR5.out, HN5.out, HO5.out, HB5.out, hT6⟩
                case measure => simp [numOf]; omega
              · have hse : (ls v).length = s := by omega
                have hd6 : ∀ x, orB d' v x = true ↔ dB x = true ∨ x ∈ Q.take (t + 1) := fun x => by
                  obtain ⟨h1, h2⟩ := List.getElem?_eq_some_iff.1 HV.out
                  rw [List.take_succ_eq_append_getElem h1, h2]
                  unfold orB
                  simp only [Bool.or_eq_true, beq_iff_eq, HD2.out x, List.mem_append, List.mem_singleton]
                  exact or_assoc
                have hn6 : ∀ x, n3 x = true ↔ nB x = true ∨ ∃ y ∈ Q.take (t + 1), E y x := fun x => by
                  obtain ⟨h1, h2⟩ := List.getElem?_eq_some_iff.1 HV.out
                  rw [List.take_succ_eq_append_getElem h1, h2, hn3 x, HN2.out x, ← hse, List.take_length, HE.out.mem v x hvN]
                  constructor
                  · rintro ((h | ⟨y, hy, he⟩) | h)
                    · exact Or.inl h
                    · exact Or.inr ⟨y, by simp [hy], he⟩
                    · exact Or.inr ⟨v, by simp, h⟩
                  · rintro (h | ⟨y, hy, he⟩)
                    · exact Or.inl (Or.inl h)
                    · rcases List.mem_append.1 hy with hy | hy
                      · exact Or.inl (Or.inr ⟨y, hy, he⟩)
                      · simp at hy
                        exact Or.inr (hy ▸ he)
                have HR5 : Hid _ := hrow4
                have HB5 : Hid _ := hbox4
                have HO5 : Hid _ := hown4
                have HD6 : Hid _ := hd6
                have HN6 : Hid _ := hn6
                have l2 : ¬ (s : Int) < ((ls v).length : Int) := by omega
                clear hrow4 hbox4 hown4 hd6 hn6 hn3 hse
                go_wp2
                go_roundw
                case rel => exact ⟨t + 1, orB d' v, n3, by omega, by go_num, HR5.out, HD6.out, HN6.out, HO5.out, HB5.out, hT5⟩
                case measure => simp [numOf]; omega
          · have hte : Q.length = t := by omega
            have hkn : Knd (k + 1) N E m (fun r => if r = k then ev else evs r) (fun r => if r = k then (fun x => ev x = false ∧ f x ≠ none) else Ods r) (fun r => if r = k then bs else ks r) d' n' := by
              have hq : ∀ x, x ∈ Q.take t ↔ ev x = true := fun x => by rw [← hte, List.take_length]; exact HQM.out x
              refine ⟨HKN.out.gal.next HTP.out HWY.out (N := N) rfl, fun x => ?_, fun x => ?_⟩
              · rw [hd2 x, hq x, HKN.out.d x, ind_next HMK.out x]
              · rw [hn2 x, HKN.out.n x]
                constructor
                · rintro (⟨y, h1, h2⟩ | ⟨y, h1, h2⟩)
                  · exact ⟨y, (ind_next HMK.out y).2 (Or.inl h1), h2⟩
                  · exact ⟨y, (ind_next HMK.out y).2 (Or.inr ((hq y).1 h1)), h2⟩
                · rintro ⟨y, h1, h2⟩
                  rcases (ind_next HMK.out y).1 h1 with h1 | h1
                  · exact Or.inl ⟨y, h1, h2⟩
                  · exact Or.inr ⟨y, (hq y).2 h1, h2⟩
            have hpb3 : PB wr bp g bm N ls m := ⟨⟨_, _, _, _, _, _, _, _, _, _, _, _, hbox2⟩, (H.out.near.turns hT3 (fun k e => Or.inl e)).mono hT3.size, H.out.mate.turns hT3 H.out.ne, H.out.ne⟩
            have HPB3 : Hid _ := hpb3
            have HKN3 : Hid _ := hkn
            have HR5 : Hid _ := hrow2
            have j2 : ¬ (t : Int) < (Q.length : Int) := by omega
            clear hpb3 hkn hrow2 hd2 hn2 hown2 hbox2 hte
            go_wp2
            go_roundw
            case rel => exact ⟨k + 1, _, _, _, d', n', by omega, by go_num, HPB3.out, HR5.out, HKN3.out, hT3⟩
            case measure => simp [numOf]; omega
    · have hke : N = k := by omega
      subst hke
      obtain ⟨Wz, hWz⟩ : ∃ Wz, Wz = wr := ⟨_, rfl⟩
      rw [← hWz] at hpb hrow hT ⊢
      have HPB : Hid _ := hpb
      have HKN : Hid _ := hknd
      have HROW : Hid _ := hrow
      have hrl := hrow.lt
      obtain ⟨aB, haB⟩ : ∃ aB : Nat → Bool, aB = fun x => !dB x && nB x := ⟨_, rfl⟩
      obtain ⟨cB, hcB⟩ : ∃ cB : Nat → Bool, cB = fun x => !dB x && !nB x := ⟨_, rfl⟩
      have HAB : Hid _ := haB
      have HCB : Hid _ := hcB
      clear hpb hknd haB hcB hWz hrow
      go_wp2
      go_loopw [2, 3, 4, 73] (fun s2 s3 s4 i wx => ∃ j : Nat, j ≤ N ∧ i = .int .i64 (j : Int) ∧ Thr wx Wz.heap.size s2 s3 s4 (listN j dB) (listN j aB) (listN j cB) ∧ Below Wz.heap.size Wz wx) (fun _ _ _ i _ => N - (numOf i).toNat)
      case atStart => exact ⟨0, Nat.zero_le _, rfl, ⟨World.ownsRow_nil _ _ _ _, World.ownsRow_nil _ _ _ _, World.ownsRow_nil _ _ _ _, fun k h => by simp [Value.ownBlock] at h, fun k h => by simp [Value.ownBlock] at h, fun k h => by simp [Value.ownBlock] at h⟩, Below.refl _ _⟩
      case round =>
        obtain ⟨j, hj, rfl, hthr, hB⟩ := hrel
        obtain ⟨do', dc, rfl⟩ := form_row hthr.oa
        obtain ⟨ao', ac, rfl⟩ := form_row hthr.ob
        obtain ⟨co', cc, rfl⟩ := form_row hthr.oc
        by_cases hjN : j < N
        · have hr2 := RowV.block HROW.out (w' := wr) (hB.block _ hrl)
          have cj := hr2.cell hjN
          have i1 : (0 : Int) ≤ (j : Int) := by omega
          have i2 : (j : Int) < (N : Int) := by omega
          have l1 := listN_len j dB
          have l2 := listN_len j aB
          have l3 := listN_len j cB
          have hbz := hB.size
          have hthr1 := hthr.rot
          have hthr2 := hthr.rot.rot
          have HT0 : Hid _ := hthr
          have HT1 : Hid _ := hthr1
          have HT2 : Hid _ := hthr2
          have hoa := hthr.oa
          have hob := hthr.ob
          have hoc := hthr.oc
          clear hthr hthr1 hthr2
          cases hd : dB j
          · cases hn : nB j
            · have hk : kd dB nB j = 0 := by simp [kd, hd, hn]
              rw [hk] at cj
              have e1 : listN (j + 1) dB = listN j dB := by rw [listN_succ, hd]; simp
              have e2 : listN (j + 1) aB = listN j aB := by rw [listN_succ, HAB.out]; simp [hd, hn]
              have e3 : listN (j + 1) cB = listN j cB ++ [j] := by rw [listN_succ, HCB.out]; simp [hd, hn]
              have HE1 : Hid _ := e1
              have HE2 : Hid _ := e2
              have HE3 : Hid _ := e3
              clear e1 e2 e3 hk hd hn hr2
              go_wp2_with (first
                | (at_builtin; refine wpList_pushA (x := j) rfl _ _ rfl rfl rfl hoc (by omega) (by omega) ?_; intro g1 c1 w3 hown1 hgr1 hat1)
                | go_in)
              have T := (alloc_turns wr (Obj.cells #[.int .i64 (j : Int)] 3) _).trans (Turns.of_grown hgr1)
              have hB3 := T.below hB hbz (fun q hq => (World.ownsRow.lt hoc q hq.symm).1)
              have ht3 := (HT2.out.push hown1 hgr1 hat1).rot
              rw [List.length_append] at ht3
              go_roundw
              case rel => exact ⟨j + 1, by omega, by go_num, by rw [HE1.out, HE2.out, HE3.out]; exact ht3, hB3⟩
              case measure => simp [numOf]; omega
            · have hk : kd dB nB j = 1 := by simp [kd, hd, hn]
              rw [hk] at cj
              have e1 : listN (j + 1) dB = listN j dB := by rw [listN_succ, hd]; simp
              have e2 : listN (j + 1) aB = listN j aB ++ [j] := by rw [listN_succ, HAB.out]; simp [hd, hn]
              have e3 : listN (j + 1) cB = listN j cB := by rw [listN_succ, HCB.out]; simp [hd, hn]
              have HE1 : Hid _ := e1
              have HE2 : Hid _ := e2
              have HE3 : Hid _ := e3
              clear e1 e2 e3 hk hd hn hr2
              go_wp2_with (first
                | (at_builtin; refine wpList_pushA (x := j) rfl _ _ rfl rfl rfl hob (by omega) (by omega) ?_; intro g1 c1 w3 hown1 hgr1 hat1)
                | go_in)
              have T := (alloc_turns wr (Obj.cells #[.int .i64 (j : Int)] 3) _).trans (Turns.of_grown hgr1)
              have hB3 := T.below hB hbz (fun q hq => (World.ownsRow.lt hob q hq.symm).1)
              have ht3 := (HT1.out.push hown1 hgr1 hat1).rot.rot
              rw [List.length_append] at ht3
              go_roundw
              case rel => exact ⟨j + 1, by omega, by go_num, by rw [HE1.out, HE2.out, HE3.out]; exact ht3, hB3⟩
              case measure => simp [numOf]; omega
          · have hk : kd dB nB j = 2 := by simp [kd, hd]
            rw [hk] at cj
            have e1 : listN (j + 1) dB = listN j dB ++ [j] := by rw [listN_succ, hd]; simp
            have e2 : listN (j + 1) aB = listN j aB := by rw [listN_succ, HAB.out]; simp [hd]
            have e3 : listN (j + 1) cB = listN j cB := by rw [listN_succ, HCB.out]; simp [hd]
            have HE1 : Hid _ := e1
            have HE2 : Hid _ := e2
            have HE3 : Hid _ := e3
            clear e1 e2 e3 hk hd hr2
            go_wp2_with (first
              | (at_builtin; refine wpList_pushA (x := j) rfl _ _ rfl rfl rfl hoa (by omega) (by omega) ?_; intro g1 c1 w3 hown1 hgr1 hat1)
              | go_in)
            have T := (alloc_turns wr (Obj.cells #[.int .i64 (j : Int)] 3) _).trans (Turns.of_grown hgr1)
            have hB3 := T.below hB hbz (fun q hq => (World.ownsRow.lt hoa q hq.symm).1)
            have ht3 := HT0.out.push hown1 hgr1 hat1
            rw [List.length_append] at ht3
            go_roundw
            case rel => exact ⟨j + 1, by omega, by go_num, by rw [HE1.out, HE2.out, HE3.out]; exact ht3, hB3⟩
            case measure => simp [numOf]; omega
        · have hje : N = j := by omega
          subst hje
          have HT0 : Hid _ := hthr
          have hpb4 := HPB.out.below hB
          have HPB4 : Hid _ := hpb4
          have hT4 : Turns (fun k => k = bp) w wr := hT.trans (Turns.of_below hB _)
          clear hthr hpb4
          go_wp2
          have hle : w.heap.size ≤ Wz.heap.size := by omega
          refine bodyPost_ret (v := .tuple #[.slice do' (listN N dB).length dc, .slice ao' (listN N aB).length ac, .slice co' (listN N cB).length cc]) ?_ rfl ?_
          · simp [results, Tryd.results28, go_sem]
          refine ⟨_, _, _, rfl, HPB4.out, hT4, evs, Ods, ks, dB, nB, HKN.out, ownsRow_mono HT0.out.oa hle, ?_, ?_, HT0.out.bc⟩
          · rw [← HAB.out]
            exact ownsRow_mono HT0.out.ob hle
          · rw [← HCB.out]
            exact ownsRow_mono HT0.out.oc hle
theorem split_call {w : World} {bp g bm N : Nat} {ls : Nat → List Nat} {m : Nat → Option Nat} {E : Nat → Nat → Prop} (h : PB w bp g bm N ls m) (hN : N ≤ 100) (hM : Mat N E m) (hE : Nbs N ls E) (htr : ∀ r, r < N → m r = none → ∃ Ev Od k, Trap E m r Ev Od k) :
    Calls Tryd.prog 28 #[.pointer (some ⟨bp, 0, none⟩)] w fun e w' => ∃ dv av cv, e = .returned (.tuple #[dv, av, cv]) ∧ PB w' bp g bm N ls m ∧ Turns (fun k => k = bp) w w' ∧ ∃ evs Ods ks dB nB, Knd N N E m evs Ods ks dB nB ∧ w'.ownsRow w.heap.size 3 1 dv (listN N dB).length (qv (listN N dB)) ∧ w'.ownsRow w.heap.size 3 1 av (listN N fun x => !dB x && nB x).length (qv (listN N fun x => !dB x && nB x)) ∧ w'.ownsRow w.heap.size 3 1 cv (listN N fun x => !dB x && !nB x).length (qv (listN N fun x => !dB x && !nB x)) := by
  refine (split_call2 h hN hM hE htr).mono ?_
  rintro e w' ⟨dv, av, cv, h1, h2, h3, evs, Ods, ks, dB, nB, h4, h5, h6, h7, _⟩
  exact ⟨dv, av, cv, h1, h2, h3, evs, Ods, ks, dB, nB, h4, h5, h6, h7⟩
end Go.Proofs.YtenjkhgpfmfgmaaDoor
