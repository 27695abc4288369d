/- farFromFirst: how far each node is from the first node of its component. nearer: a node with an edge to v that is a step less far. slices.Reverse of a row of numbers. -/
import Derived.Test.YtenjkhgpfmfgmaaDoorDist
import Derived.Test.YtenjkhgpfmfgmaaDoorCutsM
namespace Go.Proofs.YtenjkhgpfmfgmaaDoor
open Go.RowKit Go.Maps
attribute [local go_sem ↓] Go.wp_at_zero Go.wp_at_succ

theorem left_class {N : Nat} {e : Nat → Nat → Bool} {R : Nat → Nat → Bool} {k b : Nat} (hs : ∀ a b, a < N → b < N → e a b = true → e b a = true) (hR : ∀ v x, R v x = true ↔ Star (St N e allB) v x) (hk : k < N) (hf : firstB allB R k = true) (hb : R k b = true) : leftTo allB R k b = true := by
  rw [leftTo_iff]
  refine ⟨rfl, fun u hu _ => ?_⟩
  cases hub : R u b
  · rfl
  · have h1 := (hR u b).1 hub
    have h2 := (St.back hs ((hR k b).1 hb) hk rfl).1
    have h3 := (hR u k).2 (h1.trans h2)
    rw [(firstB_iff.1 hf).2 u hu rfl] at h3
    cases h3
theorem bfs_dist {N : Nat} {e : Nat → Nat → Bool} {R : Nat → Nat → Bool} {k : Nat} {Q : List Nat} {d : Nat → Nat} (hs : ∀ a b, a < N → b < N → e a b = true → e b a = true) (hR : ∀ v x, R v x = true ↔ Star (St N e allB) v x) (hk : k < N) (hf : firstB allB R k = true) (h : Bfs N e (leftTo allB R k) k Q d Q.length) : Dist N e k (farF Q d) := by
  have inQ : ∀ x dx, farF Q d x = some dx → x ∈ Q ∧ dx = d x := fun x dx hx => by
    unfold farF at hx
    by_cases c : x ∈ Q
    · rw [if_pos c] at hx; cases hx; exact ⟨c, rfl⟩
    · rw [if_neg c] at hx; cases hx
  have hQ : ∀ x, x ∈ Q → farF Q d x = some (d x) := fun x hx => if_pos hx
  have kQ : k ∈ Q := List.mem_of_getElem? h.q0
  refine ⟨by rw [hQ k kQ, h.d0], fun x dx hx hd => ?_, fun a b da ha hb hab hd => ?_⟩
  · obtain ⟨h1, rfl⟩ := inQ x dx hd
    rcases h.par x h1 with rfl | ⟨p, h2, h3, _, h4⟩
    · exact Or.inl ⟨rfl, h.d0⟩
    · exact Or.inr ⟨p, d p, h.lt p h2, h3, hQ p h2, h4⟩
  · obtain ⟨h1, rfl⟩ := inQ a da hd
    have hka := (first_class hs hR hk hf a).1 (h.star a h1)
    have hkb : R k b = true := (hR k b).2 (((hR k a).1 hka).step ⟨hb, hab, rfl⟩)
    have hst : St N e (leftTo allB R k) a b := ⟨hb, hab, left_class hs hR hk hf hkb⟩
    have hbQ : b ∈ Q := (h.reach b).2 ((h.star a h1).step hst)
    exact ⟨d b, hQ b hbQ, h.tri h1 hst⟩

/-- far tells of each node how far it is from the first node of its component. -/
def FarAll (N : Nat) (e R : Nat → Nat → Bool) (far : Nat → Nat) (k : Nat) : Prop := ∀ f, f < k → firstB allB R f = true → ∃ o, Dist N e f o ∧ ∀ x, x < N → R f x = true → o x = some (far x)

theorem grown_setCell (w : World) (b o : Nat) (x : Value) : w.grownBy (w.setCell ⟨b, o, none⟩ x) (some b) := ⟨rfl, rfl, rfl, by simp [World.setCell], fun k _ hk => Below.heap_setCell _ _ _ _ (fun e => hk (by rw [e]))⟩

set_option maxHeartbeats 2000000 in
theorem farFirst_call {w : World} {N : Nat} {ao : Option Addr} {cap : Nat} {bl : Nat → Nat} {e : Nat → Nat → Bool} (hnear : NearsAt w ao N bl e) (hN : N ≤ 1000)
    (hs : ∀ a b, a < N → b < N → e a b = true → e b a = true) (R : Nat → Nat → Bool) (hR : ∀ v x, R v x = true ↔ Star (St N e allB) v x) :
    Calls Tryd.prog 44 #[.slice ao N cap] w fun r w' => ∃ b far, r = .returned (.slice (some ⟨b, 0, none⟩) N N) ∧ w.heap.size ≤ b ∧ RowV w' b 3 N (fun x => .int .i64 (far x : Nat)) ∧ FarAll N e R far N ∧ Below w.heap.size w w' := by
  obtain ⟨i3, hi3, hz0, hz1, hz2⟩ := info_parts Tryd.info3
  have hN6 : N ≤ 1000000 := by omega
  have hbl : ∀ i, i < N → bl i < w.heap.size := fun i hi => (hnear.sets i hi).lt
  have HR : Hid _ := hR
  have HS : Hid _ := hs
  have HNR : Hid _ := hnear
  clear hR hs hnear
  go_enter Tryd.func44, Tryd.ntmps44
  go_wp2_with (first
    | (at_make; refine wpList_make_full _ rfl _ _ 29 rfl w.heap.size 3 i3 (.int .i64 0) 1 Tryd.underlying29 hi3 hz0 hz1 .i64 .i64 _ _ N rfl rfl rfl rfl ?_ ?_ ?_ ?_; (rw [hz2]; omega); (unfold maxLen; omega); (omega); intro W1 hmade hg1; have hrow0 := rowV_made rfl hmade; have hB1 : Below w.heap.size w W1 := (Below.refl _ _).grown hg1 (Nat.le_refl _) (fun k hk => by cases hk))
    | (go_at_call 60; refine (all_call N _ (by omega)).mono ?_; rintro r W2 ⟨bL, rfl, hbL, hS, hbA⟩)
    | go_in)
  have hrow1 := hrow0.below hbA
  have hB2 := below_self hB1 hbA hB1.size
  have hlt0 := hrow0.lt
  have hbL' : w.heap.size < bL := by omega
  clear hmade hg1 hrow0 hB1 hbA hlt0 hbL
  go_loopw [16] (fun i wr => ∃ (k : Nat) (far : Nat → Nat), k ≤ N ∧ i = .int .i64 (k : Int) ∧ RowV wr w.heap.size 3 N (fun x => .int .i64 (far x : Nat)) ∧ SetN wr bL N (leftTo allB R k) ∧ FarAll N e R far k ∧ Below w.heap.size w wr) (fun i _ => N - (numOf i).toNat)
  case atStart => exact ⟨0, fun _ => 0, Nat.zero_le _, rfl, hrow1, hS.congr (fun x _ => by simp [leftTo, allB]), fun f h => by omega, hB2⟩
  case round =>
    obtain ⟨k, far, hk, rfl, hrow, hset, hall, hB⟩ := hrel
    clear hrow1 hS hB2
    by_cases hkN : k < N
    · by_cases hf : firstB allB R k = true
      · have HF : Hid _ := hf
        have HA : Hid _ := hall
        clear hf hall
        have hnr := NearsAt.below HNR.out hB
        have hsz := hB.size
        go_wp2_with (first
          | (go_at_call 61; refine (has_as hset hN6 hkN ((leftTo_self allB R k).trans HF.out)).mono ?_; rintro r1 w1 ⟨rfl, hb1⟩)
          | (go_at_call 62; refine (take_call (hnr.below hb1) (hset.below hb1 hset.lt) (fun i hi => by have := hbl i hi; omega) hN hkN).mono ?_; rintro r2 w2 ⟨bm, Q, d, rfl, hbfs, hfm, hset2, hbm, ht2⟩; have hDF := hfm; obtain ⟨DF, hownF, hhasF, hatF⟩ := hDF)
          | (at_range; refine wpList_range_own _ rfl _ 43 rfl 3 3 Tryd.lawI Tryd.underlying43 _ bm N DF rfl hownF ?_; intro w5 hrg0 hg0 hs0)
          | go_in)
        go_frame
        have hs1 := hb1.size
        have hs2 := ht2.size
        have T2 := (Turns.of_below hb1 (fun j => j = bL)).trans ht2
        have hrow2 := hrow.turns T2 (by omega)
        have hB2 := T2.below hB hB.size (fun j hj => by omega)
        have hb5 := below_grown hg0
        have hrow5 := hrow2.below hb5
        have hset5 := SetN.below hset2 hb5 hset2.lt
        have hB5 := below_self hB2 hb5 hB2.size
        have hbm' : w.heap.size < bm := by have := hrow.lt; omega
        obtain ⟨r, hr⟩ : ∃ r, r = w2.heap.size := ⟨_, rfl⟩
        rw [← hr] at hrg0 ⊢
        have hrge : w.heap.size < r := by have := hfm.lt; omega
        have hrL : bL ≠ r := by have := hset2.lt; omega
        have hmL : bL ≠ bm := by have := hset.lt; omega
        have HBF : Hid _ := hbfs
        have HHF : Hid _ := hhasF
        have HAT : Hid _ := hatF
        clear hrow hset hB hrow2 hB2 hset2 hg0 hs0 hb5 T2 ht2 hb1 hs1 hs2 hr hfm hownF hbfs hhasF hatF hbm hnr hsz
        go_loopw [6] (fun _ wz => ∃ (lf : Lit → Bool) (cnt : Nat) (g : Nat → Nat), wz.ranges Tryd.prog 3 (plainElem Tryd.prog 3) bm r N DF lf cnt ∧ RowV wz w.heap.size 3 N (fun x => .int .i64 (g x : Nat)) ∧ SetN wz bL N (leftF (leftTo allB R k) Q) ∧ (∀ x, x < N → farF Q d x = none → g x = far x) ∧ (∀ x dx, x < N → farF Q d x = some dx → lf (.int .i64 (x : Int)) = false → g x = dx) ∧ Below w.heap.size w wz) (fun _ wz => wz.rangeLeft bm r)
        case atStart =>
          refine ⟨_, _, far, hrg0, hrow5, hset5, fun x _ _ => rfl, fun x dx hx hd hlf => ?_, hB5⟩
          rw [HHF.out x (natI hN6 hx)] at hlf
          simp [hx, hd] at hlf
        case round =>
          obtain ⟨lf, cnt, g, hrgz, hrowz, hsetz, hg1, hg2, hBz⟩ := hrel
          have HG1 : Hid _ := hg1
          have HG2 : Hid _ := hg2
          clear hrg0 hrow5 hset5 hB5 hg1 hg2
          go_wp2_with (first | (at_next; refine wpList_next_ranges_ii _ rfl _ rfl 3 3 .i64 .i64 Tryd.lawI Tryd.underlying3 Tryd.underlying3 bm r N _ _ _ rfl hrgz ?_ ?_) | go_in)
          · intro hc0 hl0
            have hfin : ∀ x, x < N → R k x = true → farF Q d x = some (g x) := fun x hx hkx => by
              have hQ : x ∈ Q := (HBF.out.reach x).2 ((first_class HS.out HR.out hkN HF.out x).2 hkx)
              have h1 : farF Q d x = some (d x) := if_pos hQ
              rw [h1, HG2.out x (d x) hx h1 (hl0 _)]
            have hnew : FarAll N e R g (k + 1) := fun f hf hff => by
              by_cases c : f = k
              · subst c
                exact ⟨_, bfs_dist HS.out HR.out hkN HF.out HBF.out, hfin⟩
              · obtain ⟨o, h1, h2⟩ := HA.out f (by omega) hff
                refine ⟨o, h1, fun x hx hfx => ?_⟩
                rw [h2 x hx hfx, HG1.out x hx]
                unfold farF
                rw [if_neg]
                intro hQ
                have hkx := (first_class HS.out HR.out hkN HF.out x).1 (HBF.out.star x hQ)
                have h3 := left_class HS.out HR.out hkN HF.out hkx
                have := (leftTo_iff.1 h3).2 f (by omega) rfl
                rw [hfx] at this; cases this
            have hleft : ∀ x, x < N → leftF (leftTo allB R k) Q x = leftTo allB R (k + 1) x := fun x _ => by
              rw [leftTo_first HF.out]
              unfold leftF
              have := (HBF.out.reach x).trans (first_class HS.out HR.out hkN HF.out x)
              cases hx : R k x
              · rw [hx] at this; simp [this]
              · rw [hx] at this; simp [this]
            have HNW : Hid _ := hnew
            have HLF : Hid _ := hleft
            clear hfin hnew hleft
            go_wp2
            go_roundw
            case rel => exact ⟨k + 1, g, by omega, by go_num, hrowz, hsetz.congr HLF.out, HNW.out, hBz⟩
            case measure => simp [numOf]; omega
          · intro x c w6 cnt6 hwx hwc hlx hat hrg6 hcl hg6 hs6 hen
            have hhas := has_true_of_atKey hat
            have hxI : I64 x := ⟨(wf_bounds hwx).1, (wf_bounds hwx).2⟩
            rw [HHF.out x hxI] at hhas
            simp only [Bool.and_eq_true, decide_eq_true_eq] at hhas
            obtain ⟨⟨hx0, hxN⟩, hex⟩ := hhas
            obtain ⟨y, rfl⟩ : ∃ y : Nat, x = y := ⟨x.toNat, by omega⟩
            have hym : y < N := by omega
            obtain ⟨dy, hdy⟩ := Option.isSome_iff_exists.1 hex
            simp only [Int.toNat_natCast] at hdy
            have hc := hat (.lit (.int .i64 0))
            rw [HAT.out y dy hym hdy] at hc
            obtain rfl : (dy : Int) = c := by simpa using hc
            have hB6 := hBz.grown hg6 hBz.size (fun k hk => by cases hk; omega)
            have hrow6 := hrowz.block (w' := w6) (hg6.block _ hrowz.lt (by simp; omega))
            have hset6 := hsetz.block (w' := w6) (hg6.block _ hsetz.lt (by simpa using hrL))
            have hrk := fun (w' : World) (hg : w6.grownBy w' (some w.heap.size)) => hrg6.kept (w' := w') hg (by simp; omega) (by simp; omega)
            have HRG : Hid _ := hrk
            have HCL2 : Hid _ := hcl
            have HDY : Hid _ := hdy
            clear hs6 hex hat hlx hcl hc hrowz hsetz hBz hdy hg6 hrg6 hrk
            have i1 : (0 : Int) ≤ (y : Int) := by omega
            have i2 : (y : Int) < (N : Int) := by omega
            have cy := hrow6.cell hym
            have fy := hrow6.free y
            go_wp2
            have hr7 := HRG.out _ (grown_setCell w6 w.heap.size y (.int .i64 (dy : Int)))
            go_roundw
            case rel =>
              refine ⟨_, _, fun z => if z = y then dy else g z, hr7, (hrow6.set y (.int .i64 (dy : Int))).congr (fun z _ => ?_), hset6.turns (setCell_turns _ _ _ _) (by omega), fun z hz hn => ?_, fun z dz hz hd hlf => ?_, hB6.setCell (Nat.le_refl _) _⟩
              · by_cases e1 : z = y
                · simp [e1]
                · simp [e1]
              · have hne : ¬ z = y := fun e1 => by subst e1; rw [HDY.out] at hn; cases hn
                simp only [if_neg hne]
                exact HG1.out z hz hn
              · by_cases e1 : z = y
                · subst e1
                  rw [HDY.out] at hd
                  cases hd
                  simp
                · rw [strike_ne lf e1] at hlf
                  simp only [if_neg e1]
                  exact HG2.out z dz hz hd hlf
            case measure => rw [hr7.left_eq, hrgz.left_eq]; exact HCL2.out
      · have hf' : firstB allB R k = false := by simpa using hf
        have HF : Hid _ := hf'
        have HA : Hid _ := hall
        clear hf hf' hall
        go_wp2_with (first
          | (go_at_call 61; refine (has_as hset hN6 hkN ((leftTo_self allB R k).trans HF.out)).mono ?_; rintro r1 w1 ⟨rfl, hb1⟩)
          | go_in)
        go_roundw
        case rel =>
          refine ⟨k + 1, far, by omega, by go_num, hrow.below hb1, (hset.below hb1 hset.lt).congr (fun x _ => (leftTo_rest HR.out HF.out x).symm), fun f hf hff => ?_, below_self hB hb1 hB.size⟩
          by_cases c : f = k
          · subst c; rw [HF.out] at hff; cases hff
          · exact HA.out f (by omega) hff
        case measure => simp [numOf]; omega
    · have hke : N = k := by omega
      subst hke
      go_wp2
      go_ret
      exact ⟨_, far, rfl, Nat.le_refl _, hrow, hall, hB⟩
end Go.Proofs.YtenjkhgpfmfgmaaDoor

namespace Go.Proofs.YtenjkhgpfmfgmaaDoor
open Go.RowKit Go.Maps
attribute [local go_sem ↓] Go.wp_at_zero Go.wp_at_succ

theorem grown_of_below' {w w' : World} (hb : Below w.heap.size w w') : w.grownBy w' none := ⟨hb.os, hb.tape, hb.output, hb.size, fun k hk _ => hb.block k hk⟩
theorem castMin (u v : Nat) : ((min u v : Nat) : Int) = min (u : Int) (v : Int) := by omega

set_option maxHeartbeats 2000000 in
theorem nearer_call {w : World} {N : Nat} {ao : Option Addr} {cap : Nat} {bl : Nat → Nat} {e : Nat → Nat → Bool} (hnear : NearsAt w ao N bl e) (hN : N ≤ 1000) {bf : Nat} {far : Nat → Nat} (hrow : RowV w bf 3 N (fun x => .int .i64 (far x : Nat))) (hfar : ∀ x, x < N → far x ≤ 1000) {v : Nat} (hv : v < N)
    (hex : ∃ p, p < N ∧ e v p = true ∧ far p + 1 = far v) :
    Calls Tryd.prog 63 #[.slice ao N cap, .slice (some ⟨bf, 0, none⟩) N N, .int .i64 (v : Int)] w fun r w' => ∃ u : Nat, r = .returned (.int .i64 (u : Int)) ∧ u < N ∧ e v u = true ∧ far u + 1 = far v ∧ Below w.heap.size w w' := by
  have hm6 : N ≤ 1000000 := by omega
  obtain ⟨g, rfl, c1⟩ := hnear.row v hv
  have hset := hnear.sets v hv
  have hbl := hset.lt
  obtain ⟨bL, hbL⟩ : ∃ bL, bL = bl v := ⟨_, rfl⟩
  rw [← hbL] at c1 hset hbl
  obtain ⟨DN, hownN, hhasN⟩ := hset
  have HX : Hid _ := hex
  have HFR : Hid _ := hfar
  have hfv := hfar v hv
  have i1 : (0 : Int) ≤ (v : Int) := by omega
  have i2 : (v : Int) < (N : Int) := by omega
  clear hnear hex hfar hbL
  go_enter Tryd.func63, Tryd.ntmps63
  go_wp2_with (first
    | (at_range; refine wpList_range_own _ rfl _ 107 rfl 3 98 Tryd.lawI Tryd.underlying107 _ bL N DN rfl hownN ?_; intro w5 hrg0 hg0 hs0)
    | go_in)
  go_frame
  have hB5 : Below w.heap.size w w5 := (Below.refl _ _).grown hg0 (Nat.le_refl _) (fun k hk => by cases hk)
  obtain ⟨r, hr⟩ : ∃ r, r = w.heap.size := ⟨_, rfl⟩
  rw [← hr] at hrg0 ⊢
  have hrge : w.heap.size ≤ r := by omega
  clear hg0 hs0 hownN hr c1
  go_loopw [7] (fun a wz => ∃ (lf : Lit → Bool) (cnt z : Nat), a = .int .i64 (z : Int) ∧ z ≤ N ∧ (z < N → e v z = true ∧ far z + 1 = far v) ∧ wz.ranges Tryd.prog 3 unitElem bL r N DN lf cnt ∧ (∀ u, u < N → e v u = true → lf (.int .i64 (u : Int)) = false → far u + 1 = far v → z ≤ u) ∧ Below w.heap.size w wz) (fun _ wz => wz.rangeLeft bL r)
  case atStart =>
    refine ⟨_, _, N, rfl, Nat.le_refl _, fun h => by omega, hrg0, fun u hu hL hlf => ?_, hB5⟩
    rw [hhasN u (natI hm6 hu)] at hlf
    simp [hu, hL] at hlf
  case round =>
    obtain ⟨lf, cnt, z, rfl, hzN, hz, hrgz, hsf, hBz⟩ := hrel
    have HZ : Hid _ := hz
    have HSF : Hid _ := hsf
    clear hrg0 hB5 hz hsf
    go_wp2_with (first | (at_next; refine wpList_next_ranges _ rfl _ rfl 3 Tryd.lawI unitElem encZ (fun _ : Unit => .agg #[]) (fun key kl hk => by obtain ⟨x, hx, _⟩ := Maps.keyOf_i64 Tryd.underlying3 hk; exact ⟨x, hx⟩) (fun v _ hv => ⟨(), (unitElem_inv hv).1⟩) bL r N _ _ _ rfl hrgz ?_ ?_) | go_in)
    · intro hc0 hl0
      have hzz : z < N := by
        obtain ⟨p, h1, h2, h3⟩ := HX.out
        have := HSF.out p h1 h2 (hl0 _) h3
        omega
      have h4 := HZ.out hzz
      have H4 : Hid _ := h4
      clear h4
      go_wp2
      go_ret
      exact ⟨z, rfl, hzz, H4.out.1, H4.out.2, hBz⟩
    · intro x kl yd yp w6 cnt6 hkey hlk hvv hat hrg6 hcl hg6 hs6 hen
      obtain ⟨x', ex, rfl, hwf⟩ := Maps.keyOf_i64 Tryd.underlying3 hkey
      obtain rfl : x = x' := encZ_inj ex
      have hhas := has_true_of_atKey hat
      have hxI : I64 x := ⟨(wf_bounds hwf).1, (wf_bounds hwf).2⟩
      rw [hhasN x hxI] at hhas
      simp only [Bool.and_eq_true, decide_eq_true_eq] at hhas
      obtain ⟨⟨hx0, hxN⟩, hex⟩ := hhas
      obtain ⟨y, rfl⟩ : ∃ y : Nat, x = y := ⟨x.toNat, by omega⟩
      have hym : y < N := by omega
      have hLy : e v y = true := by simpa using hex
      have hB6 := hBz.grown hg6 hBz.size (fun k hk => by cases hk; omega)
      have hrow6 : RowV w6 bf 3 N (fun x => .int .i64 (far x : Nat)) := hrow.block (hB6.block _ hrow.lt)
      have cy := hrow6.cell hym
      have cv := hrow6.cell hv
      have hfy := HFR.out y hym
      have HLY : Hid _ := hLy
      have HCL2 : Hid _ := hcl
      have HRG : Hid (∀ w', Below w6.heap.size w6 w' → w'.ranges Tryd.prog 3 unitElem bL r N DN (fun z => lf z && !z.sameKey (.int .i64 (y : Int))) cnt6) := fun w' hb => hrg6.kept (w' := w') (grown_of_below' hb) (by simp) (by simp)
      clear hs6 hex hat hkey hvv hlk hcl hLy hrg6 hrow6
      have j1 : (0 : Int) ≤ (y : Int) := by omega
      have j2 : (y : Int) < (N : Int) := by omega
      have hsub : -9223372036854775808 ≤ (far v : Int) - 1 := by omega
      by_cases hok : far y + 1 = far v
      · have he1 : (far y : Int) = (far v : Int) - 1 := by omega
        have HOK : Hid _ := hok
        clear hok
        go_upto_region 5 with (fail)
        go_region
        all_goals
          go_wp2
          have hr7 := HRG.out _ (Below.refl _ _).drew
          go_roundw
          case rel =>
            refine ⟨_, _, min z y, by rw [castMin], by omega, fun h => ?_, hr7, fun u hu hL hlf hfu => ?_, hB6.drew⟩
            · by_cases c : z ≤ y
              · rw [Nat.min_eq_left c] at h ⊢; exact HZ.out h
              · rw [Nat.min_eq_right (by omega)]; exact ⟨HLY.out, HOK.out⟩
            · by_cases c : u = y
              · subst c; omega
              · rw [strike_ne lf c] at hlf
                have := HSF.out u hu hL hlf hfu
                omega
          case measure => rw [hr7.left_eq, hrgz.left_eq]; exact HCL2.out
      · have he1 : ¬ (far y : Int) = (far v : Int) - 1 := by omega
        have HOK : Hid _ := hok
        clear hok
        go_upto_region 5 with (fail)
        go_region
        all_goals
          go_wp2
          have hr7 := HRG.out _ (Below.refl _ _).drew
          go_roundw
          case rel =>
            refine ⟨_, _, z, rfl, hzN, HZ.out, hr7, fun u hu hL hlf hfu => ?_, hB6.drew⟩
            by_cases c : u = y
            · subst c; exact absurd hfu HOK.out
            · rw [strike_ne lf c] at hlf
              exact HSF.out u hu hL hlf hfu
          case measure => rw [hr7.left_eq, hrgz.left_eq]; exact HCL2.out
end Go.Proofs.YtenjkhgpfmfgmaaDoor

namespace Go.Proofs.YtenjkhgpfmfgmaaDoor
open Go.RowKit Go.Maps
attribute [local go_sem ↓] Go.wp_at_zero Go.wp_at_succ

/-- The first n cells of block g are the numbers f tells. -/
def RowN (w : World) (g n : Nat) (f : Nat → Nat) : Prop := ∃ cur, w.heap[g]? = some (.cells cur 3 (0, 0)) ∧ n ≤ cur.size ∧ ∀ j, j < n → cur[j]? = some (.int .i64 (f j : Nat))
theorem RowN.block {w w' : World} {g n : Nat} {f : Nat → Nat} (h : RowN w g n f) (hb : w'.heap[g]? = w.heap[g]?) : RowN w' g n f := by
  obtain ⟨cur, h1, h2⟩ := h
  exact ⟨cur, hb.trans h1, h2⟩
theorem RowN.lt {w : World} {g n : Nat} {f : Nat → Nat} (h : RowN w g n f) : g < w.heap.size := by
  obtain ⟨cur, h1, _⟩ := h; exact lt_of_block h1
theorem RowN.cell {w : World} {g n : Nat} {f : Nat → Nat} (h : RowN w g n f) {j : Nat} (hj : j < n) : w.cell? ⟨g, j, none⟩ = some (.int .i64 (f j : Nat)) := by
  obtain ⟨cur, h1, _, h3⟩ := h
  rw [cell_of_row w g j cur 3 (0, 0) h1]
  exact h3 j hj
theorem RowN.free {w : World} {g n : Nat} {f : Nat → Nat} (h : RowN w g n f) (j : Nat) : w.frozen? ⟨g, j, none⟩ = false := by
  obtain ⟨cur, h1, _⟩ := h
  simp [World.frozen?, h1]
theorem RowN.set {w : World} {g n : Nat} {f : Nat → Nat} (h : RowN w g n f) (y x : Nat) : RowN (w.setCell ⟨g, y, none⟩ (.int .i64 (x : Int))) g n (fun j => if j = y then x else f j) := by
  obtain ⟨cur, h1, h2, h3⟩ := h
  refine ⟨cur.setIfInBounds y (.int .i64 (x : Int)), ?_, by simp [h2], fun j hj => ?_⟩
  · have hl := lt_of_block h1
    simp [World.setCell, Array.getElem?_modify, h1]
  · by_cases e : j = y
    · subst e
      rw [Array.getElem?_setIfInBounds_self_of_lt (by omega)]
      simp
    · rw [Array.getElem?_setIfInBounds_ne (by omega), h3 j hj]
      simp [e]
theorem RowN.congr {w : World} {g n : Nat} {f f' : Nat → Nat} (h : RowN w g n f) (he : ∀ j, j < n → f j = f' j) : RowN w g n f' := by
  obtain ⟨cur, h1, h2, h3⟩ := h
  exact ⟨cur, h1, h2, fun j hj => by rw [h3 j hj, he j hj]⟩
theorem rowN_own {w : World} {base g cap : Nat} {l : List Nat} (h : w.ownsRow base 3 1 (.slice (some ⟨g, 0, none⟩) l.length cap) l.length (qv l)) : RowN w g l.length (fun j => l.getD j 0) := by
  rcases h.2 with ⟨h1, _⟩ | ⟨g', cap', cur, h1, _, h2, h3, _, h4, h5⟩
  · cases h1
  · cases h1
    refine ⟨cur, h2, by omega, fun j hj => ?_⟩
    have : (cur.toList.take (l.length * 1))[j]? = some (.int .i64 (l.getD j 0 : Nat)) := by
      rw [h5]
      simp [qv, hj]
    rw [List.getElem?_take_of_lt (by omega)] at this
    simpa using this

def revF (f : Nat → Nat) (n i x : Nat) : Nat := if x < i ∨ n - 1 - x < i then f (n - 1 - x) else f x
theorem revF_swap {f : Nat → Nat} {n i : Nat} (h : i < n - 1 - i) {x : Nat} (hx : x < n) : revF f n (i + 1) x = if x = n - 1 - i then revF f n i i else if x = i then revF f n i (n - 1 - i) else revF f n i x := by
  unfold revF
  by_cases c1 : x = n - 1 - i
  · subst c1
    have e1 : n - 1 - (n - 1 - i) = i := by omega
    rw [if_pos rfl, if_pos (by omega), if_neg (by omega), e1]
  · rw [if_neg c1]
    by_cases c2 : x = i
    · subst c2
      rw [if_pos rfl, if_pos (by omega), if_neg (by omega)]
    · rw [if_neg c2]
      by_cases c3 : x < i ∨ n - 1 - x < i
      · rw [if_pos (by omega), if_pos c3]
      · rw [if_neg (by omega), if_neg c3]

set_option maxHeartbeats 2000000 in
theorem reverse_call {w : World} {g n cap : Nat} {f : Nat → Nat} (h : RowN w g n f) (hn : n ≤ 1000) :
    Calls Tryd.prog 64 #[.slice (some ⟨g, 0, none⟩) n cap] w fun r w' => r = .returned (.tuple #[]) ∧ RowN w' g n (fun x => f (n - 1 - x)) ∧ Turns (fun k => k = g) w w' := by
  go_enter Tryd.func64, Tryd.ntmps64
  go_wp2
  go_loopw [2, 3] (fun a b wr => ∃ i : Nat, i ≤ n ∧ a = .int .i64 (i : Int) ∧ b = .int .i64 ((n : Int) - 1 - i) ∧ (i : Int) ≤ (n : Int) - 1 - i + 2 ∧ RowN wr g n (revF f n i) ∧ Turns (fun k => k = g) w wr) (fun a _ _ => n - (numOf a).toNat)
  case atStart => exact ⟨0, Nat.zero_le _, rfl, by simp, by omega, h.congr (fun j _ => by simp [revF]), Turns.refl _ _⟩
  case round =>
    obtain ⟨i, hi, rfl, rfl, hi2, hrow, ht⟩ := hrel
    clear h
    by_cases hlt : (i : Int) < (n : Int) - 1 - i
    · obtain ⟨j, hj⟩ : ∃ j : Nat, (n : Int) - 1 - i = (j : Int) := ⟨n - 1 - i, by omega⟩
      have hj' : j = n - 1 - i := by omega
      have hjn : j < n := by omega
      have hin : i < n := by omega
      have hij : i ≠ j := by omega
      rw [hj] at hlt ⊢
      have ci := hrow.cell hin
      have cj := hrow.cell hjn
      have fi := hrow.free i
      have fj := hrow.free j
      have i1 : (0 : Int) ≤ (i : Int) := by omega
      have i2 : (i : Int) < (n : Int) := by omega
      have j1 : (0 : Int) ≤ (j : Int) := by omega
      have j2 : (j : Int) < (n : Int) := by omega
      have HR : Hid _ := hrow
      have HJ : Hid _ := hj
      have HJ' : Hid _ := hj'
      clear hrow hj hj'
      go_upto_region 3 with (fail)
      go_region
      all_goals
        go_wp2
        go_roundw
        case rel =>
          refine ⟨i + 1, by omega, by go_num, ?_, ?_, ?_, ?_⟩
          · have := HJ.out; simp; omega
          · have := HJ.out; omega
          · first
              | (refine RowN.block (w := (wr.setCell ⟨g, i, none⟩ (.int .i64 (revF f n i j : Nat))).setCell ⟨g, j, none⟩ (.int .i64 (revF f n i i : Nat))) (((RowN.set HR.out i _).set j _).congr (fun x hx => ?_)) rfl
                 rw [revF_swap (by have := HJ'.out; omega) hx, ← HJ'.out])
              | (refine RowN.block (w := (wr.setCell ⟨g, j, none⟩ (.int .i64 (revF f n i i : Nat))).setCell ⟨g, i, none⟩ (.int .i64 (revF f n i j : Nat))) (((RowN.set HR.out j _).set i _).congr (fun x hx => ?_)) rfl
                 rw [revF_swap (by have := HJ'.out; omega) hx, ← HJ'.out]
                 by_cases c1 : x = i
                 · subst c1; simp [hij]
                 · simp [c1])
          · exact (ht.trans ((setCell_turns _ _ _ _).trans (setCell_turns _ _ _ _))).trans (Turns.of_below (Below.refl _ _).drew _)
        case measure => simp [numOf]; omega
    · go_wp2
      go_end0
      refine ⟨rfl, hrow.congr (fun x hx => ?_), ht⟩
      unfold revF
      by_cases c : x < i ∨ n - 1 - x < i
      · rw [if_pos c]
      · rw [if_neg c]
        have : n - 1 - x = x := by omega
        rw [this]
end Go.Proofs.YtenjkhgpfmfgmaaDoor
