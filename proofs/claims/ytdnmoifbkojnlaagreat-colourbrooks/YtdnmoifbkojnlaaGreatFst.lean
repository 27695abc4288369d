/- farFromFirst: how far each node is from the first node of its component. nearer: a node with an edge to v that is a step less far. slices.Reverse of a row of numbers. oddRing: from both ends of an edge towards the first node, until both ways meet. -/
import Derived.Test.YtdnmoifbkojnlaaGreatWys
import Derived.Test.YtdnmoifbkojnlaaGreatFrm
import Derived.Deep.AppendLies
namespace Go.Proofs.YtdnmoifbkojnlaaGreat
set_option maxRecDepth 4000
open Go.RowKit Go.Maps
attribute [local go_sem ↓] Go.wp_at_zero Go.wp_at_succ

theorem left_class {N : Nat} {e : Nat → Nat → Bool} {R : Nat → Nat → Bool} {k b : Nat} (hs : ∀ a b, a < N → b < N → e a b = true → e b a = true) (hR : ∀ v x, R v x = true ↔ Star (St N e allB) v x) (hk : k < N) (hf : firstB allB R k = true) (hb : R k b = true) : leftTo allB R k b = true := by
  rw [leftTo_iff]
  refine ⟨rfl, fun u hu _ => ?_⟩
  cases hub : R u b
  · rfl
  · have h1 := (hR u b).1 hub
    have h2 := (St.back hs ((hR k b).1 hb) hk rfl).1
    have h3 := (hR u k).2 (h1.trans h2)
    rw [(firstB_iff.1 hf).2 u hu rfl] at h3
    cases h3
theorem bfs_dist {N : Nat} {e : Nat → Nat → Bool} {R : Nat → Nat → Bool} {k : Nat} {Q : List Nat} {d : Nat → Nat} (hs : ∀ a b, a < N → b < N → e a b = true → e b a = true) (hR : ∀ v x, R v x = true ↔ Star (St N e allB) v x) (hk : k < N) (hf : firstB allB R k = true) (h : Bfs N e (leftTo allB R k) k Q d Q.length) : Dist N e k (farF Q d) := by
  have inQ : ∀ x dx, farF Q d x = some dx → x ∈ Q ∧ dx = d x := fun x dx hx => by
    unfold farF at hx
    by_cases c : x ∈ Q
    · rw [if_pos c] at hx; cases hx; exact ⟨c, rfl⟩
    · rw [if_neg c] at hx; cases hx
  have hQ : ∀ x, x ∈ Q → farF Q d x = some (d x) := fun x hx => if_pos hx
  have kQ : k ∈ Q := List.mem_of_getElem? h.q0
  refine ⟨by rw [hQ k kQ, h.d0], fun x dx hx hd => ?_, fun a b da ha hb hab hd => ?_⟩
  · obtain ⟨h1, rfl⟩ := inQ x dx hd
    rcases h.par x h1 with rfl | ⟨p, h2, h3, _, h4⟩
    · exact Or.inl ⟨rfl, h.d0⟩
    · exact Or.inr ⟨p, d p, h.lt p h2, h3, hQ p h2, h4⟩
  · obtain ⟨h1, rfl⟩ := inQ a da hd
    have hka := (first_class hs hR hk hf a).1 (h.star a h1)
    have hkb : R k b = true := (hR k b).2 (((hR k a).1 hka).step ⟨hb, hab, rfl⟩)
    have hst : St N e (leftTo allB R k) a b := ⟨hb, hab, left_class hs hR hk hf hkb⟩
    have hbQ : b ∈ Q := (h.reach b).2 ((h.star a h1).step hst)
    exact ⟨d b, hQ b hbQ, h.tri h1 hst⟩

/-- far tells of each node how far it is from the first node of its component. -/
def FarAll (N : Nat) (e R : Nat → Nat → Bool) (far : Nat → Nat) (k : Nat) : Prop := ∀ f, f < k → firstB allB R f = true → ∃ o, Dist N e f o ∧ ∀ x, x < N → R f x = true → o x = some (far x)

theorem grown_setCell (w : World) (b o : Nat) (x : Value) : w.grownBy (w.setCell ⟨b, o, none⟩ x) (some b) := ⟨rfl, rfl, rfl, by simp [World.setCell], fun k _ hk => Below.heap_setCell _ _ _ _ (fun e => hk (by rw [e]))⟩

set_option maxHeartbeats 2000000 in
theorem farFirst_call {w : World} {N : Nat} {ao : Option Addr} {cap : Nat} {bl : Nat → Nat} {e : Nat → Nat → Bool} (hnear : NearsAt w ao N bl e) (hN : N ≤ 1000)
    (hs : ∀ a b, a < N → b < N → e a b = true → e b a = true) (R : Nat → Nat → Bool) (hR : ∀ v x, R v x = true ↔ Star (St N e allB) v x) :
    Calls Tryz.prog 43 #[.slice ao N cap] w fun r w' => ∃ b far, r = .returned (.slice (some ⟨b, 0, none⟩) N N) ∧ w.heap.size ≤ b ∧ RowV w' b 3 N (fun x => .int .i64 (far x : Nat)) ∧ FarAll N e R far N ∧ Below w.heap.size w w' := by
  obtain ⟨i3, hi3, hz0, hz1, hz2⟩ := info_parts Tryz.info3
  have hN6 : N ≤ 1000000 := by omega
  have hbl : ∀ i, i < N → bl i < w.heap.size := fun i hi => (hnear.sets i hi).lt
  have HR : Hid _ := hR
  have HS : Hid _ := hs
  have HNR : Hid _ := hnear
  clear hR hs hnear
  go_enter Tryz.func43, Tryz.ntmps43
  go_wp2_with (first
    | (at_make; refine wpList_make_full _ rfl _ _ 29 rfl w.heap.size 3 i3 (.int .i64 0) 1 Tryz.underlying29 hi3 hz0 hz1 .i64 .i64 _ _ N rfl rfl rfl rfl ?_ ?_ ?_ ?_; (rw [hz2]; omega); (unfold maxLen; omega); (omega); intro W1 hmade hg1; have hrow0 := rowV_made rfl hmade; have hB1 : Below w.heap.size w W1 := (Below.refl _ _).grown hg1 (Nat.le_refl _) (fun k hk => by cases hk))
    | (go_at_call 33; refine (all_call N _ (by omega)).mono ?_; rintro r W2 ⟨bL, rfl, hbL, hS, hbA⟩)
    | go_in)
  have hrow1 := hrow0.below hbA
  have hB2 := below_self hB1 hbA hB1.size
  have hlt0 := hrow0.lt
  have hbL' : w.heap.size < bL := by omega
  clear hmade hg1 hrow0 hB1 hbA hlt0 hbL
  go_loopw [16] (fun i wr => ∃ (k : Nat) (far : Nat → Nat), k ≤ N ∧ i = .int .i64 (k : Int) ∧ RowV wr w.heap.size 3 N (fun x => .int .i64 (far x : Nat)) ∧ SetN wr bL N (leftTo allB R k) ∧ FarAll N e R far k ∧ Below w.heap.size w wr) (fun i _ => N - (numOf i).toNat)
  case atStart => exact ⟨0, fun _ => 0, Nat.zero_le _, rfl, hrow1, hS.congr (fun x _ => by simp [leftTo, allB]), fun f h => by omega, hB2⟩
  case round =>
    obtain ⟨k, far, hk, rfl, hrow, hset, hall, hB⟩ := hrel
    clear hrow1 hS hB2
    by_cases hkN : k < N
    · by_cases hf : firstB allB R k = true
      · have HF : Hid _ := hf
        have HA : Hid _ := hall
        clear hf hall
        have hnr := NearsAt.below HNR.out hB
        have hsz := hB.size
        go_wp2_with (first
          | (go_at_call 51; refine (has_as hset hN6 hkN ((leftTo_self allB R k).trans HF.out)).mono ?_; rintro r1 w1 ⟨rfl, hb1⟩)
          | (go_at_call 53; refine (take_call (hnr.below hb1) (hset.below hb1 hset.lt) (fun i hi => by have := hbl i hi; omega) hN hkN).mono ?_; rintro r2 w2 ⟨bm, Q, d, rfl, hbfs, hfm, hset2, hbm, ht2⟩; have hDF := hfm; obtain ⟨DF, hownF, hhasF, hatF⟩ := hDF)
          | (at_range; refine wpList_range_own _ rfl _ 94 rfl 3 3 Tryz.lawI Tryz.underlying94 _ bm N DF rfl hownF ?_; intro w5 hrg0 hg0 hs0)
          | go_in)
        go_frame
        have hs1 := hb1.size
        have hs2 := ht2.size
        have T2 := (Turns.of_below hb1 (fun j => j = bL)).trans ht2
        have hrow2 := hrow.turns T2 (by omega)
        have hB2 := T2.below hB hB.size (fun j hj => by omega)
        have hb5 := below_grown hg0
        have hrow5 := hrow2.below hb5
        have hset5 := SetN.below hset2 hb5 hset2.lt
        have hB5 := below_self hB2 hb5 hB2.size
        have hbm' : w.heap.size < bm := by have := hrow.lt; omega
        obtain ⟨r, hr⟩ : ∃ r, r = w2.heap.size := ⟨_, rfl⟩
        rw [← hr] at hrg0 ⊢
        have hrge : w.heap.size < r := by have := hfm.lt; omega
        have hrL : bL ≠ r := by have := hset2.lt; omega
        have hmL : bL ≠ bm := by have := hset.lt; omega
        have HBF : Hid _ := hbfs
        have HHF : Hid _ := hhasF
        have HAT : Hid _ := hatF
        clear hrow hset hB hrow2 hB2 hset2 hg0 hs0 hb5 T2 ht2 hb1 hs1 hs2 hr hfm hownF hbfs hhasF hatF hbm hnr hsz
        go_loopw [6] (fun _ wz => ∃ (lf : Lit → Bool) (cnt : Nat) (g : Nat → Nat), wz.ranges Tryz.prog 3 (plainElem Tryz.prog 3) bm r N DF lf cnt ∧ RowV wz w.heap.size 3 N (fun x => .int .i64 (g x : Nat)) ∧ SetN wz bL N (leftF (leftTo allB R k) Q) ∧ (∀ x, x < N → farF Q d x = none → g x = far x) ∧ (∀ x dx, x < N → farF Q d x = some dx → lf (.int .i64 (x : Int)) = false → g x = dx) ∧ Below w.heap.size w wz) (fun _ wz => wz.rangeLeft bm r)
        case atStart =>
          refine ⟨_, _, far, hrg0, hrow5, hset5, fun x _ _ => rfl, fun x dx hx hd hlf => ?_, hB5⟩
          rw [HHF.out x (natI hN6 hx)] at hlf
          simp [hx, hd] at hlf
        case round =>
          obtain ⟨lf, cnt, g, hrgz, hrowz, hsetz, hg1, hg2, hBz⟩ := hrel
          have HG1 : Hid _ := hg1
          have HG2 : Hid _ := hg2
          clear hrg0 hrow5 hset5 hB5 hg1 hg2
          go_wp2_with (first | (at_next; refine wpList_next_ranges_ii _ rfl _ rfl 3 3 .i64 .i64 Tryz.lawI Tryz.underlying3 Tryz.underlying3 bm r N _ _ _ rfl hrgz ?_ ?_) | go_in)
          · intro hc0 hl0
            have hfin : ∀ x, x < N → R k x = true → farF Q d x = some (g x) := fun x hx hkx => by
              have hQ : x ∈ Q := (HBF.out.reach x).2 ((first_class HS.out HR.out hkN HF.out x).2 hkx)
              have h1 : farF Q d x = some (d x) := if_pos hQ
              rw [h1, HG2.out x (d x) hx h1 (hl0 _)]
            have hnew : FarAll N e R g (k + 1) := fun f hf hff => by
              by_cases c : f = k
              · subst c
                exact ⟨_, bfs_dist HS.out HR.out hkN HF.out HBF.out, hfin⟩
              · obtain ⟨o, h1, h2⟩ := HA.out f (by omega) hff
                refine ⟨o, h1, fun x hx hfx => ?_⟩
                rw [h2 x hx hfx, HG1.out x hx]
                unfold farF
                rw [if_neg]
                intro hQ
                have hkx := (first_class HS.out HR.out hkN HF.out x).1 (HBF.out.star x hQ)
                have h3 := left_class HS.out HR.out hkN HF.out hkx
                have := (leftTo_iff.1 h3).2 f (by omega) rfl
                rw [hfx] at this; cases this
            have hleft : ∀ x, x < N → leftF (leftTo allB R k) Q x = leftTo allB R (k + 1) x := fun x _ => by
              rw [leftTo_first HF.out]
              unfold leftF
              have := (HBF.out.reach x).trans (first_class HS.out HR.out hkN HF.out x)
              cases hx : R k x
              · rw [hx] at this; simp [this]
              · rw [hx] at this; simp [this]
            have HNW : Hid _ := hnew
            have HLF : Hid _ := hleft
            clear hfin hnew hleft
            go_wp2
            go_roundw
            case rel => exact ⟨k + 1, g, by omega, by go_num, hrowz, hsetz.congr HLF.out, HNW.out, hBz⟩
            case measure => simp [numOf]; omega
          · intro x c w6 cnt6 hwx hwc hlx hat hrg6 hcl hg6 hs6 hen
            have hhas := has_true_of_atKey hat
            have hxI : I64 x := ⟨(wf_bounds hwx).1, (wf_bounds hwx).2⟩
            rw [HHF.out x hxI] at hhas
            simp only [Bool.and_eq_true, decide_eq_true_eq] at hhas
            obtain ⟨⟨hx0, hxN⟩, hex⟩ := hhas
            obtain ⟨y, rfl⟩ : ∃ y : Nat, x = y := ⟨x.toNat, by omega⟩
            have hym : y < N := by omega
            obtain ⟨dy, hdy⟩ := Option.isSome_iff_exists.1 hex
            simp only [Int.toNat_natCast] at hdy
            have hc := hat (.lit (.int .i64 0))
            rw [HAT.out y dy hym hdy] at hc
            obtain rfl : (dy : Int) = c := by simpa using hc
            have hB6 := hBz.grown hg6 hBz.size (fun k hk => by cases hk; omega)
            have hrow6 := hrowz.block (w' := w6) (hg6.block _ hrowz.lt (by simp; omega))
            have hset6 := hsetz.block (w' := w6) (hg6.block _ hsetz.lt (by simpa using hrL))
            have hrk := fun (w' : World) (hg : w6.grownBy w' (some w.heap.size)) => hrg6.kept (w' := w') hg (by simp; omega) (by simp; omega)
            have HRG : Hid _ := hrk
            have HCL2 : Hid _ := hcl
            have HDY : Hid _ := hdy
            clear hs6 hex hat hlx hcl hc hrowz hsetz hBz hdy hg6 hrg6 hrk
            have i1 : (0 : Int) ≤ (y : Int) := by omega
            have i2 : (y : Int) < (N : Int) := by omega
            have cy := hrow6.cell hym
            have fy := hrow6.free y
            go_wp2
            have hr7 := HRG.out _ (grown_setCell w6 w.heap.size y (.int .i64 (dy : Int)))
            go_roundw
            case rel =>
              refine ⟨_, _, fun z => if z = y then dy else g z, hr7, (hrow6.set y (.int .i64 (dy : Int))).congr (fun z _ => ?_), hset6.turns (setCell_turns _ _ _ _) (by omega), fun z hz hn => ?_, fun z dz hz hd hlf => ?_, hB6.setCell (Nat.le_refl _) _⟩
              · by_cases e1 : z = y
                · simp [e1]
                · simp [e1]
              · have hne : ¬ z = y := fun e1 => by subst e1; rw [HDY.out] at hn; cases hn
                simp only [if_neg hne]
                exact HG1.out z hz hn
              · by_cases e1 : z = y
                · subst e1
                  rw [HDY.out] at hd
                  cases hd
                  simp
                · rw [strike_ne lf e1] at hlf
                  simp only [if_neg e1]
                  exact HG2.out z dz hz hd hlf
            case measure => rw [hr7.left_eq, hrgz.left_eq]; exact HCL2.out
      · have hf' : firstB allB R k = false := by simpa using hf
        have HF : Hid _ := hf'
        have HA : Hid _ := hall
        clear hf hf' hall
        go_wp2_with (first
          | (go_at_call 51; refine (has_as hset hN6 hkN ((leftTo_self allB R k).trans HF.out)).mono ?_; rintro r1 w1 ⟨rfl, hb1⟩)
          | go_in)
        go_roundw
        case rel =>
          refine ⟨k + 1, far, by omega, by go_num, hrow.below hb1, (hset.below hb1 hset.lt).congr (fun x _ => (leftTo_rest HR.out HF.out x).symm), fun f hf hff => ?_, below_self hB hb1 hB.size⟩
          by_cases c : f = k
          · subst c; rw [HF.out] at hff; cases hff
          · exact HA.out f (by omega) hff
        case measure => simp [numOf]; omega
    · have hke : N = k := by omega
      subst hke
      go_wp2
      go_ret
      exact ⟨_, far, rfl, Nat.le_refl _, hrow, hall, hB⟩
end Go.Proofs.YtdnmoifbkojnlaaGreat

namespace Go.Proofs.YtdnmoifbkojnlaaGreat
set_option maxRecDepth 4000
open Go.RowKit Go.Maps
attribute [local go_sem ↓] Go.wp_at_zero Go.wp_at_succ

theorem grown_of_below' {w w' : World} (hb : Below w.heap.size w w') : w.grownBy w' none := ⟨hb.os, hb.tape, hb.output, hb.size, fun k hk _ => hb.block k hk⟩
theorem castMin (u v : Nat) : ((min u v : Nat) : Int) = min (u : Int) (v : Int) := by omega

set_option maxHeartbeats 2000000 in
theorem nearer_call {w : World} {N : Nat} {ao : Option Addr} {cap : Nat} {bl : Nat → Nat} {e : Nat → Nat → Bool} (hnear : NearsAt w ao N bl e) (hN : N ≤ 1000) {bf : Nat} {far : Nat → Nat} (hrow : RowV w bf 3 N (fun x => .int .i64 (far x : Nat))) (hfar : ∀ x, x < N → far x ≤ 1000) {v : Nat} (hv : v < N)
    (hex : ∃ p, p < N ∧ e v p = true ∧ far p + 1 = far v) :
    Calls Tryz.prog 71 #[.slice ao N cap, .slice (some ⟨bf, 0, none⟩) N N, .int .i64 (v : Int)] w fun r w' => ∃ u : Nat, r = .returned (.int .i64 (u : Int)) ∧ u < N ∧ e v u = true ∧ far u + 1 = far v ∧ Below w.heap.size w w' := by
  have hm6 : N ≤ 1000000 := by omega
  obtain ⟨g, rfl, c1⟩ := hnear.row v hv
  have hset := hnear.sets v hv
  have hbl := hset.lt
  obtain ⟨bL, hbL⟩ : ∃ bL, bL = bl v := ⟨_, rfl⟩
  rw [← hbL] at c1 hset hbl
  obtain ⟨DN, hownN, hhasN⟩ := hset
  have HX : Hid _ := hex
  have HFR : Hid _ := hfar
  have hfv := hfar v hv
  have i1 : (0 : Int) ≤ (v : Int) := by omega
  have i2 : (v : Int) < (N : Int) := by omega
  clear hnear hex hfar hbL
  go_enter Tryz.func71, Tryz.ntmps71
  go_wp2_with (first
    | (at_range; refine wpList_range_own _ rfl _ 66 rfl 3 89 Tryz.lawI Tryz.underlying66 _ bL N DN rfl hownN ?_; intro w5 hrg0 hg0 hs0)
    | go_in)
  go_frame
  have hB5 : Below w.heap.size w w5 := (Below.refl _ _).grown hg0 (Nat.le_refl _) (fun k hk => by cases hk)
  obtain ⟨r, hr⟩ : ∃ r, r = w.heap.size := ⟨_, rfl⟩
  rw [← hr] at hrg0 ⊢
  have hrge : w.heap.size ≤ r := by omega
  clear hg0 hs0 hownN hr c1
  go_loopw [7] (fun a wz => ∃ (lf : Lit → Bool) (cnt z : Nat), a = .int .i64 (z : Int) ∧ z ≤ N ∧ (z < N → e v z = true ∧ far z + 1 = far v) ∧ wz.ranges Tryz.prog 3 unitElem bL r N DN lf cnt ∧ (∀ u, u < N → e v u = true → lf (.int .i64 (u : Int)) = false → far u + 1 = far v → z ≤ u) ∧ Below w.heap.size w wz) (fun _ wz => wz.rangeLeft bL r)
  case atStart =>
    refine ⟨_, _, N, rfl, Nat.le_refl _, fun h => by omega, hrg0, fun u hu hL hlf => ?_, hB5⟩
    rw [hhasN u (natI hm6 hu)] at hlf
    simp [hu, hL] at hlf
  case round =>
    obtain ⟨lf, cnt, z, rfl, hzN, hz, hrgz, hsf, hBz⟩ := hrel
    have HZ : Hid _ := hz
    have HSF : Hid _ := hsf
    clear hrg0 hB5 hz hsf
    go_wp2_with (first | (at_next; refine wpList_next_ranges _ rfl _ rfl 3 Tryz.lawI unitElem encZ (fun _ : Unit => .agg #[]) (fun key kl hk => by obtain ⟨x, hx, _⟩ := Maps.keyOf_i64 Tryz.underlying3 hk; exact ⟨x, hx⟩) (fun v _ hv => ⟨(), (unitElem_inv hv).1⟩) bL r N _ _ _ rfl hrgz ?_ ?_) | go_in)
    · intro hc0 hl0
      have hzz : z < N := by
        obtain ⟨p, h1, h2, h3⟩ := HX.out
        have := HSF.out p h1 h2 (hl0 _) h3
        omega
      have h4 := HZ.out hzz
      have H4 : Hid _ := h4
      clear h4
      go_wp2
      go_ret
      exact ⟨z, rfl, hzz, H4.out.1, H4.out.2, hBz⟩
    · intro x kl yd yp w6 cnt6 hkey hlk hvv hat hrg6 hcl hg6 hs6 hen
      obtain ⟨x', ex, rfl, hwf⟩ := Maps.keyOf_i64 Tryz.underlying3 hkey
      obtain rfl : x = x' := encZ_inj ex
      have hhas := has_true_of_atKey hat
      have hxI : I64 x := ⟨(wf_bounds hwf).1, (wf_bounds hwf).2⟩
      rw [hhasN x hxI] at hhas
      simp only [Bool.and_eq_true, decide_eq_true_eq] at hhas
      obtain ⟨⟨hx0, hxN⟩, hex⟩ := hhas
      obtain ⟨y, rfl⟩ : ∃ y : Nat, x = y := ⟨x.toNat, by omega⟩
      have hym : y < N := by omega
      have hLy : e v y = true := by simpa using hex
      have hB6 := hBz.grown hg6 hBz.size (fun k hk => by cases hk; omega)
      have hrow6 : RowV w6 bf 3 N (fun x => .int .i64 (far x : Nat)) := hrow.block (hB6.block _ hrow.lt)
      have cy := hrow6.cell hym
      have cv := hrow6.cell hv
      have hfy := HFR.out y hym
      have HLY : Hid _ := hLy
      have HCL2 : Hid _ := hcl
      have HRG : Hid (∀ w', Below w6.heap.size w6 w' → w'.ranges Tryz.prog 3 unitElem bL r N DN (fun z => lf z && !z.sameKey (.int .i64 (y : Int))) cnt6) := fun w' hb => hrg6.kept (w' := w') (grown_of_below' hb) (by simp) (by simp)
      clear hs6 hex hat hkey hvv hlk hcl hLy hrg6 hrow6
      have j1 : (0 : Int) ≤ (y : Int) := by omega
      have j2 : (y : Int) < (N : Int) := by omega
      have hsub : -9223372036854775808 ≤ (far v : Int) - 1 := by omega
      by_cases hok : far y + 1 = far v
      · have he1 : (far y : Int) = (far v : Int) - 1 := by omega
        have HOK : Hid _ := hok
        clear hok
        go_upto_region 5 with (fail)
        go_region
        all_goals
          go_wp2
          have hr7 := HRG.out _ (Below.refl _ _).drew
          go_roundw
          case rel =>
            refine ⟨_, _, min z y, by rw [castMin], by omega, fun h => ?_, hr7, fun u hu hL hlf hfu => ?_, hB6.drew⟩
            · by_cases c : z ≤ y
              · rw [Nat.min_eq_left c] at h ⊢; exact HZ.out h
              · rw [Nat.min_eq_right (by omega)]; exact ⟨HLY.out, HOK.out⟩
            · by_cases c : u = y
              · subst c; omega
              · rw [strike_ne lf c] at hlf
                have := HSF.out u hu hL hlf hfu
                omega
          case measure => rw [hr7.left_eq, hrgz.left_eq]; exact HCL2.out
      · have he1 : ¬ (far y : Int) = (far v : Int) - 1 := by omega
        have HOK : Hid _ := hok
        clear hok
        go_upto_region 5 with (fail)
        go_region
        all_goals
          go_wp2
          have hr7 := HRG.out _ (Below.refl _ _).drew
          go_roundw
          case rel =>
            refine ⟨_, _, z, rfl, hzN, HZ.out, hr7, fun u hu hL hlf hfu => ?_, hB6.drew⟩
            by_cases c : u = y
            · subst c; exact absurd hfu HOK.out
            · rw [strike_ne lf c] at hlf
              exact HSF.out u hu hL hlf hfu
          case measure => rw [hr7.left_eq, hrgz.left_eq]; exact HCL2.out
end Go.Proofs.YtdnmoifbkojnlaaGreat

namespace Go.Proofs.YtdnmoifbkojnlaaGreat
set_option maxRecDepth 4000
open Go.RowKit Go.Maps
attribute [local go_sem ↓] Go.wp_at_zero Go.wp_at_succ

/-- The first n cells of block g are the numbers f tells. -/
def RowN (w : World) (g n : Nat) (f : Nat → Nat) : Prop := ∃ cur, w.heap[g]? = some (.cells cur 3 (0, 0)) ∧ n ≤ cur.size ∧ ∀ j, j < n → cur[j]? = some (.int .i64 (f j : Nat))
theorem RowN.block {w w' : World} {g n : Nat} {f : Nat → Nat} (h : RowN w g n f) (hb : w'.heap[g]? = w.heap[g]?) : RowN w' g n f := by
  obtain ⟨cur, h1, h2⟩ := h
  exact ⟨cur, hb.trans h1, h2⟩
theorem RowN.lt {w : World} {g n : Nat} {f : Nat → Nat} (h : RowN w g n f) : g < w.heap.size := by
  obtain ⟨cur, h1, _⟩ := h; exact lt_of_block h1
theorem RowN.cell {w : World} {g n : Nat} {f : Nat → Nat} (h : RowN w g n f) {j : Nat} (hj : j < n) : w.cell? ⟨g, j, none⟩ = some (.int .i64 (f j : Nat)) := by
  obtain ⟨cur, h1, _, h3⟩ := h
  rw [cell_of_row w g j cur 3 (0, 0) h1]
  exact h3 j hj
theorem RowN.free {w : World} {g n : Nat} {f : Nat → Nat} (h : RowN w g n f) (j : Nat) : w.frozen? ⟨g, j, none⟩ = false := by
  obtain ⟨cur, h1, _⟩ := h
  simp [World.frozen?, h1]
theorem RowN.set {w : World} {g n : Nat} {f : Nat → Nat} (h : RowN w g n f) (y x : Nat) : RowN (w.setCell ⟨g, y, none⟩ (.int .i64 (x : Int))) g n (fun j => if j = y then x else f j) := by
  obtain ⟨cur, h1, h2, h3⟩ := h
  refine ⟨cur.setIfInBounds y (.int .i64 (x : Int)), ?_, by simp [h2], fun j hj => ?_⟩
  · have hl := lt_of_block h1
    simp [World.setCell, Array.getElem?_modify, h1]
  · by_cases e : j = y
    · subst e
      rw [Array.getElem?_setIfInBounds_self_of_lt (by omega)]
      simp
    · rw [Array.getElem?_setIfInBounds_ne (by omega), h3 j hj]
      simp [e]
theorem RowN.congr {w : World} {g n : Nat} {f f' : Nat → Nat} (h : RowN w g n f) (he : ∀ j, j < n → f j = f' j) : RowN w g n f' := by
  obtain ⟨cur, h1, h2, h3⟩ := h
  exact ⟨cur, h1, h2, fun j hj => by rw [h3 j hj, he j hj]⟩
theorem rowN_own {w : World} {base g cap : Nat} {l : List Nat} (h : w.ownsRow base 3 1 (.slice (some ⟨g, 0, none⟩) l.length cap) l.length (qv l)) : RowN w g l.length (fun j => l.getD j 0) := by
  rcases h.2 with ⟨h1, _⟩ | ⟨g', cap', cur, h1, _, h2, h3, _, h4, h5⟩
  · cases h1
  · cases h1
    refine ⟨cur, h2, by omega, fun j hj => ?_⟩
    have : (cur.toList.take (l.length * 1))[j]? = some (.int .i64 (l.getD j 0 : Nat)) := by
      rw [h5]
      simp [qv, hj]
    rw [List.getElem?_take_of_lt (by omega)] at this
    simpa using this

def revF (f : Nat → Nat) (n i x : Nat) : Nat := if x < i ∨ n - 1 - x < i then f (n - 1 - x) else f x
theorem revF_swap {f : Nat → Nat} {n i : Nat} (h : i < n - 1 - i) {x : Nat} (hx : x < n) : revF f n (i + 1) x = if x = n - 1 - i then revF f n i i else if x = i then revF f n i (n - 1 - i) else revF f n i x := by
  unfold revF
  by_cases c1 : x = n - 1 - i
  · subst c1
    have e1 : n - 1 - (n - 1 - i) = i := by omega
    rw [if_pos rfl, if_pos (by omega), if_neg (by omega), e1]
  · rw [if_neg c1]
    by_cases c2 : x = i
    · subst c2
      rw [if_pos rfl, if_pos (by omega), if_neg (by omega)]
    · rw [if_neg c2]
      by_cases c3 : x < i ∨ n - 1 - x < i
      · rw [if_pos (by omega), if_pos c3]
      · rw [if_neg (by omega), if_neg c3]

set_option maxHeartbeats 2000000 in
theorem reverse_call {w : World} {g n cap : Nat} {f : Nat → Nat} (h : RowN w g n f) (hn : n ≤ 1000) :
    Calls Tryz.prog 72 #[.slice (some ⟨g, 0, none⟩) n cap] w fun r w' => r = .returned (.tuple #[]) ∧ RowN w' g n (fun x => f (n - 1 - x)) ∧ Turns (fun k => k = g) w w' := by
  go_enter Tryz.func72, Tryz.ntmps72
  go_wp2
  go_loopw [2, 3] (fun a b wr => ∃ i : Nat, i ≤ n ∧ a = .int .i64 (i : Int) ∧ b = .int .i64 ((n : Int) - 1 - i) ∧ (i : Int) ≤ (n : Int) - 1 - i + 2 ∧ RowN wr g n (revF f n i) ∧ Turns (fun k => k = g) w wr) (fun a _ _ => n - (numOf a).toNat)
  case atStart => exact ⟨0, Nat.zero_le _, rfl, by simp, by omega, h.congr (fun j _ => by simp [revF]), Turns.refl _ _⟩
  case round =>
    obtain ⟨i, hi, rfl, rfl, hi2, hrow, ht⟩ := hrel
    clear h
    by_cases hlt : (i : Int) < (n : Int) - 1 - i
    · obtain ⟨j, hj⟩ : ∃ j : Nat, (n : Int) - 1 - i = (j : Int) := ⟨n - 1 - i, by omega⟩
      have hj' : j = n - 1 - i := by omega
      have hjn : j < n := by omega
      have hin : i < n := by omega
      have hij : i ≠ j := by omega
      rw [hj] at hlt ⊢
      have ci := hrow.cell hin
      have cj := hrow.cell hjn
      have fi := hrow.free i
      have fj := hrow.free j
      have i1 : (0 : Int) ≤ (i : Int) := by omega
      have i2 : (i : Int) < (n : Int) := by omega
      have j1 : (0 : Int) ≤ (j : Int) := by omega
      have j2 : (j : Int) < (n : Int) := by omega
      have HR : Hid _ := hrow
      have HJ : Hid _ := hj
      have HJ' : Hid _ := hj'
      clear hrow hj hj'
      go_upto_region 3 with (fail)
      go_region
      all_goals
        go_wp2
        go_roundw
        case rel =>
          refine ⟨i + 1, by omega, by go_num, ?_, ?_, ?_, ?_⟩
          · have := HJ.out; simp; omega
          · have := HJ.out; omega
          · first
              | (refine RowN.block (w := (wr.setCell ⟨g, i, none⟩ (.int .i64 (revF f n i j : Nat))).setCell ⟨g, j, none⟩ (.int .i64 (revF f n i i : Nat))) (((RowN.set HR.out i _).set j _).congr (fun x hx => ?_)) rfl
                 rw [revF_swap (by have := HJ'.out; omega) hx, ← HJ'.out])
              | (refine RowN.block (w := (wr.setCell ⟨g, j, none⟩ (.int .i64 (revF f n i i : Nat))).setCell ⟨g, i, none⟩ (.int .i64 (revF f n i j : Nat))) (((RowN.set HR.out j _).set i _).congr (fun x hx => ?_)) rfl
                 rw [revF_swap (by have := HJ'.out; omega) hx, ← HJ'.out]
                 by_cases c1 : x = i
                 · subst c1; simp [hij]
                 · simp [c1])
          · exact (ht.trans ((setCell_turns _ _ _ _).trans (setCell_turns _ _ _ _))).trans (Turns.of_below (Below.refl _ _).drew _)
        case measure => simp [numOf]; omega
    · go_wp2
      go_end0
      refine ⟨rfl, hrow.congr (fun x hx => ?_), ht⟩
      unfold revF
      by_cases c : x < i ∨ n - 1 - x < i
      · rw [if_pos c]
      · rw [if_neg c]
        have : n - 1 - x = x := by omega
        rw [this]
end Go.Proofs.YtdnmoifbkojnlaaGreat

namespace Go.Proofs.YtdnmoifbkojnlaaGreat
set_option maxRecDepth 4000
open Go.RowKit Go.Maps
attribute [local go_sem ↓] Go.wp_at_zero Go.wp_at_succ

/-- The first n that rg tells make a ring. -/
structure RingF (N : Nat) (e : Nat → Nat → Bool) (n : Nat) (rg : Nat → Nat) : Prop where
  len : 3 ≤ n
  lt : ∀ i, i < n → rg i < N
  ne : ∀ i j, i < n → j < i → rg i ≠ rg j
  edge : ∀ i, i < n → e (rg i) (rg ((i + 1) % n)) = true

/-- Two ways of k steps from a and from b. -/
structure Climb (N : Nat) (e : Nat → Nat → Bool) (P : Nat → Prop) (far : Nat → Nat) (a b k : Nat) (U V : Nat → Nat) : Prop where
  ua : U 0 = a
  vb : V 0 = b
  up : ∀ i, i ≤ k → P (U i)
  vp : ∀ i, i ≤ k → P (V i)
  ul : ∀ i, i ≤ k → U i < N ∧ far (U i) + i = far a
  vl : ∀ i, i ≤ k → V i < N ∧ far (V i) + i = far a
  ue : ∀ i, i < k → e (U i) (U (i + 1)) = true
  ve : ∀ i, i < k → e (V i) (V (i + 1)) = true
  ne : ∀ i, i < k → U i ≠ V i

def upd (U : Nat → Nat) (k x i : Nat) : Nat := if i ≤ k then U i else x
theorem upd_le {U : Nat → Nat} {k x i : Nat} (h : i ≤ k) : upd U k x i = U i := if_pos h
theorem upd_gt {U : Nat → Nat} {k x : Nat} : upd U k x (k + 1) = x := if_neg (by omega)
theorem Climb.step {N : Nat} {e : Nat → Nat → Bool} {P : Nat → Prop} {far : Nat → Nat} {a b k : Nat} {U V : Nat → Nat} (h : Climb N e P far a b k U V) (hne : U k ≠ V k) {x y : Nat} (hx : x < N) (hex : e (U k) x = true) (hfx : far x + 1 = far (U k)) (hpx : P x) (hy : y < N) (hey : e (V k) y = true) (hfy : far y + 1 = far (V k)) (hpy : P y) :
    Climb N e P far a b (k + 1) (upd U k x) (upd V k y) := by
  refine ⟨by rw [upd_le (by omega)]; exact h.ua, by rw [upd_le (by omega)]; exact h.vb, fun i hi => ?_, fun i hi => ?_, fun i hi => ?_, fun i hi => ?_, fun i hi => ?_, fun i hi => ?_, fun i hi => ?_⟩
  · by_cases c : i ≤ k
    · rw [upd_le c]; exact h.up i c
    · have : i = k + 1 := by omega
      subst this; rw [upd_gt]; exact hpx
  · by_cases c : i ≤ k
    · rw [upd_le c]; exact h.vp i c
    · have : i = k + 1 := by omega
      subst this; rw [upd_gt]; exact hpy
  · by_cases c : i ≤ k
    · rw [upd_le c]; exact h.ul i c
    · have : i = k + 1 := by omega
      subst this; rw [upd_gt]; have := (h.ul k (Nat.le_refl _)).2; exact ⟨hx, by omega⟩
  · by_cases c : i ≤ k
    · rw [upd_le c]; exact h.vl i c
    · have : i = k + 1 := by omega
      subst this; rw [upd_gt]; have := (h.vl k (Nat.le_refl _)).2; exact ⟨hy, by omega⟩
  · by_cases c : i < k
    · rw [upd_le (by omega), upd_le (by omega)]; exact h.ue i c
    · have : i = k := by omega
      subst this; rw [upd_gt, upd_le (Nat.le_refl _)]; exact hex
  · by_cases c : i < k
    · rw [upd_le (by omega), upd_le (by omega)]; exact h.ve i c
    · have : i = k := by omega
      subst this; rw [upd_gt, upd_le (Nat.le_refl _)]; exact hey
  · rw [upd_le (by omega), upd_le (by omega)]
    by_cases c : i < k
    · exact h.ne i c
    · have : i = k := by omega
      subst this; exact hne

/-- The ring: one way up, the other one down. -/
def ringOf (k : Nat) (U V : Nat → Nat) (j : Nat) : Nat := if j ≤ k then U j else V (2 * k - j)
theorem Climb.ring {N : Nat} {e : Nat → Nat → Bool} {P : Nat → Prop} {far : Nat → Nat} {a b k : Nat} {U V : Nat → Nat} (h : Climb N e P far a b k U V) (hs : ∀ a b, a < N → b < N → e a b = true → e b a = true) (hk : U k = V k) (hab : a ≠ b) (he : e a b = true) : RingF N e (2 * k + 1) (ringOf k U V) := by
  have hk0 : 0 < k := by
    rcases Nat.eq_zero_or_pos k with h0 | h0
    · subst h0; rw [h.ua, h.vb] at hk; exact absurd hk hab
    · exact h0
  have lo : ∀ j, j ≤ k → ringOf k U V j = U j := fun j hj => if_pos hj
  have hi : ∀ j, k ≤ j → j ≤ 2 * k → ringOf k U V j = V (2 * k - j) := fun j h1 h2 => by
    by_cases c : j = k
    · subst c
      rw [lo _ (Nat.le_refl _), hk]
      congr 1
      omega
    · exact if_neg (by omega)
  refine ⟨by omega, fun i hin => ?_, fun i j hin hji => ?_, fun i hin => ?_⟩
  · by_cases c : i ≤ k
    · rw [lo i c]; exact (h.ul i c).1
    · rw [hi i (by omega) (by omega)]; exact (h.vl _ (by omega)).1
  · intro hx
    by_cases c : i ≤ k
    · rw [lo i c, lo j (by omega)] at hx
      have h1 := (h.ul i c).2
      have h2 := (h.ul j (by omega)).2
      rw [hx] at h1
      omega
    · rw [hi i (by omega) (by omega)] at hx
      have h1 := (h.vl (2 * k - i) (by omega)).2
      by_cases c2 : j ≤ k
      · rw [lo j c2] at hx
        have h2 := (h.ul j c2).2
        rw [hx] at h1
        have hj : 2 * k - i = j := by omega
        rw [hj] at hx
        exact h.ne j (by omega) hx.symm
      · rw [hi j (by omega) (by omega)] at hx
        have h2 := (h.vl (2 * k - j) (by omega)).2
        rw [hx] at h1
        omega
  · by_cases c : i < k
    · rw [Nat.mod_eq_of_lt (by omega), lo i (by omega), lo (i + 1) (by omega)]; exact h.ue i c
    · by_cases c2 : i < 2 * k
      · rw [Nat.mod_eq_of_lt (by omega), hi i (by omega) (by omega), hi (i + 1) (by omega) (by omega)]
        obtain ⟨m, hm⟩ : ∃ m, 2 * k - i = m + 1 := ⟨2 * k - i - 1, by omega⟩
        have hm2 : 2 * k - (i + 1) = m := by omega
        rw [hm, hm2]
        exact hs _ _ (h.vl m (by omega)).1 (h.vl (m + 1) (by omega)).1 (h.ve m (by omega))
      · have hi2 : i = 2 * k := by omega
        subst hi2
        rw [Nat.mod_self, hi (2 * k) (by omega) (Nat.le_refl _), lo 0 (by omega), Nat.sub_self, h.ua, h.vb]
        have h1 := (h.ul 0 (by omega)).1
        have h2 := (h.vl 0 (by omega)).1
        rw [h.ua] at h1
        rw [h.vb] at h2
        exact hs _ _ h1 h2 he

/-- One number more at a row's end, and where the row lies then. -/
theorem wpList_push2 {W : World} {ops : Array Oper} {rest : List Oper} {o : Oper} {a : Act} {Q : Exit → Act → World → Prop} {base : Nat} {po : Option Addr} {pc : Nat} {l : List Nat} {x : Nat} (hgd : o.guard = none) (s y : Operand)
    (ho : o.op = .call { callee := .builtin .append, args := #[s, y], argTypes := #[29, 29] }) (hs : a.eval s = .slice po l.length pc) (hy : a.eval y = .slice (some ⟨W.heap.size, 0, none⟩) 1 1)
    (hown : W.ownsRow base 3 1 (.slice po l.length pc) l.length (qv l)) (hl : l.length ≤ 1000000) (hbase : base ≤ W.heap.size)
    (h : ∀ g c w', w'.ownsRow base 3 1 (.slice (some ⟨g, 0, none⟩) (l ++ [x]).length c) (l ++ [x]).length (qv (l ++ [x])) → (W.alloc (Obj.cells #[.int .i64 (x : Int)] 3)).grownBy w' (Value.slice po l.length pc).ownBlock → ((Value.slice po l.length pc).ownBlock = some g ∨ W.heap.size ≤ g) → wpList Tryz.prog ops Q rest (a.put o.dst (.slice (some ⟨g, 0, none⟩) (l ++ [x]).length c)) w') :
    wpList Tryz.prog ops Q (o :: rest) a (W.alloc (Obj.cells #[.int .i64 (x : Int)] 3)) := by
  obtain ⟨i3, hi3, hy0, hy1, hy2⟩ := info_parts Tryz.info3
  refine wpList_append_lies _ hgd s y 29 ho base 3 i3 (.int .i64 0) 1 8 Tryz.underlying29 hi3 hy0 hy1 hy2 rfl (by decide) _ _ _ hs (hown.alloc _) ⟨W.heap.size, 0, none⟩ 1 1 [.int .i64 (x : Int)] hy rfl ?_ ?_ (by omega) ?_ ?_ ?_ (W.heap.size + 1) (by simp) ?_
  · exact cell_one_new _ _ _
  · intro y hy; simp at hy; subst hy; rfl
  · unfold maxLen; omega
  · omega
  · simp; omega
  · intro g c w' h1 h2 h3 _
    have := h g c w' (by simpa [qv] using h1) h2 (h3.imp id (fun h => by omega))
    simpa using this
/-- Many numbers more. -/
theorem wpList_pushAll {W : World} {ops : Array Oper} {rest : List Oper} {o : Oper} {a : Act} {Q : Exit → Act → World → Prop} {base : Nat} {po : Option Addr} {pc n : Nat} {l : List Nat} {g0 m c0 : Nat} {f : Nat → Nat} (hln : l.length = n) (hgd : o.guard = none) (s y : Operand)
    (ho : o.op = .call { callee := .builtin .append, args := #[s, y], argTypes := #[29, 29] }) (hs : a.eval s = .slice po n pc) (hy : a.eval y = .slice (some ⟨g0, 0, none⟩) m c0)
    (hown : W.ownsRow base 3 1 (.slice po l.length pc) l.length (qv l)) (hrow : RowN W g0 m f) (hm : 0 < m) (hl : n ≤ 1000000) (hm2 : m ≤ 1000000) (hbase : base ≤ W.heap.size)
    (h : ∀ g c w', w'.ownsRow base 3 1 (.slice (some ⟨g, 0, none⟩) (l ++ (List.range m).map f).length c) (l ++ (List.range m).map f).length (qv (l ++ (List.range m).map f)) → W.grownBy w' (Value.slice po n pc).ownBlock → wpList Tryz.prog ops Q rest (a.put o.dst (.slice (some ⟨g, 0, none⟩) (l ++ (List.range m).map f).length c)) w') :
    wpList Tryz.prog ops Q (o :: rest) a W := by
  subst hln
  obtain ⟨i3, hi3, hy0, hy1, hy2⟩ := info_parts Tryz.info3
  refine wpList_append_lies _ hgd s y 29 ho base 3 i3 (.int .i64 0) 1 8 Tryz.underlying29 hi3 hy0 hy1 hy2 rfl (by decide) _ _ _ hs hown ⟨g0, 0, none⟩ m c0 (qv ((List.range m).map f)) hy (by simp [qv]) ?_ ?_ hm ?_ ?_ hbase W.heap.size rfl ?_
  · intro j u hj
    have hjm : j < m := by
      have := (List.getElem?_eq_some_iff.1 hj).1
      simpa [qv] using this
    have : (⟨g0, 0, none⟩ : Addr).add j = ⟨g0, j, none⟩ := by unfold Addr.add; split <;> simp_all
    rw [this, hrow.cell hjm]
    simp [qv, hjm] at hj
    rw [hj]
  · intro y hy
    simp [qv] at hy
    obtain ⟨_, _, rfl⟩ := hy
    rfl
  · unfold maxLen; omega
  · omega
  · intro g c w' h1 h2 _ _
    have := h g c w' (by simpa [qv] using h1) h2
    simpa using this

def lenOf' : Value → Nat | .slice _ n _ => n | _ => 0
def firstK (U : Nat → Nat) (k : Nat) : List Nat := (List.range k).map U
theorem firstK_len (U : Nat → Nat) (k : Nat) : (firstK U k).length = k := by simp [firstK]
theorem firstK_upd (U : Nat → Nat) (k x : Nat) : firstK (upd U k x) (k + 1) = firstK U k ++ [U k] := by
  unfold firstK
  rw [List.range_succ, List.map_append]
  congr 1
  · exact List.map_congr_left fun i hi => upd_le (by simp at hi; omega)
  · simp [upd_le]
def ringL (U V : Nat → Nat) (k : Nat) : List Nat := (firstK U k ++ [U k]) ++ (List.range (firstK V k).length).map fun x => (firstK V k).getD ((firstK V k).length - 1 - x) 0
theorem ringL_len (U V : Nat → Nat) (k : Nat) : (ringL U V k).length = 2 * k + 1 := by
  simp [ringL, firstK_len]
  omega
theorem ringL_get (U V : Nat → Nat) (k : Nat) {j : Nat} (hj : j < 2 * k + 1) : (ringL U V k).getD j 0 = ringOf k U V j := by
  unfold ringL ringOf
  rw [firstK_len, List.getD_eq_getElem?_getD]
  by_cases c : j ≤ k
  · rw [if_pos c, List.getElem?_append_left (by simp [firstK_len]; omega)]
    by_cases c2 : j < k
    · rw [List.getElem?_append_left (by simp [firstK_len]; omega)]
      simp [firstK, c2]
    · have : j = k := by omega
      subst this
      rw [List.getElem?_append_right (by simp [firstK_len])]
      simp [firstK_len]
  · rw [if_neg c, List.getElem?_append_right (by simp [firstK_len]; omega)]
    have h1 : j - (firstK U k ++ [U k]).length = j - (k + 1) := by simp [firstK_len]
    rw [h1]
    have h2 : j - (k + 1) < k := by omega
    have h3 : k - 1 - (j - (k + 1)) < k := by omega
    have h4 : k - 1 - (j - (k + 1)) = 2 * k - j := by omega
    have h5 : 2 * k - j < k := by omega
    simp [firstK, h2, h4, h5]

set_option maxHeartbeats 4000000 in
theorem oddRing_call {w : World} {N : Nat} {ao : Option Addr} {cap : Nat} {bl : Nat → Nat} {e : Nat → Nat → Bool} (hnear : NearsAt w ao N bl e) (hN : N ≤ 1000) {bf : Nat} {far : Nat → Nat} (hrow : RowV w bf 3 N (fun x => .int .i64 (far x : Nat))) (hfar : ∀ x, x < N → far x ≤ 1000)
    (hs : ∀ a b, a < N → b < N → e a b = true → e b a = true) {P : Nat → Prop} (hstep : ∀ x, P x → far x ≠ 0 → ∃ p, p < N ∧ e x p = true ∧ far p + 1 = far x) (hcl : ∀ x y, P x → y < N → e x y = true → P y) (hz : ∀ x y, P x → P y → far x = 0 → far y = 0 → x = y)
    {a b : Nat} (ha : a < N) (hb : b < N) (hpa : P a) (hpb : P b) (hab : a ≠ b) (he : e a b = true) (hff : far a = far b) :
    Calls Tryz.prog 44 #[.slice ao N cap, .slice (some ⟨bf, 0, none⟩) N N, .agg #[.int .i64 (a : Int), .int .i64 (b : Int)]] w fun r w' => ∃ g n c rg, r = .returned (.slice (some ⟨g, 0, none⟩) n c) ∧ n ≤ 3000 ∧ n % 2 = 1 ∧ w.heap.size ≤ g ∧ RowN w' g n rg ∧ RingF N e n rg ∧ Below w.heap.size w w' := by
  have hfa := hfar a ha
  have HN : Hid _ := hnear
  have HW : Hid _ := hrow
  have HF : Hid _ := hfar
  have HS : Hid _ := hs
  have HST : Hid _ := hstep
  have HCL : Hid _ := hcl
  have HZ : Hid _ := hz
  have hclimb : Climb N e P far a b 0 (fun _ => a) (fun _ => b) := ⟨rfl, rfl, fun _ _ => hpa, fun _ _ => hpb, fun i hi => ⟨ha, by omega⟩, fun i hi => ⟨hb, by omega⟩, fun i hi => by omega, fun i hi => by omega, fun i hi => by omega⟩
  have HCB : Hid _ := hclimb
  have HAB : Hid _ := hab
  have HED : Hid _ := he
  clear hnear hrow hfar hs hstep hcl hz hclimb hab he hff hpa hpb
  go_enter Tryz.func44, Tryz.ntmps44
  go_upto_region 1 with (fail)
  have t5 := two_new w (.int .i64 (a : Int)) (.int .i64 (b : Int)) 42
  have hB := below_alloc (Below.refl _ w) (Obj.cells #[.int .i64 (a : Int), .int .i64 (b : Int)] 42)
  generalize w.alloc (Obj.cells #[.int .i64 (a : Int), .int .i64 (b : Int)] 42) = W at t5 hB ⊢
  obtain ⟨z1, z2⟩ := cell_two t5
  go_region
  all_goals
    clear z1 z2 t5
    replace hB := hB.drew
    generalize W.drew = W' at hB ⊢
    go_wp2
    go_loopw [7, 8, 9, 10] (fun p q u v wr => ∃ (k : Nat) (U V : Nat → Nat), Climb N e P far a b k U V ∧ p = .int .i64 (U k : Int) ∧ q = .int .i64 (V k : Int) ∧ wr.ownsRow w.heap.size 3 1 u (firstK U k).length (qv (firstK U k)) ∧ wr.ownsRow w.heap.size 3 1 v (firstK V k).length (qv (firstK V k)) ∧ (∀ g, u.ownBlock = some g → v.ownBlock ≠ some g) ∧ Below w.heap.size w wr) (fun _ _ u _ _ => far a - lenOf' u)
    case atStart => exact ⟨0, _, _, HCB.out, rfl, rfl, by simpa [firstK, qv] using World.ownsRow_nil _ _ _ _, by simpa [firstK, qv] using World.ownsRow_nil _ _ _ _, fun g h => by simp [Value.ownBlock] at h, hB⟩
    case round =>
      obtain ⟨k, U, V, hc, rfl, rfl, hu, hv, hsep, hBr⟩ := hrel
      obtain ⟨uo, uc, rfl⟩ := form_row hu
      have hkl : (firstK U k).length ≤ k := Nat.le_of_eq (firstK_len U k)
      have hkl2 : (firstK V k).length ≤ k := Nat.le_of_eq (firstK_len V k)
      have hku := (hc.ul k (Nat.le_refl _)).2
      have hul := (hc.ul k (Nat.le_refl _)).1
      have hvl := (hc.vl k (Nat.le_refl _)).1
      have hkv := (hc.vl k (Nat.le_refl _)).2
      have hsz := hBr.size
      clear hB
      by_cases hne : U k = V k
      · have hk0 : 0 < k := by
          rcases Nat.eq_zero_or_pos k with h0 | h0
          · subst h0; rw [hc.ua, hc.vb] at hne; exact absurd hne HAB.out
          · exact h0
        have hring := hc.ring HS.out hne HAB.out HED.out
        obtain ⟨gv, vc, rfl, hgve, hgvl⟩ := hv.form (by rw [firstK_len]; exact hk0)
        have hrv := rowN_own hv
        have HRV : Hid _ := hrv
        have HRG : Hid _ := hring
        have HSEP : Hid _ := hsep
        have hgu : ∀ g, (Value.slice uo (firstK U k).length uc).ownBlock = some g → g ≠ gv := fun g h h' => by
          subst h'
          exact hsep g h (by simp [Value.ownBlock])
        have HGU : Hid _ := hgu
        rw [← hne]
        have hm0 : 0 < (firstK V k).length := by rw [firstK_len]; exact hk0
        have HM0 : Hid _ := hm0
        clear hrv hring hsep hgu hc hne hkv hvl hv hm0
        go_upto_region 8 with (first
          | (go_at_call 72; refine (reverse_call HRV.out (by omega)).mono ?_; rintro r w1 ⟨rfl, hrev, hT1⟩)
          | go_in)
        have hu1 := ownsRow_blocks hu (w' := w1) (fun b hb => hT1.block b (hu.lt b hb).2 (fun h => HGU.out b hb h))
        have hB1 := hT1.below hBr hsz (fun j hj => by omega)
        have hs1 := hT1.size
        clear hu hBr hT1
        go_wp2_with (first
          | (at_builtin; (fail_if_success (have hh := hown1)); refine wpList_push2 (x := U k) rfl _ _ rfl rfl rfl hu1 (by omega) (by omega) ?_; intro g1 c1 w2 hown1 hgr1 hat1; have T2 := (alloc_turns w1 (Obj.cells #[.int .i64 (U k : Int)] 3) _).trans (Turns.of_grown hgr1); have hrev2 := hrev.block (T2.block _ hrev.lt (fun h => HGU.out gv h.symm rfl)); have hB2 := T2.below hB1 hB1.size (fun j hj => (hu1.lt j hj.symm).1); have hs2 := T2.size)
          | (at_builtin; refine wpList_pushAll (l := firstK U k ++ [U k]) (by simp) rfl _ _ rfl rfl rfl hown1 hrev2 HM0.out (by omega) (by omega) (by omega) ?_; intro g3 c3 w3 hown3 hgr3)
          | go_in)
        have hB3 := (Turns.of_grown hgr3).below hB2 hB2.size (fun j hj => (hown1.lt j hj.symm).1)
        go_ret
        have hrow3 := (rowN_own (l := ringL U V k) hown3).congr (fun j hj => ringL_get U V k (by rw [ringL_len] at hj; exact hj))
        rw [ringL_len] at hrow3
        refine ⟨g3, 2 * k + 1, c3, ringOf k U V, ?_, by omega, by omega, (hown3.lt g3 rfl).1, hrow3, HRG.out, hB3⟩
        have e1 : (firstK U k).length + ((firstK V k).length + 1) = 2 * k + 1 := by rw [firstK_len, firstK_len]; omega
        rw [← e1]
        rfl
      · have hne' : ¬ (U k : Int) = (V k : Int) := by omega
        have hpos : far (U k) ≠ 0 := fun h0 => hne (HZ.out _ _ (hc.up k (Nat.le_refl _)) (hc.vp k (Nat.le_refl _)) h0 (by omega))
        have hxu := HST.out _ (hc.up k (Nat.le_refl _)) hpos
        have hxv := HST.out _ (hc.vp k (Nat.le_refl _)) (by omega)
        have HC : Hid _ := hc
        have HXU : Hid _ := hxu
        have HXV : Hid _ := hxv
        have HNE : Hid _ := hne
        have HSEP : Hid _ := hsep
        clear hc hxu hxv hne hsep
        have i1 : (0 : Int) ≤ (U k : Int) := by omega
        obtain ⟨vo, vc, rfl⟩ := form_row hv
        have hvb : ∀ g, (Value.slice vo (firstK V k).length vc).ownBlock = some g → g < wr.heap.size := fun g hg => (hv.lt g hg).2
        have HVB : Hid _ := hvb
        clear hvb
        go_upto_region 5 with (first
          | (at_builtin; refine wpList_push2 (x := U k) rfl _ _ rfl rfl rfl hu (by omega) (by omega) ?_; intro g1 c1 w1 hown1 hgr1 hat1)
          | go_in)
        have T1 := (alloc_turns wr (Obj.cells #[.int .i64 (U k : Int)] 3) _).trans (Turns.of_grown hgr1)
        have hv1 := ownsRow_blocks hv (w' := w1) (fun b hb => T1.block b (hv.lt b hb).2 (fun h => HSEP.out b h.symm hb))
        have hB1 := T1.below hBr hsz (fun j hj => (hu.lt j hj.symm).1)
        have hs1 := T1.size
        have hg1v : (Value.slice vo (firstK V k).length vc).ownBlock ≠ some g1 := fun h => by
          rcases hat1 with h1 | h1
          · exact HSEP.out g1 h1 h
          · have := HVB.out g1 h; omega
        have hg1l : g1 < w1.heap.size := (hown1.lt g1 rfl).2
        have HG1 : Hid _ := hg1v
        clear hgr1 hat1 hu hv T1 hBr hg1v
        go_upto_region 6 with (first
          | (at_builtin; refine wpList_push2 (x := V k) rfl _ _ rfl rfl rfl hv1 (by omega) (by omega) ?_; intro g2 c2 w2 hown2 hgr2 hat2)
          | go_in)
        have T2 := (alloc_turns w1 (Obj.cells #[.int .i64 (V k : Int)] 3) _).trans (Turns.of_grown hgr2)
        have hu2 := ownsRow_blocks hown1 (w' := w2) (fun b hb => T2.block b (hown1.lt b hb).2 (fun h => by
          have hb' : b = g1 := by simpa [Value.ownBlock] using hb.symm
          subst hb'
          exact HG1.out h.symm))
        have hB2 := T2.below hB1 hB1.size (fun j hj => (hv1.lt j hj.symm).1)
        have hg12 : g1 ≠ g2 := fun h => by
          subst h
          rcases hat2 with h1 | h1
          · exact HG1.out h1
          · omega
        clear hgr2 hat2 hv1 hown1 T2 hB1 HG1
        have hn2 := NearsAt.below HN.out hB2
        have hr2 : RowV w2 bf 3 N (fun x => .int .i64 (far x : Nat)) := RowV.block HW.out (hB2.block _ (RowV.lt HW.out))
        have l1 := nearer_call (cap := cap) hn2 hN hr2 HF.out hul HXU.out
        have l2 := fun (w' : World) (hb : Below w2.heap.size w2 w') => nearer_call (cap := cap) (hn2.below hb) hN (hr2.block (hb.block _ hr2.lt)) HF.out hvl HXV.out
        have H1 : Hid _ := l1
        have H2 : Hid _ := l2
        clear l1 l2 hn2 hr2 HXU HXV
        go_wp2_with (first
          | (go_at_call 71; (fail_if_success (have hh := hbA)); refine Calls.mono H1.out ?_; rintro r wa ⟨x, rfl, hx, hex, hfx, hbA⟩)
          | (go_at_call 71; refine (H2.out _ hbA).mono ?_; rintro r wb ⟨y, rfl, hy, hey, hfy, hbB⟩)
          | go_in)
        have hC2 := HC.out.step HNE.out hx hex hfx (HCL.out _ _ (HC.out.up k (Nat.le_refl _)) hx hex) hy hey hfy (HCL.out _ _ (HC.out.vp k (Nat.le_refl _)) hy hey)
        have hbw := below_next hbA hbB
        go_roundw
        case rel =>
          refine ⟨k + 1, _, _, hC2, by rw [upd_gt], by rw [upd_gt], ?_, ?_, fun g h h' => ?_, below_self hB2 hbw hB2.size⟩
          · rw [firstK_upd]; have hh := ownsRow_blocks hu2 (fun b hb => hbw.block b (hu2.lt b hb).2); simpa using hh
          · rw [firstK_upd]; have hh := ownsRow_blocks hown2 (fun b hb => hbw.block b (hown2.lt b hb).2); simpa using hh
          · simp [Value.ownBlock] at h h'
            omega
        case measure => simp [lenOf', firstK_len]; omega
end Go.Proofs.YtdnmoifbkojnlaaGreat
