/- The document's OneRing. -/
import Derived.Test.YtbaghbodjpehpabWholeWalk
namespace Go.Proofs.Ytbaghbodjpehpab
open Go.RowKit Go.Maps
attribute [local go_sem ↓] Go.wp_at_zero Go.wp_at_succ

set_option maxHeartbeats 400000 in
theorem other_call (s t v : Nat) (w : World) : Calls Try.prog 62 #[.agg #[.int .i64 (s : Int), .int .i64 (t : Int)], .int .i64 (v : Int)] w fun r w' => r = .returned (.int .i64 (otherN (s, t) v : Int)) ∧ Below w.heap.size w w' := by
  by_cases h : s = v
  · have h1 : ((s : Int) == (v : Int)) = true := by simp; omega
    have e : otherN (s, t) v = t := by simp [otherN, h]
    rw [e]
    go_enter Try.func62, Try.ntmps62
    go_wp2
    go_ret
    exact ⟨rfl, below_alloc (Below.refl _ _) _⟩
  · have h1 : ((s : Int) == (v : Int)) = false := by simp; omega
    have e : otherN (s, t) v = s := by simp [otherN, h]
    rw [e]
    go_enter Try.func62, Try.ntmps62
    go_wp2
    go_ret
    exact ⟨rfl, below_alloc (Below.refl _ _) _⟩

theorem keepO {W : World} {b1 b2 : Nat} {x y x' y' : Value} {t t' : TypeId} (t1 : Two W b1 x y t) (t2 : Two W b2 x' y' t') {w' : World} (hb : Below W.heap.size W w') :
    Below W.heap.size W w' ∧ w'.cell? ⟨b1, 0, none⟩ = some x ∧ w'.cell? ⟨b1, 1, none⟩ = some y ∧ w'.cell? ⟨b2, 0, none⟩ = some x' ∧ w'.cell? ⟨b2, 1, none⟩ = some y' :=
  ⟨hb, (cell_two (two_next t1 hb)).1, (cell_two (two_next t1 hb)).2, (cell_two (two_next t2 hb)).1, (cell_two (two_next t2 hb)).2⟩

theorem otherN_lt {m s t v : Nat} (hs : s < m) (ht : t < m) : otherN (s, t) v < m := by unfold otherN; split <;> assumption

theorem reach_has (N : Nat) (ao : Option Addr) (cap : Nat) (p : Int → Int → Bool) (w : World) (hG : GridAt w (.slice ao N cap) N p) (hN : N ≤ 100) {v x : Nat} (hv : v < N) (hx : x < N) (hc : Star (St N (pn p) allB) v x) :
    Calls Try.prog 41 #[.slice ao N cap, .int .i64 (v : Int), .slice none 0 0] w fun r w' => ∃ b, r = .returned (.slice (some ⟨b, 0, none⟩) N N) ∧ w'.cell? ⟨b, x, none⟩ = some (.bool true) ∧ Below w.heap.size w w' := by
  refine (reach_call N ao cap p w hG hN hv (shutAt_nil w N)).mono ?_
  rintro e wb ⟨bI, rfl, hbI, I, hrI, hI, hbk⟩
  have cI := hrI.cell hx
  rw [(hI _ hx).2 (by rw [open_none]; exact hc)] at cI
  exact ⟨bI, rfl, cI, hbk⟩

set_option maxRecDepth 20000 in
set_option maxHeartbeats 4000000 in
theorem oneRing_call (m : Nat) (ao : Option Addr) (cap : Nat) (p : Int → Int → Bool) (w : World) (hG : GridAt w (.slice ao m cap) m p) (hm : m ≤ 100) (hl : (allP m p).length ≤ 1000) {s t s' t' : Nat} (hs : s < m) (ht : t < m) (hs' : s' < m) (ht' : t' < m) (r : Bool)
    (hr : (r = true ∧ (∀ x, x < m → Star (St m (pn p) (notB x)) (otherN (s, t) x) (otherN (s', t') x)) ∧ Star (St m (pn (hasB (lessL (allP m p) ((s : Int), (t : Int))))) allB) s t ∧ Star (St m (pn (hasB (lessL (allP m p) ((s' : Int), (t' : Int))))) allB) s' t') ∨ (r = false ∧ ¬ ∀ x, x < m → Star (St m (pn p) (notB x)) (otherN (s, t) x) (otherN (s', t') x))) :
    Calls Try.prog 46 #[.slice ao m cap, .agg #[.int .i64 (s : Int), .int .i64 (t : Int)], .agg #[.int .i64 (s' : Int), .int .i64 (t' : Int)]] w fun e w' => e = .returned (.bool r) ∧ Below w.heap.size w w' := by
  have I1 : I64 (s : Int) := ⟨by omega, by omega⟩
  have I2 : I64 (t : Int) := ⟨by omega, by omega⟩
  have I3 : I64 (s' : Int) := ⟨by omega, by omega⟩
  have I4 : I64 (t' : Int) := ⟨by omega, by omega⟩
  have hw1 := fun (w' : World) (hb : Below w.heap.size w w') => without_call m ao cap p w' (hG.below hb) hm hl I1 I2
  have hw2 := fun (w' : World) (hb : Below w.heap.size w w') => without_call m ao cap p w' (hG.below hb) hm hl I3 I4
  have HW1 : Hid _ := hw1
  have HW2 : Hid _ := hw2
  have HG : Hid _ := hG
  have HR : Hid _ := hr
  clear hw1 hw2 hG hr I1 I2 I3 I4
  go_enter Try.func46, Try.ntmps46
  go_upto_region 1 with (fail)
  have t4 : Two ((w.alloc (Obj.cells #[.int .i64 (s : Int), .int .i64 (t : Int)] 63)).alloc (Obj.cells #[.int .i64 (s' : Int), .int .i64 (t' : Int)] 63)) w.heap.size (.int .i64 (s : Int)) (.int .i64 (t : Int)) 63 := two_alloc (two_new w _ _ _) _
  have t5 : Two ((w.alloc (Obj.cells #[.int .i64 (s : Int), .int .i64 (t : Int)] 63)).alloc (Obj.cells #[.int .i64 (s' : Int), .int .i64 (t' : Int)] 63)) (w.heap.size + 1) (.int .i64 (s' : Int)) (.int .i64 (t' : Int)) 63 := two_new1 w _ _ _ _
  have hB := below2 (w := w) (Obj.cells #[.int .i64 (s : Int), .int .i64 (t : Int)] 63) (Obj.cells #[.int .i64 (s' : Int), .int .i64 (t' : Int)] 63)
  generalize (w.alloc (Obj.cells #[.int .i64 (s : Int), .int .i64 (t : Int)] 63)).alloc (Obj.cells #[.int .i64 (s' : Int), .int .i64 (t' : Int)] 63) = W at t4 t5 hB ⊢
  have HT4 : Hid _ := t4
  have HT5 : Hid _ := t5
  have HB : Hid _ := hB
  clear t4 t5 hB
  go_wp2
  go_loopw [7] (fun i wr => ∃ k : Nat, k ≤ m ∧ i = .int .i64 (k : Int) ∧ Below W.heap.size W wr ∧ ∀ x, x < k → Star (St m (pn p) (notB x)) (otherN (s, t) x) (otherN (s', t') x)) (fun i _ => m - (numOf i).toNat)
  case atStart => exact ⟨0, Nat.zero_le _, rfl, Below.refl _ _, fun x h => by omega⟩
  case round =>
    obtain ⟨k, hk, rfl, hB2, hsofar⟩ := hrel
    have HSF : Hid _ := hsofar
    clear hsofar
    have t4 := two_next HT4.out hB2
    have t5 := two_next HT5.out hB2
    by_cases hkm : k < m
    · go_wp2
      have hox := otherN_lt (v := k) hs ht
      have hoy := otherN_lt (v := k) hs' ht'
      go_region_held3 (fun wz => Below wr.heap.size wr wz ∧ wz.cell? ⟨w.heap.size, 0, none⟩ = some (.int .i64 (s : Int)) ∧ wz.cell? ⟨w.heap.size, 1, none⟩ = some (.int .i64 (t : Int)) ∧ wz.cell? ⟨w.heap.size + 1, 0, none⟩ = some (.int .i64 (s' : Int)) ∧ wz.cell? ⟨w.heap.size + 1, 1, none⟩ = some (.int .i64 (t' : Int)))
        (first | assumption | exact keepO t4 t5 (Below.refl _ _).drew | (go_split_ands; exact keepO t4 t5 (below_next (by assumption) hbk)))
        ((first | (go_at_call 62; (fail_if_success (have hh := hz1)); refine (other_call s t k _).mono ?_; rintro e wy ⟨rfl, hbk⟩; have hz1 := hbk) | (go_at_call 62; refine (other_call s' t' k _).mono ?_; rintro e wz' ⟨rfl, hbk⟩)))
      go_split_ands
      have hb3 : Below wr.heap.size wr wz' := by assumption
      clear hz1 hbk
      have hB3 := below_next hB2 hb3
      have HB3 : Hid _ := hB3
      have HBW : Hid _ := below_next HB.out hB3
      clear hb3 hB3 t4 t5
      have j1 : (0 : Int) ≤ (otherN (s', t') k : Int) := by omega
      have j2 : (otherN (s', t') k : Int) < (m : Int) := by omega
      by_cases hcon : Star (St m (pn p) (notB k)) (otherN (s, t) k) (otherN (s', t') k)
      · have HC : Hid _ := hcon
        clear hcon
        go_wp2_with (first
          | (go_at_call 43; refine (shut_call m _ hm hkm).mono ?_; rintro e wa ⟨bs, rfl, hrs, hbA⟩)
          | (go_at_call 41; refine (reach_call m _ cap p _ (GridAt.below (GridAt.below HG.out HBW.out) hbA) hm hox (shutAt_row hrs (by omega))).mono ?_; rintro e wb ⟨bI, rfl, hbI, I, hrI, hI, hbB⟩; have cI := hrI.cell hoy; rw [(hI _ hoy).2 (by rw [open_one]; exact HC.out)] at cI)
          | go_in)
        go_roundw
        case rel =>
          refine ⟨k + 1, by omega, by go_num, below_next (below_next HB3.out hbA) hbB, fun x hx => ?_⟩
          by_cases e : x = k
          · subst e; exact HC.out
          · exact HSF.out x (by omega)
        case measure => simp [numOf]; omega
      · have hrf : r = false := by
          rcases HR.out with ⟨_, h, _⟩ | ⟨h, _⟩
          · exact absurd (h k hkm) hcon
          · exact h
        subst hrf
        have HC : Hid _ := hcon
        clear hcon
        go_wp2_with (first
          | (go_at_call 43; refine (shut_call m _ hm hkm).mono ?_; rintro e wa ⟨bs, rfl, hrs, hbA⟩)
          | (go_at_call 41; refine (reach_call m _ cap p _ (GridAt.below (GridAt.below HG.out HBW.out) hbA) hm hox (shutAt_row hrs (by omega))).mono ?_; rintro e wb ⟨bI, rfl, hbI, I, hrI, hI, hbB⟩; have cI := hrI.cell hoy; have eI : I (otherN (s', t') k) = false := (by cases hh : I (otherN (s', t') k); rfl; exact absurd (by rw [← open_one]; exact (hI _ hoy).1 hh) HC.out); rw [eI] at cI; clear eI)
          | go_in)
        go_ret
        exact ⟨rfl, below_next (below_next HBW.out hbA) hbB⟩
    · have hke : k = m := by omega
      have hall := HSF.out
      rw [hke] at hall
      rcases HR.out with ⟨rfl, _, hA, hA'⟩ | ⟨_, h⟩
      · have HA : Hid _ := hA
        have HA' : Hid _ := hA'
        have HBW : Hid _ := below_next HB.out hB2
        clear hall hA hA'
        obtain ⟨y1, y2⟩ := cell_two t4
        obtain ⟨y3, y4⟩ := cell_two t5
        have j1 : (0 : Int) ≤ (t : Int) := by omega
        have j2 : (t : Int) < (m : Int) := by omega
        have j3 : (0 : Int) ≤ (t' : Int) := by omega
        have j4 : (t' : Int) < (m : Int) := by omega
        go_upto_region 8 with (first | (go_at_call 32; refine (HW1.out _ HBW.out).mono ?_; rintro e wa ⟨to, tc, rfl, hGa, hbA⟩) | go_in)
        replace t4 := two_next t4 hbA
        replace t5 := two_next t5 hbA
        have hBA := below_next HBW.out hbA
        clear y1 y2 y3 y4
        obtain ⟨y1, y2⟩ := cell_two t4
        obtain ⟨y3, y4⟩ := cell_two t5
        have l4 := lt_of_block t4
        have l5 := lt_of_block t5
        have hkeep := fun (w' : World) (hb : Below wa.heap.size wa w') => keepO t4 t5 hb
        have hre := fun (w' : World) (hb : Below wa.heap.size wa w') => reach_has m to tc _ w' (hGa.below hb) hm hs ht HA.out
        have HKE : Hid _ := hkeep
        have HRE : Hid _ := hre
        clear hkeep hre hGa hbA
        go_region_with ((go_at_call 41; refine (HRE.out _ (Below.refl _ _).drew).mono ?_; rintro e wb ⟨bI, rfl, cI, hbk⟩; obtain ⟨hbW, k1, k2, k3, k4⟩ := HKE.out _ (below_next (Below.refl _ _).drew hbk)))
        all_goals
          have hbX : Below wa.heap.size wa wb := hbW
          replace t4 := two_next t4 hbX
          replace t5 := two_next t5 hbX
          have hBX := below_next hBA hbX
          have HBX : Hid _ := hBX
          clear hbX hBX hbW hbk k1 k2 k3 k4 cI y1 y2 y3 y4 HKE HRE l4 l5
          obtain ⟨y1, y2⟩ := cell_two t4
          obtain ⟨y3, y4⟩ := cell_two t5
          go_upto_region 11 with (first | (go_at_call 32; refine (HW2.out _ HBX.out).mono ?_; rintro e wc ⟨to2, tc2, rfl, hGc, hbC⟩) | go_in)
          replace t4 := two_next t4 hbC
          replace t5 := two_next t5 hbC
          have hBC := below_next HBX.out hbC
          have HBC : Hid _ := hBC
          clear y1 y2 y3 y4 hBC
          obtain ⟨y1, y2⟩ := cell_two t4
          obtain ⟨y3, y4⟩ := cell_two t5
          have hkeep := fun (w' : World) (hb : Below wc.heap.size wc w') => keepO t4 t5 hb
          have hre := fun (w' : World) (hb : Below wc.heap.size wc w') => reach_has m to2 tc2 _ w' (hGc.below hb) hm hs' ht' HA'.out
          have HKE : Hid _ := hkeep
          have HRE : Hid _ := hre
          clear hkeep hre hGc hbC
          go_region_with ((go_at_call 41; refine (HRE.out _ (Below.refl _ _).drew).mono ?_; rintro e wd ⟨bI, rfl, cI, hbk⟩; obtain ⟨hbW, k1, k2, k3, k4⟩ := HKE.out _ (below_next (Below.refl _ _).drew hbk)))
          all_goals
            go_wp2
            go_ret
            exact ⟨rfl, below_next HBC.out hbW⟩
      · exact absurd hall h
end Go.Proofs.Ytbaghbodjpehpab
