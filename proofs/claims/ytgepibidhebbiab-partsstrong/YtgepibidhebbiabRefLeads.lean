/- The document's Leads. -/
import Derived.BigRegion
import Derived.Test.YtgepibidhebbiabGridNew
namespace Go.Proofs.Ytgepibidhebbiab
open Go.RowKit Go.Maps
attribute [local go_sem ↓] Go.wp_at_zero Go.wp_at_succ

def arcE (es : List Pair) (a b : Nat) : Bool := arcB es a b || a == b
def arcD (es : List Pair) (k a b : Nat) : Bool := arcB es a b || (a == b && decide (a < k))

set_option maxHeartbeats 4000000 in
theorem refLeads_call (n : Nat) (ao : Option Addr) (cap : Nat) (es : List Pair) (w : World) (hE : EdgesAt w (.slice ao es.length cap) es) (hn1 : n ≤ 100) (hl : es.length ≤ 1000) (hgood : ∀ e ∈ es, ArcIn n e) {R : Nat → Nat → Bool} (hR : ∀ v x, R v x = true ↔ Star (St n (arcB es) allB) v x) :
    Calls Try.prog 29 #[.int .i64 (n : Int), .slice ao es.length cap] w fun r w' => ∃ to tc, r = .returned (.slice to n tc) ∧ GridAt w' (.slice to n tc) n (fun a b => R a.toNat b.toNat) ∧ Below w.heap.size w w' := by
  have ht : ∀ i j k, R i j = true → R j k = true → R i k = true := fun i j k h1 h2 => (hR i k).2 (((hR i j).1 h1).trans ((hR j k).1 h2))
  have hE0 : ∀ a b, a < n → b < n → arcE es a b = true → R a b = true := fun a b ha hb he => by
    rw [hR]
    simp only [arcE, Bool.or_eq_true, beq_iff_eq] at he
    rcases he with he | he
    · exact (Star.refl a).step ⟨hb, he, rfl⟩
    · subst he; exact .refl _
  have HE : Hid _ := hE
  have HGD : Hid _ := hgood
  have HR : Hid _ := hR
  have HRT : Hid _ := ht
  have HE0 : Hid _ := hE0
  clear hE hgood hR ht hE0
  go_enter Try.func29, Try.ntmps29
  go_wp2_with (first
    | (go_at_call 15; refine (gridOf_new n _ hn1).mono ?_; rintro r w1 ⟨to, tc, bs, rfl, hbl, htab, hB1⟩)
    | go_in)
  go_loopw [6] (fun i wr => ∃ k : Nat, k ≤ es.length ∧ i = .int .i64 (k : Int) ∧ Tab w.heap.size wr n (.slice to n tc) bs (arcB (es.take k)) ∧ Below w.heap.size w wr) (fun i _ => es.length - (numOf i).toNat)
  case atStart => exact ⟨0, Nat.zero_le _, rfl, htab.congr (fun i j => by simp [arcB]), hB1⟩
  case round =>
    obtain ⟨k, hk, rfl, htb, hB⟩ := hrel
    clear htab hB1
    by_cases hkl : k < es.length
    · obtain ⟨yo, yc, ey, _, _, hcells⟩ := EdgesAt.below HE.out hB
      cases ey
      obtain ⟨b, off, rfl, c1, c2⟩ := hcells k hkl
      obtain ⟨x, y, hxy⟩ : ∃ x y, es[k] = (x, y) := ⟨es[k].1, es[k].2, rfl⟩
      have hin := HGD.out es[k] (List.getElem_mem _)
      rw [hxy] at c1 c2 hin
      have HXY : Hid _ := hxy
      clear hcells hxy
      obtain ⟨x0, y0, x1, y1⟩ := hin
      simp only at x0 y0 x1 y1
      obtain ⟨i, rfl⟩ : ∃ i : Nat, x = i := ⟨x.toNat, by omega⟩
      obtain ⟨j, rfl⟩ : ∃ j : Nat, y = j := ⟨y.toNat, by omega⟩
      have hib : i < bs.length := by omega
      have hjn : j < n := by omega
      obtain ⟨g, rfl, hat⟩ := htb.at (by omega)
      obtain ⟨bi, hbi⟩ : ∃ bi, bi = bs[i] := ⟨_, rfl⟩
      have d1 := hat i hib
      have d2 := (htb.rows i hib).cell hjn
      have e2 := (htb.rows i hib).free j
      have htb2 := htb.put hib j true
      have hge := htb.ge bs[i] (List.getElem_mem _)
      rw [← hbi] at d1 d2 e2 htb2 hge
      have HT2 : Hid _ := htb2
      clear hat htb2 hbi htb
      have j1 : (0 : Int) ≤ (k : Int) := by omega
      have j2 : (k : Int) < (es.length : Int) := by omega
      have i1 : (0 : Int) ≤ (i : Int) := by omega
      have i2 : (i : Int) < (n : Int) := by omega
      have i3 : (0 : Int) ≤ (j : Int) := by omega
      have i4 : (j : Int) < (n : Int) := by omega
      go_upto_region 5 with (fail)
      go_region
      all_goals
        go_wp2
        go_roundw
        case rel =>
          refine ⟨k + 1, by omega, by go_num, (Tab.congr (q := arcB (es.take (k + 1))) HT2.out (fun a c => ?_)).below (Below.refl _ _).drew, (hB.setCell hge _).drew⟩
          rw [arcB_take es k hkl a c i j HXY.out]
          by_cases e : a = i
          · subst e
            by_cases e' : c = j
            · subst e'; simp
            · simp [e']
          · simp [e]
        case measure => simp [numOf]; omega
    · have hke : k = es.length := by omega
      subst hke
      rw [List.take_length] at htb
      go_wp2
      go_loopw [7] (fun i wr => ∃ k : Nat, k ≤ n ∧ i = .int .i64 (k : Int) ∧ Tab w.heap.size wr n (.slice to n tc) bs (arcD es k) ∧ Below w.heap.size w wr) (fun i _ => n - (numOf i).toNat)
      case atStart => exact ⟨0, Nat.zero_le _, rfl, htb.congr (fun i j => by simp [arcD]), hB⟩
      case round =>
        obtain ⟨k, hk, rfl, htc, hBc⟩ := hrel
        clear htb hB
        by_cases hkn : k < n
        · have hib : k < bs.length := by omega
          obtain ⟨g, rfl, hat⟩ := htc.at (by omega)
          obtain ⟨bi, hbi⟩ : ∃ bi, bi = bs[k] := ⟨_, rfl⟩
          have d1 := hat k hib
          have d2 := (htc.rows k hib).cell hkn
          have e2 := (htc.rows k hib).free k
          have htb2 := htc.put hib k true
          have hge := htc.ge bs[k] (List.getElem_mem _)
          rw [← hbi] at d1 d2 e2 htb2 hge
          have HT2 : Hid _ := htb2
          clear hat htb2 hbi htc
          have i1 : (0 : Int) ≤ (k : Int) := by omega
          have i2 : (k : Int) < (n : Int) := by omega
          go_wp2
          go_roundw
          case rel =>
            refine ⟨k + 1, by omega, by go_num, Tab.congr (q := arcD es (k + 1)) HT2.out (fun a c => ?_), hBc.setCell hge _⟩
            unfold arcD
            by_cases e : a = k ∧ c = k
            · obtain ⟨rfl, rfl⟩ := e; simp
            · rw [if_neg e]
              congr 1
              rw [Bool.eq_iff_iff]
              simp only [Bool.and_eq_true, beq_iff_eq, decide_eq_true_eq]
              omega
          case measure => simp [numOf]; omega
        · have hke : n = k := by omega
          subst hke
          have hwar : War n (arcE es) R (arcD es n) 0 0 0 := War.start HE0.out (fun a b ha _ => by simp [arcD, arcE, ha])
          have HW : Hid _ := hwar
          clear hwar
          go_wp2
          go_loopw [8] (fun i wr => ∃ (k : Nat) (G : Nat → Nat → Bool), k ≤ n ∧ i = .int .i64 (k : Int) ∧ Tab w.heap.size wr n (.slice to n tc) bs G ∧ Below w.heap.size w wr ∧ War n (arcE es) R G k 0 0) (fun i _ => n - (numOf i).toNat)
          case atStart => exact ⟨0, _, Nat.zero_le _, rfl, htc, hBc, HW.out⟩
          case round =>
            obtain ⟨k, G1, hk1, rfl, ht1, hB1, hw1⟩ := hrel
            have HW1 : Hid _ := hw1
            clear htc hBc HW hw1
            by_cases hkn1 : k < n
            · go_wp2
              go_loopw [9] (fun i wr => ∃ (a : Nat) (G : Nat → Nat → Bool), a ≤ n ∧ i = .int .i64 (a : Int) ∧ Tab w.heap.size wr n (.slice to n tc) bs G ∧ Below w.heap.size w wr ∧ War n (arcE es) R G k a 0) (fun i _ => n - (numOf i).toNat)
              case atStart => exact ⟨0, _, Nat.zero_le _, rfl, ht1, hB1, HW1.out⟩
              case round =>
                obtain ⟨a, G2, hk2, rfl, ht2, hB2, hw2⟩ := hrel
                have HW2 : Hid _ := hw2
                clear ht1 hB1 HW1 hw2
                by_cases han : a < n
                · go_wp2
                  go_loopw [10] (fun i wr => ∃ (c : Nat) (G : Nat → Nat → Bool), c ≤ n ∧ i = .int .i64 (c : Int) ∧ Tab w.heap.size wr n (.slice to n tc) bs G ∧ Below w.heap.size w wr ∧ War n (arcE es) R G k a c) (fun i _ => n - (numOf i).toNat)
                  case atStart => exact ⟨0, _, Nat.zero_le _, rfl, ht2, hB2, HW2.out⟩
                  case round =>
                    obtain ⟨c, G, hk3, rfl, ht3, hB3, hw3⟩ := hrel
                    have HW3 : Hid _ := hw3
                    clear ht2 hB2 HW2 hw3
                    by_cases hcn : c < n
                    · have hib : a < bs.length := by omega
                      have hkb : k < bs.length := by omega
                      obtain ⟨g, rfl, hat⟩ := ht3.at (by omega)
                      obtain ⟨bi, hbi⟩ : ∃ bi, bi = bs[a] := ⟨_, rfl⟩
                      obtain ⟨bk, hbk⟩ : ∃ bk, bk = bs[k] := ⟨_, rfl⟩
                      have d1 := hat a hib
                      have d2 := hat k hkb
                      have d3 := (ht3.rows a hib).cell hcn
                      have d4 := (ht3.rows a hib).cell hkn1
                      have d5 := (ht3.rows k hkb).cell hcn
                      have e2 := (ht3.rows a hib).free c
                      have hge := ht3.ge bs[a] (List.getElem_mem _)
                      have hput := fun x => ht3.put hib c x
                      rw [← hbi] at d1 d3 d4 e2 hge
                      simp only [← hbi] at hput
                      rw [← hbk] at d2 d5
                      have HP : Hid _ := hput
                      have hset := fun (x : Bool) (hx : x = (G a c || (G a k && G k c))) => HW3.out.set (G' := fun p q => if p = a ∧ q = c then x else G p q) HRT.out hkn1 han hcn (fun p q => by rw [hx])
                      have HS : Hid _ := hset
                      clear hat hput hset hbi hbk ht3
                      have i1 : (0 : Int) ≤ (a : Int) := by omega
                      have i2 : (a : Int) < (n : Int) := by omega
                      have i3 : (0 : Int) ≤ (c : Int) := by omega
                      have i4 : (c : Int) < (n : Int) := by omega
                      have i5 : (0 : Int) ≤ (k : Int) := by omega
                      have i6 : (k : Int) < (n : Int) := by omega
                      cases h3 : G a c
                      · cases h4 : G a k
                        · have HX : Hid (false = (G a c || (G a k && G k c))) := by rw [h3, h4]; rfl
                          rw [h3] at d3
                          rw [h4] at d4
                          clear h3 h4 d5
                          go_upto_region 19 with (fail)
                          go_region
                          all_goals
                            go_wp2
                            go_roundw
                            case rel => exact ⟨c + 1, _, by omega, by go_num, (HP.out false).below (Below.refl _ _).drew, (hB3.setCell hge _).drew, HS.out false HX.out⟩
                            case measure => simp [numOf]; omega
                        · have HX : Hid (G k c = (G a c || (G a k && G k c))) := by rw [h3, h4]; rfl
                          rw [h3] at d3
                          rw [h4] at d4
                          clear h3 h4
                          go_upto_region 19 with (fail)
                          go_region
                          all_goals
                            go_wp2
                            go_roundw
                            case rel => exact ⟨c + 1, _, by omega, by go_num, (HP.out (G k c)).below (Below.refl _ _).drew, (hB3.setCell hge _).drew, HS.out (G k c) HX.out⟩
                            case measure => simp [numOf]; omega
                      · have HX : Hid (true = (G a c || (G a k && G k c))) := by rw [h3]; rfl
                        rw [h3] at d3
                        clear h3 d4 d5
                        go_upto_region 19 with (fail)
                        go_region
                        all_goals
                          go_wp2
                          go_roundw
                          case rel => exact ⟨c + 1, _, by omega, by go_num, (HP.out true).below (Below.refl _ _).drew, (hB3.setCell hge _).drew, HS.out true HX.out⟩
                          case measure => simp [numOf]; omega
                    · have hce : n = c := by omega
                      subst hce
                      go_wp2
                      go_roundw
                      case rel => exact ⟨a + 1, _, by omega, by go_num, ht3, hB3, HW3.out.row⟩
                      case measure => simp [numOf]; omega
                · have hae : n = a := by omega
                  subst hae
                  go_wp2
                  go_roundw
                  case rel => exact ⟨k + 1, _, by omega, by go_num, ht2, hB2, HW2.out.next⟩
                  case measure => simp [numOf]; omega
            · have hke : n = k := by omega
              subst hke
              go_wp2
              go_ret
              refine ⟨to, tc, rfl, Tab.grid (base := w.heap.size) (n := n) (bs := bs) ?_ hbl, hB1⟩
              refine ⟨ht1.own, fun i hi => ?_, ht1.nodup, ht1.ge⟩
              obtain ⟨cur, h1, h2, h3⟩ := ht1.rows i hi
              refine ⟨cur, h1, h2, fun j hj => ?_⟩
              rw [h3 j hj]
              have := HW1.out.done (fun a _ => by simp [arcE]) (fun a b h => by simp [arcE, h]) HR.out (a := i) (b := j) (by omega) hj
              rw [this]
              rfl
end Go.Proofs.Ytgepibidhebbiab
