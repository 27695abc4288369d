/- Least of costs without a fault, once newDeal is what it should be. -/
import Derived.Test.YtmbnaegcichoeaaLeastB
namespace Go.Proofs.Ytmbnaegcichoeaa
open Go.RowKit Go.Maps
attribute [local go_sem ↓] Go.wp_at_zero Go.wp_at_succ

/-- What newDeal answers. -/
def NewDeal : Prop := ∀ (w : World) (v : Value) (n : Nat) (C : Nat → Nat → Int), GridI w w.heap.size v n C → n ≤ 100 → (∀ i j, i < n → j < n → -1000000 ≤ C i j ∧ C i j ≤ 1000000) →
  Calls Try.prog 19 #[v] w fun e w' => ∃ c : Dc, e = .returned (ptr c.bp) ∧ c.n = n ∧ c.v = v ∧ c.C = C ∧ (∀ k, c.own k → w.heap.size ≤ k) ∧ Below w.heap.size w w' ∧ ∃ r, DS c w' r (fun _ => 0) (fun _ => -1) (fun _ => -1) ∧ Mt n 0 C r (fun _ => 0) (fun _ => -1) (fun _ => -1)
def sumC (C : Nat → Nat → Int) (tk : Nat → Int) : Nat → Int
  | 0 => 0
  | k + 1 => sumC C tk k + C k (tk k).toNat
theorem sumC_bnd {n : Nat} {C : Nat → Nat → Int} {tk : Nat → Int} (hC : ∀ i j, i < n → j < n → -1000000 ≤ C i j ∧ C i j ≤ 1000000) (ht : ∀ i, i < n → 0 ≤ tk i ∧ tk i < n) : ∀ k : Nat, k ≤ n → -(1000000 * (k : Int)) ≤ sumC C tk k ∧ sumC C tk k ≤ 1000000 * (k : Int)
  | 0, _ => by simp [sumC]
  | k + 1, hk => by
    have h1 := sumC_bnd hC ht k (by omega)
    have h2 := ht k (by omega)
    have h3 := hC k (tk k).toNat (by omega) (by omega)
    simp only [sumC]
    omega
/-- What Least answers. -/
def LeastIs (n : Nat) (C : Nat → Nat → Int) (B : Nat) (w' : World) (tv rv cv : Value) (total : Int) : Prop :=
  ∃ (bt br bc : Nat) (r u tk ow : Nat → Int), tv = sl bt n ∧ rv = sl br n ∧ cv = sl bc n ∧ B ≤ bt ∧ B ≤ br ∧ B ≤ bc ∧ RowV w' bt 3 n (iv tk) ∧ RowV w' br 3 n (iv r) ∧ RowV w' bc 3 n (iv u) ∧ Mt n n C r u tk ow ∧ total = sumC C tk n

set_option maxRecDepth 4000 in
set_option maxHeartbeats 3000000 in
theorem least_ok (hND : NewDeal) {w : World} {v : Value} {ls : List (List Int)} (h : RowsAt w v ls) (hf : costF ls = (0, 0)) :
    Calls Try.prog 7 #[v] w fun e w' => ∃ tv rv cv total, e = .returned (.tuple #[tv, rv, cv, .int .i64 total, .agg #[.int .i64 0, .int .i64 0]]) ∧ LeastIs ls.length (cellL ls) w.heap.size w' tv rv cv total ∧ Below w.heap.size w w' := by
  have hz : (costF ls).1 = 0 := by rw [hf]
  obtain ⟨_, hn, hgood⟩ := costF_good hz
  have HC : Hid (∀ i j, i < ls.length → j < ls.length → -1000000 ≤ cellL ls i j ∧ cellL ls i j ≤ 1000000) := cellL_bnd hz
  obtain ⟨ao, cap, e0, _⟩ := id h
  subst e0
  have h18 : ∀ W, Below w.heap.size w W → Calls Try.prog 18 #[.slice ao ls.length cap] W fun e w' => e = .returned (.agg #[.int .i64 0, .int .i64 0]) ∧ Below W.heap.size W w' := fun W hW => by
    have := checkCost_call (h.below hW)
    rw [hf] at this
    exact this
  have H18 : Hid (∀ W, Below w.heap.size w W → Calls Try.prog 18 #[.slice ao ls.length cap] W fun e w' => e = .returned (.agg #[.int .i64 0, .int .i64 0]) ∧ Below W.heap.size W w') := h18
  have HG : Hid (∀ W, Below w.heap.size w W → GridI W W.heap.size (.slice ao ls.length cap) ls.length (cellL ls)) := fun W hW => rows_grid (h.below hW) (fun l hl => (hgood l hl).1)
  have HND : Hid NewDeal := hND
  obtain ⟨n, hnn⟩ : ∃ n, n = ls.length := ⟨_, rfl⟩
  obtain ⟨C, hCC⟩ : ∃ C, C = cellL ls := ⟨_, rfl⟩
  rw [← hnn] at H18 HG HC hn ⊢
  rw [← hCC] at HG HC ⊢
  clear h18 h hf hz hgood hND hnn hCC
  go_enter Try.func7, Try.ntmps7
  go_upto_region 1 with (fail)
  have t6 := two_new w (.int .i64 0) (.int .i64 0) 25
  have hB0 := below_alloc (Below.refl _ w) (Obj.cells #[.int .i64 0, .int .i64 0] 25)
  generalize w.alloc (Obj.cells #[.int .i64 0, .int .i64 0] 25) = W0 at t6 hB0 ⊢
  go_upto_region 2 with (first | (go_at_call 18; refine (H18.out _ hB0).mono ?_; rintro e W1 ⟨rfl, hb1⟩) | go_in)
  have t7 := two_new W1 (.int .i64 0) (.int .i64 0) 25
  have hb1a := below_alloc hb1 (Obj.cells #[.int .i64 0, .int .i64 0] 25)
  have t6' := two_next t6 hb1a
  have hB1 := below_next hB0 hb1a
  generalize W1.alloc (Obj.cells #[.int .i64 0, .int .i64 0] 25) = W2 at t7 t6' hB1 ⊢
  clear t6 hB0 hb1 hb1a H18
  obtain ⟨q0, q1⟩ := cell_two t7
  have h19 := HND.out W2 _ n C (HG.out W2 hB1) hn HC.out
  have H19 : Hid (Calls Try.prog 19 #[.slice ao n cap] W2 fun e w' => ∃ c : Dc, e = .returned (ptr c.bp) ∧ c.n = n ∧ c.v = .slice ao n cap ∧ c.C = C ∧ (∀ k, c.own k → W2.heap.size ≤ k) ∧ Below W2.heap.size W2 w' ∧ ∃ r, DS c w' r (fun _ => 0) (fun _ => -1) (fun _ => -1) ∧ Mt n 0 C r (fun _ => 0) (fun _ => -1) (fun _ => -1)) := h19
  clear h19
  go_upto_region 5 with (first | (go_at_call 19; refine Calls.mono H19.out ?_; rintro e W3 ⟨c, rfl, hcn, hcv, hcC, hco, hb3, r, hds, hmt⟩) | go_in)
  subst hcn
  subst hcC
  have HCV : Hid (c.v = .slice ao c.n cap) := hcv
  have HDS : Hid (DS c W3 r (fun _ => 0) (fun _ => -1) (fun _ => -1)) := hds
  have HMT : Hid (Mt c.n 0 c.C r (fun _ => 0) (fun _ => -1) (fun _ => -1)) := hmt
  have HCO : Hid (∀ k, c.own k → W2.heap.size ≤ k) := hco
  have t63 := two_next t6' hb3
  have hB3 := below_next hB1 hb3
  have hw6 : w.heap.size < W2.heap.size := lt_of_block t6'
  clear hcv hds hmt hco t7 q0 q1 H19 HND HG t6' hb3
  go_wp2
  go_loopw [22] (fun iv' wr => ∃ k : Nat, k ≤ c.n ∧ iv' = .int .i64 (k : Int) ∧ (∃ r u tk ow, DS c wr r u tk ow ∧ Mt c.n k c.C r u tk ow) ∧ Turns (fun k => k = c.br ∨ k = c.bc ∨ k = c.bt ∨ k = c.bb) W3 wr) (fun iv' _ => c.n - (numOf iv').toNat)
  case atStart => exact ⟨0, Nat.zero_le _, rfl, ⟨_, _, _, _, HDS.out, HMT.out⟩, Turns.refl _ _⟩
  case round =>
    clear HDS HMT
    obtain ⟨k, hk, rfl, ⟨r, u, tk, ow, hds, hmt⟩, ht⟩ := hrel
    have HDS : Hid (DS c wr r u tk ow) := hds
    have HMT : Hid (Mt c.n k c.C r u tk ow) := hmt
    clear hds hmt
    by_cases hlt : k < c.n
    · have i2 : (k : Int) < (c.n : Int) := by omega
      have h20 := serve_call HDS.out HMT.out hlt hn HC.out
      have H20 : Hid (Calls Try.prog 20 #[ptr c.bp, .int .i64 (k : Int)] wr fun e w' => e = .returned (.tuple #[]) ∧ (∃ r' u' tk' ow', DS c w' r' u' tk' ow' ∧ Mt c.n (k + 1) c.C r' u' tk' ow') ∧ Turns (fun k => k = c.br ∨ k = c.bc ∨ k = c.bt ∨ k = c.bb) wr w') := h20
      clear h20
      go_wp2_with (first | (go_at_call 20; refine Calls.mono H20.out ?_; rintro e W4 ⟨rfl, hex, ht4⟩; have HEX : Hid (∃ r' u' tk' ow', DS c W4 r' u' tk' ow' ∧ Mt c.n (k + 1) c.C r' u' tk' ow') := hex; clear hex) | go_in)
      go_roundw
      case rel => exact ⟨k + 1, by omega, by go_num, HEX.out, ht.trans ht4⟩
      case measure => simp [numOf]; omega
    · have i2 : ¬ (k : Int) < (c.n : Int) := by omega
      have hkn : k = c.n := by omega
      subst hkn
      obtain ⟨_, c1, c2, c3, _⟩ := HDS.out.cellB
      have t6r : Two wr w.heap.size (.int .i64 0) (.int .i64 0) 25 := two_turns t63 ht (by
        rintro (e | e | e | e)
        · have := HCO.out c.br (Or.inr (Or.inl rfl)); omega
        · have := HCO.out c.bc (Or.inr (Or.inr (Or.inl rfl))); omega
        · have := HCO.out c.bt (Or.inr (Or.inr (Or.inr (Or.inl rfl)))); omega
        · have := HCO.out c.bb (Or.inr (Or.inr (Or.inr (Or.inr rfl)))); omega)
      have hBr : Below w.heap.size w wr := Turns.below hB3 ht hB3.size (by
        rintro k (rfl | rfl | rfl | rfl)
        · have := HCO.out c.br (Or.inr (Or.inl rfl)); omega
        · have := HCO.out c.bc (Or.inr (Or.inr (Or.inl rfl))); omega
        · have := HCO.out c.bt (Or.inr (Or.inr (Or.inr (Or.inl rfl)))); omega
        · have := HCO.out c.bb (Or.inr (Or.inr (Or.inr (Or.inr rfl)))); omega)
      have HTK : Hid (∀ i, i < c.n → 0 ≤ tk i ∧ tk i < c.n) := fun i hi => by
        obtain ⟨j, h1, h2, _⟩ := HMT.out.eq i hi
        omega
      obtain ⟨WL, hWL⟩ : ∃ W, W = wr := ⟨_, rfl⟩
      subst hWL
      go_wp2
      go_loopw [5, 34] (fun sv iv' wr => ∃ k : Nat, k ≤ c.n ∧ iv' = .int .i64 (k : Int) ∧ sv = .int .i64 (sumC c.C tk k) ∧ wr = WL) (fun _ iv' _ => c.n - (numOf iv').toNat)
      case atStart => exact ⟨0, Nat.zero_le _, rfl, rfl, rfl⟩
      case round =>
        obtain ⟨k, hk, rfl, rfl, hwr⟩ := hrel
        have hwr' := hwr.symm
        clear hwr
        subst hwr'
        by_cases hlt : k < c.n
        · have i3 : (k : Int) < (c.n : Int) := by omega
          have i4 : (0 : Int) ≤ (k : Int) := by omega
          obtain ⟨ht1, ht2⟩ := HTK.out k hlt
          obtain ⟨j, hj⟩ : ∃ j : Nat, tk k = j := ⟨(tk k).toNat, by omega⟩
          have hjn : j < c.n := by omega
          have ct := HDS.out.tos.cell hlt
          unfold iv at ct
          rw [hj] at ct
          obtain ⟨ao', cap', ev, hg⟩ := HDS.out.grid
          have ev2 := HCV.out
          rw [ev2] at ev
          cases ev
          obtain ⟨b, off, vo, vc, rfl, _, g1, hg2⟩ := hg k hlt
          obtain ⟨b', off', rfl, _, g2⟩ := hg2 j hjn
          have hb1 := sumC_bnd HC.out HTK.out k hk
          have hb2 := HC.out k j hlt hjn
          have HSU : Hid (sumC c.C tk (k + 1) = sumC c.C tk k + c.C k j) := by show sumC c.C tk k + c.C k (tk k).toNat = _; rw [hj]; rfl
          have i5 : (0 : Int) ≤ (j : Int) := by omega
          have i6 : (j : Int) < (c.n : Int) := by omega
          obtain ⟨x, hx⟩ : ∃ x, x = sumC c.C tk k := ⟨_, rfl⟩
          rw [← hx] at HSU hb1 ⊢
          generalize c.C k j = y at g2 hb2 HSU
          have i7 : IntKind.i64.wrap (x + y) = x + y := by rw [IntKind.wrap_i64]; omega
          clear hg hg2 hj ht1 ht2 ev2 hx
          go_wp2
          go_roundw
          case rel => exact ⟨k + 1, by omega, by go_num, by rw [HSU.out], trivial⟩
          case measure => simp [numOf]; omega
        · have i3 : ¬ (k : Int) < (c.n : Int) := by omega
          have hkn : k = c.n := by omega
          subst hkn
          have ff := free_two t6r
          obtain ⟨q0, q1⟩ := cell_two t6r
          go_upto_region 15 with (fail)
          go_region
          all_goals
            go_wp2
            have x9 := two_setN (x' := .int .i64 0) (y' := .int .i64 0) t6r
            have hB9 := (hBr.setCell (p := ⟨w.heap.size, 0, none⟩) (Nat.le_refl _) (.int .i64 0)).setCell (p := ⟨w.heap.size, 1, none⟩) (Nat.le_refl _) (.int .i64 0)
            have T9 := (setCell_turns WL w.heap.size 0 (.int .i64 0)).trans (setCell_turns (WL.setCell ⟨w.heap.size, 0, none⟩ (.int .i64 0)) w.heap.size 1 (.int .i64 0))
            have g1 := HCO.out c.br (Or.inr (Or.inl rfl))
            have g2 := HCO.out c.bc (Or.inr (Or.inr (Or.inl rfl)))
            have g3 := HCO.out c.bt (Or.inr (Or.inr (Or.inr (Or.inl rfl))))
            have r1 := HDS.out.tos.turns T9 (fun e => by omega)
            have r2 := HDS.out.rows.turns T9 (fun e => by omega)
            have r3 := HDS.out.cols.turns T9 (fun e => by omega)
            clear T9
            generalize ((WL.setCell ⟨w.heap.size, 0, none⟩ (.int .i64 0)).setCell ⟨w.heap.size, 1, none⟩ (.int .i64 0)) = W9 at x9 hB9 r1 r2 r3 ⊢
            have z9 : Two W9.drew w.heap.size (.int .i64 0) (.int .i64 0) 25 := x9
            obtain ⟨n8, n81⟩ := cell_two z9
            refine bodyPost_ret (v := .tuple #[sl c.bt c.n, sl c.br c.n, sl c.bc c.n, .int .i64 (sumC c.C tk c.n), .agg #[.int .i64 0, .int .i64 0]]) ?_ rfl ⟨_, _, _, _, rfl, ⟨c.bt, c.br, c.bc, r, u, tk, ow, rfl, rfl, rfl, by omega, by omega, by omega, r1, r2, r3, HMT.out, rfl⟩, hB9.drew⟩
            simp [results, Try.results7, go_sem, n8, n81]
end Go.Proofs.Ytmbnaegcichoeaa
