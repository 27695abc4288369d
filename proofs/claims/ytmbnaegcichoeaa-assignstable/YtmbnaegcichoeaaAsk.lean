/- askAll: Gale's and Shapley's method in memory. -/
import Derived.Test.YtmbnaegcichoeaaPlaces
namespace Go.Proofs.Ytmbnaegcichoeaa
open Go.RowKit Go.Maps
attribute [local go_sem ↓] Go.wp_at_zero Go.wp_at_succ

def sumN (f : Nat → Nat) : Nat → Nat
  | 0 => 0
  | n + 1 => sumN f n + f n
theorem sumN_congr {f g : Nat → Nat} : ∀ n, (∀ i, i < n → f i = g i) → sumN f n = sumN g n
  | 0, _ => rfl
  | n + 1, h => by simp only [sumN]; rw [sumN_congr n (fun i hi => h i (by omega)), h n (by omega)]
theorem sumN_le {f : Nat → Nat} {m : Nat} : ∀ n, (∀ i, i < n → f i ≤ m) → sumN f n ≤ n * m
  | 0, _ => by simp [sumN]
  | n + 1, h => by
    have h1 := sumN_le n (fun i hi => h i (by omega))
    have h2 := h n (by omega)
    simp only [sumN]
    rw [Nat.succ_mul]
    omega
theorem sumN_askS {ask : Nat → Nat} {x : Nat} : ∀ n, sumN (askS ask x) n = sumN ask n + (if x < n then 1 else 0)
  | 0 => by simp [sumN]
  | n + 1 => by
    simp only [sumN]
    rw [sumN_askS n]
    by_cases e : n = x
    · subst e
      rw [askS_at]
      simp
      omega
    · rw [askS_ne ask e]
      by_cases h : x < n
      · simp [h, show x < n + 1 by omega]; omega
      · simp [h, show ¬ x < n + 1 by omega]
def readQ (w : World) (b i : Nat) : Nat := match w.cell? ⟨b, i, none⟩ with
  | some (.int _ q) => q.toNat
  | _ => 0
theorem readQ_row {w : World} {b n : Nat} {f : Nat → Nat} (h : RowV w b 3 n (iv (fun x => (f x : Int)))) {i : Nat} (hi : i < n) : readQ w b i = f i := by
  unfold readQ
  rw [h.cell hi]
  simp [iv]
theorem sum_row {w : World} {b n : Nat} {f : Nat → Nat} (h : RowV w b 3 n (iv (fun x => (f x : Int)))) : sumN (readQ w b) n = sumN f n := sumN_congr n (fun _ hi => readQ_row h hi)
/-- The state of asking in memory. -/
structure AS (w : World) (S T : Nat → Prop) (va vp : Value) (n bh bq : Nat) (A P : Nat → Nat → Nat) (has : Nat → Int) (ask : Nat → Nat) : Prop where
  hs : RowV w bh 3 n (iv has)
  qs : RowV w bq 3 n (iv (fun x => (ask x : Int)))
  ga : GridS w S va n (fun x k => (A x k : Int))
  gp : GridS w T vp n (fun j x => (P j x : Int))
theorem AS.turns {M : Nat → Prop} {w w' : World} {S T : Nat → Prop} {va vp : Value} {n bh bq : Nat} {A P : Nat → Nat → Nat} {has : Nat → Int} {ask : Nat → Nat} (h : AS w S T va vp n bh bq A P has ask) (ht : Turns M w w') (hm : ∀ k, M k → ¬ S k ∧ ¬ T k ∧ k ≠ bh ∧ k ≠ bq) : AS w' S T va vp n bh bq A P has ask :=
  ⟨h.hs.turns ht (fun hk => (hm _ hk).2.2.1 rfl), h.qs.turns ht (fun hk => (hm _ hk).2.2.2 rfl), h.ga.turns ht (fun k hk => (hm k hk).1), h.gp.turns ht (fun k hk => (hm k hk).2.1)⟩
theorem AS.setQ {w : World} {S T : Nat → Prop} {va vp : Value} {n bh bq : Nat} {A P : Nat → Nat → Nat} {has : Nat → Int} {ask : Nat → Nat} (h : AS w S T va vp n bh bq A P has ask) (h1 : ¬ S bq ∧ ¬ T bq ∧ bh ≠ bq) (x : Nat) : AS (w.setCell ⟨bq, x, none⟩ (.int .i64 ((ask x : Int) + 1))) S T va vp n bh bq A P has (askS ask x) := by
  have T := setCell_turns w bq x (.int .i64 ((ask x : Int) + 1))
  refine ⟨h.hs.turns T h1.2.2, (h.qs.set x _).congr (fun j _ => ?_), h.ga.turns T (fun k hk => by rw [hk]; exact h1.1), h.gp.turns T (fun k hk => by rw [hk]; exact h1.2.1)⟩
  unfold iv askS
  by_cases e : j = x
  · subst e; simp
  · simp [e]
theorem AS.setH {w : World} {S T : Nat → Prop} {va vp : Value} {n bh bq : Nat} {A P : Nat → Nat → Nat} {has : Nat → Int} {ask : Nat → Nat} (h : AS w S T va vp n bh bq A P has ask) (h1 : ¬ S bh ∧ ¬ T bh ∧ bh ≠ bq) (j x : Nat) : AS (w.setCell ⟨bh, j, none⟩ (.int .i64 (x : Int))) S T va vp n bh bq A P (hasS has j x) ask := by
  have T := setCell_turns w bh j (.int .i64 (x : Int))
  refine ⟨(h.hs.set j _).congr (fun k _ => ?_), h.qs.turns T (fun e => h1.2.2 e.symm), h.ga.turns T (fun k hk => by rw [hk]; exact h1.1), h.gp.turns T (fun k hk => by rw [hk]; exact h1.2.1)⟩
  unfold iv hasS
  by_cases e : k = j
  · subst e; simp
  · simp [e]

/-- What askAll answers. -/
def Asked (w' : World) (n bh : Nat) (A P : Nat → Nat → Nat) : Prop := ∃ has ask, RowV w' bh 3 n (iv has) ∧ Gs n n n A P has ask ∧ Opt n A P has ask
set_option maxRecDepth 4000 in
set_option maxHeartbeats 3000000 in
theorem askAll_call {w : World} {va vb : Value} {la lb : List (List Int)} {n : Nat} (hA : RowsAt w va la) (hB : RowsAt w vb lb) (hla : la.length = n) (hlb : lb.length = n) (hn : n ≤ 100) (ha : ∀ l ∈ la, Nam n l) (hb : ∀ l ∈ lb, Nam n l) :
    Calls Try.prog 23 #[va, vb] w fun e w' => ∃ bh, e = .returned (sl bh n) ∧ w.heap.size ≤ bh ∧ Asked w' n bh (nameA la) (placeB lb) ∧ Below w.heap.size w w' := by
  have hL : Lst n (nameA la) (placeB lb) := lst_of hla hlb ha hb
  have HGA : Hid (GridS w (fun k => k < w.heap.size) va n (fun x k => (nameA la x k : Int))) := by
    have := rows_grid hA (fun l hl => by rw [hla]; exact (ha l hl).len)
    rw [hla] at this
    exact this.gridS.congr (fun i j hi hj => cellA hla ha hi hj)
  have H33 : Hid (∀ W, Below w.heap.size w W → Calls Try.prog 33 #[vb] W fun e w' => ∃ v', e = .returned v' ∧ GridS w' (fun k => W.heap.size ≤ k ∧ k < w'.heap.size) v' n (fun j x => (placeB lb j x : Int)) ∧ Below W.heap.size W w') := fun W hW => by
    refine (placesIn_call (hB.below hW) hlb hn hb).mono ?_
    rintro e w' ⟨v', rfl, h1, h2⟩
    exact ⟨v', rfl, h1.congr (fun j x hj hx => (placeB_fill hlb hb hj hx).1), h2⟩
  have HPL : Hid (∀ j x, j < n → x < n → placeB lb j x < n) := fun j x hj hx => (placeB_fill hlb hb hj hx).2
  have HL : Hid (Lst n (nameA la) (placeB lb)) := hL
  obtain ⟨ao, acap, e1⟩ := HGA.out.form
  obtain ⟨bo, bcap, e2, _⟩ := hB
  rw [hlb] at e2
  subst e1
  subst e2
  obtain ⟨A, hAA⟩ : ∃ A, A = nameA la := ⟨_, rfl⟩
  obtain ⟨P, hPP⟩ : ∃ P, P = placeB lb := ⟨_, rfl⟩
  rw [← hAA] at HGA HL ⊢
  rw [← hPP] at H33 HPL HL ⊢
  clear hA hla hlb ha hb hL hAA hPP
  have hmk := make27 n (by omega)
  go_enter Try.func23, Try.ntmps23
  go_upto_region 2 with (first | (go_at_call 26; refine Calls.mono (repeat_call (x := (-1 : Int)) (one_cell _ _ _) (by omega)) ?_; rintro e W1 ⟨bh, rfl, hbh, hrh, hb1⟩) | go_in)
  have hB1 : Below w.heap.size w W1 := below_next (below_alloc (Below.refl _ w) _) hb1
  have hbh1 : w.heap.size ≤ bh := by have := (below_alloc (Below.refl _ w) (Obj.cells #[.int .i64 (-1)] 3) : Below w.heap.size w _).size; omega
  have hbh2 : bh < W1.heap.size := hrh.lt
  have HRH : Hid (RowV W1 bh 3 n (fun _ => .int .i64 (-1))) := hrh
  have h33 := H33.out W1 hB1
  have H33' : Hid (Calls Try.prog 33 #[.slice bo n bcap] W1 fun e w' => ∃ v', e = .returned v' ∧ GridS w' (fun k => W1.heap.size ≤ k ∧ k < w'.heap.size) v' n (fun j x => (P j x : Int)) ∧ Below W1.heap.size W1 w') := h33
  clear hrh hb1 hbh H33 h33
  go_upto_region 3 with (first | (go_at_call 33; refine Calls.mono H33'.out ?_; rintro e W2 ⟨vp, rfl, hgp, hb2⟩) | go_in)
  have HGP : Hid (GridS W2 (fun k => W1.heap.size ≤ k ∧ k < W2.heap.size) vp n (fun j x => (P j x : Int))) := hgp
  obtain ⟨po, pcap, rfl⟩ := hgp.form
  clear hgp H33'
  go_upto_region 4 with (fail)
  obtain ⟨bq, hbq⟩ : ∃ bq, bq = W2.heap.size := ⟨_, rfl⟩
  rw [← hbq]
  have hb3 : Below W2.heap.size W2 (W2.alloc (Obj.cells (rep n (.int .i64 0)) 3)) := below_alloc (Below.refl _ _) _
  have hb12 : Below W1.heap.size W1 (W2.alloc (Obj.cells (rep n (.int .i64 0)) 3)) := below_next hb2 hb3
  have hB3 : Below w.heap.size w (W2.alloc (Obj.cells (rep n (.int .i64 0)) 3)) := below_next hB1 hb12
  have hrq : RowV (W2.alloc (Obj.cells (rep n (.int .i64 0)) 3)) bq 3 n (fun _ => .int .i64 0) := by rw [hbq]; exact rowV_rep (heap_alloc_new _ _)
  generalize W2.alloc (Obj.cells (rep n (.int .i64 0)) 3) = W3 at hb3 hb12 hB3 hrq ⊢
  obtain ⟨S, hS⟩ : ∃ S : Nat → Prop, S = fun k => k < w.heap.size := ⟨_, rfl⟩
  obtain ⟨T, hT⟩ : ∃ T : Nat → Prop, T = fun k => W1.heap.size ≤ k ∧ k < W2.heap.size := ⟨_, rfl⟩
  have HAS : Hid (AS W3 S T (.slice ao n acap) (.slice po n pcap) n bh bq A P (fun _ => -1) (fun _ => 0)) := by
    refine ⟨HRH.out.block (hb12.block _ hbh2), hrq, ?_, ?_⟩
    · rw [hS]; exact HGA.out.turns (M := fun k => False) (Turns.of_below hB3 _) (fun _ h => h.elim)
    · rw [hT]; exact HGP.out.turns (M := fun k => False) (Turns.of_below hb3 _) (fun _ h => h.elim)
  have hz2 := hb2.size
  have HQ : Hid (¬ S bq ∧ ¬ T bq ∧ bh ≠ bq) := by
    rw [hS, hT]
    have := hB1.size
    exact ⟨by omega, by omega, by omega⟩
  have HH : Hid (¬ S bh ∧ ¬ T bh ∧ bh ≠ bq) := by
    rw [hS, hT]
    exact ⟨by omega, by omega, by omega⟩
  have hbq1 : w.heap.size ≤ bq := by have := hB1.size; omega
  clear hS hT hrq hb12 hb3 hb2 hbq HGA HGP HRH hmk hB1 hz2 hbh2
  go_wp2
  go_loopw [21] (fun iv' wr => ∃ k : Nat, k ≤ n ∧ iv' = .int .i64 (k : Int) ∧ (∃ has ask, AS wr S T (.slice ao n acap) (.slice po n pcap) n bh bq A P has ask ∧ Gs n k n A P has ask ∧ Opt n A P has ask) ∧ Turns (fun x => x = bh ∨ x = bq) W3 wr) (fun iv' _ => n - (numOf iv').toNat)
  case atStart => exact ⟨0, Nat.zero_le _, rfl, ⟨_, _, HAS.out, Gs.start n A P, Opt.start n A P⟩, Turns.refl _ _⟩
  case round =>
    clear HAS
    obtain ⟨k, hk, rfl, ⟨has, ask, has0, hgs, hopt⟩, ht⟩ := hrel
    by_cases hlt : k < n
    · have i2 : (k : Int) < (n : Int) := by omega
      have HS0 : Hid (∃ fr has ask, AS wr S T (.slice ao n acap) (.slice po n pcap) n bh bq A P has ask ∧ Gs n (k + 1) fr A P has ask ∧ Opt n A P has ask ∧ ((Value.int .i64 (k : Int) = .int .i64 (fr : Int) ∧ fr < k + 1) ∨ (Value.int .i64 (k : Int) = .int .i64 (-1) ∧ fr = n))) := ⟨k, has, ask, has0, hgs.begin hlt, hopt, Or.inl ⟨rfl, by omega⟩⟩
      clear has0 hgs hopt
      go_wp2
      generalize wr = WO at HS0 ht ⊢
      go_loopw [8] (fun ov wr => (∃ fr has ask, AS wr S T (.slice ao n acap) (.slice po n pcap) n bh bq A P has ask ∧ Gs n (k + 1) fr A P has ask ∧ Opt n A P has ask ∧ ((ov = .int .i64 (fr : Int) ∧ fr < k + 1) ∨ (ov = .int .i64 (-1) ∧ fr = n))) ∧ Turns (fun x => x = bh ∨ x = bq) W3 wr) (fun _ wr => n * n - sumN (readQ wr bq) n)
      case atStart => exact ⟨HS0.out, ht⟩
      case round =>
        clear HS0 ht
        obtain ⟨⟨fr, has, ask, has0, hgs, hopt, hov⟩, ht⟩ := hrel
        rcases hov with ⟨rfl, hfr⟩ | ⟨rfl, hfr⟩
        · have hq := Gs.left hgs HL.out (by omega) hfr
          have hfn : fr < n := by omega
          have hj := HL.out.lt fr (ask fr) hfn hq
          obtain ⟨j, hjd⟩ : ∃ j, j = A fr (ask fr) := ⟨_, rfl⟩
          have hjn : j < n := by rw [hjd]; exact hj
          have hme := sum_row has0.qs
          have cq := has0.qs.cell hfn
          have fq := has0.qs.free fr
          unfold iv at cq
          obtain ⟨ao1, _, e1, hg1⟩ := has0.ga
          cases e1
          obtain ⟨b, off, vo, vc, rfl, _, g1, hg2⟩ := hg1 fr hfn
          obtain ⟨b', off', rfl, _, g2⟩ := hg2 (ask fr) hq
          simp only at g2 cq
          rw [← hjd] at g2
          obtain ⟨q, hqd⟩ : ∃ q, q = ask fr := ⟨_, rfl⟩
          have HQD : Hid (q = ask fr) := hqd
          have HJD : Hid (j = A fr (ask fr)) := hjd
          rw [← hqd] at cq g2 hq
          have HAS : Hid (AS wr S T (.slice (some ⟨b, off, none⟩) n acap) (.slice po n pcap) n bh bq A P has ask) := has0
          have HGS : Hid (Gs n (k + 1) fr A P has ask) := hgs
          have HOPT : Hid (Opt n A P has ask) := hopt
          have HME : Hid (sumN (readQ wr bq) n = sumN ask n) := hme
          have i1 : (0 : Int) ≤ (fr : Int) := by omega
          have i3 : (fr : Int) < (n : Int) := by omega
          have i4 : (0 : Int) ≤ (q : Int) := by omega
          have i5 : (q : Int) < (n : Int) := by omega
          have i6 : ((fr : Int) != -1) = true := by simp
          have i7 : IntKind.i64.wrap ((q : Int) + 1) = (q : Int) + 1 := by rw [IntKind.wrap_i64]; omega
          have i8 : wrap64 ((q : Int) + 1) = (q : Int) + 1 := by rw [wrap64]; omega
          clear has0 hgs hopt hme hg1 hg2 hjd hqd hj
          go_upto_region 9 with (fail)
          go_quiet (fail)
          go_upto_region 11 with (fail)
          have hb4 : Below wr.heap.size wr (wr.drewN nq) := drewN_below _ _
          have has4 : AS ((wr.drewN nq).setCell ⟨bq, fr, none⟩ (.int .i64 ((q : Int) + 1))) S T (.slice (some ⟨b, off, none⟩) n acap) (.slice po n pcap) n bh bq A P has (askS ask fr) := by
            have h1 : AS (wr.drewN nq) S T (.slice (some ⟨b, off, none⟩) n acap) (.slice po n pcap) n bh bq A P has ask := HAS.out.turns (M := fun _ => False) (Turns.of_below hb4 _) (fun _ h => h.elim)
            have h2 := h1.setQ HQ.out fr
            rw [← HQD.out] at h2
            exact h2
          have ht4 : Turns (fun x => x = bh ∨ x = bq) W3 ((wr.drewN nq).setCell ⟨bq, fr, none⟩ (.int .i64 ((q : Int) + 1))) := (ht.trans (Turns.of_below hb4 _)).trans ((setCell_turns _ bq fr _).mono (fun _ _ h => Or.inr h))
          generalize ((wr.drewN nq).setCell ⟨bq, fr, none⟩ (.int .i64 ((q : Int) + 1))) = W4 at has4 ht4 ⊢
          have HAS4 : Hid (AS W4 S T (.slice (some ⟨b, off, none⟩) n acap) (.slice po n pcap) n bh bq A P has (askS ask fr)) := has4
          have hmeas : ∀ (W : World) (has' : Nat → Int) (f : Nat), AS W S T (.slice (some ⟨b, off, none⟩) n acap) (.slice po n pcap) n bh bq A P has' (askS ask fr) → Gs n (k + 1) f A P has' (askS ask fr) → n * n - sumN (readQ W bq) n < n * n - sumN (readQ wr bq) n := fun W has' f h1 h2 => by
            have e1 := sum_row h1.qs
            have e2 := HME.out
            have e3 := sumN_askS (ask := ask) (x := fr) n
            have e4 := sumN_le (f := askS ask fr) (m := n) n (fun i hi => h2.top i hi)
            simp only [hfn, if_true] at e3
            omega
          have HMEAS : Hid (∀ (W : World) (has' : Nat → Int) (f : Nat), AS W S T (.slice (some ⟨b, off, none⟩) n acap) (.slice po n pcap) n bh bq A P has' (askS ask fr) → Gs n (k + 1) f A P has' (askS ask fr) → n * n - sumN (readQ W bq) n < n * n - sumN (readQ wr bq) n) := hmeas
          have ch := has4.hs.cell hjn
          have fh := has4.hs.free j
          unfold iv at ch
          have j1 : (0 : Int) ≤ (j : Int) := by omega
          have j2 : (j : Int) < (n : Int) := by omega
          clear HAS hmeas hb4 ht cq fq g1 g2 i7 i8 i4 i5 HME
          rcases HGS.out.held j hjn with hh | ⟨y, hy1, hy2, hh, _, _⟩
          · have HHH : Hid (has j = -1) := hh
            rw [hh] at ch
            have k1 : ((-1 : Int) == -1) = true := by decide
            clear hh has4
            go_quiet (fail)
            go_wp2
            have hb5 : Below W4.heap.size W4 (W4.drewN nq) := drewN_below _ _
            have has5 := (HAS4.out.turns (M := fun _ => False) (Turns.of_below hb5 _) (fun _ h => h.elim)).setH HH.out j fr
            have hc : (has (A fr (ask fr)) = -1 ∧ n = n) ∨ (has (A fr (ask fr)) = (n : Int) ∧ P (A fr (ask fr)) fr < P (A fr (ask fr)) n) := by rw [← HJD.out]; exact Or.inl ⟨HHH.out, rfl⟩
            have hg5 := HGS.out.take HL.out (by omega) hfr (by rw [← HQD.out]; exact hq) hc
            have ho5 := HOPT.out.take HGS.out HL.out (by omega) hfr (by rw [← HQD.out]; exact hq) hc
            rw [← HJD.out] at hg5 ho5
            refine ⟨⟨⟨n, _, _, has5, hg5, ho5, Or.inr ⟨rfl, rfl⟩⟩, (ht4.trans (Turns.of_below hb5 _)).trans ((setCell_turns _ bh j _).mono (fun _ _ h => Or.inl h))⟩, HMEAS.out _ _ _ has5 hg5⟩
          · have hyn : y < n := by omega
            obtain ⟨po1, _, e1, hp1⟩ := has4.gp
            cases e1
            obtain ⟨b1, off1, vo1, vc1, rfl, _, g1, hp2⟩ := hp1 j hjn
            obtain ⟨b2, off2, e2, _, g2⟩ := hp2 fr hfn
            obtain ⟨b3, off3, e3, _, g3⟩ := hp2 y hyn
            subst e2
            cases e3
            simp only at g2 g3
            have HPX : Hid (P j fr < n ∧ P j y < n) := ⟨HPL.out j fr hjn hfn, HPL.out j y hjn hyn⟩
            have HHH : Hid (has j = (y : Int)) := hh
            rw [hh] at ch
            have k1 : ((y : Int) == -1) = false := by rw [beq_eq_false_iff_ne]; omega
            have k2 : (0 : Int) ≤ (y : Int) := by omega
            have k3 : (y : Int) < (n : Int) := by omega
            obtain ⟨pf, hpf⟩ : ∃ pf, pf = P j fr := ⟨_, rfl⟩
            obtain ⟨py, hpy⟩ : ∃ py, py = P j y := ⟨_, rfl⟩
            rw [← hpf] at g2
            rw [← hpy] at g3
            have HPF : Hid (pf = P j fr ∧ py = P j y) := ⟨hpf, hpy⟩
            clear hh has4 hp1 hp2 hpf hpy
            by_cases hp : pf < py
            · have k4 : (pf : Int) < (py : Int) := by omega
              go_quiet (fail)
              go_wp2
              have hb5 : Below W4.heap.size W4 (W4.drewN nq) := drewN_below _ _
              have has5 := (HAS4.out.turns (M := fun _ => False) (Turns.of_below hb5 _) (fun _ h => h.elim)).setH HH.out j fr
              have hc : (has (A fr (ask fr)) = -1 ∧ y = n) ∨ (has (A fr (ask fr)) = (y : Int) ∧ P (A fr (ask fr)) fr < P (A fr (ask fr)) y) := by rw [← HJD.out, ← HPF.out.1, ← HPF.out.2]; exact Or.inr ⟨HHH.out, hp⟩
              have hg5 := HGS.out.take HL.out (by omega) hfr (by rw [← HQD.out]; exact hq) hc
              have ho5 := HOPT.out.take HGS.out HL.out (by omega) hfr (by rw [← HQD.out]; exact hq) hc
              rw [← HJD.out] at hg5 ho5
              refine ⟨⟨⟨y, _, _, has5, hg5, ho5, Or.inl ⟨rfl, hy1⟩⟩, (ht4.trans (Turns.of_below hb5 _)).trans ((setCell_turns _ bh j _).mono (fun _ _ h => Or.inl h))⟩, HMEAS.out _ _ _ has5 hg5⟩
            · have k4 : ¬ (pf : Int) < (py : Int) := by omega
              go_quiet (fail)
              go_wp2
              have hb5 : Below W4.heap.size W4 (W4.drewN nq) := drewN_below _ _
              have has5 := HAS4.out.turns (M := fun _ => False) (Turns.of_below hb5 _) (fun _ h => h.elim)
              have hc : P (A fr (ask fr)) y ≤ P (A fr (ask fr)) fr := by rw [← HJD.out, ← HPF.out.1, ← HPF.out.2]; omega
              have hg5 := HGS.out.stay hfr (by rw [← HQD.out]; exact hq) hyn (by rw [← HJD.out]; exact HHH.out) hc
              have ho5 := HOPT.out.stay HGS.out HL.out (by omega) hfr (by rw [← HQD.out]; exact hq) (by rw [← HJD.out]; exact HHH.out) hc
              refine ⟨⟨⟨fr, _, _, has5, hg5, ho5, Or.inl ⟨rfl, hfr⟩⟩, ht4.trans (Turns.of_below hb5 _)⟩, HMEAS.out _ _ _ has5 hg5⟩
        · rw [hfr] at hgs
          have HS1 : Hid (∃ has ask, AS wr S T (.slice ao n acap) (.slice po n pcap) n bh bq A P has ask ∧ Gs n (k + 1) n A P has ask ∧ Opt n A P has ask) := ⟨has, ask, has0, hgs, hopt⟩
          clear has0 hgs hopt hfr
          go_wp2
          go_roundw
          case rel => exact ⟨k + 1, by omega, by go_num, HS1.out, ht⟩
          case measure => simp [numOf]; omega
    · have i2 : ¬ (k : Int) < (n : Int) := by omega
      have hkn : k = n := by omega
      subst hkn
      have HS1 : Hid (Asked wr k bh A P) := ⟨has, ask, has0.hs, hgs, hopt⟩
      clear has0 hgs hopt
      go_wp2
      go_ret
      refine ⟨bh, rfl, hbh1, HS1.out, Turns.below hB3 ht hB3.size (fun x hx => ?_)⟩
      rcases hx with rfl | rfl <;> omega
end Go.Proofs.Ytmbnaegcichoeaa
