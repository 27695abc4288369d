/- The document's IsStable. -/
import Derived.Test.YtmbnaegcichoeaaStable
import Derived.Test.YtmbnaegcichoeaaRefs
namespace Go.Proofs.Ytmbnaegcichoeaa
open Go.RowKit Go.Maps
attribute [local go_sem ↓] Go.wp_at_zero Go.wp_at_succ

/-- No two would rather have each other, in the words of places. -/
def StM (n : Nat) (Q P : Nat → Nat → Nat) (M : Nat → Nat) : Prop := ∀ i j y, i < n → j < n → y < n → M y = j → Q i j < Q i (M i) → P j y ≤ P j i
theorem rankP {w : World} {ls : List (List Int)} {n i : Nat} {vo : Option Addr} {vc : Nat} (hl : ls.length = n) (hg : ∀ l ∈ ls, Nam n l) (hi : i < n) (hn : n ≤ 100) (h : NumF w vo n (fun j => cellL ls i j)) {x : Nat} (hx : x < n) :
    Calls Try.prog 16 #[.slice vo n vc, .int .i64 (x : Int)] w fun e w' => e = .returned (.int .i64 (placeB ls i x : Int)) ∧ w' = w := by
  refine (rank_call h (by omega) (x : Int)).mono ?_
  rintro e w' ⟨⟨m, rfl, hm, hno, hat⟩, hw⟩
  refine ⟨?_, hw⟩
  have hN := hg ls[i] (List.getElem_mem (by omega))
  obtain ⟨k, hk, ek⟩ := hN.onto hx
  have e1 : cellL ls i k = (x : Int) := by unfold cellL; rw [getD_lt (l := ls) (by omega)]; exact ek
  have hmk : m = k := by
    rcases Nat.lt_trichotomy m k with h1 | h1 | h1
    · have h2 := hat (by omega)
      have e2 : (ls[i]).getD m 0 = (x : Int) := by rw [← h2]; unfold cellL; rw [getD_lt (l := ls) (by omega)]
      have := hN.inj m k (by omega) hk (by rw [e2, ek])
      exact this
    · exact h1
    · exact absurd e1 (hno k h1)
  rw [placeB_at hl hg hi hk e1, hmk]
theorem inj_onto {n : Nat} {M : Nat → Nat} (hl : ∀ i, i < n → M i < n) (hi : ∀ i j, i < n → j < n → M i = M j → i = j) {x : Nat} (hx : x < n) : ∃ k, k < n ∧ M k = x := by
  apply Classical.byContradiction
  intro hno
  have h2 := nodup_le (x :: (List.range n).map M) n (by
    rw [List.nodup_cons]
    refine ⟨fun hmem => ?_, ?_⟩
    · obtain ⟨k, hk, e2⟩ := List.mem_map.1 hmem
      exact hno ⟨k, by simpa using hk, e2⟩
    · rw [List.Nodup, List.pairwise_map]
      refine List.Pairwise.imp_of_mem (fun {a b} ha hb hab e => ?_) List.nodup_range
      exact hab (hi a b (by simpa using ha) (by simpa using hb) e)) (fun a ha => by
    rcases List.mem_cons.1 ha with rfl | ha
    · exact hx
    · obtain ⟨k, hk, rfl⟩ := List.mem_map.1 ha
      exact hl k (by simpa using hk))
  rw [List.length_cons, List.length_map, List.length_range] at h2
  omega
def ofM (n : Nat) (M : Nat → Nat) (j : Nat) : Int := toF (fun i => (M i : Int)) n j
theorem ofM_at {n : Nat} {M : Nat → Nat} (hi : ∀ i j, i < n → j < n → M i = M j → i = j) {k j : Nat} (hk : k < n) (e : M k = j) : ofM n M j = (k : Int) :=
  toF_at (n := n) (fun a b ha hb e => hi a b ha hb (by omega)) n k j (Nat.le_refl _) hk (by rw [e])

/-- It answers whether S holds. -/
def Says (e : Ending) (S : Prop) : Prop := ∃ g : Bool, e = .returned (.bool g) ∧ (g = true ↔ S)
set_option maxRecDepth 4000 in
set_option maxHeartbeats 4000000 in
theorem isStable_call {w : World} {va vb : Value} {la lb : List (List Int)} {n : Nat} {vo : Option Addr} {vc : Nat} {M : Nat → Nat} (hA : RowsAt w va la) (hB : RowsAt w vb lb) (hla : la.length = n) (hlb : lb.length = n) (hn : n ≤ 100) (ha : ∀ l ∈ la, Nam n l) (hb : ∀ l ∈ lb, Nam n l)
    (hM : NumF w vo n (fun i => (M i : Int))) (hl : ∀ i, i < n → M i < n) (hi : ∀ i j, i < n → j < n → M i = M j → i = j) :
    Calls Try.prog 13 #[va, vb, .slice vo n vc] w fun e w' => Says e (StM n (placeB la) (placeB lb) M) ∧ Below w.heap.size w w' := by
  have HGA : Hid (GridS w (fun k => k < w.heap.size) va n (cellL la)) := by
    have := rows_grid hA (fun l hl => by rw [hla]; exact (ha l hl).len)
    rw [hla] at this
    exact this.gridS
  have HGB : Hid (GridS w (fun k => k < w.heap.size) vb n (cellL lb)) := by
    have := rows_grid hB (fun l hl => by rw [hlb]; exact (hb l hl).len)
    rw [hlb] at this
    exact this.gridS
  have HRA : Hid (∀ (W : World) (i : Nat) (vo : Option Addr) (vc : Nat), i < n → NumF W vo n (fun j => cellL la i j) → ∀ x, x < n → Calls Try.prog 16 #[.slice vo n vc, .int .i64 (x : Int)] W fun e w' => e = .returned (.int .i64 (placeB la i x : Int)) ∧ w' = W) := fun W i vo vc hi h x hx => rankP hla ha hi hn h hx
  have HRB : Hid (∀ (W : World) (i : Nat) (vo : Option Addr) (vc : Nat), i < n → NumF W vo n (fun j => cellL lb i j) → ∀ x, x < n → Calls Try.prog 16 #[.slice vo n vc, .int .i64 (x : Int)] W fun e w' => e = .returned (.int .i64 (placeB lb i x : Int)) ∧ w' = W) := fun W i vo vc hi h x hx => rankP hlb hb hi hn h hx
  have HM : Hid (NumF w vo n (fun i => (M i : Int))) := hM
  have HL : Hid (∀ i, i < n → M i < n) := hl
  have HI : Hid (∀ i j, i < n → j < n → M i = M j → i = j) := hi
  obtain ⟨ao, acap, e1⟩ := HGA.out.form
  obtain ⟨bo, bcap, e2⟩ := HGB.out.form
  subst e1
  subst e2
  obtain ⟨Q, hQ⟩ : ∃ Q, Q = placeB la := ⟨_, rfl⟩
  obtain ⟨P, hP⟩ : ∃ P, P = placeB lb := ⟨_, rfl⟩
  obtain ⟨CA, hCA⟩ : ∃ C, C = cellL la := ⟨_, rfl⟩
  obtain ⟨CB, hCB⟩ : ∃ C, C = cellL lb := ⟨_, rfl⟩
  rw [← hQ, ← hP]
  rw [← hQ, ← hCA] at HRA
  rw [← hP, ← hCB] at HRB
  rw [← hCA] at HGA
  rw [← hCB] at HGB
  have hmk := make27 n (by omega)
  clear hA hB hla hlb ha hb hM hl hi hQ hP hCA hCB
  go_enter Try.func13, Try.ntmps13
  go_upto_region 2 with (fail)
  obtain ⟨bf, hbf⟩ : ∃ bf, bf = w.heap.size := ⟨_, rfl⟩
  have hrow0 : RowV (w.alloc (Obj.cells (rep n (.int .i64 0)) 3)) bf 3 n (fun _ => .int .i64 0) := by rw [hbf]; exact rowV_rep (heap_alloc_new _ _)
  have hB0 : Below w.heap.size w (w.alloc (Obj.cells (rep n (.int .i64 0)) 3)) := below_alloc (Below.refl _ w) _
  rw [← hbf]
  generalize w.alloc (Obj.cells (rep n (.int .i64 0)) 3) = W0 at hrow0 hB0 ⊢
  have hbf1 : w.heap.size ≤ bf := by omega
  have HROW0 : Hid (RowV W0 bf 3 n (fun _ => .int .i64 0)) := hrow0
  clear hbf hmk hrow0
  go_wp2
  go_loopw [8] (fun iv' wr => ∃ k : Nat, k ≤ n ∧ iv' = .int .i64 (k : Int) ∧ RowV wr bf 3 n (iv (toF (fun i => (M i : Int)) k)) ∧ Turns (fun x => x = bf) W0 wr) (fun iv' _ => n - (numOf iv').toNat)
  case atStart => exact ⟨0, Nat.zero_le _, rfl, HROW0.out, Turns.refl _ _⟩
  case round =>
    clear HROW0
    obtain ⟨k, hk, rfl, hrow, ht⟩ := hrel
    have hBr : Below w.heap.size w wr := Turns.below hB0 ht hB0.size (fun x hx => by omega)
    by_cases hlt : k < n
    · obtain ⟨b, off, rfl, cx⟩ := HM.out k hlt
      have cx1 := (hBr.cell (World.block_lt_of_cell? w _ cx)).trans cx
      have hmk := HL.out k hlt
      simp only at cx1
      obtain ⟨x, hx⟩ : ∃ x, x = M k := ⟨_, rfl⟩
      rw [← hx] at cx1 hmk
      have cr := hrow.cell hmk
      have fr := hrow.free x
      unfold iv at cr
      generalize toF (fun i => (M i : Int)) k x = old at cr
      have HR2 : Hid (RowV (wr.setCell ⟨bf, x, none⟩ (.int .i64 (k : Int))) bf 3 n (iv (toF (fun i => (M i : Int)) (k + 1)))) := (hrow.set x (.int .i64 (k : Int))).congr (fun j _ => by
        unfold iv
        show _ = Value.int .i64 (if (j : Int) = (M k : Int) then (k : Int) else toF (fun i => (M i : Int)) k j)
        rw [← hx]
        by_cases e : j = x
        · subst e; simp
        · have : ¬ (j : Int) = (x : Int) := by omega
          simp [e, this])
      have ht3 := ht.trans (setCell_turns wr bf x (.int .i64 (k : Int)))
      have j1 : (0 : Int) ≤ (k : Int) := by omega
      have j2 : (k : Int) < (n : Int) := by omega
      have j3 : (0 : Int) ≤ (x : Int) := by omega
      have j4 : (x : Int) < (n : Int) := by omega
      clear hrow hx cx
      go_wp2
      go_roundw
      case rel => exact ⟨k + 1, by omega, by go_num, HR2.out, ht3⟩
      case measure => simp [numOf]; omega
    · have i2 : ¬ (k : Int) < (n : Int) := by omega
      have hkn : k = n := by omega
      have HOF : Hid (RowV wr bf 3 n (iv (ofM n M))) := by rw [hkn] at hrow; exact hrow
      have HGA2 : Hid (GridS wr (fun k => k < w.heap.size) (.slice ao n acap) n CA) := HGA.out.turns (M := fun k => False) (Turns.of_below hBr _) (fun _ h => h.elim)
      have HGB2 : Hid (GridS wr (fun k => k < w.heap.size) (.slice bo n bcap) n CB) := HGB.out.turns (M := fun k => False) (Turns.of_below hBr _) (fun _ h => h.elim)
      have HM2 : Hid (NumF wr vo n (fun i => (M i : Int))) := HM.out.below hBr
      generalize hW9 : wr = W9 at HOF HGA2 HGB2 HM2 hBr ht ⊢
      clear hW9 hrow HGA HGB HM hB0 ht
      subst hkn
      go_wp2
      go_loopw [9, 10] (fun iv' _ wr => ∃ i : Nat, i ≤ k ∧ iv' = .int .i64 (i : Int) ∧ (∀ i' j y, i' < i → j < k → y < k → M y = j → Q i' j < Q i' (M i') → P j y ≤ P j i') ∧ ∃ d, wr = W9.drewN d) (fun iv' _ _ => k - (numOf iv').toNat)
      case atStart => exact ⟨0, Nat.zero_le _, rfl, fun i' j y h => by omega, 0, rfl⟩
      case round =>
        obtain ⟨i, hi, rfl, hdone, d, hd⟩ := hrel
        have HDONE : Hid (∀ i' j y, i' < i → j < k → y < k → M y = j → Q i' j < Q i' (M i') → P j y ≤ P j i') := hdone
        have HD : Hid (wr = W9.drewN d) := hd
        clear hdone
        by_cases hlti : i < k
        · have i3 : (i : Int) < (k : Int) := by omega
          generalize hwr : wr = WB at HD ⊢
          clear hwr hd
          go_wp2
          go_loopw [10] (fun jv wr => ∃ j : Nat, j ≤ k ∧ jv = .int .i64 (j : Int) ∧ (∀ j' y, j' < j → y < k → M y = j' → Q i j' < Q i (M i) → P j' y ≤ P j' i) ∧ ∃ d, wr = W9.drewN d) (fun jv _ => k - (numOf jv).toNat)
          case atStart => exact ⟨0, Nat.zero_le _, rfl, fun j' y h => by omega, d, HD.out⟩
          case round =>
            clear HD
            obtain ⟨j, hj, rfl, hdj, d', hd⟩ := hrel
            have HDJ : Hid (∀ j' y, j' < j → y < k → M y = j' → Q i j' < Q i (M i) → P j' y ≤ P j' i) := hdj
            have HD : Hid (wr = W9.drewN d') := hd
            clear hdj
            by_cases hltj : j < k
            · have j1 : (0 : Int) ≤ (i : Int) := by omega
              have j2 : (i : Int) < (k : Int) := by omega
              have j3 : (0 : Int) ≤ (j : Int) := by omega
              have j4 : (j : Int) < (k : Int) := by omega
              obtain ⟨ao', _, ev, hg⟩ := HGA2.out
              cases ev
              obtain ⟨ba, oa, via, via2, rfl, _, g1, hg2⟩ := hg i hlti
              obtain ⟨bo', _, ev, hgb⟩ := HGB2.out
              cases ev
              obtain ⟨bb, ob, vib, vib2, rfl, _, g3, hg4⟩ := hgb j hltj
              obtain ⟨bm, om, rfl, g5⟩ := HM2.out i hlti
              have hmi := HL.out i hlti
              simp only at g5
              obtain ⟨y, hy, hyj⟩ := inj_onto HL.out HI.out hltj
              have g6 := HOF.out.cell hltj
              unfold iv at g6
              rw [ofM_at HI.out hy hyj] at g6
              obtain ⟨mi, hmid⟩ : ∃ x, x = M i := ⟨_, rfl⟩
              rw [← hmid] at g5 hmi
              have n1 : ∀ m, NumF (wr.drewN m) via k (fun j => CA i j) := fun m t ht => by
                obtain ⟨b', off', e, _, g⟩ := hg2 t ht
                exact ⟨b', off', e, by rw [hd]; exact g⟩
              have n2 : ∀ m, NumF (wr.drewN m) vib k (fun t => CB j t) := fun m t ht => by
                obtain ⟨b', off', e, _, g⟩ := hg4 t ht
                exact ⟨b', off', e, by rw [hd]; exact g⟩
              have r1 : ∀ m, Calls Try.prog 16 #[.slice via k via2, .int .i64 (j : Int)] (wr.drewN m) fun e w' => e = .returned (.int .i64 (Q i j : Int)) ∧ w' = wr.drewN m := fun m => HRA.out _ i via via2 hlti (n1 m) j hltj
              have r2 : ∀ m, Calls Try.prog 16 #[.slice via k via2, .int .i64 (mi : Int)] (wr.drewN m) fun e w' => e = .returned (.int .i64 (Q i mi : Int)) ∧ w' = wr.drewN m := fun m => HRA.out _ i via via2 hlti (n1 m) mi hmi
              have r3 : ∀ m, Calls Try.prog 16 #[.slice vib k vib2, .int .i64 (i : Int)] (wr.drewN m) fun e w' => e = .returned (.int .i64 (P j i : Int)) ∧ w' = wr.drewN m := fun m => HRB.out _ j vib vib2 hltj (n2 m) i hlti
              have r4 : ∀ m, Calls Try.prog 16 #[.slice vib k vib2, .int .i64 (y : Int)] (wr.drewN m) fun e w' => e = .returned (.int .i64 (P j y : Int)) ∧ w' = wr.drewN m := fun m => HRB.out _ j vib vib2 hltj (n2 m) y hy
              obtain ⟨x1, hx1⟩ : ∃ x, x = Q i j := ⟨_, rfl⟩
              obtain ⟨x2, hx2⟩ : ∃ x, x = Q i mi := ⟨_, rfl⟩
              obtain ⟨x3, hx3⟩ : ∃ x, x = P j i := ⟨_, rfl⟩
              obtain ⟨x4, hx4⟩ : ∃ x, x = P j y := ⟨_, rfl⟩
              rw [← hx1] at r1
              rw [← hx2] at r2
              rw [← hx3] at r3
              rw [← hx4] at r4
              have R1 : Hid (∀ m, Calls Try.prog 16 #[.slice via k via2, .int .i64 (j : Int)] (wr.drewN m) fun e w' => e = .returned (.int .i64 (x1 : Int)) ∧ w' = wr.drewN m) := r1
              have R2 : Hid (∀ m, Calls Try.prog 16 #[.slice via k via2, .int .i64 (mi : Int)] (wr.drewN m) fun e w' => e = .returned (.int .i64 (x2 : Int)) ∧ w' = wr.drewN m) := r2
              have R3 : Hid (∀ m, Calls Try.prog 16 #[.slice vib k vib2, .int .i64 (i : Int)] (wr.drewN m) fun e w' => e = .returned (.int .i64 (x3 : Int)) ∧ w' = wr.drewN m) := r3
              have R4 : Hid (∀ m, Calls Try.prog 16 #[.slice vib k vib2, .int .i64 (y : Int)] (wr.drewN m) fun e w' => e = .returned (.int .i64 (x4 : Int)) ∧ w' = wr.drewN m) := r4
              have HX : Hid (x1 = Q i j ∧ x2 = Q i (M i) ∧ x3 = P j i ∧ x4 = P j y ∧ M y = j) := ⟨hx1, by rw [← hmid]; exact hx2, hx3, hx4, hyj⟩
              have g1' : wr.cell? ⟨ba, oa + i, none⟩ = some (.slice via k via2) := by rw [hd]; exact g1
              have g3' : wr.cell? ⟨bb, ob + j, none⟩ = some (.slice vib k vib2) := by rw [hd]; exact g3
              have g5' : wr.cell? ⟨bm, om + i, none⟩ = some (.int .i64 (mi : Int)) := by rw [hd]; exact g5
              have g6' : wr.cell? ⟨bf, j, none⟩ = some (.int .i64 (y : Int)) := by rw [hd]; exact g6
              have HY : Hid (y < k) := hy
              clear r1 r2 r3 r4 hx1 hx2 hx3 hx4 hmid hmi hyj hd g1 g3 g5 g6 hg hg2 hgb hg4 n1 n2 hy
              go_upto_region 12 with (fail)
              by_cases hc1 : x1 < x2
              · have c1 : (x1 : Int) < (x2 : Int) := by omega
                by_cases hc2 : x3 < x4
                · have c2 : (x3 : Int) < (x4 : Int) := by omega
                  go_quiet ((go_at_call 16; first | with_reducible exact Calls.quiet_of_same (R1.out _) | with_reducible exact Calls.quiet_of_same (R2.out _) | with_reducible exact Calls.quiet_of_same (R3.out _) | with_reducible exact Calls.quiet_of_same (R4.out _)))
                  go_wp2
                  go_ret
                  refine ⟨⟨false, rfl, ⟨fun h => (by cases h), fun h => ?_⟩⟩, by rw [HD.out, drewN_add]; exact below_drewN hBr _⟩
                  obtain ⟨z1, z2, z3, z4, z5⟩ := HX.out
                  have := h i j y hlti hltj HY.out z5 (by omega)
                  omega
                · have c2 : ¬ (x3 : Int) < (x4 : Int) := by omega
                  go_quiet ((go_at_call 16; first | with_reducible exact Calls.quiet_of_same (R1.out _) | with_reducible exact Calls.quiet_of_same (R2.out _) | with_reducible exact Calls.quiet_of_same (R3.out _) | with_reducible exact Calls.quiet_of_same (R4.out _)))
                  go_wp2
                  go_roundw
                  case rel => exact ⟨j + 1, by omega, by go_num, fun j' y' h1 h2 h3 h4 => by
                    by_cases e : j' = j
                    · subst e
                      obtain ⟨z1, z2, z3, z4, z5⟩ := HX.out
                      have : y' = y := HI.out _ _ h2 HY.out (by omega)
                      subst this
                      omega
                    · exact HDJ.out j' y' (by omega) h2 h3 h4, d' + nq, by rw [HD.out, drewN_add]⟩
                  case measure => simp [numOf]; omega
              · have c1 : ¬ (x1 : Int) < (x2 : Int) := by omega
                go_quiet ((go_at_call 16; first | with_reducible exact Calls.quiet_of_same (R1.out _) | with_reducible exact Calls.quiet_of_same (R2.out _)))
                go_wp2
                go_roundw
                case rel => exact ⟨j + 1, by omega, by go_num, fun j' y' h1 h2 h3 h4 => by
                  by_cases e : j' = j
                  · subst e
                    obtain ⟨z1, z2, z3, z4, z5⟩ := HX.out
                    omega
                  · exact HDJ.out j' y' (by omega) h2 h3 h4, d' + nq, by rw [HD.out, drewN_add]⟩
                case measure => simp [numOf]; omega
            · have i4 : ¬ (j : Int) < (k : Int) := by omega
              have hjk : j = k := by omega
              clear hd
              go_wp2
              go_roundw
              case rel => exact ⟨i + 1, by omega, by go_num, fun i' j' y h1 h2 h3 h4 h5 => by
                by_cases e : i' = i
                · subst e; exact HDJ.out j' y (by omega) h3 h4 h5
                · exact HDONE.out i' j' y (by omega) h2 h3 h4 h5, d', HD.out⟩
              case measure => simp [numOf]; omega
        · have i3 : ¬ (i : Int) < (k : Int) := by omega
          have hik : i = k := by omega
          clear hd
          go_wp2
          go_ret
          refine ⟨⟨true, rfl, ⟨fun _ => ?_, fun _ => rfl⟩⟩, by rw [HD.out]; exact below_drewN hBr d⟩
          exact fun i' j y h1 h2 h3 h4 h5 => HDONE.out i' j y (by omega) h2 h3 h4 h5
end Go.Proofs.Ytmbnaegcichoeaa
