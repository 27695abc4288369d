/- Most of a good net and two of its nodes. -/
import Derived.Test.YtkakmaalmhofmaaMostW
namespace Go.Proofs.Ytkakmaalmhofmaa
open Go.RowKit Go.Maps
attribute [local go_sem ↓] Go.wp_at_zero Go.wp_at_succ

theorem two_nxt (w : World) (o : Obj) (x y : Value) (t : TypeId) : Two ((w.alloc o).alloc (Obj.cells #[x, y] t)) (w.heap.size + 1) x y t := by
  have h := heap_alloc_new (w.alloc o) (Obj.cells #[x, y] t)
  have e : (w.alloc o).heap.size = w.heap.size + 1 := by simp
  rw [e] at h
  exact h
def MostIs (n s t : Nat) (al : List Arc3) (B : Nat) (w' : World) (x : Int) (fv sv : Value) : Prop :=
  ∃ fl S, FlowIs n al s t x fl S ∧ w'.ownsRow B 3 1 fv al.length (zv fl) ∧ w'.ownsRow B 3 1 sv (listN n S).length (qv (listN n S))
theorem listN_succ (k : Nat) (S : Nat → Bool) : listN (k + 1) S = listN k S ++ (if S k = true then [k] else []) := by
  unfold listN
  rw [List.range_succ, List.filter_append]
  by_cases h : S k = true
  · simp [h]
  · simp [h]
theorem listN_le (k : Nat) (S : Nat → Bool) : (listN k S).length ≤ k := by
  unfold listN
  have := List.length_filter_le S (List.range k)
  simpa using this

set_option maxRecDepth 4000 in
set_option maxHeartbeats 8000000 in
theorem most_ok {n s t : Nat} {v : Value} {al : List Arc3} {w : World} (hA : ArcsAt w v al) (hn : n ≤ 100) (hl : al.length ≤ 1000) (hg : ∀ a ∈ al, goodA n a = true) (hs : s < n) (ht : t < n) (hst : s ≠ t) :
    Calls Try.prog 11 #[.agg #[.int .i64 (n : Int), v], .int .i64 (s : Int), .int .i64 (t : Int)] w fun r w' => ∃ x fv sv, r = .returned (.tuple #[.int .i64 x, fv, sv, .agg #[.int .i64 0, .int .i64 0]]) ∧ MostIs n s t al w.heap.size w' x fv sv ∧ Below w.heap.size w w' := by
  obtain ⟨ao, cap, rfl⟩ := hA.form
  have hck : ∀ W, Below w.heap.size w W → Calls Try.prog 8 #[.agg #[.int .i64 (n : Int), .slice ao al.length cap]] W fun e w' => e = .returned (.agg #[.int .i64 0, .int .i64 0]) ∧ Below W.heap.size W w' := fun W hW => by
    have := check8_any (n : Int) (.slice ao al.length cap) al W (hA.below hW)
    rw [netF_good (by omega) (by omega) hl hg] at this
    exact this
  have hen : ∀ W, Calls Try.prog 30 #[.int .i64 (n : Int), .int .i64 (s : Int), .int .i64 (t : Int)] W fun e w' => e = .returned (.agg #[.int .i64 0, .int .i64 0]) ∧ Below W.heap.size W w' := fun W => by
    have := ends30 (n : Int) (s : Int) (t : Int) W
    rw [ends_ok hs ht hst] at this
    exact this
  have HA : Hid _ := hA
  have HG : Hid _ := hg
  have HCK : Hid _ := hck
  have HEN : Hid _ := hen
  clear hA hg hck hen
  go_enter Try.func11, Try.ntmps11
  go_upto_region 1 with (fail)
  have t0 : Two ((w.alloc (Obj.cells #[.int .i64 (n : Int), .slice ao al.length cap] 24)).alloc (Obj.cells #[.int .i64 0, .int .i64 0] 26)) w.heap.size (.int .i64 (n : Int)) (.slice ao al.length cap) 24 := by
    show _ = _
    rw [Below.heap_alloc _ _ _ (by simp)]; exact heap_alloc_new _ _
  have t1 : Two ((w.alloc (Obj.cells #[.int .i64 (n : Int), .slice ao al.length cap] 24)).alloc (Obj.cells #[.int .i64 0, .int .i64 0] 26)) (w.heap.size + 1) (.int .i64 0) (.int .i64 0) 26 := by
    exact two_nxt w _ _ _ _
  have hB0 := below2 (w := w) (Obj.cells #[.int .i64 (n : Int), .slice ao al.length cap] 24) (Obj.cells #[.int .i64 0, .int .i64 0] 26)
  generalize (w.alloc (Obj.cells #[.int .i64 (n : Int), .slice ao al.length cap] 24)).alloc (Obj.cells #[.int .i64 0, .int .i64 0] 26) = W0 at t0 t1 hB0 ⊢
  have q0 := cell_two t0
  go_upto_region 2 with (first | (go_at_call 8; refine (HCK.out _ hB0).mono ?_; rintro e W1 ⟨rfl, hb1⟩) | go_in)
  have t2 := two_new W1 (.int .i64 0) (.int .i64 0) 26
  have hb1a := below_alloc hb1 (Obj.cells #[.int .i64 0, .int .i64 0] 26)
  have u0 : Two (W1.alloc (Obj.cells #[.int .i64 0, .int .i64 0] 26)) w.heap.size (.int .i64 (n : Int)) (.slice ao al.length cap) 24 := (hb1a.block _ (lt_of_block t0)).trans t0
  have u1 : Two (W1.alloc (Obj.cells #[.int .i64 0, .int .i64 0] 26)) (w.heap.size + 1) (.int .i64 0) (.int .i64 0) 26 := (hb1a.block _ (lt_of_block t1)).trans t1
  have hB1 := below_next hB0 hb1a
  generalize W1.alloc (Obj.cells #[.int .i64 0, .int .i64 0] 26) = W2 at t2 u0 u1 hB1 ⊢
  clear t0 t1 hB0 hb1 hb1a q0
  have q0 := cell_two u0
  have q2 := cell_two t2
  go_upto_region 5 with (first | (go_at_call 30; refine (HEN.out _).mono ?_; rintro e W3 ⟨rfl, hb3⟩) | go_in)
  have t3 := two_new W3 (.int .i64 0) (.int .i64 0) 26
  have hb3a := below_alloc hb3 (Obj.cells #[.int .i64 0, .int .i64 0] 26)
  have v0 : Two (W3.alloc (Obj.cells #[.int .i64 0, .int .i64 0] 26)) w.heap.size (.int .i64 (n : Int)) (.slice ao al.length cap) 24 := (hb3a.block _ (lt_of_block u0)).trans u0
  have v1 : Two (W3.alloc (Obj.cells #[.int .i64 0, .int .i64 0] 26)) (w.heap.size + 1) (.int .i64 0) (.int .i64 0) 26 := (hb3a.block _ (lt_of_block u1)).trans u1
  have hB3 := below_next hB1 hb3a
  generalize W3.alloc (Obj.cells #[.int .i64 0, .int .i64 0] 26) = W4 at t3 v0 v1 hB3 ⊢
  clear t2 u0 u1 hB1 hb3 hb3a q0 q2
  have q0 := cell_two v0
  have q3 := cell_two t3
  have hpo := pipesOf_call (ArcsAt.below HA.out hB3) hn hl HG.out
  have HPO : Hid _ := hpo
  clear hpo
  go_upto_region 8 with (first | (go_at_call 31; refine Calls.mono HPO.out ?_; rintro r W5 ⟨bp, rfl, hb5, c, e1, e2, e3, e4, hps, hnet, hub, hbr, hbrg⟩) | go_in)
  have y0 : Two W5 w.heap.size (.int .i64 (n : Int)) (.slice ao al.length cap) 24 := (hb5.block _ (lt_of_block v0)).trans v0
  have y1 : Two W5 (w.heap.size + 1) (.int .i64 0) (.int .i64 0) 26 := (hb5.block _ (lt_of_block v1)).trans v1
  have hB5 := below_next hB3 hb5
  have l4 : w.heap.size + 1 < W4.heap.size := lt_of_block v1
  have hs5 := hb5.size
  clear v0 v1 t3 hB3 hb5 q0 q3
  subst e1
  have hok : Ok c.M (fun p => (rsA al).getD p 0) := by rw [e3]; exact rsA_ok HG.out
  have hfi := fill_call hnet (by omega) (s := s) (t := t) (by omega) (by omega) hst hps hub hok hbr
  have HFI : Hid _ := hfi
  have HE : Hid _ := And.intro e2 (And.intro e3 e4)
  have HNT : Hid _ := hnet
  clear hfi hok hps hnet e2 e3 e4
  go_upto_region 9 with (first | (go_at_call 32; refine Calls.mono HFI.out ?_; rintro r W6 ⟨x, bf, rfl, hx0, hbf, R', hmv, hps, F, hrow, hfar, hFt, hT⟩) | go_in)
  have z0 : Two W6 w.heap.size (.int .i64 (n : Int)) (.slice ao al.length cap) 24 := two_turns y0 hT (by omega)
  have z1 : Two W6 (w.heap.size + 1) (.int .i64 0) (.int .i64 0) 26 := two_turns y1 hT (by omega)
  have hB6 := below_turn hB5 hT hB5.size (by omega)
  have hub6 : c.ub ≤ W6.heap.size := Nat.le_trans hub hT.size
  have hcM : c.M ≤ 1000000 := HNT.out.many
  clear y0 y1 hB5
  obtain ⟨e2, e3, e4⟩ := HE.out
  rw [e2] at hrow ⊢
  have hfl : FlowIs n al s t x ((List.range al.length).map fun a => R' (2 * a + 1)) (fun v => decide (F v ≠ -1)) := by
    refine flowIs_of HG.out ?_ ?_ hFt
    · have := hmv; rw [e3, e4] at this; exact this
    · have := hfar; rw [e2, e3, e4] at this; exact this
  have HFL : Hid _ := hfl
  have HPS : Hid _ := hps
  have HRW : Hid _ := hrow
  have hM : c.M = 2 * al.length := e3
  have HM : Hid _ := hM
  clear hfl hps hrow hmv hfar hFt e2 e3 e4 hM HE
  have q0 := (cell_two z0).2
  go_wp2
  clear q0
  go_loopw [7, 44] (fun fv i wr => ∃ (k : Nat) (fo : Option Addr) (fc : Nat), i = .int .i64 (k : Int) ∧ k ≤ al.length ∧ fv = .slice fo k fc ∧ wr.ownsRow W6.heap.size 3 1 (.slice fo k fc) k (zv ((List.range k).map fun a => R' (2 * a + 1))) ∧ Below W6.heap.size W6 wr) (fun _ i _ => al.length - (numOf i).toNat)
  case atStart => exact ⟨0, none, 0, rfl, Nat.zero_le _, rfl, World.ownsRow_nil _ _ _ _, Below.refl _ _⟩
  case round =>
    obtain ⟨k, fo, fc, rfl, hk, rfl, hown, hBk⟩ := hrel
    have hbk := hBk.size
    by_cases hlt : k < al.length
    · have hld := held_call (a := k) (HPS.out.below hBk) hcM (by have := HM.out; omega)
      have HLD : Hid _ := hld
      have i2 : (k : Int) < (al.length : Int) := by omega
      have hlen : k ≤ 1000000 := by omega
      obtain ⟨zz, hzz⟩ : ∃ zz, zz = R' (2 * k + 1) := ⟨_, rfl⟩
      rw [← hzz] at HLD
      have hne : (List.range (k + 1)).map (fun a => R' (2 * a + 1)) = (List.range k).map (fun a => R' (2 * a + 1)) ++ [zz] := by rw [List.range_succ, List.map_append, hzz]; rfl
      have HNE : Hid _ := hne
      clear hld hne hzz
      go_wp2_with (first
        | (go_at_call 33; refine Calls.mono HLD.out ?_; rintro e w2 ⟨rfl, rfl⟩)
        | (at_builtin; refine wpList_pushZ (x := zz) rfl _ _ rfl rfl rfl hown hlen hbk ?_; intro g1 c1 w2 hown1 hgr1 hat1)
        | go_in)
      have hT1 := (alloc_turns _ (Obj.cells #[.int .i64 zz] 3) _).trans (Turns.of_grown hgr1)
      have hB2 := hT1.below hBk hbk (fun j hj => (World.ownsRow.lt hown j hj.symm).1)
      go_roundw
      case rel => exact ⟨k + 1, some ⟨g1, 0, none⟩, c1, by go_num, by omega, rfl, by rw [HNE.out]; simpa [zv] using hown1, hB2⟩
      case measure => simp [numOf]; omega
    · have hke : k = al.length := by omega
      have i2 : ¬ (k : Int) < (al.length : Int) := by omega
      have HKE : Hid _ := hke
      have HOW : Hid _ := hown
      have hbflt := RowV.lt HRW.out
      clear hke hown
      generalize wr = Wa at hBk hbk HOW ⊢
      go_wp2
      go_loopw [8, 56] (fun sv i wq => ∃ (j : Nat) (so : Option Addr) (sc : Nat), i = .int .i64 (j : Int) ∧ j ≤ n ∧ sv = .slice so (listN j (fun v => decide (F v ≠ -1))).length sc ∧ wq.ownsRow Wa.heap.size 3 1 (.slice so (listN j (fun v => decide (F v ≠ -1))).length sc) (listN j (fun v => decide (F v ≠ -1))).length (qv (listN j (fun v => decide (F v ≠ -1)))) ∧ Below Wa.heap.size Wa wq) (fun _ i _ => n - (numOf i).toNat)
      case atStart => exact ⟨0, none, 0, rfl, Nat.zero_le _, rfl, World.ownsRow_nil _ _ _ _, Below.refl _ _⟩
      case round =>
        obtain ⟨j, so, sc, rfl, hj, rfl, hown, hBj⟩ := hrel
        have hbj := hBj.size
        have hll := listN_le j (fun v => decide (F v ≠ -1))
        by_cases hlt2 : j < n
        · have cf := ((RowV.block HRW.out (hBk.block _ hbflt)).block (hBj.block _ (by omega))).cell hlt2
          have j1 : (0 : Int) ≤ (j : Int) := by omega
          have j2 : (j : Int) < (n : Int) := by omega
          have hsu := listN_succ j (fun v => decide (F v ≠ -1))
          obtain ⟨Lj, hLj⟩ : ∃ Lj, Lj = listN j (fun v => decide (F v ≠ -1)) := ⟨_, rfl⟩
          rw [← hLj] at hown hll hsu ⊢
          have hLl : Lj.length ≤ 1000000 := by omega
          by_cases hF : F j = -1
          · have k1 : (F j == -1) = true := by rw [beq_iff_eq]; exact hF
            have hsu2 : listN (j + 1) (fun v => decide (F v ≠ -1)) = Lj := by rw [hsu]; simp [hF]
            have HSU : Hid _ := hsu2
            have HL : Hid _ := hLj
            clear hsu hsu2 hF hLj
            go_wp2
            go_roundw
            case rel => exact ⟨j + 1, so, sc, by go_num, by omega, by rw [HSU.out], by rw [HSU.out]; exact hown, hBj⟩
            case measure => simp [numOf]; omega
          · have k1 : (F j == -1) = false := by rw [beq_eq_false_iff_ne]; exact hF
            have hsu2 : listN (j + 1) (fun v => decide (F v ≠ -1)) = Lj ++ [j] := by rw [hsu]; simp [hF]
            have HSU : Hid _ := hsu2
            have HL : Hid _ := hLj
            clear hsu hsu2 hF hLj
            go_wp2_with (first
              | (at_builtin; refine wpList_pushA (x := j) rfl _ _ rfl rfl rfl hown hLl hbj ?_; intro g1 c1 w2 hown1 hgr1 hat1)
              | go_in)
            have hT1 := (alloc_turns _ (Obj.cells #[.int .i64 (j : Int)] 3) _).trans (Turns.of_grown hgr1)
            have hB2 := hT1.below hBj hbj (fun k hk => (World.ownsRow.lt hown k hk.symm).1)
            go_roundw
            case rel => exact ⟨j + 1, some ⟨g1, 0, none⟩, c1, by go_num, by omega, by rw [HSU.out]; simp, by rw [HSU.out]; simpa using hown1, hB2⟩
            case measure => simp [numOf]; omega
        · have hje : j = n := by omega
          have j2 : ¬ (j : Int) < (n : Int) := by omega
          have zz1 : Two wr (w.heap.size + 1) (.int .i64 0) (.int .i64 0) 26 := (hBj.block _ (by have := lt_of_block z1; omega)).trans ((hBk.block _ (lt_of_block z1)).trans z1)
          have qq := cell_two zz1
          have ff := free_two zz1
          obtain ⟨Lj, hLj⟩ : ∃ Lj, Lj = listN j (fun v => decide (F v ≠ -1)) := ⟨_, rfl⟩
          rw [← hLj] at hown hll ⊢
          have HL : Hid _ := hLj
          have HJE : Hid _ := hje
          have l6 := lt_of_block z1
          clear hLj hje
          go_wp2
          refine bodyPost_ret (v := .tuple #[.int .i64 x, .slice fo k fc, .slice so Lj.length sc, .agg #[.int .i64 0, .int .i64 0]]) ?_ rfl ⟨x, _, _, rfl, ?_, ?_⟩
          · simp [results, Try.results11, go_sem, qq.1, qq.2]
          · have e1 := HKE.out
            have e2 := HL.out
            rw [HJE.out] at e2
            subst e1
            subst e2
            refine ⟨_, _, HFL.out, ownsRow_mono (b' := w.heap.size) (ownsRow_setCell_below (ownsRow_setCell_below (ownsRow_blocks HOW.out (fun b hb => hBj.block b (World.ownsRow.lt HOW.out b hb).2)) ?_ _) ?_ _) ?_, ownsRow_mono (b' := w.heap.size) (ownsRow_setCell_below (ownsRow_setCell_below hown ?_ _) ?_ _) ?_⟩
            all_goals (try simp)
            all_goals omega
          · exact ((hB6.trans ((hBk.mono hB6.size).trans (hBj.mono (by omega)))).setCell (by simp) _).setCell (by simp) _
end Go.Proofs.Ytkakmaalmhofmaa
