/- The document's own answers: R.Rising, R.F, R.Heaviest. -/
import Derived.Test.YtdalconphfgepaaDoorHeavSW
namespace Go.Proofs.YtdalconphfgepaaDoor
set_option maxRecDepth 8000
open Go.RowKit Go.Maps
attribute [local go_sem ↓] Go.wp_at_zero Go.wp_at_succ
theorem refF_call {w : World} (c d : Int) : Calls Tryd.prog 20 #[.int .i64 c, .int .i64 d] w fun e w' => e = .returned (.agg #[.int .i64 c, .int .i64 d]) ∧ Below w.heap.size w w' := by
  go_enter Tryd.func20, Tryd.ntmps20
  go_upto_region 1 with (fail)
  have x4 := two_new w (.int .i64 0) (.int .i64 0) 27
  have hB := below_alloc (Below.refl _ w) (Obj.cells #[.int .i64 0, .int .i64 0] 27)
  obtain ⟨b4, hb4⟩ : ∃ b, b = w.heap.size := ⟨_, rfl⟩
  rw [← hb4] at x4 ⊢
  generalize w.alloc (Obj.cells #[.int .i64 0, .int .i64 0] 27) = W0 at *
  obtain ⟨q1, q2, q3, q4, q5, q6⟩ := store_two' x4 (.int .i64 c) (.int .i64 d)
  have HB : Hid (Below w.heap.size w W0 ∧ w.heap.size ≤ b4) := ⟨hB, by omega⟩
  clear x4 hB hb4
  go_wp2
  refine bodyPost_ret (v := .agg #[.int .i64 c, .int .i64 d]) ?_ rfl ⟨rfl, (HB.out.1.setCell HB.out.2 _).setCell HB.out.2 _⟩
  simp [results, Tryd.results20, go_sem, q5, q6]
set_option maxHeartbeats 4000000 in
theorem rising_true {w : World} {lo : Option Addr} {lc N : Nat} {E : List Nat} {base : Nat} (ho : w.ownsRow base 3 1 (.slice lo E.length lc) E.length (qv E)) (hlt : ∀ x ∈ E, x < N) (hs : E.Pairwise (· < ·)) (hl : E.length ≤ 128) :
    Calls Tryd.prog 22 #[.slice lo E.length lc, .int .i64 (N : Int)] w fun e w' => e = .returned (.bool true) ∧ Below w.heap.size w w' := by
  have HO : Hid (w.ownsRow base 3 1 (.slice lo E.length lc) E.length (qv E)) := ho
  have HL : Hid (∀ x ∈ E, x < N) := hlt
  have HS : Hid (E.Pairwise (· < ·)) := hs
  clear ho hlt hs
  go_enter Tryd.func22, Tryd.ntmps22
  go_upto_region 2 with (fail)
  go_loopw [5] (fun s5 wz => ∃ i : Nat, i ≤ E.length ∧ s5 = .int .i64 (i : Int) ∧ Hid (Below w.heap.size w wz)) (fun s5 _ => E.length - (numOf s5).toNat)
  case atStart => exact ⟨0, Nat.zero_le _, rfl, Below.refl _ _⟩
  case round =>
    obtain ⟨i, hi, rfl, hB⟩ := hrel
    by_cases hlt : i < E.length
    · obtain ⟨x, hx⟩ : ∃ x, E[i]? = some x := ⟨_, List.getElem?_eq_getElem hlt⟩
      obtain ⟨g, rfl, cx⟩ := qcell HO.out hx
      have hxN := HL.out x (List.mem_of_getElem? hx)
      have cx' : wr.cell? ⟨g, i, none⟩ = some (.int .i64 (x : Int)) := (hB.out.cell (World.block_lt_of_cell? w _ cx)).trans cx
      have i1 : (0 : Int) ≤ (i : Int) := by omega
      have i2 : (i : Int) < (E.length : Int) := by omega
      have k1 : decide ((x : Int) < 0) = false := by simp
      have k2 : decide ((N : Int) ≤ (x : Int)) = false := by simp; omega
      have n1 : ¬ ((x : Int) < 0) := by omega
      have n2 : ¬ ((N : Int) ≤ (x : Int)) := by omega
      by_cases h0 : i = 0
      · subst h0
        have k3 : decide ((0 : Int) < ((0 : Nat) : Int)) = false := by decide
        go_upto_region 4 with (fail)
        have g0 := cell_growD cx'
        clear cx cx' hx
        refine wp_region_below (by kernel_rfl) (by kernel_rfl) ?_
        repeat (go_big_quiet_step (fail))
        refine wpQuiet_nil ?_
        rintro _ ⟨gp, rfl⟩
        have hB8 := growD_below wr gp
        have HB8 : Hid _ := below_next hB.out hB8
        clear g0 hB8 hB
        generalize growD wr gp = w8 at *
        go_wp2
        go_roundw
        case rel => exact ⟨1, by omega, by go_num, HB8⟩
        case measure => simp [numOf]; omega
      · obtain ⟨y, hy⟩ : ∃ y, E[i - 1]? = some y := ⟨_, List.getElem?_eq_getElem (show i - 1 < E.length by omega)⟩
        obtain ⟨g', e', cy⟩ := qcell HO.out hy
        cases e'
        have hyx : y < x := by
          have := List.pairwise_iff_getElem.1 HS.out (i - 1) i (by omega) hlt (by omega)
          rw [List.getElem?_eq_getElem hlt] at hx
          rw [List.getElem?_eq_getElem (show i - 1 < E.length by omega)] at hy
          rw [Option.some.inj hx, Option.some.inj hy] at this
          exact this
        have cy' : wr.cell? ⟨g, i - 1, none⟩ = some (.int .i64 (y : Int)) := (hB.out.cell (World.block_lt_of_cell? w _ cy)).trans cy
        obtain ⟨j, rfl⟩ : ∃ j, i = j + 1 := ⟨i - 1, by omega⟩
        simp only [Nat.add_sub_cancel] at cy'
        have k3 : decide ((0 : Int) < ((j + 1 : Nat) : Int)) = true := by simp
        have k4 : decide ((x : Int) ≤ (y : Int)) = false := by simp; omega
        have n3 : (0 : Int) < ((j + 1 : Nat) : Int) := by omega
        have n4 : ¬ ((x : Int) ≤ (y : Int)) := by omega
        have es : ((j + 1 : Nat) : Int) - 1 = (j : Int) := by omega
        have i3 : (0 : Int) ≤ (j : Int) := by omega
        have i4 : (j : Int) < (E.length : Int) := by omega
        go_upto_region 4 with (fail)
        have g0 := cell_growD cx'
        have g1 := cell_growD cy'
        clear cx cx' hx cy cy' hy h0
        refine wp_region_below (by kernel_rfl) (by kernel_rfl) ?_
        repeat (go_big_quiet_step (fail))
        refine wpQuiet_nil ?_
        rintro _ ⟨gp, rfl⟩
        have hB8 := growD_below wr gp
        have HB8 : Hid _ := below_next hB.out hB8
        clear g0 g1 hB8 hB
        generalize growD wr gp = w8 at *
        go_wp2
        go_roundw
        case rel => exact ⟨j + 2, by omega, by go_num, HB8⟩
        case measure => simp [numOf]; omega
    · obtain rfl : i = E.length := by omega
      go_wp2
      go_ret
      exact ⟨rfl, hB.out⟩
theorem wrap_i {a : Nat} (h : a < 2 ^ 63) : IntKind.i64.wrap (a : Int) = (a : Int) := by rw [IntKind.wrap_i64]; omega
theorem bitI {s v : Nat} (hs : s < 2 ^ 62) : bits .and .i64 ((s : Int) / 2 ^ v) 1 = (((s.testBit v).toNat : Nat) : Int) := by
  have e : (s : Int) / 2 ^ v = ((s / 2 ^ v : Nat) : Int) := by push_cast; rfl
  have hl : s / 2 ^ v < 2 ^ 62 := Nat.lt_of_le_of_lt (Nat.div_le_self _ _) hs
  rw [e, show (1 : Int) = ((1 : Nat) : Int) from rfl]
  show IntKind.i64.wrap ((BitVec.ofInt 64 ((s / 2 ^ v : Nat) : Int) &&& BitVec.ofInt 64 ((1 : Nat) : Int)).toNat : Nat) = _
  rw [BitVec.toNat_and, ofInt_nat (by omega), ofInt_nat (by decide), Nat.and_one_is_mod, wrap_i (by omega), Nat.testBit_eq_decide_div_mod_eq]
  rcases Nat.mod_two_eq_zero_or_one (s / 2 ^ v) with h | h <;> simp [h]
/-- No two of the nodes below v have an edge. -/
def IndT (p : Nat → Nat → Bool) (s v : Nat) : Prop := ∀ a b, a < v → b < a → s.testBit a = true → s.testBit b = true → p a b = false
/-- What the loop over the nodes has. -/
def HvI (p : Nat → Nat → Bool) (wt : Nat → Int) (N s v : Nat) (sum : Int) (ok : Bool) : Prop := (ok = true → sum = wS wt s v ∧ IndT p s v) ∧ (ok = false → ¬ IndT p s N)
/-- What the loop over the sets has. -/
def HvB (p : Nat → Nat → Bool) (wt : Nat → Int) (N k : Nat) (b : Int) : Prop := (0 ≤ b ∧ b ≤ 1000000000) ∧ (∀ s, s < k → IndT p s N → wS wt s N ≤ b) ∧ (b = 0 ∨ ∃ s, s < k ∧ IndT p s N ∧ b = wS wt s N)
theorem wS_bd {wt : Nat → Int} (hw : ∀ i, -1000000 ≤ wt i ∧ wt i ≤ 1000000) (s : Nat) : ∀ n : Nat, -(1000000 * (n : Int)) ≤ wS wt s n ∧ wS wt s n ≤ 1000000 * (n : Int)
  | 0 => by simp [wS]
  | n + 1 => by
    have h1 := wS_bd hw s n
    have h2 := hw n
    unfold wS
    split <;> omega
theorem IndT.le {p : Nat → Nat → Bool} {s u v : Nat} (h : IndT p s v) (huv : u ≤ v) : IndT p s u := fun a b ha hb => h a b (by omega) hb
theorem hvI_skip {p : Nat → Nat → Bool} {wt : Nat → Int} {N s v : Nat} {sum : Int} (h : HvI p wt N s v sum true) (hb : s.testBit v = false) : HvI p wt N s (v + 1) sum true := by
  obtain ⟨h1, h2⟩ := h.1 rfl
  refine ⟨fun _ => ⟨?_, fun a b ha hba hsa hsb => ?_⟩, fun e => by cases e⟩
  · rw [wS, if_neg (by simp [hb]), h1]; omega
  · by_cases e : a = v
    · subst e; rw [hb] at hsa; cases hsa
    · exact h2 a b (by omega) hba hsa hsb
theorem hvI_take {p : Nat → Nat → Bool} {wt : Nat → Int} {N s v : Nat} {sum : Int} (h : HvI p wt N s v sum true) (hb : s.testBit v = true) (hv : v < N) {ok : Bool} (h1 : ok = true → ∀ b, b < v → s.testBit b = true → p v b = false) (h2 : ok = false → ∃ b, b < v ∧ s.testBit b = true ∧ p v b = true) : HvI p wt N s (v + 1) (sum + wt v) ok := by
  obtain ⟨h3, h4⟩ := h.1 rfl
  refine ⟨fun e => ⟨?_, fun a b ha hba hsa hsb => ?_⟩, fun e hI => ?_⟩
  · rw [wS, if_pos hb, h3]
  · by_cases e' : a = v
    · subst e'; exact h1 e b hba hsb
    · exact h4 a b (by omega) hba hsa hsb
  · obtain ⟨b, hbv, hsb, hpb⟩ := h2 e
    have := hI v b hv hbv hb hsb
    rw [hpb] at this
    cases this
set_option maxHeartbeats 16000000 in
theorem refHeavy_call {w : World} {go wo : Option Addr} {gc wc N : Nat} {pz : Int → Int → Bool} {wt : Nat → Int} (hG : GridAt w (.slice go N gc) N pz) (hN : N ≤ 14) (hW : NumF w wo N wt) (hw : ∀ i, -1000000 ≤ wt i ∧ wt i ≤ 1000000) :
    Calls Tryd.prog 23 #[.slice go N gc, .slice wo N wc] w fun e w' => (∃ b, e = .returned (.int .i64 b) ∧ HvB (fun (i j : Nat) => pz i j) wt N (2 ^ N) b) ∧ w' = w := by
  have HG : Hid (∀ i : Nat, i < N → ∃ g b, go = some ⟨g, 0, none⟩ ∧ w.cell? ⟨g, i, none⟩ = some (.slice (some ⟨b, 0, none⟩) N N) ∧ ∀ j : Nat, j < N → w.cell? ⟨b, j, none⟩ = some (.bool (pz i j))) := by
    obtain ⟨ao, cap, e, h⟩ := hG
    cases e
    exact h
  obtain ⟨p, hp⟩ : ∃ p : Nat → Nat → Bool, p = fun (i j : Nat) => pz i j := ⟨_, rfl⟩
  rw [← hp]
  have HP : Hid (∀ i j : Nat, pz i j = p i j) := fun i j => by rw [hp]
  have HW : Hid (NumF w wo N wt ∧ ∀ i, -1000000 ≤ wt i ∧ wt i ≤ 1000000) := ⟨hW, hw⟩
  obtain ⟨M, hM⟩ : ∃ M, M = 2 ^ N := ⟨_, rfl⟩
  have hM1 : M ≤ 2 ^ 14 := by rw [hM]; exact Nat.pow_le_pow_right (by decide) hN
  have hcast : (M : Int) = (2 : Int) ^ N := by rw [hM]; simp
  have HSH : Hid (IntKind.i64.wrap ((2 : Int) ^ N) = (M : Int)) := by
    show IntKind.i64.wrap ((2 : Int) ^ N) = (M : Int)
    rw [← hcast, IntKind.wrap_i64]; omega
  rw [← hM]
  clear hG hW hw hp hM hcast
  go_enter Tryd.func23, Tryd.ntmps23
  go_upto_region 3 with (fail)
  go_loopw [5, 6, 7, 8, 9, 10] (fun s5 s6 _ _ _ _ wz => ∃ (s : Nat) (b : Int), s ≤ M ∧ s6 = .int .i64 (s : Int) ∧ s5 = .int .i64 b ∧ wz = w ∧ Hid (HvB p wt N s b)) (fun _ s6 _ _ _ _ _ => M - (numOf s6).toNat)
  case atStart => exact ⟨0, 0, Nat.zero_le _, rfl, rfl, rfl, ⟨⟨by omega, by omega⟩, fun s hs => by omega, Or.inl rfl⟩⟩
  case round =>
    obtain ⟨s, b, hs, rfl, rfl, rfl, hB⟩ := hrel
    have hsh := HSH.out
    have hN63 : (N : Int) < 64 := by omega
    have hN0 : (0 : Int) ≤ (N : Int) := by omega
    by_cases hlt : s < M
    · have k1 : decide ((s : Int) < (M : Int)) = true := by simp; omega
      have n1 : (s : Int) < (M : Int) := by omega
      have hs62 : s < 2 ^ 62 := by omega
      go_upto_region 8 with (fail)
      clear k1 n1 hsh
      go_loopw [7, 8, 9, 10] (fun s7 s8 s9 _ wz => ∃ (v : Nat) (sum : Int) (ok : Bool), v ≤ N ∧ s9 = .int .i64 (v : Int) ∧ s7 = .int .i64 sum ∧ s8 = .bool ok ∧ wz = wr ∧ Hid (HvI p wt N s v sum ok ∧ -1000000000 ≤ sum ∧ sum ≤ 1000000000)) (fun _ _ s9 _ _ => N - (numOf s9).toNat)
      case atStart => exact ⟨0, 0, true, Nat.zero_le _, rfl, rfl, rfl, rfl, ⟨⟨fun _ => ⟨rfl, fun a b ha => by omega⟩, fun e => by cases e⟩, by omega, by omega⟩⟩
      case round =>
        obtain ⟨v, sum, ok, hv, rfl, rfl, rfl, rfl, hJ⟩ := hrel
        cases ok with
        | false =>
          have HN : Hid (HvB p wt N (s + 1) b) := by
            obtain ⟨h1, h2, h3⟩ := hB.out
            refine ⟨h1, fun t ht hI => ?_, h3.imp id fun ⟨t, h4, h5⟩ => ⟨t, by omega, h5⟩⟩
            by_cases e : t = s
            · subst e; exact absurd hI (hJ.out.1.2 rfl)
            · exact h2 t (by omega) hI
          clear hB hJ
          by_cases hvN : v < N
          · have k1 : decide ((v : Int) < (N : Int)) = true := by simp; omega
            go_wp2
            go_roundw
            case rel => exact ⟨s + 1, b, by omega, by go_num, rfl, trivial, HN⟩
            case measure => simp [numOf]; omega
          · have k1 : decide ((v : Int) < (N : Int)) = false := by simp; omega
            go_wp2
            go_roundw
            case rel => exact ⟨s + 1, b, by omega, by go_num, rfl, trivial, HN⟩
            case measure => simp [numOf]; omega
        | true =>
          obtain ⟨hsum, hInd⟩ := hJ.out.1.1 rfl
          by_cases hvN : v < N
          · have k1 : decide ((v : Int) < (N : Int)) = true := by simp; omega
            have hbt := bitI (v := v) hs62
            have hwb := wS_bd HW.out.2 s v
            have hwv := HW.out.2 v
            have v0 : (0 : Int) ≤ (v : Int) := by omega
            have v1 : (v : Int) < 64 := by omega
            have v2 : (v : Int) < (N : Int) := by omega
            rw [← hsum] at hwb
            cases hb1 : s.testBit v with
            | false =>
              have k2 : (bits .and .i64 ((s : Int) / 2 ^ v) 1 == 0) = true := by rw [hbt, hb1]; rfl
              have HN : Hid (HvI p wt N s (v + 1) sum true ∧ -1000000000 ≤ sum ∧ sum ≤ 1000000000) := ⟨hvI_skip hJ.out.1 hb1, hJ.out.2⟩
              clear hJ hbt hInd hsum hwb hwv
              go_wp2
              go_roundw
              case rel => exact ⟨v + 1, sum, true, by omega, by go_num, rfl, rfl, trivial, HN⟩
              case measure => simp [numOf]; omega
            | true =>
              have k2 : (bits .and .i64 ((s : Int) / 2 ^ v) 1 == 0) = false := by rw [hbt, hb1]; rfl
              obtain ⟨wb, woff, rfl, cw⟩ := HW.out.1 v hvN
              obtain ⟨g, gb, rfl, cg, cgr⟩ := HG.out v hvN
              have HCG : Hid (∀ j : Nat, j < N → wr.cell? ⟨gb, j, none⟩ = some (.bool (p v j))) := fun j hj => by rw [← HP.out]; exact cgr j hj
              have b1 : -9223372036854775808 ≤ sum + wt v := by omega
              have b2 : sum + wt v < 9223372036854775808 := by omega
              have HJ : Hid (HvI p wt N s v sum true ∧ s.testBit v = true ∧ -1000000000 ≤ sum + wt v ∧ sum + wt v ≤ 1000000000) := ⟨hJ.out.1, hb1, by omega, by omega⟩
              clear hJ hbt hInd hsum hwb hwv cgr
              go_upto_region 13 with (fail)
              clear cw
              go_loopw [8, 10] (fun s8 s10 wz => ∃ (k : Nat) (ok : Bool), k ≤ v ∧ s10 = .int .i64 (k : Int) ∧ s8 = .bool ok ∧ wz = wr ∧ Hid ((ok = true → ∀ b, b < k → s.testBit b = true → p v b = false) ∧ (ok = false → ∃ b, b < v ∧ s.testBit b = true ∧ p v b = true))) (fun _ s10 _ => v - (numOf s10).toNat)
              case atStart => exact ⟨0, true, Nat.zero_le _, rfl, rfl, rfl, ⟨fun _ b hb => by omega, fun e => by cases e⟩⟩
              case round =>
                obtain ⟨k, ok, hk, rfl, rfl, rfl, hK⟩ := hrel
                by_cases hkv : k < v
                · have k3 : decide ((k : Int) < (v : Int)) = true := by simp; omega
                  have n3 : (k : Int) < (v : Int) := by omega
                  cases ok with
                  | false =>
                    go_wp2
                    go_roundw
                    case rel => exact ⟨k + 1, false, by omega, by go_num, rfl, trivial, ⟨fun e => (by cases e), fun _ => hK.out.2 rfl⟩⟩
                    case measure => simp [numOf]; omega
                  | true =>
                    have hbk := bitI (v := k) hs62
                    have w0 : (0 : Int) ≤ (k : Int) := by omega
                    have w1 : (k : Int) < 64 := by omega
                    have w2 : (k : Int) < (N : Int) := by omega
                    cases hb2 : s.testBit k with
                    | false =>
                      have k4 : (bits .and .i64 ((s : Int) / 2 ^ k) 1 == 1) = false := by rw [hbk, hb2]; rfl
                      have HN : Hid ((true = true → ∀ b, b < k + 1 → s.testBit b = true → p v b = false) ∧ (true = false → ∃ b, b < v ∧ s.testBit b = true ∧ p v b = true)) := ⟨fun _ b hb hsb => by
                        by_cases e : b = k
                        · subst e; rw [hb2] at hsb; cases hsb
                        · exact hK.out.1 rfl b (by omega) hsb, fun e => by cases e⟩
                      clear hK hbk hb2
                      go_wp2
                      go_roundw
                      case rel => exact ⟨k + 1, true, by omega, by go_num, rfl, trivial, HN⟩
                      case measure => simp [numOf]; omega
                    | true =>
                      have k4 : (bits .and .i64 ((s : Int) / 2 ^ k) 1 == 1) = true := by rw [hbk, hb2]; rfl
                      have ck := HCG.out k (by omega)
                      obtain ⟨q, hq⟩ : ∃ q, q = p v k := ⟨_, rfl⟩
                      rw [← hq] at ck
                      have HN : Hid (((!q) = true → ∀ b, b < k + 1 → s.testBit b = true → p v b = false) ∧ ((!q) = false → ∃ b, b < v ∧ s.testBit b = true ∧ p v b = true)) := ⟨fun e b hb hsb => by
                        by_cases e' : b = k
                        · subst e'; rw [← hq]; simpa using e
                        · exact hK.out.1 rfl b (by omega) hsb, fun e => ⟨k, hkv, hb2, by rw [← hq]; simpa using e⟩⟩
                      clear hK hbk hb2 hq
                      go_wp2
                      go_roundw
                      case rel => exact ⟨k + 1, !q, by omega, by go_num, rfl, trivial, HN⟩
                      case measure => simp [numOf]; omega
                · obtain rfl : k = v := by omega
                  have HN : Hid (HvI p wt N s (k + 1) (sum + wt k) ok ∧ -1000000000 ≤ sum + wt k ∧ sum + wt k ≤ 1000000000) := ⟨hvI_take HJ.out.1 HJ.out.2.1 hvN hK.out.1 hK.out.2, HJ.out.2.2⟩
                  clear hK
                  go_wp2
                  go_roundw
                  case rel => exact ⟨k + 1, sum + wt k, ok, by omega, by go_num, rfl, rfl, trivial, HN⟩
                  case measure => simp [numOf]; omega
          · obtain rfl : v = N := by omega
            have k1 : decide ((v : Int) < (v : Int)) = false := by simp
            have hbd := wS_bd HW.out.2 s v
            by_cases hbs : b < sum
            · have k5 : decide (b < sum) = true := by simpa using hbs
              have HN : Hid (HvB p wt v (s + 1) sum) := by
                obtain ⟨h1, h2, h3⟩ := hB.out
                refine ⟨⟨by omega, by omega⟩, fun t ht hI => ?_, Or.inr ⟨s, by omega, hInd, hsum⟩⟩
                by_cases e : t = s
                · subst e; omega
                · have := h2 t (by omega) hI; omega
              clear hB hJ hsum hInd hbd
              go_wp2
              go_roundw
              case rel => exact ⟨s + 1, sum, by omega, by go_num, rfl, trivial, HN⟩
              case measure => simp [numOf]; omega
            · have k5 : decide (b < sum) = false := by simpa using hbs
              have HN : Hid (HvB p wt v (s + 1) b) := by
                obtain ⟨h1, h2, h3⟩ := hB.out
                refine ⟨h1, fun t ht hI => ?_, h3.imp id fun ⟨t, h4, h5⟩ => ⟨t, by omega, h5⟩⟩
                by_cases e : t = s
                · subst e; omega
                · exact h2 t (by omega) hI
              clear hB hJ hsum hInd hbd
              go_wp2
              go_roundw
              case rel => exact ⟨s + 1, b, by omega, by go_num, rfl, trivial, HN⟩
              case measure => simp [numOf]; omega
    · obtain rfl : s = M := by omega
      go_wp2
      go_ret
      exact ⟨⟨b, rfl, hB.out⟩, rfl⟩
end Go.Proofs.YtdalconphfgepaaDoor
