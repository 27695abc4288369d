/- R.Rising: of numbers that rise. R.Model: are nodes in sets as those of a minor must be? sets: are they those of a minor? Of sets that are. R.minor and R.Minor, where there is no model. -/
import Derived.Test.YthjkjanibkpgiaaDoorRfH
import Derived.Test.YthjkjanibkpgiaaDoorTailM
import Derived.Test.YthjkjanibkpgiaaDoorRefPM
import Derived.Test.YthjkjanibkpgiaaDoorTrpMW
import Derived.Test.YthjkjanibkpgiaaDoorMnM
import Derived.Test.YthjkjanibkpgiaaDoorRfF
namespace Go.Proofs.YthjkjanibkpgiaaDoor
set_option maxRecDepth 8000
open Go.RowKit Go.Maps
attribute [local go_sem ↓] Go.wp_at_zero Go.wp_at_succ
set_option maxHeartbeats 8000000 in
theorem rising_call {w : World} {vo : Option Addr} {len vc n : Nat} {f : Nat → Nat} (h : NumF w vo len (fun i => (f i : Int))) (hf : ∀ i, i < len → f i < n) (hr : ∀ i, i + 1 < len → f i < f (i + 1)) (hl : len ≤ 1000) :
    Calls Tryd.prog 28 #[.slice vo len vc, .int .i64 (n : Int)] w fun e w' => e = .returned (.bool true) ∧ Below w.heap.size w w' := by
  have HH : Hid (NumF w vo len (fun i => (f i : Int)) ∧ (∀ i, i < len → f i < n) ∧ (∀ i, i + 1 < len → f i < f (i + 1))) := ⟨h, hf, hr⟩
  clear h hf hr
  go_enter Tryd.func28, Tryd.ntmps28
  go_upto_region 2 with (fail)
  go_loopw [5] (fun s5 wz => ∃ i : Nat, i ≤ len ∧ s5 = .int .i64 (i : Int) ∧ Hid (Below w.heap.size w wz)) (fun s5 _ => len - (numOf s5).toNat)
  case atStart => exact ⟨0, Nat.zero_le _, rfl, Below.refl _ _⟩
  case round =>
    obtain ⟨i, hi, rfl, hB⟩ := hrel
    by_cases hlt : i < len
    · have k1 : decide ((i : Int) < (len : Int)) = true := by simp; omega
      obtain ⟨b, off, hvo, cx⟩ := HH.out.1.below hB.out i hlt
      subst hvo
      have hx := HH.out.2.1 i hlt
      obtain ⟨x, hxe⟩ : ∃ x, x = f i := ⟨_, rfl⟩
      have cx' : wr.cell? ⟨b, off + i, none⟩ = some (.int .i64 (x : Int)) := by rw [hxe]; exact cx
      have i0 : (0 : Int) ≤ (i : Int) := by omega
      have i1 : (i : Int) < (len : Int) := by omega
      have x0 : ¬ (x : Int) < 0 := by omega
      have x1 : ¬ (n : Int) ≤ (x : Int) := by omega
      have x2 : (x : Int) < (n : Int) := by omega
      have x3 : ¬ n ≤ x := by omega
      have g0 := cell_growD cx'
      by_cases hi0 : i = 0
      · have j0 : ¬ (i : Int) > 0 := by omega
        have j1 : ¬ (0 : Int) < (i : Int) := by omega
        have j2 : ¬ 0 < i := by omega
        have j3 : (decide (0 < i)) = false := by simpa using j2
        clear hx hxe cx hi0 cx'
        go_upto_region 4 with (fail)
        refine wp_region_below (by kernel_rfl) (by kernel_rfl) ?_
        repeat (go_big_quiet_step (fail))
        refine wpQuiet_nil ?_
        rintro _ ⟨gp, rfl⟩
        have HB8 : Hid (Below w.heap.size w (growD wr gp)) := below_next hB.out (growD_below wr gp)
        clear g0
        generalize growD wr gp = w8 at *
        go_wp2
        go_roundw
        case rel => exact ⟨i + 1, by omega, by simp, HB8.out⟩
        case measure => simp [numOf]; omega
      · obtain ⟨j, hj⟩ : ∃ j, i = j + 1 := ⟨i - 1, by omega⟩
        obtain ⟨b', off', e', cy⟩ := HH.out.1.below hB.out j (by omega)
        cases e'
        have hr := HH.out.2.2 j (by omega)
        obtain ⟨y, hye⟩ : ∃ y, y = f j := ⟨_, rfl⟩
        have cy' : wr.cell? ⟨b, off + j, none⟩ = some (.int .i64 (y : Int)) := by rw [hye]; exact cy
        have hxy : y < x := by rw [hye, hxe, hj]; exact hr
        have w1 : wrap64 ((i : Int) - 1) = (j : Int) := by unfold wrap64; omega
        have w2 : IntKind.i64.wrap ((i : Int) - 1) = (j : Int) := by
          have : (i : Int) - 1 = (j : Int) := by omega
          rw [this]
          simp [IntKind.wrap, IntKind.signed, IntKind.bits]; omega
        have j0 : (i : Int) > 0 := by omega
        have j1 : (0 : Int) < (i : Int) := by omega
        have j2 : (0 : Int) ≤ (j : Int) := by omega
        have j3 : (j : Int) < (len : Int) := by omega
        have j4 : ¬ (x : Int) ≤ (y : Int) := by omega
        have j5 : (y : Int) < (x : Int) := by omega
        have j6 : 0 < i := by omega
        have j7 : ¬ x ≤ y := by omega
        have j8 : (decide (0 < i)) = true := by simpa using j6
        have g1 := cell_growD cy'
        clear hx hxe cx cx' cy cy' hye hr hj hi0 hxy
        go_upto_region 4 with (fail)
        refine wp_region_below (by kernel_rfl) (by kernel_rfl) ?_
        repeat (go_big_quiet_step (fail))
        refine wpQuiet_nil ?_
        rintro _ ⟨gp, rfl⟩
        have HB8 : Hid (Below w.heap.size w (growD wr gp)) := below_next hB.out (growD_below wr gp)
        clear g0 g1
        generalize growD wr gp = w8 at *
        go_wp2
        go_roundw
        case rel => exact ⟨i + 1, by omega, by simp, HB8.out⟩
        case measure => simp [numOf]; omega
    · have k1 : decide ((i : Int) < (len : Int)) = false := by simp; omega
      clear hi
      go_wp2
      go_ret
      exact ⟨rfl, hB.out⟩
end Go.Proofs.YthjkjanibkpgiaaDoor

namespace Go.Proofs.YthjkjanibkpgiaaDoor
set_option maxRecDepth 8000
open Go.RowKit Go.Maps
attribute [local go_sem ↓] Go.wp_at_zero Go.wp_at_succ
def cntK (g : Nat → Nat) (N k : Nat) : Nat := ((List.range N).filter fun v => g v == k).length
theorem cntK_succ (g : Nat → Nat) (v k : Nat) : cntK g (v + 1) k = cntK g v k + if g v = k then 1 else 0 := by
  unfold cntK
  rw [List.range_succ, List.filter_append, List.length_append]
  congr 1
  by_cases h : g v = k <;> simp [h]
theorem cntK_le (g : Nat → Nat) (N k : Nat) : cntK g N k ≤ N := Nat.le_trans (List.length_filter_le _ _) (by simp)
/-- Is set k one that hangs together? -/
def okK (pq : Nat → Nat) (g : Nat → Nat) (N k : Nat) : Bool := !(cntK g N k == 0) && pq k == 1
def edB (pg : Int → Int → Bool) (g : Nat → Nat) (a b v x : Nat) : Bool := pg v x && (g v == a + 1 && g x == b + 1)
/-- Does an edge go between two sets, as far as has been looked? -/
def edT (pg : Int → Int → Bool) (g : Nat → Nat) (N a b v x : Nat) : Bool := ((List.range v).any fun v' => (List.range N).any fun x' => edB pg g a b v' x') || (List.range x).any fun x' => edB pg g a b v x'
theorem edT_start (pg : Int → Int → Bool) (g : Nat → Nat) (N a b : Nat) : edT pg g N a b 0 0 = false := by simp [edT]
theorem edT_succ (pg : Int → Int → Bool) (g : Nat → Nat) (N a b v x : Nat) : edT pg g N a b v (x + 1) = (edT pg g N a b v x || edB pg g a b v x) := by
  unfold edT
  rw [List.range_succ, List.any_append]
  simp [Bool.or_assoc]
theorem edT_next (pg : Int → Int → Bool) (g : Nat → Nat) (N a b v : Nat) : edT pg g N a b v N = edT pg g N a b (v + 1) 0 := by
  unfold edT
  rw [List.range_succ, List.any_append]
  simp
def prB (pg ph : Int → Int → Bool) (g : Nat → Nat) (N a b : Nat) : Bool := !(ph a b) || edT pg g N a b N 0
def modB (pg ph : Int → Int → Bool) (pq : Nat → Nat) (g : Nat → Nat) (N M : Nat) : Bool := ((List.range M).all fun k => okK pq g N (k + 1)) && (List.range M).all fun a => (List.range a).all fun b => prB pg ph g N a b
theorem all_succ (f : Nat → Bool) (n : Nat) : (List.range (n + 1)).all f = ((List.range n).all f && f n) := by
  rw [List.range_succ, List.all_append]; simp
theorem all_no {f : Nat → Bool} {n k : Nat} (hk : k < n) (h : f k = false) : (List.range n).all f = false := by
  rw [Bool.eq_false_iff]
  intro h2
  rw [List.all_eq_true] at h2
  have := h2 k (List.mem_range.2 hk)
  rw [h] at this; cases this
def shv (g : Nat → Nat) (k v x : Nat) : Bool := decide (x < v) && !(g x == k)
set_option maxHeartbeats 16000000 in
theorem model_call {w : World} {go ho vo : Option Addr} {gc hc vc N M : Nat} {pg ph : Int → Int → Bool} {g : Nat → Nat} {pq : Nat → Nat} (hG : GridAt w (.slice go N gc) N pg) (hH : GridAt w (.slice ho M hc) M ph) (hI : NumF w vo N (fun v => (g v : Int))) (hN : N ≤ 100) (hM : M ≤ 100)
    (hgb : ∀ v, v < N → g v ≤ 100) (hpq : ∀ k, ∃ R : Nat → Nat → Bool, (∀ v x, R v x = true ↔ Star (St N (pn pg) (openB (fun x => !(g x == k)))) v x) ∧ pq k = partsN N (openB (fun x => !(g x == k))) R) :
    Calls Tryd.prog 29 #[.slice go N gc, .slice ho M hc, .slice vo N vc] w fun e w' => e = .returned (.bool (modB pg ph pq g N M)) ∧ Below w.heap.size w w' := by
  have HH : Hid (GridAt w (.slice go N gc) N pg ∧ GridAt w (.slice ho M hc) M ph ∧ NumF w vo N (fun v => (g v : Int)) ∧ (∀ v, v < N → g v ≤ 100)) := ⟨hG, hH, hI, hgb⟩
  have C45 : Hid (∀ (A : World) (b k : Nat), Below w.heap.size w A → RowB A b N (shv g k N) → Calls Tryd.prog 45 #[.slice go N gc, .slice (some ⟨b, 0, none⟩) N N] A fun e w' => e = .returned (.int .i64 (pq k : Int)) ∧ Below A.heap.size A w') := fun A b k hA hb => by
    obtain ⟨R, h1, h2⟩ := hpq k
    rw [h2]
    exact refParts_call N go gc pg A (hG.below hA) hN (shutAt_row (hb.congr fun x hx => by unfold shv; simp [hx]) (by omega)) R h1
  have hmk := make60 N (by omega)
  have HPQ : Hid (∀ k, pq k ≤ 100) := fun k => by
    obtain ⟨R, _, h2⟩ := hpq k
    rw [h2]
    unfold partsN
    exact Nat.le_trans (List.length_filter_le _ _) (by simp; exact hN)
  clear hG hH hI hgb hpq
  go_enter Tryd.func29, Tryd.ntmps29
  go_upto_region 2 with (fail)
  go_loopw [7] (fun s7 wz => ∃ k : Nat, k ≤ M ∧ s7 = .int .i64 ((k : Int) + 1) ∧ Hid ((List.range k).all (fun k => okK pq g N (k + 1)) = true ∧ Below w.heap.size w wz)) (fun s7 _ => M + 1 - (numOf s7).toNat)
  case atStart => exact ⟨0, Nat.zero_le _, rfl, rfl, Below.refl _ _⟩
  case round =>
    obtain ⟨k, hkM, rfl, hJ⟩ := hrel
    by_cases hlt : k < M
    · have k1 : (k : Int) + 1 ≤ (M : Int) := by omega
      go_upto_region 6 with (fail)
      have hB0 : Below wr.heap.size wr (wr.alloc (.cells (rep N (.bool false)) 4)) := below_alloc (Below.refl _ _) _
      have o8 : RowB (wr.alloc (.cells (rep N (.bool false)) 4)) wr.heap.size N (shv g (k + 1) 0) := by
        obtain ⟨cur, h1, h2, h3⟩ := rowV_rep (heap_alloc_new wr (.cells (rep N (.bool false)) 4))
        exact ⟨cur, h1, h2, fun j hj => by rw [h3 j hj]; simp [shv]⟩
      obtain ⟨b8, hb8⟩ : ∃ b, b = wr.heap.size := ⟨_, rfl⟩
      rw [← hb8] at o8 ⊢
      have HB8 : Hid (w.heap.size ≤ b8) := by show w.heap.size ≤ b8; rw [hb8]; exact hJ.out.2.size
      generalize wr.alloc (.cells (rep N (.bool false)) 4) = W1 at *
      have HW1 : Hid (RowB W1 b8 N (shv g (k + 1) 0) ∧ Below w.heap.size w W1) := ⟨o8, below_next hJ.out.2 hB0⟩
      have HJ1 : Hid ((List.range k).all (fun k => okK pq g N (k + 1)) = true) := hJ.out.1
      clear o8 hB0 hb8 hJ hmk
      generalize wr = WR at *
      go_upto_region 7 with (fail)
      go_loopw [9, 10] (fun s9 s10 wz => ∃ v : Nat, v ≤ N ∧ s9 = .int .i64 (cntK g v (k + 1) : Int) ∧ s10 = .int .i64 (v : Int) ∧ Hid (RowB wz b8 N (shv g (k + 1) v) ∧ Below w.heap.size w wz)) (fun _ s10 _ => N - (numOf s10).toNat)
      case atStart => exact ⟨0, Nat.zero_le _, rfl, rfl, HW1.out⟩
      case round =>
        obtain ⟨v, hvN, rfl, rfl, hL⟩ := hrel
        by_cases hvt : v < N
        · have k2 : decide ((v : Int) < (N : Int)) = true := by simp; omega
          obtain ⟨vb, off, hvo, cx⟩ := HH.out.2.2.1.below hL.out.2 v hvt
          subst hvo
          have hgl := HH.out.2.2.2 v hvt
          have HC : Hid (cntK g (v + 1) (k + 1) = cntK g v (k + 1) + if g v = k + 1 then 1 else 0) := cntK_succ g v (k + 1)
          have hcl := cntK_le g v (k + 1)
          obtain ⟨x, hx⟩ : ∃ x, x = g v := ⟨_, rfl⟩
          have cx' : wr.cell? ⟨vb, off + v, none⟩ = some (.int .i64 (x : Int)) := by rw [hx]; exact cx
          rw [← hx] at HC hgl
          obtain ⟨cn, hcn⟩ : ∃ c, c = cntK g v (k + 1) := ⟨_, rfl⟩
          rw [← hcn] at HC hcl ⊢
          have c8 := hL.out.1.cell hvt
          have f8 := hL.out.1.free v
          have i0 : (0 : Int) ≤ (v : Int) := by omega
          have i1 : (v : Int) < (N : Int) := by omega
          have HX : Hid (x = g v) := hx
          clear cx hx hcn
          by_cases he : x = k + 1
          · have e1 : ((x : Int) != (k : Int) + 1) = false := by simp; omega
            have e2 : (x : Int) = (k : Int) + 1 := by omega
            have hT := setCell_turns wr b8 v (.bool false)
            have HW6 : Hid (RowB (wr.setCell ⟨b8, v, none⟩ (.bool false)) b8 N (shv g (k + 1) (v + 1)) ∧ Below w.heap.size w (wr.setCell ⟨b8, v, none⟩ (.bool false))) := by
              refine ⟨(hL.out.1.put v false).congr fun y _ => ?_, hL.out.2.setCell HB8.out _⟩
              unfold shv
              by_cases hy : y = v
              · subst hy
                rw [if_pos rfl, ← HX.out]
                simp [he]
              · have : (decide (y < v + 1)) = decide (y < v) := by rw [decide_eq_decide]; omega
                rw [if_neg hy, this]
            have c9 : (wr.setCell ⟨b8, v, none⟩ (.bool false)).cell? ⟨b8, v, none⟩ = some (.bool false) := World.cell?_setCell_same' _ _ _ (by rw [c8]; rfl)
            rw [if_pos he] at HC
            go_wp2
            go_roundw
            case rel => exact ⟨v + 1, by omega, by rw [HC.out]; simp, by simp, HW6.out⟩
            case measure => simp [numOf]; omega
          · have e1 : ((x : Int) != (k : Int) + 1) = true := by simp; omega
            have e2 : ¬ (x : Int) = (k : Int) + 1 := by omega
            have HW6 : Hid (RowB (wr.setCell ⟨b8, v, none⟩ (.bool true)) b8 N (shv g (k + 1) (v + 1)) ∧ Below w.heap.size w (wr.setCell ⟨b8, v, none⟩ (.bool true))) := by
              refine ⟨(hL.out.1.put v true).congr fun y _ => ?_, hL.out.2.setCell HB8.out _⟩
              unfold shv
              by_cases hy : y = v
              · subst hy
                rw [if_pos rfl, ← HX.out]
                simp [he]
              · have : (decide (y < v + 1)) = decide (y < v) := by rw [decide_eq_decide]; omega
                rw [if_neg hy, this]
            have c9 : (wr.setCell ⟨b8, v, none⟩ (.bool true)).cell? ⟨b8, v, none⟩ = some (.bool true) := World.cell?_setCell_same' _ _ _ (by rw [c8]; rfl)
            rw [if_neg he, Nat.add_zero] at HC
            go_wp2
            go_roundw
            case rel => exact ⟨v + 1, by omega, by rw [HC.out]; simp, by simp, HW6.out⟩
            case measure => simp [numOf]; omega
        · have k2 : decide ((v : Int) < (N : Int)) = false := by simp; omega
          have hvv : v = N := by omega
          subst hvv
          obtain ⟨c, hc⟩ : ∃ c, c = cntK g v (k + 1) := ⟨_, rfl⟩
          have hpl := HPQ.out (k + 1)
          obtain ⟨pk, hpk⟩ : ∃ p, p = pq (k + 1) := ⟨_, rfl⟩
          have C45' : Hid (Calls Tryd.prog 45 #[.slice go v gc, .slice (some ⟨b8, 0, none⟩) v v] wr fun e w' => e = .returned (.int .i64 (pk : Int)) ∧ Below wr.heap.size wr w') := by
            rw [hpk]
            exact C45.out wr b8 (k + 1) hL.out.2 hL.out.1
          have HOK : Hid (okK pq g v (k + 1) = (!(c == 0) && pk == 1)) := by
            show _ = _
            unfold okK
            rw [hc, hpk]
          have HJ2 : Hid ((List.range k).all (fun k => okK pq g v (k + 1)) = true) := HJ1.out
          have HLW : Hid (Below w.heap.size w wr) := hL.out.2
          rw [← hc]
          rw [← hpk] at hpl
          have hcl : c ≤ v := by rw [hc]; exact cntK_le _ _ _
          clear hc hpk hL
          have hno : okK pq g v (k + 1) = false → modB pg ph pq g v M = false := fun h => by
            unfold modB
            rw [all_no hlt h]; rfl
          have HNO : Hid _ := hno
          clear hno
          by_cases hc0 : c = 0
          · have e1 : ((c : Int) == 0) = true := by simp; omega
            have e2 : (c : Int) = 0 := by omega
            have HF : Hid (modB pg ph pq g v M = false) := HNO.out (by rw [HOK.out, hc0]; rfl)
            clear HNO
            go_wp2
            go_ret
            exact ⟨by rw [HF.out]; rfl, HLW.out⟩
          · have e1 : ((c : Int) == 0) = false := by simp; omega
            have e2 : ¬ (c : Int) = 0 := by omega
            by_cases hp1 : pk = 1
            · have e3 : ((pk : Int) != 1) = false := by simp; omega
              have e4 : (pk : Int) = 1 := by omega
              have HJ3 : Hid ((List.range (k + 1)).all (fun k => okK pq g v (k + 1)) = true) := by
                show _ = _
                rw [all_succ, HJ2.out, HOK.out, hp1]
                simp [hc0]
              clear HNO HOK
              go_wp2_with (first | (go_at_call 45; refine Calls.mono C45'.out ?_; rintro e W9 ⟨rfl, h9⟩) | fail)
              go_roundw
              case rel => exact ⟨k + 1, by omega, by simp, HJ3.out, below_next HLW.out h9⟩
              case measure => simp [numOf]; omega
            · have e3 : ((pk : Int) != 1) = true := by simp; omega
              have e4 : ¬ (pk : Int) = 1 := by omega
              have HF : Hid (modB pg ph pq g v M = false) := HNO.out (by
                have : (pk == 1) = false := by simpa using hp1
                rw [HOK.out, this, Bool.and_false])
              clear HNO HOK
              go_wp2_with (first | (go_at_call 45; refine Calls.mono C45'.out ?_; rintro e W9 ⟨rfl, h9⟩) | fail)
              go_ret
              exact ⟨by rw [HF.out]; rfl, below_next HLW.out h9⟩
    · have k1 : ¬ (k : Int) + 1 ≤ (M : Int) := by omega
      have hkk : k = M := by omega
      have HA : Hid ((List.range M).all (fun k => okK pq g N (k + 1)) = true) := by rw [← hkk]; exact hJ.out.1
      have HB1 : Hid (Below w.heap.size w wr) := hJ.out.2
      clear hkk hJ C45 HPQ hmk
      generalize wr = WR at *
      go_upto_region 15 with (fail)
      go_loopw [11] (fun s11 wz => ∃ a : Nat, a ≤ M ∧ s11 = .int .i64 (a : Int) ∧ Hid ((List.range a).all (fun a => (List.range a).all fun b => prB pg ph g N a b) = true ∧ Below w.heap.size w wz)) (fun s11 _ => M - (numOf s11).toNat)
      case atStart => exact ⟨0, Nat.zero_le _, rfl, rfl, HB1.out⟩
      case round =>
        obtain ⟨a, haM, rfl, hJ⟩ := hrel
        by_cases halt : a < M
        · have k2 : decide ((a : Int) < (M : Int)) = true := by simp; omega
          have HJa : Hid ((List.range a).all (fun a => (List.range a).all fun b => prB pg ph g N a b) = true) := hJ.out.1
          have HBa : Hid (Below w.heap.size w wr) := hJ.out.2
          clear hJ
          go_upto_region 18 with (fail)
          generalize wr = WA at *
          go_loopw [12] (fun s12 wz => ∃ b : Nat, b ≤ a ∧ s12 = .int .i64 (b : Int) ∧ Hid ((List.range b).all (fun b => prB pg ph g N a b) = true ∧ Below w.heap.size w wz)) (fun s12 _ => a - (numOf s12).toNat)
          case atStart => exact ⟨0, Nat.zero_le _, rfl, rfl, HBa.out⟩
          case round =>
            obtain ⟨b, hba, rfl, hL⟩ := hrel
            by_cases hblt : b < a
            · have k3 : decide ((b : Int) < (a : Int)) = true := by simp; omega
              have HJb : Hid ((List.range b).all (fun b => prB pg ph g N a b) = true) := hL.out.1
              have HBb : Hid (Below w.heap.size w wr) := hL.out.2
              obtain ⟨hb2, hrow, hho, g0, g1⟩ : ∃ hb2 hrow, ho = some ⟨hb2, 0, none⟩ ∧ wr.cell? ⟨hb2, a, none⟩ = some (.slice (some ⟨hrow, 0, none⟩) M M) ∧ wr.cell? ⟨hrow, b, none⟩ = some (.bool (ph a b)) := by
                obtain ⟨ao, cap, e, h⟩ := HH.out.2.1.below HBb.out
                cases e
                obtain ⟨x, y, e1, e2, e3⟩ := h a halt
                exact ⟨x, y, e1, e2, e3 b (by omega)⟩
              subst hho
              have a0 : (0 : Int) ≤ (a : Int) := by omega
              have a1 : (a : Int) < (M : Int) := by omega
              have b0 : (0 : Int) ≤ (b : Int) := by omega
              have b1 : (b : Int) < (M : Int) := by omega
              obtain ⟨pab, hpab⟩ : ∃ p, p = ph a b := ⟨_, rfl⟩
              rw [← hpab] at g1
              have HP : Hid (prB pg ph g N a b = (!pab || edT pg g N a b N 0)) := by
                show _ = _
                unfold prB
                rw [hpab]
              have HBno : Hid (prB pg ph g N a b = false → modB pg ph pq g N M = false) := fun h => by
                unfold modB
                rw [all_no (f := fun a => (List.range a).all fun b => prB pg ph g N a b) (k := a) halt (all_no (k := b) hblt h), Bool.and_false]
              clear hL hpab
              cases pab with
              | false =>
                have HJ3 : Hid ((List.range (b + 1)).all (fun b => prB pg ph g N a b) = true) := by
                  show _ = _
                  rw [all_succ, HJb.out, HP.out]; rfl
                clear HBno HP
                go_wp2
                go_roundw
                case rel => exact ⟨b + 1, by omega, by simp, HJ3.out, HBb.out⟩
                case measure => simp [numOf]; omega
              | true =>
                go_upto_region 23 with (fail)
                clear g0 g1
                generalize wr = WB at *
                go_loopw [13, 14] (fun s13 s14 wz => ∃ (v : Nat) (ob : Bool), v ≤ N ∧ s13 = .bool ob ∧ s14 = .int .i64 (v : Int) ∧ Hid (ob = edT pg g N a b v 0 ∧ Below w.heap.size w wz)) (fun _ s14 _ => N - (numOf s14).toNat)
                case atStart => exact ⟨0, false, Nat.zero_le _, rfl, rfl, (edT_start pg g N a b).symm, HBb.out⟩
                case round =>
                  obtain ⟨v, ob, hv, rfl, rfl, hV⟩ := hrel
                  by_cases hvt : v < N
                  · have k4 : decide ((v : Int) < (N : Int)) = true := by simp; omega
                    have HV1 : Hid (ob = edT pg g N a b v 0) := hV.out.1
                    have HV2 : Hid (Below w.heap.size w wr) := hV.out.2
                    clear hV
                    go_upto_region 26 with (fail)
                    generalize wr = WV at *
                    go_loopw [13, 15] (fun s13 s15 wz => ∃ (x : Nat) (oc : Bool), x ≤ N ∧ s13 = .bool oc ∧ s15 = .int .i64 (x : Int) ∧ Hid (oc = edT pg g N a b v x ∧ Below w.heap.size w wz)) (fun _ s15 _ => N - (numOf s15).toNat)
                    case atStart => exact ⟨0, ob, Nat.zero_le _, rfl, rfl, HV1.out, HV2.out⟩
                    case round =>
                      obtain ⟨x, oc, hx, rfl, rfl, hX⟩ := hrel
                      by_cases hxt : x < N
                      · have k5 : decide ((x : Int) < (N : Int)) = true := by simp; omega
                        have HX2 : Hid (Below w.heap.size w wr) := hX.out.2
                        have HE : Hid (edT pg g N a b v (x + 1) = (oc || edB pg g a b v x)) := by
                          show _ = _
                          rw [edT_succ, hX.out.1]
                        cases oc with
                        | true =>
                          clear hX
                          go_wp2
                          go_roundw
                          case rel => exact ⟨x + 1, true, by omega, rfl, by simp, by show true = _; rw [HE.out]; rfl, HX2.out⟩
                          case measure => simp [numOf]; omega
                        | false =>
                          obtain ⟨ga, gb, hgo, g0, g1⟩ : ∃ ga gb, go = some ⟨ga, 0, none⟩ ∧ wr.cell? ⟨ga, v, none⟩ = some (.slice (some ⟨gb, 0, none⟩) N N) ∧ wr.cell? ⟨gb, x, none⟩ = some (.bool (pg v x)) := by
                            obtain ⟨ao, cap, e, h⟩ := HH.out.1.below HX2.out
                            cases e
                            obtain ⟨y, z, e1, e2, e3⟩ := h v hvt
                            exact ⟨y, z, e1, e2, e3 x hxt⟩
                          subst hgo
                          obtain ⟨vb, off, hvo, c1⟩ := HH.out.2.2.1.below HX2.out v hvt
                          obtain ⟨vb', off', hvo', c2⟩ := HH.out.2.2.1.below HX2.out x hxt
                          subst hvo
                          cases hvo'
                          have v0 : (0 : Int) ≤ (v : Int) := by omega
                          have v1 : (v : Int) < (N : Int) := by omega
                          have x0 : (0 : Int) ≤ (x : Int) := by omega
                          have x1 : (x : Int) < (N : Int) := by omega
                          have wa : wrap64 ((a : Int) + 1) = (a : Int) + 1 := by unfold wrap64; omega
                          have wb : wrap64 ((b : Int) + 1) = (b : Int) + 1 := by unfold wrap64; omega
                          obtain ⟨pvx, hp⟩ : ∃ p, p = pg v x := ⟨_, rfl⟩
                          obtain ⟨gv, hgv⟩ : ∃ p, p = g v := ⟨_, rfl⟩
                          obtain ⟨gx, hgx⟩ : ∃ p, p = g x := ⟨_, rfl⟩
                          rw [← hp] at g1
                          have c1' : wr.cell? ⟨vb, off + v, none⟩ = some (.int .i64 (gv : Int)) := by rw [hgv]; exact c1
                          have c2' : wr.cell? ⟨vb, off + x, none⟩ = some (.int .i64 (gx : Int)) := by rw [hgx]; exact c2
                          have HE2 : Hid (edT pg g N a b v (x + 1) = (pvx && (gv == a + 1 && gx == b + 1))) := by
                            show _ = _
                            rw [HE.out, Bool.false_or]
                            unfold edB
                            rw [← hp, ← hgv, ← hgx]
                          clear hX hp hgv hgx c1 c2 HE
                          cases pvx with
                          | false =>
                            go_wp2
                            go_roundw
                            case rel => exact ⟨x + 1, false, by omega, rfl, by simp, by show false = _; rw [HE2.out]; rfl, HX2.out⟩
                            case measure => simp [numOf]; omega
                          | true =>
                            by_cases h1 : gv = a + 1
                            · have e1 : ((gv : Int) == (a : Int) + 1) = true := by simp; omega
                              have e1' : (gv : Int) = (a : Int) + 1 := by omega
                              have q1 : (gv == a + 1) = true := by simpa using h1
                              rw [q1] at HE2
                              by_cases h2 : gx = b + 1
                              · have e2 : ((gx : Int) == (b : Int) + 1) = true := by simp; omega
                                have e2' : (gx : Int) = (b : Int) + 1 := by omega
                                have q2 : (gx == b + 1) = true := by simpa using h2
                                rw [q2] at HE2
                                clear h1 h2 q1 q2 e1' e2'
                                go_wp2
                                go_roundw
                                case rel => exact ⟨x + 1, true, by omega, rfl, by simp, by show true = _; rw [HE2.out]; rfl, HX2.out⟩
                                case measure => simp [numOf]; omega
                              · have e2 : ((gx : Int) == (b : Int) + 1) = false := by simp; omega
                                have e2' : ¬ (gx : Int) = (b : Int) + 1 := by omega
                                have q2 : (gx == b + 1) = false := by simpa using h2
                                rw [q2] at HE2
                                clear h1 q1 q2 e1'
                                go_wp2
                                go_roundw
                                case rel => exact ⟨x + 1, false, by omega, rfl, by simp, by show false = _; rw [HE2.out]; rfl, HX2.out⟩
                                case measure => simp [numOf]; omega
                            · have e1 : ((gv : Int) == (a : Int) + 1) = false := by simp; omega
                              have e1' : ¬ (gv : Int) = (a : Int) + 1 := by omega
                              have q1 : (gv == a + 1) = false := by simpa using h1
                              rw [q1] at HE2
                              clear q1
                              go_wp2
                              go_roundw
                              case rel => exact ⟨x + 1, false, by omega, rfl, by simp, by show false = _; rw [HE2.out]; rfl, HX2.out⟩
                              case measure => simp [numOf]; omega
                      · have k5 : decide ((x : Int) < (N : Int)) = false := by simp; omega
                        have hxx : x = N := by omega
                        have HE : Hid (oc = edT pg g N a b (v + 1) 0) := by
                          show _ = _
                          rw [hX.out.1, hxx, edT_next]
                        have HX2 : Hid (Below w.heap.size w wr) := hX.out.2
                        clear hxx hX hx
                        go_wp2
                        go_roundw
                        case rel => exact ⟨v + 1, oc, by omega, rfl, by simp, HE.out, HX2.out⟩
                        case measure => simp [numOf]; omega
                  · have k4 : decide ((v : Int) < (N : Int)) = false := by simp; omega
                    have hvv : v = N := by omega
                    have HE : Hid (ob = edT pg g N a b N 0) := by
                      show _ = _
                      rw [hV.out.1, hvv]
                    have HX2 : Hid (Below w.heap.size w wr) := hV.out.2
                    clear hvv hV hv
                    cases ob with
                    | true =>
                      have HJ3 : Hid ((List.range (b + 1)).all (fun b => prB pg ph g N a b) = true) := by
                        show _ = _
                        rw [all_succ, HJb.out, HP.out, ← HE.out]; rfl
                      go_wp2
                      go_roundw
                      case rel => exact ⟨b + 1, by omega, by simp, HJ3.out, HX2.out⟩
                      case measure => simp [numOf]; omega
                    | false =>
                      have HF : Hid (modB pg ph pq g N M = false) := HBno.out (by rw [HP.out, ← HE.out]; rfl)
                      go_wp2
                      go_ret
                      exact ⟨by rw [HF.out]; rfl, HX2.out⟩
            · have k3 : decide ((b : Int) < (a : Int)) = false := by simp; omega
              have hbb : b = a := by omega
              have HJ3 : Hid ((List.range (a + 1)).all (fun a => (List.range a).all fun b => prB pg ph g N a b) = true) := by
                show _ = _
                rw [all_succ, HJa.out, Bool.true_and]
                have := hL.out.1
                rw [hbb] at this
                exact this
              have HL2 : Hid (Below w.heap.size w wr) := hL.out.2
              clear hbb hL hba
              go_wp2
              go_roundw
              case rel => exact ⟨a + 1, by omega, by simp, HJ3.out, HL2.out⟩
              case measure => simp [numOf]; omega
        · have k2 : decide ((a : Int) < (M : Int)) = false := by simp; omega
          have haa : a = M := by omega
          have HT : Hid (modB pg ph pq g N M = true) := by
            show _ = _
            unfold modB
            rw [HA.out, Bool.true_and, ← haa]
            exact hJ.out.1
          have HL2 : Hid (Below w.heap.size w wr) := hJ.out.2
          clear haa hJ haM
          go_wp2
          go_ret
          exact ⟨by rw [HT.out]; rfl, HL2.out⟩
end Go.Proofs.YthjkjanibkpgiaaDoor

namespace Go.Proofs.YthjkjanibkpgiaaDoor
set_option maxRecDepth 8000
open Go.RowKit Go.Maps
attribute [local go_sem ↓] Go.wp_at_zero Go.wp_at_succ
theorem getD_some {l : List Nat} {j : Nat} (hj : j < l.length) : l[j]? = some (l.getD j 0) := by rw [List.getD_eq_getElem?_getD, List.getElem?_eq_getElem hj]; rfl
theorem getD_memN {l : List Nat} {j : Nat} (hj : j < l.length) : l.getD j 0 ∈ l := List.mem_of_getElem? (getD_some hj)
/-- What is in the table so far. -/
def inT (G : Nat → Nat) (L : Nat → List Nat) (i k v : Nat) : Nat := if G v ≠ 0 ∧ (G v ≤ i ∨ (G v = i + 1 ∧ v ∈ (L i).take k)) then G v else 0
theorem inT_start (G : Nat → Nat) (L : Nat → List Nat) (v : Nat) : inT G L 0 0 v = 0 := by
  unfold inT
  rw [if_neg]
  rintro ⟨h1, h2 | ⟨_, h3⟩⟩
  · omega
  · simp at h3
theorem inT_next {G : Nat → Nat} {L : Nat → List Nat} {i : Nat} (hG : ∀ v, G v = i + 1 → v ∈ L i) (v : Nat) : inT G L i (L i).length v = inT G L (i + 1) 0 v := by
  unfold inT
  rw [List.take_length]
  by_cases h : G v = i + 1
  · rw [if_pos ⟨by omega, Or.inr ⟨h, hG v h⟩⟩, if_pos ⟨by omega, Or.inl (by omega)⟩]
  · by_cases h2 : G v ≠ 0 ∧ G v ≤ i
    · rw [if_pos ⟨h2.1, Or.inl h2.2⟩, if_pos ⟨h2.1, Or.inl (by omega)⟩]
    · rw [if_neg (fun q => by rcases q.2 with q2 | q2; exact h2 ⟨q.1, q2⟩; exact h q2.1), if_neg (fun q => by
        rcases q.2 with q2 | ⟨_, q3⟩
        · exact h2 ⟨q.1, by omega⟩
        · simp at q3)]
theorem inT_here {G : Nat → Nat} {L : Nat → List Nat} {i k x : Nat} (hG : G x = i + 1) (hn : x ∉ (L i).take k) : inT G L i k x = 0 := by
  unfold inT
  rw [if_neg]
  rintro ⟨_, h | h⟩
  · omega
  · exact hn h.2
theorem inT_put {G : Nat → Nat} {L : Nat → List Nat} {i k x : Nat} (hG : G x = i + 1) (hx : (L i)[k]? = some x) (v : Nat) : inT G L i (k + 1) v = if v = x then i + 1 else inT G L i k v := by
  have htk : (L i).take (k + 1) = (L i).take k ++ [x] := by rw [List.take_add_one, hx]; rfl
  by_cases h : v = x
  · subst h
    rw [if_pos rfl]
    unfold inT
    rw [if_pos ⟨by omega, Or.inr ⟨hG, by rw [htk]; simp⟩⟩, hG]
  · rw [if_neg h]
    unfold inT
    rw [htk]
    have : (v ∈ (L i).take k ++ [x]) ↔ v ∈ (L i).take k := by simp [h]
    simp only [this]
theorem inT_end {G : Nat → Nat} {L : Nat → List Nat} {M : Nat} (hM : ∀ v, G v ≤ M) (v : Nat) : inT G L M 0 v = G v := by
  unfold inT
  by_cases h : G v = 0
  · rw [if_neg (fun q => q.1 h), h]
  · rw [if_pos ⟨h, Or.inl (hM v)⟩]
def VT (x1 x2 : Value) (N M : Nat) (pg ph : Int → Int → Bool) (b : Nat) : Nat → Value → World → Prop
  | 0, x, _ => x = x1
  | 1, x, w => ∃ go gc, x = .slice go N gc ∧ GridAt w (.slice go N gc) N pg
  | 2, x, _ => x = x2
  | 3, x, w => ∃ go gc, x = .slice go M gc ∧ GridAt w (.slice go M gc) M ph
  | 4, x, _ => x = sl b N
  | _, x, _ => x = .bool true
theorem VT.mono {x1 x2 : Value} {N M : Nat} {pg ph : Int → Int → Bool} {b : Nat} : ∀ i x (w w' : World), VT x1 x2 N M pg ph b i x w → Below w.heap.size w w' → VT x1 x2 N M pg ph b i x w' := fun i x w w' h hb => by
  match i, h with
  | 0, h => exact h
  | 1, ⟨b, c, e, h⟩ => exact ⟨b, c, e, h.below hb⟩
  | 2, h => exact h
  | 3, ⟨b, c, e, h⟩ => exact ⟨b, c, e, h.below hb⟩
  | 4, h => exact h
  | _ + 5, h => exact h
set_option maxHeartbeats 16000000 in
theorem sets_call {w : World} {N M X : Nat} {ao ao2 : Option Addr} {el el2 cap cap2 : Nat} {es es2 : List Pair} {lv : Value} {ls : List (List Nat)} {G : Nat → Nat} {pq : Nat → Nat} (hE : EdgesAt w (.slice ao el cap) es) (hE2 : EdgesAt w (.slice ao2 el2 cap2) es2) (hR : RowsU w X lv ls) (hls : ls.length = M)
    (hel : es.length ≤ 1000) (hel2 : es2.length ≤ 1000) (hgood : ∀ e ∈ es, (0 ≤ e.1 ∧ e.1 < N ∧ 0 ≤ e.2 ∧ e.2 < N) ∧ e.1 ≠ e.2) (hgood2 : ∀ e ∈ es2, (0 ≤ e.1 ∧ e.1 < M ∧ 0 ≤ e.2 ∧ e.2 < M) ∧ e.1 ≠ e.2) (hN : N ≤ 10) (hM : M ≤ 6)
    (hL1 : ∀ i, i < M → (ls.getD i []).length ≤ 32 ∧ (∀ x ∈ ls.getD i [], x < N) ∧ ∀ j, j + 1 < (ls.getD i []).length → (ls.getD i []).getD j 0 < (ls.getD i []).getD (j + 1) 0)
    (hG : ∀ i, i < M → ∀ v, G v = i + 1 ↔ v ∈ ls.getD i []) (hGM : ∀ v, G v ≤ M) (hnd : ∀ i, i < M → (ls.getD i []).Nodup)
    (hpq : ∀ k, ∃ R : Nat → Nat → Bool, (∀ v x, R v x = true ↔ Star (St N (pn (hasB es)) (openB (fun x => !(G x == k)))) v x) ∧ pq k = partsN N (openB (fun x => !(G x == k))) R)
    (hmod : modB (hasB es) (hasB es2) pq G N M = true) :
    Calls Tryd.prog 10 #[.agg #[.int .i64 (N : Int), .slice ao el cap], .agg #[.int .i64 (M : Int), .slice ao2 el2 cap2], lv] w fun e w' => e = .returned (.bool true) ∧ Below w.heap.size w w' := by
  obtain ⟨hs, ⟨lo, lc, hlv⟩, hown, hhs, hrows⟩ := hR
  rw [hls] at hlv
  subst hlv
  have C12 : Hid (∀ A, Below w.heap.size w A → Calls Tryd.prog 12 #[.agg #[.int .i64 (N : Int), .slice ao el cap]] A fun e w' => Below A.heap.size A w' ∧ ∃ ao cap, e = .returned (.slice ao N cap) ∧ GridAt w' (.slice ao N cap) N (hasB es)) := fun A hA => gridOf_any N _ _ A (hE.below hA) (by omega) hel hgood
  have C12b : Hid (∀ A, Below w.heap.size w A → Calls Tryd.prog 12 #[.agg #[.int .i64 (M : Int), .slice ao2 el2 cap2]] A fun e w' => Below A.heap.size A w' ∧ ∃ ao cap, e = .returned (.slice ao M cap) ∧ GridAt w' (.slice ao M cap) M (hasB es2)) := fun A hA => gridOf_any M _ _ A (hE2.below hA) (by omega) hel2 hgood2
  have C29 : Hid (∀ A go gc ho hc b, GridAt A (.slice go N gc) N (hasB es) → GridAt A (.slice ho M hc) M (hasB es2) → NumF A (some ⟨b, 0, none⟩) N (fun v => (G v : Int)) → Calls Tryd.prog 29 #[.slice go N gc, .slice ho M hc, sl b N] A fun e w' => e = .returned (.bool true) ∧ Below A.heap.size A w') := fun A go gc ho hc b h1 h2 h3 => by
    have := model_call h1 h2 h3 (vc := N) (by omega) (by omega) (fun v _ => by have := hGM v; omega) hpq
    rw [hmod] at this
    exact this
  -- what the header row holds
  have HHD : Hid (∀ A, Below w.heap.size w A → ∀ i, i < M → ∃ lb vo vc, lo = some ⟨lb, 0, none⟩ ∧ A.cell? ⟨lb, i, none⟩ = some (.slice vo (ls.getD i []).length vc) ∧ NumF A vo (ls.getD i []).length (fun j => (((ls.getD i []).getD j 0 : Nat) : Int))) := fun A hA i hi => by
    have hi2 : i < hs.length := by omega
    have hi3 : i < ls.length := by omega
    have e2 : ls[i]? = some (ls.getD i []) := by rw [List.getD_eq_getElem?_getD, List.getElem?_eq_getElem hi3]; rfl
    obtain ⟨vo, vc, e, ho⟩ := hrows i hs[i] (ls.getD i []) (List.getElem?_eq_getElem hi2) e2
    rcases hown.2 with ⟨_, h0⟩ | ⟨lb, c, cur, e3, _⟩
    · omega
    · injection e3 with e3 e4 e5
      refine ⟨lb, vo, vc, e3, ?_, ?_⟩
      · have hc := hown.cells (g := lb) (by rw [e3]; rfl) i hs[i] (by rw [List.getElem?_eq_getElem hi2])
        rw [add_none] at hc
        rw [← e]
        exact (hA.cell (World.block_lt_of_cell? _ _ hc)).trans hc
      · rw [e] at ho
        intro j hj
        have hu : (ls.getD i [])[j]? = some ((ls.getD i []).getD j 0) := getD_some hj
        obtain ⟨g, eg, cg⟩ := qcell ho hu
        refine ⟨g, 0, eg, ?_⟩
        rw [Nat.zero_add]
        exact (hA.cell (World.block_lt_of_cell? _ _ cg)).trans cg
  have C28 : Hid (∀ A, Below w.heap.size w A → ∀ i, i < M → ∀ vo vc, NumF A vo (ls.getD i []).length (fun j => (((ls.getD i []).getD j 0 : Nat) : Int)) → Calls Tryd.prog 28 #[.slice vo (ls.getD i []).length vc, .int .i64 (N : Int)] A fun e w' => e = .returned (.bool true) ∧ Below A.heap.size A w') := fun A hA i hi vo vc hn => by
    obtain ⟨z1, z2, z3⟩ := hL1 i hi
    exact rising_call hn (fun j hj => z2 _ (getD_memN hj)) z3 (by omega)
  have HG : Hid ((∀ i, i < M → (ls.getD i []).length ≤ 32 ∧ (∀ x ∈ ls.getD i [], x < N)) ∧ (∀ i, i < M → ∀ v, G v = i + 1 ↔ v ∈ ls.getD i []) ∧ (∀ v, G v ≤ M) ∧ (∀ i, i < M → (ls.getD i []).Nodup)) := ⟨fun i hi => ⟨(hL1 i hi).1, (hL1 i hi).2.1⟩, hG, hGM, hnd⟩
  have hmk := make39 N (by omega)
  clear hE hE2 hown hhs hrows hls hel hel2 hgood hgood2 hL1 hG hGM hnd hpq hmod
  go_enter Tryd.func10, Tryd.ntmps10
  go_upto_region 1 with (fail)
  have t1 := two_alloc (two_new w (.int .i64 (N : Int)) (.slice ao el cap) 24) (Obj.cells #[.int .i64 (M : Int), .slice ao2 el2 cap2] 24)
  have t2 := two_new (w.alloc (Obj.cells #[.int .i64 (N : Int), .slice ao el cap] 24)) (.int .i64 (M : Int)) (.slice ao2 el2 cap2) 24
  rw [show (w.alloc (Obj.cells #[.int .i64 (N : Int), .slice ao el cap] 24)).heap.size = w.heap.size + 1 by simp] at t2
  have hB0 : Below w.heap.size w ((w.alloc (Obj.cells #[.int .i64 (N : Int), .slice ao el cap] 24)).alloc (Obj.cells #[.int .i64 (M : Int), .slice ao2 el2 cap2] 24)) := below_alloc (below_alloc (Below.refl _ w) _) _
  have hl2 := lt_of_block t2
  generalize w.heap.size + 1 = b4 at t2 hl2 ⊢
  generalize hbg : w.heap.size = b3 at t1 ⊢
  generalize (w.alloc (Obj.cells #[.int .i64 (N : Int), .slice ao el cap] 24)).alloc (Obj.cells #[.int .i64 (M : Int), .slice ao2 el2 cap2] 24) = W0 at *
  obtain ⟨c0, c1⟩ := cell_two t1
  obtain ⟨c2, c3⟩ := cell_two t2
  have hl1 := lt_of_block t1
  go_upto_region 4 with (fail)
  have hBa : Below W0.heap.size W0 (W0.alloc (.cells (rep N (.int .i64 0)) 3)) := below_alloc (Below.refl _ _) _
  have o7 : RowV (W0.alloc (.cells (rep N (.int .i64 0)) 3)) W0.heap.size 3 N (fun v => .int .i64 (inT G (fun i => ls.getD i []) 0 0 v : Int)) := (rowV_rep (heap_alloc_new _ _)).congr fun j _ => by rw [inT_start]; rfl
  obtain ⟨b7, hb7⟩ : ∃ b, b = W0.heap.size := ⟨_, rfl⟩
  rw [← hb7] at o7 ⊢
  have t1' := two_next t1 hBa
  have t2' := two_next t2 hBa
  have hbw0 : w.heap.size ≤ W0.heap.size := by
    have := hB0.size
    omega
  generalize W0.alloc (.cells (rep N (.int .i64 0)) 3) = W1 at *
  have hB0' : Below w.heap.size w W0 := hbg ▸ hB0
  have HW1 : Hid (RowV W1 b7 3 N (fun v => .int .i64 (inT G (fun i => ls.getD i []) 0 0 v : Int)) ∧ Below w.heap.size w W1 ∧ Two W1 b3 (.int .i64 (N : Int)) (.slice ao el cap) 24 ∧ Two W1 b4 (.int .i64 (M : Int)) (.slice ao2 el2 cap2) 24 ∧ b7 ≠ b3 ∧ b7 ≠ b4 ∧ w.heap.size ≤ b7) := ⟨o7, below_next hB0' hBa, t1', t2', by omega, by omega, by omega⟩
  have HKB : Hid (∀ A, Turns (fun k => k = b7) W1 A → Below w.heap.size w A ∧ Two A b3 (.int .i64 (N : Int)) (.slice ao el cap) 24 ∧ Two A b4 (.int .i64 (M : Int)) (.slice ao2 el2 cap2) 24) := fun A hA => by
    obtain ⟨_, h2, h3, h4, h5, h6, h7⟩ := HW1.out
    exact ⟨Turns.below h2 hA h2.size (fun k hk => by rw [hk]; exact h7), two_turns h3 hA (fun e => h5 e.symm), two_turns h4 hA (fun e => h6 e.symm)⟩
  clear o7 t1 t2 t1' t2' hB0 hB0' hBa hb7 hl1 hl2 hbw0 c0 c1 c2 c3 hmk hbg
  go_upto_region 5 with (fail)
  go_loopw [8] (fun s8 wz => ∃ i : Nat, i ≤ M ∧ s8 = .int .i64 (i : Int) ∧ Hid (RowV wz b7 3 N (fun v => .int .i64 (inT G (fun i => ls.getD i []) i 0 v : Int)) ∧ Turns (fun k => k = b7) W1 wz)) (fun s8 _ => M - (numOf s8).toNat)
  case atStart => exact ⟨0, Nat.zero_le _, rfl, HW1.out.1, Turns.refl _ _⟩
  case round =>
    obtain ⟨i, hi, rfl, hJ⟩ := hrel
    by_cases hlt : i < M
    · have k1 : decide ((i : Int) < (M : Int)) = true := by simp; omega
      have i0 : (0 : Int) ≤ (i : Int) := by omega
      have i1 : (i : Int) < (M : Int) := by omega
      obtain ⟨Li, hLi⟩ : ∃ L, L = ls.getD i [] := ⟨_, rfl⟩
      obtain ⟨hbw, ht3, _⟩ := HKB.out wr hJ.out.2
      obtain ⟨lb, vo, vc, hlo, ch, hnum⟩ := HHD.out wr hbw i hlt
      subst hlo
      have C28' : Hid (∀ A, Below wr.heap.size wr A → Calls Tryd.prog 28 #[.slice vo Li.length vc, .int .i64 (N : Int)] A fun e w' => e = .returned (.bool true) ∧ Below A.heap.size A w') := fun A hA => by
        rw [hLi]
        exact C28.out A (below_next hbw hA) i hlt vo vc (hnum.below hA)
      rw [← hLi] at ch hnum
      have HLI : Hid (Li.length ≤ 32 ∧ (∀ x ∈ Li, x < N) ∧ Li.Nodup ∧ (∀ v, G v = i + 1 ↔ v ∈ Li) ∧ Li = ls.getD i []) := ⟨by rw [hLi]; exact (HG.out.1 i hlt).1, by rw [hLi]; exact (HG.out.1 i hlt).2, by rw [hLi]; exact HG.out.2.2.2 i hlt, by rw [hLi]; exact HG.out.2.1 i hlt, hLi⟩
      obtain ⟨d0, d1⟩ := cell_two ht3
      have g0 := cell_growD ch
      have g1 := cell_growD d0
      clear d0 d1 ht3 hLi
      go_upto_region 7 with (fail)
      refine wp_region_below (by kernel_rfl) (by kernel_rfl) ?_
      repeat (go_big_quiet_step (first | (go_at_call 28; exact Calls.belowQ (fun W hW => C28'.out W hW))))
      refine wpQuiet_nil ?_
      rintro _ ⟨gp, rfl⟩
      have hB8 := growD_below wr gp
      clear g0 g1
      generalize growD wr gp = W8 at *
      have HW8 : Hid (RowV W8 b7 3 N (fun v => .int .i64 (inT G (fun i => ls.getD i []) i 0 v : Int)) ∧ Turns (fun k => k = b7) W1 W8) := ⟨hJ.out.1.block (hB8.block _ hJ.out.1.lt), hJ.out.2.trans (Turns.of_below hB8 _)⟩
      clear hB8 C28' hJ hbw ch hnum
      generalize wr = WR at *
      go_upto_region 10 with (fail)
      go_loopw [9] (fun s9 wz => ∃ k : Nat, k ≤ Li.length ∧ s9 = .int .i64 (k : Int) ∧ Hid (RowV wz b7 3 N (fun v => .int .i64 (inT G (fun i => ls.getD i []) i k v : Int)) ∧ Turns (fun k => k = b7) W1 wz)) (fun s9 _ => Li.length - (numOf s9).toNat)
      case atStart => exact ⟨0, Nat.zero_le _, rfl, HW8.out⟩
      case round =>
        obtain ⟨k, hk, rfl, hL⟩ := hrel
        obtain ⟨hbw, _, _⟩ := HKB.out wr hL.out.2
        obtain ⟨lb', vo', vc', hlo, ch, hnum⟩ := HHD.out wr hbw i hlt
        cases hlo
        rw [← HLI.out.2.2.2.2] at ch hnum
        obtain ⟨ll, hll⟩ : ∃ n, n = Li.length := ⟨_, rfl⟩
        rw [← hll] at ch hnum hk ⊢
        have HLL : Hid (ll = Li.length) := hll
        have hl32 : ll ≤ 32 := by rw [hll]; exact HLI.out.1
        by_cases hkt : k < ll
        · have k2 : decide ((k : Int) < (ll : Int)) = true := by simp; omega
          have hkt' : k < Li.length := by omega
          obtain ⟨vb, off, hvo, cx⟩ := hnum k hkt
          subst hvo
          obtain ⟨x, hx⟩ : ∃ x, x = Li.getD k 0 := ⟨_, rfl⟩
          have hxk : Li[k]? = some x := by rw [hx]; exact getD_some hkt'
          have hxm : x ∈ Li := List.mem_of_getElem? hxk
          have hxN := HLI.out.2.1 x hxm
          have hGx : G x = i + 1 := (HLI.out.2.2.2.1 x).2 hxm
          have hnt : x ∉ Li.take k := fun hm => by
            obtain ⟨j, hj, hje⟩ := List.mem_iff_getElem.1 hm
            have hj' : j < k := by rw [List.length_take] at hj; omega
            have e1 : Li[j]? = some x := by
              rw [← hje, List.getElem_take, List.getElem?_eq_getElem]
            have := (List.getElem?_inj (by omega) HLI.out.2.2.1).1 (e1.trans hxk.symm)
            omega
          have hz : inT G (fun i => ls.getD i []) i k x = 0 := inT_here hGx (by show x ∉ (ls.getD i []).take k; rw [← HLI.out.2.2.2.2]; exact hnt)
          have cx' : wr.cell? ⟨vb, off + k, none⟩ = some (.int .i64 (x : Int)) := by rw [hx]; exact cx
          have c7 : wr.cell? ⟨b7, x, none⟩ = some (.int .i64 0) := by
            have := hL.out.1.cell (j := x) hxN
            rw [hz] at this
            exact this
          have f7 := hL.out.1.free x
          have x0 : (0 : Int) ≤ (x : Int) := by omega
          have x1 : (x : Int) < (N : Int) := by omega
          have j0 : (0 : Int) ≤ (k : Int) := by omega
          have j1 : (k : Int) < (ll : Int) := by omega
          have HW6 : Hid (RowV (wr.setCell ⟨b7, x, none⟩ (.int .i64 ((i : Int) + 1))) b7 3 N (fun v => .int .i64 (inT G (fun i => ls.getD i []) i (k + 1) v : Int)) ∧ Turns (fun k => k = b7) W1 (wr.setCell ⟨b7, x, none⟩ (.int .i64 ((i : Int) + 1)))) := by
            refine ⟨(hL.out.1.set x _).congr fun v _ => ?_, hL.out.2.trans (setCell_turns _ _ _ _)⟩
            rw [inT_put hGx (by show (ls.getD i [])[k]? = some x; rw [← HLI.out.2.2.2.2]; exact hxk)]
            by_cases hv : v = x
            · simp [hv]
            · simp [hv]
          clear hx hxk hxm hxN hGx hnt hz cx hnum hL hbw hkt' hll
          go_wp2
          go_roundw
          case rel => exact ⟨k + 1, by have := HLL.out; omega, by simp, HW6.out⟩
          case measure => have := HLL.out; simp [numOf]; omega
        · have k2 : decide ((k : Int) < (ll : Int)) = false := by simp; omega
          have HW6 : Hid (RowV wr b7 3 N (fun v => .int .i64 (inT G (fun i => ls.getD i []) (i + 1) 0 v : Int)) ∧ Turns (fun k => k = b7) W1 wr) := by
            refine ⟨hL.out.1.congr fun v _ => ?_, hL.out.2⟩
            have hkl : k = ((fun i => ls.getD i []) i).length := by show k = (ls.getD i []).length; rw [← HLI.out.2.2.2.2]; omega
            rw [hkl, inT_next (G := G) (L := fun i => ls.getD i []) (i := i) (fun v hv => by show v ∈ ls.getD i []; rw [← HLI.out.2.2.2.2]; exact (HLI.out.2.2.2.1 v).1 hv)]
          clear hnum hL hbw hll
          go_wp2
          go_roundw
          case rel => exact ⟨i + 1, by omega, by simp, HW6.out⟩
          case measure => simp [numOf]; omega
    · have k1 : decide ((i : Int) < (M : Int)) = false := by simp; omega
      have him : i = M := by omega
      have HNF : Hid (NumF wr (some ⟨b7, 0, none⟩) N (fun v => (G v : Int)) ∧ Turns (fun k => k = b7) W1 wr) := by
        refine ⟨fun v hv => ⟨b7, 0, rfl, ?_⟩, hJ.out.2⟩
        have := hJ.out.1.cell (j := v) hv
        rw [him, inT_end HG.out.2.2.1] at this
        rw [Nat.zero_add]; exact this
      clear him hJ hi HHD C28
      go_upto_region 15 with (fail)
      generalize wr = WR at *
      obtain ⟨hbw, ht3, ht4⟩ := HKB.out WR HNF.out.2
      have HT : Hid (Below w.heap.size w WR ∧ Two WR b3 (.int .i64 (N : Int)) (.slice ao el cap) 24 ∧ Two WR b4 (.int .i64 (M : Int)) (.slice ao2 el2 cap2) 24) := ⟨hbw, ht3, ht4⟩
      clear hbw ht3 ht4 HKB HW1 HG
      refine region_ext (J := ST WR (VT (.agg #[.int .i64 (N : Int), .slice ao el cap]) (.agg #[.int .i64 (M : Int), .slice ao2 el2 cap2]) N M (hasB es) (hasB es2) b7)) (by kernel_rfl) (by kernel_rfl) (by kernel_rfl) ST.start ?_ ?_
      · intro ix o hi L xs a w1 hS hL hd hcl hX
        match ix, hi with
        | 0, hi =>
          cases hi
          have s1 := hX.out (s := 3) rfl
          obtain ⟨y0, y1⟩ := cell_two (two_next HT.out.2.1 hS.bel)
          refine wpOp_value rfl rfl (v := .agg #[.int .i64 (N : Int), .slice ao el cap]) (w' := w1) ?_ ⟨_, rfl, hS.put VT.mono (Below.refl _ _) rfl⟩
          simp [go_sem, Act.eval, s1, y0, y1]
        | 1, hi =>
          cases hi
          have l1 := hd ⟨0, .data⟩ (by simp) rfl
          have r1 := (hX.rd 0 _ 63 rfl rfl l1).trans (hS.told 0 l1)
          refine wpOp_call rfl rfl (f := 12) (args := #[.agg #[.int .i64 (N : Int), .slice ao el cap]]) (w' := w1) ?_ ?_
          · simp [go_sem, Act.eval, r1]
          · refine Calls.mono (C12.out _ (below_next HT.out.1 hS.bel)) ?_
            rintro e w2 ⟨hB', go, gc, rfl, hg⟩
            exact ⟨_, rfl, _, rfl, hS.put VT.mono hB' ⟨go, gc, rfl, hg⟩⟩
        | 2, hi =>
          cases hi
          have s1 := hX.out (s := 4) rfl
          obtain ⟨y0, y1⟩ := cell_two (two_next HT.out.2.2 hS.bel)
          refine wpOp_value rfl rfl (v := .agg #[.int .i64 (M : Int), .slice ao2 el2 cap2]) (w' := w1) ?_ ⟨_, rfl, hS.put VT.mono (Below.refl _ _) rfl⟩
          simp [go_sem, Act.eval, s1, y0, y1]
        | 3, hi =>
          cases hi
          have l1 := hd ⟨2, .data⟩ (by simp) rfl
          have r1 := (hX.rd 2 _ 65 rfl rfl l1).trans (hS.told 2 l1)
          refine wpOp_call rfl rfl (f := 12) (args := #[.agg #[.int .i64 (M : Int), .slice ao2 el2 cap2]]) (w' := w1) ?_ ?_
          · simp [go_sem, Act.eval, r1]
          · refine Calls.mono (C12b.out _ (below_next HT.out.1 hS.bel)) ?_
            rintro e w2 ⟨hB', go, gc, rfl, hg⟩
            exact ⟨_, rfl, _, rfl, hS.put VT.mono hB' ⟨go, gc, rfl, hg⟩⟩
        | 4, hi =>
          cases hi
          have s1 := hX.out (s := 7) rfl
          refine wpOp_value rfl rfl (v := sl b7 N) (w' := w1) ?_ ⟨_, rfl, hS.put VT.mono (Below.refl _ _) rfl⟩
          simp [go_sem, Act.eval, s1]
        | 5, hi =>
          cases hi
          have l1 := hd ⟨1, .data⟩ (by simp) rfl
          have l3 := hd ⟨3, .data⟩ (by simp) rfl
          have l4 := hd ⟨4, .data⟩ (by simp) rfl
          obtain ⟨go, gc, e1, hg⟩ := hS.told 1 l1
          obtain ⟨ho, hc, e3, hh⟩ := hS.told 3 l3
          have r1 := (hX.rd 1 _ 64 rfl rfl l1).trans e1
          have r3 := (hX.rd 3 _ 66 rfl rfl l3).trans e3
          have r4 := (hX.rd 4 _ 67 rfl rfl l4).trans (hS.told 4 l4)
          refine wpOp_call rfl rfl (f := 29) (args := #[.slice go N gc, .slice ho M hc, sl b7 N]) (w' := w1) ?_ ?_
          · simp [go_sem, Act.eval, r1, r3, r4]
          · refine Calls.mono (C29.out _ _ _ _ _ _ hg hh (HNF.out.1.below hS.bel)) ?_
            rintro e w2 ⟨rfl, hB'⟩
            exact ⟨_, rfl, _, rfl, hS.put VT.mono hB' rfl⟩
        | 6, hi =>
          cases hi
          have l1 := hd ⟨5, .data⟩ (by simp) rfl
          have r1 := (hX.rd 5 _ 68 rfl rfl l1).trans (hS.told 5 l1)
          refine wpOp_value rfl rfl (v := .bool true) (w' := w1) ?_ ⟨_, rfl, hS.put VT.mono (Below.refl _ _) rfl⟩
          simp [go_sem, Act.eval, r1]
        | _ + 7, hi => cases hi
      · intro L xs W7 hS hall
        have hz : xs 6 = .bool true := hS.told 6 (hall 6 (by decide))
        have hB7 := below_next HT.out.1 hS.bel
        simp only [puts, hz]
        simp only [Act.put, List.setIfInBounds_toArray, List.set_cons_succ, List.set_cons_zero]
        clear hS hall
        go_wp2
        go_ret
        exact ⟨rfl, hB7⟩
end Go.Proofs.YthjkjanibkpgiaaDoor

namespace Go.Proofs.YthjkjanibkpgiaaDoor
set_option maxRecDepth 8000
open Go.RowKit Go.Maps
attribute [local go_sem ↓] Go.wp_at_zero Go.wp_at_succ
theorem pq_ex (pg : Int → Int → Bool) (N : Nat) : ∃ PQ : (Nat → Nat) → Nat → Nat, ∀ G k, ∃ R : Nat → Nat → Bool, (∀ v x, R v x = true ↔ Star (St N (pn pg) (openB (fun x => !(G x == k)))) v x) ∧ PQ G k = partsN N (openB (fun x => !(G x == k))) R :=
  ⟨fun G k => partsN N (openB (fun x => !(G x == k))) (fun v x => @decide _ (Classical.propDecidable (Star (St N (pn pg) (openB (fun x => !(G x == k)))) v x))), fun G k => ⟨_, fun v x => by simp, rfl⟩⟩
/-- No list that goes on with l is a model. -/
def NoM (pg ph : Int → Int → Bool) (PQ : (Nat → Nat) → Nat → Nat) (N M : Nat) (l : List Nat) : Prop := ∀ l' : List Nat, (l ++ l').length = N → (∀ x ∈ l ++ l', x ≤ M) → modB pg ph (PQ fun v => (l ++ l').getD v 0) (fun v => (l ++ l').getD v 0) N M = false
set_option maxHeartbeats 16000000 in
theorem refMinor_call {go ho : Option Addr} {gc hc N M : Nat} {pg ph : Int → Int → Bool} {PQ : (Nat → Nat) → Nat → Nat} (hPQ : ∀ G k, ∃ R : Nat → Nat → Bool, (∀ v x, R v x = true ↔ Star (St N (pn pg) (openB (fun x => !(G x == k)))) v x) ∧ PQ G k = partsN N (openB (fun x => !(G x == k))) R) (hN : N ≤ 100) (hM : M ≤ 100) : ∀ (c : Nat) (l : List Nat) (w : World) (vo : Option Addr) (vc : Nat),
    l.length + c = N → NumF w vo l.length (fun i => (l.getD i 0 : Int)) → GridAt w (.slice go N gc) N pg → GridAt w (.slice ho M hc) M ph → (∀ x ∈ l, x ≤ M) → NoM pg ph PQ N M l →
    Calls Tryd.prog 30 #[.slice go N gc, .slice ho M hc, .slice vo l.length vc] w fun e w' => e = .returned (.bool false) ∧ Below w.heap.size w w' := by
  intro c
  induction c with
  | zero =>
    intro l w vo vc hlen hL hG hH hlM hno
    have hn : l.length = N := by omega
    have hmod := hno [] (by simpa using hn) (by simpa using hlM)
    rw [List.append_nil] at hmod
    rw [hn] at hL ⊢
    have C29 : Hid (Calls Tryd.prog 29 #[.slice go N gc, .slice ho M hc, .slice vo N vc] w fun e w' => e = .returned (.bool false) ∧ Below w.heap.size w w') := by
      have := model_call (vc := vc) hG hH hL hN hM (fun v hv => by
        have : l.getD v 0 ∈ l := by
          rw [List.getD_eq_getElem?_getD, List.getElem?_eq_getElem (by omega)]
          exact List.getElem_mem _
        have := hlM _ this; omega) (hPQ _)
      rw [hmod] at this
      exact this
    have k1 : ((N : Int) == (N : Int)) = true := by simp
    clear hL hG hH hlM hno hmod hlen hn
    go_enter Tryd.func30, Tryd.ntmps30
    go_wp2_with (first | (go_at_call 29; refine Calls.mono C29.out ?_; rintro e w2 ⟨rfl, h2⟩) | fail)
    go_ret
    exact ⟨rfl, h2⟩
  | succ c ih =>
    intro l w vo vc hlen hL hG hH hlM hno
    obtain ⟨m, hm⟩ : ∃ m, m = l.length := ⟨_, rfl⟩
    have C30 : Hid (∀ (A : World) (x : Nat) po pc, Below w.heap.size w A → x ≤ M → NumF A po (l ++ [x]).length (fun i => ((l ++ [x]).getD i 0 : Int)) → Calls Tryd.prog 30 #[.slice go N gc, .slice ho M hc, .slice po (m + 1) pc] A fun e w' => e = .returned (.bool false) ∧ Below A.heap.size A w') := fun A x po pc hA hx hnum => by
      have h := ih (l ++ [x]) A po pc (by simp; omega) hnum (hG.below hA) (hH.below hA) (fun y hy => by
        rcases List.mem_append.1 hy with h1 | h1
        · exact hlM y h1
        · simp at h1; omega) (fun l' h1 h2 => by
        have e : (l ++ [x]) ++ l' = l ++ x :: l' := by simp
        rw [e] at h1 h2 ⊢
        exact hno (x :: l') h1 h2)
      rw [show (l ++ [x]).length = m + 1 by simp [hm]] at h
      exact h
    have HL : Hid (NumF w vo l.length (fun i => (l.getD i 0 : Int)) ∧ m = l.length) := ⟨hL, hm⟩
    have hmN : m < N := by omega
    rw [← hm]
    have k0 : ((m : Int) == (N : Int)) = false := by simp; omega
    have k0' : ¬ (m : Int) = (N : Int) := by omega
    clear hL hG hH hlM hno hlen hm ih hPQ
    go_enter Tryd.func30, Tryd.ntmps30
    go_upto_region 4 with (fail)
    go_loopw [7] (fun s7 wz => ∃ k : Nat, k ≤ M + 1 ∧ s7 = .int .i64 (k : Int) ∧ Hid (Below w.heap.size w wz)) (fun s7 _ => M + 1 - (numOf s7).toNat)
    case atStart => exact ⟨0, Nat.zero_le _, rfl, Below.refl _ _⟩
    case round =>
      obtain ⟨k, hk, rfl, HW⟩ := hrel
      by_cases hlt : k ≤ M
      · have k1 : (k : Int) ≤ (M : Int) := by omega
        have D30 : Hid (∀ A po pc, Below w.heap.size w A → NumF A po (l ++ [k]).length (fun i => ((l ++ [k]).getD i 0 : Int)) → Calls Tryd.prog 30 #[.slice go N gc, .slice ho M hc, .slice po (m + 1) pc] A fun e w' => e = .returned (.bool false) ∧ Below A.heap.size A w') := fun A po pc hA hnum => C30.out A k po pc hA hlt hnum
        go_wp2_with (first
          | (at_builtin; (have hh := hR1; clear hh); refine wpList_pushH (x := k) HL.out.2 rfl _ _ rfl rfl rfl hR1.out.1 (by omega) hR1.out.2.2 ?_; intro g3 c3 W3 h3 h4; have hR2 : Hid _ := h3; have hR3 : Hid (Below w.heap.size w W3) := (below_alloc (below_next HW.out hR1.out.2.1) _).grown h4 (by have := HW.out.size; have := hR1.out.2.2; simp; omega) (fun q hq => Nat.le_trans HW.out.size (hR1.out.1.lt q hq).1); clear h3 h4)
          | (at_builtin; refine wpList_copyNilH HL.out.2 rfl _ _ rfl rfl rfl (HL.out.1.below HW.out) (by have := HL.out.2; omega) ?_; intro po pc W2 h1 h2; have hR1 : Hid (W2.ownsRow wr.heap.size 3 1 (.slice po m pc) m (qv l) ∧ Below wr.heap.size wr W2 ∧ wr.heap.size ≤ W2.heap.size) := ⟨h1, h2, h2.size⟩; clear h1 h2)
          | (go_at_call 30; refine Calls.mono (D30.out _ _ _ hR3.out (num_own hR2.out)) ?_; rintro e W4 ⟨rfl, h5⟩; have hR4 : Hid (Below w.heap.size w W4) := below_next hR3.out h5; clear h5)
          | fail)
        go_roundw
        case rel => exact ⟨k + 1, by omega, by simp, hR4.out⟩
        case measure => simp [numOf]; omega
      · have k1 : ¬ (k : Int) ≤ (M : Int) := by omega
        go_wp2
        go_ret
        exact ⟨rfl, HW.out⟩
set_option maxHeartbeats 4000000 in
theorem refMin_call {w : World} {go ho : Option Addr} {gc hc N M : Nat} {pg ph : Int → Int → Bool} {PQ : (Nat → Nat) → Nat → Nat} (hPQ : ∀ G k, ∃ R : Nat → Nat → Bool, (∀ v x, R v x = true ↔ Star (St N (pn pg) (openB (fun x => !(G x == k)))) v x) ∧ PQ G k = partsN N (openB (fun x => !(G x == k))) R) (hN : N ≤ 100) (hM : M ≤ 100)
    (hG : GridAt w (.slice go N gc) N pg) (hH : GridAt w (.slice ho M hc) M ph) (hno : NoM pg ph PQ N M []) :
    Calls Tryd.prog 11 #[.slice go N gc, .slice ho M hc] w fun e w' => e = .returned (.bool false) ∧ Below w.heap.size w w' := by
  have C30 : Hid (∀ A, Below w.heap.size w A → Calls Tryd.prog 30 #[.slice go N gc, .slice ho M hc, .slice none 0 0] A fun e w' => e = .returned (.bool false) ∧ Below A.heap.size A w') := fun A hA =>
    refMinor_call hPQ hN hM N [] A none 0 (by simp) (fun j hj => by simp at hj) (hG.below hA) (hH.below hA) (fun x hx => by cases hx) hno
  clear hG hH hno hPQ
  go_enter Tryd.func11, Tryd.ntmps11
  go_wp2_with (first | (go_at_call 30; refine Calls.mono (C30.out _ (Below.refl _ _)) ?_; rintro e w2 ⟨rfl, h2⟩) | fail)
  go_ret
  exact ⟨rfl, h2⟩
end Go.Proofs.YthjkjanibkpgiaaDoor
