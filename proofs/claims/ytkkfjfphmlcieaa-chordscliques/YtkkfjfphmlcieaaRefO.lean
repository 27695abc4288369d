/- The document's own answers: Rank, All, Ring, Clear. -/
import Derived.BigQuiet
import Derived.Test.YtkkfjfphmlcieaaOrderW
namespace Go.Proofs.Ytkkfjfphmlcieaa
open Go.RowKit Go.Maps
attribute [local go_sem ↓] Go.wp_at_zero Go.wp_at_succ
/-- The first n numbers that lie there. -/
def NumF (w : World) (vo : Option Addr) (n : Nat) (f : Nat → Int) : Prop := ∀ j, j < n → ∃ b off, vo = some ⟨b, off, none⟩ ∧ w.cell? ⟨b, off + j, none⟩ = some (.int .i64 (f j))
theorem drewN_add (w : World) (a b : Nat) : (w.drewN a).drewN b = w.drewN (a + b) := World.drewN_drewN w a b
/-- A ring of nodes. -/
structure RingF (N : Nat) (q : Nat → Nat → Bool) (n : Nat) (rg : Nat → Nat) : Prop where
  len : 3 ≤ n
  lt : ∀ i, i < n → rg i < N
  ne : ∀ i j, i < n → j < i → rg i ≠ rg j
  edge : ∀ i, i < n → q (rg i) (rg ((i + 1) % n)) = true
theorem cells_below {w w' : World} {g n : Nat} {rg : Nat → Nat} (h : ∀ k, k < n → w.cell? ⟨g, k, none⟩ = some (.int .i64 (rg k : Int))) (hb : Below w.heap.size w w') : ∀ k, k < n → w'.cell? ⟨g, k, none⟩ = some (.int .i64 (rg k : Int)) := fun k hk => (hb.cell (by exact World.block_lt_of_cell? w _ (h k hk))).trans (h k hk)
set_option maxHeartbeats 600000 in
theorem rank_call {w : World} {vo : Option Addr} {n vc : Nat} {f : Nat → Int} (h : NumF w vo n f) (hn : n ≤ 100000) (x : Int) :
    Calls Try.prog 26 #[.slice vo n vc, .int .i64 x] w fun e w' => (∃ m : Nat, e = .returned (.int .i64 (m : Int)) ∧ m ≤ n ∧ (∀ j, j < m → f j ≠ x) ∧ (m < n → f m = x)) ∧ w' = w := by
  have H : Hid (NumF w vo n f) := h
  clear h
  go_enter Try.func26, Try.ntmps26
  go_wp2
  go_loopw [4, 5] (fun _ i wr => ∃ k : Nat, k ≤ n ∧ i = .int .i64 (k : Int) ∧ (∀ j, j < k → f j ≠ x) ∧ wr = w) (fun _ i _ => n - (numOf i).toNat)
  case atStart => exact ⟨0, Nat.zero_le _, rfl, fun j hj => by omega, rfl⟩
  case round =>
    obtain ⟨k, hk, rfl, hne, hwr⟩ := hrel
    have hwr' := hwr.symm
    clear hwr
    subst hwr'
    have HNE : Hid (∀ j, j < k → f j ≠ x) := hne
    clear hne
    by_cases hlt : k < n
    · obtain ⟨b, off, rfl, ck⟩ := H.out k hlt
      have i1 : (0 : Int) ≤ (k : Int) := by omega
      have i2 : (k : Int) < (n : Int) := by omega
      by_cases he : f k = x
      · have k1 : (f k == x) = true := by rw [beq_iff_eq]; exact he
        have HE : Hid (f k = x) := he
        clear he
        go_wp2
        go_ret
        exact ⟨⟨k, rfl, hk, HNE.out, fun _ => HE.out⟩, rfl⟩
      · have k1 : (f k == x) = false := by rw [beq_eq_false_iff_ne]; exact he
        have HE : Hid (f k ≠ x) := he
        clear he
        go_wp2
        go_roundw
        case rel => exact ⟨k + 1, by omega, by go_num, fun j hj => by
          by_cases e : j = k
          · subst e; exact HE.out
          · exact HNE.out j (by omega), trivial⟩
        case measure => simp [numOf]; omega
    · have i2 : ¬ (k : Int) < (n : Int) := by omega
      have hkn : k = n := by omega
      subst hkn
      go_wp2
      go_ret
      exact ⟨⟨k, rfl, Nat.le_refl _, HNE.out, fun h => by omega⟩, rfl⟩

set_option maxHeartbeats 1000000 in
theorem all_true {w : World} {vo : Option Addr} {n vc : Nat} {f : Nat → Int} (h : NumF w vo n f) (hn : n ≤ 1000) (hc : n ≤ vc) (hlt : ∀ j, j < n → 0 ≤ f j ∧ f j < n) (hinj : ∀ i j, i < n → j < n → f i = f j → i = j) :
    Calls Try.prog 12 #[.slice vo n vc, .int .i64 (n : Int)] w fun e w' => e = .returned (.bool true) ∧ Below w.heap.size w w' := by
  have H : Hid (NumF w vo n f) := h
  have HL : Hid (∀ j, j < n → 0 ≤ f j ∧ f j < n) := hlt
  have HI : Hid (∀ i j, i < n → j < n → f i = f j → i = j) := hinj
  clear h hlt hinj
  have k0 : ((n : Int) != (n : Int)) = false := by simp
  go_enter Try.func12, Try.ntmps12
  go_wp2
  go_loopw [4, 5] (fun _ i wr => ∃ k : Nat, k ≤ n ∧ i = .int .i64 (k : Int) ∧ ∃ m, wr = w.drewN m) (fun _ i _ => n - (numOf i).toNat)
  case atStart => exact ⟨0, Nat.zero_le _, rfl, 0, rfl⟩
  case round =>
    obtain ⟨k, hk, rfl, m0, hm0⟩ := hrel
    have HM : Hid (wr = w.drewN m0) := hm0
    by_cases hltk : k < n
    · obtain ⟨b, off, rfl, ck⟩ := H.out k hltk
      have ck1 : wr.cell? ⟨b, off + k, none⟩ = some (.int .i64 (f k)) := by rw [hm0]; exact ck
      obtain ⟨hf1, hf2⟩ := HL.out k hltk
      have h26 : ∀ m, Calls Try.prog 26 #[.slice (some ⟨b, off, none⟩) k vc, .int .i64 (f k)] (wr.drewN m) fun e w' => e = .returned (.int .i64 (k : Int)) ∧ w' = wr.drewN m := fun m => (rank_call (n := k) (f := f) (fun j hj => by
        obtain ⟨b', off', e, hc'⟩ := H.out j (by omega)
        cases e
        exact ⟨b, off, rfl, by rw [hm0]; exact hc'⟩) (by omega) (f k)).mono (by
        rintro e w' ⟨⟨q, rfl, hq, h1, h2⟩, rfl⟩
        refine ⟨?_, rfl⟩
        have : q = k := by
          by_cases e : q < k
          · have := HI.out q k (by omega) hltk (h2 e)
            omega
          · omega
        rw [this])
      have H26 : Hid (∀ m, Calls Try.prog 26 #[.slice (some ⟨b, off, none⟩) k vc, .int .i64 (f k)] (wr.drewN m) fun e w' => e = .returned (.int .i64 (k : Int)) ∧ w' = wr.drewN m) := h26
      have i1 : (0 : Int) ≤ (k : Int) := by omega
      have i2 : (k : Int) < (n : Int) := by omega
      have i3 : ¬ f k < 0 := by omega
      have i4 : ¬ f k ≥ (n : Int) := by omega
      have i5 : ¬ (k : Int) < (k : Int) := by omega
      have i6 : (k : Int) ≤ (vc : Int) := by omega
      clear hm0 ck h26 hf1 hf2
      go_upto_region 6 with (fail)
      go_quiet ((go_at_call 26; exact Calls.quiet_of_same (H26.out _)))
      go_wp2
      go_roundw
      case rel => exact ⟨k + 1, by omega, by go_num, m0 + nq, by rw [HM.out, drewN_add]⟩
      case measure => simp [numOf]; omega
    · have i2 : ¬ (k : Int) < (n : Int) := by omega
      clear hm0
      go_wp2
      go_ret
      exact ⟨rfl, by rw [HM.out]; exact drewN_below w m0⟩

set_option maxRecDepth 10000 in
set_option maxHeartbeats 4000000 in
theorem refRing_call (N : Nat) (ao : Option Addr) (cap : Nat) (p : Int → Int → Bool) (w : World) (hG : GridAt w (.slice ao N cap) N p) {g n c : Nat} {rg : Nat → Nat} (hrow : ∀ k, k < n → w.cell? ⟨g, k, none⟩ = some (.int .i64 (rg k : Int))) (hn : n ≤ 3000) (hr : RingF N (fun x y => p x y) n rg) :
    Calls Try.prog 25 #[.slice ao N cap, .slice (some ⟨g, 0, none⟩) n c] w fun r w' => r = .returned (.bool true) ∧ Below w.heap.size w w' := by
  obtain ⟨ao', cap', e0, hgrid⟩ := hG
  cases e0
  have HGR : Hid _ := hgrid
  have HR : Hid _ := hr
  have hn3 := hr.len
  have h3 : ¬ (n : Int) < 3 := by omega
  clear hgrid hr
  go_enter Try.func25, Try.ntmps25
  go_wp2
  go_loopw [5] (fun i wr => ∃ k : Nat, k ≤ n ∧ i = .int .i64 (k : Int) ∧ Below w.heap.size w wr) (fun i _ => n - (numOf i).toNat)
  case atStart => exact ⟨0, Nat.zero_le _, rfl, Below.refl _ _⟩
  case round =>
    obtain ⟨k, hk, rfl, hB⟩ := hrel
    by_cases hkn : k < n
    · have hrk := cells_below hrow hB
      have ck := hrk k hkn
      have hlt := HR.out.lt k hkn
      have i1 : (0 : Int) ≤ (k : Int) := by omega
      have i2 : (k : Int) < (n : Int) := by omega
      have z1 : ¬ (rg k : Int) < 0 := by omega
      have z2 : ¬ (N : Int) ≤ (rg k : Int) := by omega
      go_wp2
      clear ck
      go_loopw [6] (fun i wq => ∃ t : Nat, t ≤ k ∧ i = .int .i64 (t : Int) ∧ Below w.heap.size w wq) (fun i _ => k - (numOf i).toNat)
      case atStart => exact ⟨0, Nat.zero_le _, rfl, hB⟩
      case round =>
        obtain ⟨t, ht, rfl, hBq⟩ := hrel
        by_cases htk : t < k
        · have hrq := cells_below hrow hBq
          have ck := hrq k hkn
          have ct := hrq t (by omega)
          have hne := HR.out.ne k t hkn htk
          have hne' : ¬ (rg k : Int) = (rg t : Int) := by omega
          have j1 : (0 : Int) ≤ (t : Int) := by omega
          have j2 : (t : Int) < (n : Int) := by omega
          clear hne
          go_upto_region 11 with (fail)
          go_quiet (fail)
          all_goals
            go_wp2
            go_roundw
            case rel => exact ⟨t + 1, by omega, by go_num, below_drewN hBq _⟩
            case measure => simp [numOf]; omega
        · have hte : k = t := by omega
          subst hte
          go_wp2
          go_roundw
          case rel => exact ⟨k + 1, by omega, by go_num, hBq⟩
          case measure => simp [numOf]; omega
    · have hke : n = k := by omega
      subst hke
      go_wp2
      go_loopw [7] (fun i wr => ∃ k : Nat, k ≤ n ∧ i = .int .i64 (k : Int) ∧ Below w.heap.size w wr) (fun i _ => n - (numOf i).toNat)
      case atStart => exact ⟨0, Nat.zero_le _, rfl, hB⟩
      case round =>
        obtain ⟨k, hk, rfl, hBq⟩ := hrel
        clear hB
        by_cases hkn : k < n
        · have hrq := cells_below hrow hBq
          obtain ⟨k', hk'⟩ : ∃ k', k' = (k + 1) % n := ⟨_, rfl⟩
          have hkn' : k' < n := by rw [hk']; exact Nat.mod_lt _ (by omega)
          have hmod : ((k : Int) + 1).tmod (n : Int) = (k' : Int) := by
            rw [Int.tmod_eq_emod_of_nonneg (by omega), hk']
            simp
          have ck := hrq k hkn
          have ck' := hrq k' hkn'
          have hed := HR.out.edge k hkn
          rw [← hk'] at hed
          have hl1 := HR.out.lt k hkn
          have hl2 := HR.out.lt k' hkn'
          obtain ⟨gg, b, rfl, g0, g1⟩ := HGR.out (rg k) hl1
          have g2 := g1 (rg k') hl2
          have hed' : p (rg k) (rg k') = true := hed
          rw [hed'] at g2
          have l0 := World.block_lt_of_cell? w _ g0
          have l2 := World.block_lt_of_cell? w _ g2
          rw [← hBq.cell (by exact l0)] at g0
          rw [← hBq.cell (by exact l2)] at g2
          clear g1 hed hed' hk'
          have i1 : (0 : Int) ≤ (k : Int) := by omega
          have i2 : (k : Int) < (n : Int) := by omega
          have j1 : (0 : Int) ≤ (k' : Int) := by omega
          have j2 : (k' : Int) < (n : Int) := by omega
          have m1 : (0 : Int) ≤ (rg k : Int) := by omega
          have m2 : (rg k : Int) < (N : Int) := by omega
          have m3 : (0 : Int) ≤ (rg k' : Int) := by omega
          have m4 : (rg k' : Int) < (N : Int) := by omega
          have hn0 : ¬ (n : Int) = 0 := by omega
          have hn1 : ¬ (n : Int) = -1 := by omega
          go_upto_region 16 with (fail)
          go_quiet (fail)
          all_goals
            go_wp2
            go_roundw
            case rel => exact ⟨k + 1, by omega, by go_num, below_drewN hBq _⟩
            case measure => simp [numOf]; omega
        · have hke : n = k := by omega
          subst hke
          go_wp2
          go_ret
          exact ⟨rfl, hBq⟩

set_option maxRecDepth 10000 in
set_option maxHeartbeats 4000000 in
theorem clear_call (N : Nat) (ao : Option Addr) (cap : Nat) (p : Int → Int → Bool) (w : World) (hG : GridAt w (.slice ao N cap) N p) {g n c : Nat} {rg : Nat → Nat} (hrow : ∀ k, k < n → w.cell? ⟨g, k, none⟩ = some (.int .i64 (rg k : Int))) (hn : n ≤ 3000) (hr : RingF N (fun x y => p x y) n rg)
    (hno : ∀ i j : Nat, j + 1 < i → i < n → ¬ (i = n - 1 ∧ j = 0) → p (rg i) (rg j) = false) :
    Calls Try.prog 11 #[.slice ao N cap, .slice (some ⟨g, 0, none⟩) n c] w fun r w' => r = .returned (.bool true) ∧ Below w.heap.size w w' := by
  have H25 : Hid (Calls Try.prog 25 #[.slice ao N cap, .slice (some ⟨g, 0, none⟩) n c] w fun r w' => r = .returned (.bool true) ∧ Below w.heap.size w w') := refRing_call N ao cap p w hG hrow hn hr
  obtain ⟨ao', cap', e0, hgrid⟩ := hG
  cases e0
  have HGR : Hid _ := hgrid
  have HR : Hid _ := hr
  have HNO : Hid (∀ i j : Nat, j + 1 < i → i < n → ¬ (i = n - 1 ∧ j = 0) → p (rg i) (rg j) = false) := hno
  have HRW : Hid (∀ k, k < n → w.cell? ⟨g, k, none⟩ = some (.int .i64 (rg k : Int))) := hrow
  clear hgrid hr hno hrow
  go_enter Try.func11, Try.ntmps11
  go_upto_region 3 with (first | (go_at_call 25; refine Calls.mono H25.out ?_; rintro e w1 ⟨rfl, hb1⟩) | go_in)
  clear H25
  go_wp2
  go_loopw [5, 6, 7] (fun i _ _ wr => ∃ k : Nat, k ≤ n ∧ i = .int .i64 (k : Int) ∧ Below w.heap.size w wr) (fun i _ _ _ => n - (numOf i).toNat)
  case atStart => exact ⟨0, Nat.zero_le _, rfl, hb1⟩
  case round =>
    obtain ⟨k, hk, rfl, hB⟩ := hrel
    by_cases hkn : k < n
    · have i2 : (k : Int) < (n : Int) := by omega
      go_wp2
      go_loopw [6, 7] (fun i _ wq => ∃ t : Nat, t ≤ k ∧ i = .int .i64 (t : Int) ∧ Below w.heap.size w wq) (fun i _ _ => k - (numOf i).toNat)
      case atStart => exact ⟨0, Nat.zero_le _, rfl, hB⟩
      case round =>
        obtain ⟨t, ht, rfl, hBq⟩ := hrel
        by_cases htk : t < k
        · have j0 : (t : Int) < (k : Int) := by omega
          obtain ⟨bb, hbb⟩ : ∃ bb : Bool, bb = ((k : Int) - (t : Int) == 1 || ((k : Int) == (n : Int) - 1 && (t : Int) == 0)) := ⟨_, rfl⟩
          have hrq := cells_below HRW.out hBq
          have ck := hrq k hkn
          have ct := hrq t (by omega)
          have hl1 := HR.out.lt k hkn
          have hl2 := HR.out.lt t (by omega)
          obtain ⟨gg, b, rfl, g0, g1⟩ := HGR.out (rg k) hl1
          have g2 := g1 (rg t) hl2
          have l0 := World.block_lt_of_cell? w _ g0
          have l2 := World.block_lt_of_cell? w _ g2
          rw [← hBq.cell (by exact l0)] at g0
          rw [← hBq.cell (by exact l2)] at g2
          have i1 : (0 : Int) ≤ (k : Int) := by omega
          have j1 : (0 : Int) ≤ (t : Int) := by omega
          have j2 : (t : Int) < (n : Int) := by omega
          have m1 : (0 : Int) ≤ (rg k : Int) := by omega
          have m2 : (rg k : Int) < (N : Int) := by omega
          have m3 : (0 : Int) ≤ (rg t : Int) := by omega
          have m4 : (rg t : Int) < (N : Int) := by omega
          have w1 : IntKind.i64.wrap ((k : Int) - (t : Int)) = (k : Int) - (t : Int) := by rw [IntKind.wrap_i64]; omega
          have w2 : IntKind.i64.wrap ((n : Int) - 1) = (n : Int) - 1 := by rw [IntKind.wrap_i64]; omega
          have HBQ : Hid (Below w.heap.size w wr) := hBq
          clear g1 hrq hBq l0 l2 hB
          by_cases h1 : (k : Int) - (t : Int) = 1
          · have q1 : ((k : Int) - (t : Int) == 1) = true := by rw [beq_iff_eq]; exact h1
            clear h1 g0 g2 ck ct hbb
            go_upto_region 10 with (fail)
            go_quiet (fail)
            go_wp2
            go_roundw
            case rel => exact ⟨t + 1, by omega, by go_num, below_drewN HBQ.out _⟩
            case measure => simp [numOf]; omega
          · have q1 : ((k : Int) - (t : Int) == 1) = false := by rw [beq_eq_false_iff_ne]; exact h1
            by_cases h2 : k = n - 1 ∧ t = 0
            · have q2 : ((k : Int) == (n : Int) - 1) = true := by rw [beq_iff_eq]; omega
              have q3 : ((t : Int) == 0) = true := by rw [beq_iff_eq]; omega
              clear h1 h2 g0 g2 ck ct hbb
              go_upto_region 10 with (fail)
              go_quiet (fail)
              go_wp2
              go_roundw
              case rel => exact ⟨t + 1, by omega, by go_num, below_drewN HBQ.out _⟩
              case measure => simp [numOf]; omega
            · have hp := HNO.out k t (by omega) hkn h2
              rw [hp] at g2
              have q2 : ((k : Int) == (n : Int) - 1 && (t : Int) == 0) = false := by
                rw [Bool.and_eq_false_iff, beq_eq_false_iff_ne, beq_eq_false_iff_ne]
                omega
              by_cases h3 : (k : Int) = (n : Int) - 1
              · have q3 : ((k : Int) == (n : Int) - 1) = true := by rw [beq_iff_eq]; exact h3
                have q4 : ((t : Int) == 0) = false := by rw [beq_eq_false_iff_ne]; omega
                clear h1 h2 h3 hp q2 hbb
                go_upto_region 10 with (fail)
                go_quiet (fail)
                go_wp2
                go_roundw
                case rel => exact ⟨t + 1, by omega, by go_num, below_drewN HBQ.out _⟩
                case measure => simp [numOf]; omega
              · have q3 : ((k : Int) == (n : Int) - 1) = false := by rw [beq_eq_false_iff_ne]; exact h3
                clear h1 h2 h3 hp q2 hbb
                go_upto_region 10 with (fail)
                go_quiet (fail)
                go_wp2
                go_roundw
                case rel => exact ⟨t + 1, by omega, by go_num, below_drewN HBQ.out _⟩
                case measure => simp [numOf]; omega
        · have hte : k = t := by omega
          subst hte
          go_wp2
          go_roundw
          case rel => exact ⟨k + 1, by omega, by go_num, hBq⟩
          case measure => simp [numOf]; omega
    · have hke : n = k := by omega
      subst hke
      go_wp2
      go_ret
      exact ⟨rfl, hB⟩
end Go.Proofs.Ytkkfjfphmlcieaa
