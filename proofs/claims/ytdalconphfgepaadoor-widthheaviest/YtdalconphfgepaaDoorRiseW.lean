/- The numbers of a set in their order: set.rising. -/
import Derived.Test.YtdalconphfgepaaDoorTreeW
namespace Go.Proofs.YtdalconphfgepaaDoor
set_option maxRecDepth 8000
open Go.RowKit Go.Maps
attribute [local go_sem ↓] Go.wp_at_zero Go.wp_at_succ
def bitsL (x : Nat) : List Nat := (List.range 64).filter x.testBit
theorem filter_first {p q : Nat → Bool} {n k : Nat} (hk : k < n) (h1 : p k = true) (h2 : ∀ z, z < k → p z = false) (h3 : ∀ z, q z = (p z && z != k)) : (List.range n).filter p = k :: (List.range n).filter q := by
  obtain ⟨r, rfl⟩ : ∃ r, n = k + (r + 1) := ⟨n - k - 1, by omega⟩
  rw [List.range_add, List.range_succ_eq_map]
  simp only [List.filter_append, List.map_cons, Nat.add_zero, List.filter_cons, h1, if_true, h3, bne_self_eq_false, Bool.and_false, Bool.false_eq_true, if_false]
  have e1 : (List.range k).filter p = [] := List.filter_eq_nil_iff.2 fun z hz => by rw [h2 z (List.mem_range.1 hz)]; simp
  have e2 : (List.range k).filter (fun z => p z && z != k) = [] := List.filter_eq_nil_iff.2 fun z hz => by rw [h2 z (List.mem_range.1 hz)]; simp
  have e2' : (List.range k).filter q = [] := List.filter_eq_nil_iff.2 fun z hz => by rw [h3, h2 z (List.mem_range.1 hz)]; simp
  rw [e1, e2']
  simp only [List.nil_append, List.cons.injEq, true_and]
  refine List.filter_congr fun z hz => ?_
  obtain ⟨y, hy, rfl⟩ := List.mem_map.1 hz
  obtain ⟨y', _, rfl⟩ := List.mem_map.1 hy
  rw [h3]
  simp
theorem low_bit {x : Nat} (h0 : x ≠ 0) (h : x < 2 ^ 64) (z : Nat) : (x &&& (x - 1)).testBit z = (x.testBit z && z != Lib.ctz 64 x) := by
  obtain ⟨m, hm, hl⟩ := Lib.ctzFrom_spec 64 x (by omega) h
  have e : Lib.ctz 64 x = Lib.ctzFrom 64 x := by unfold Lib.ctz; rw [if_neg h0]
  rw [e]
  generalize Lib.ctzFrom 64 x = k at hm hl ⊢
  have hp : 0 < 2 ^ k := Nat.two_pow_pos k
  have e1 : x = 2 ^ (k + 1) * m + 2 ^ k := by rw [hm, Nat.pow_succ, Nat.mul_add, Nat.mul_one, Nat.mul_assoc]
  have e2 : x - 1 = 2 ^ (k + 1) * m + (2 ^ k - 1) := by omega
  have l1 : 2 ^ k < 2 ^ (k + 1) := by rw [Nat.pow_succ]; omega
  rw [Nat.testBit_and, e2, e1, Nat.testBit_two_pow_mul_add _ l1, Nat.testBit_two_pow_mul_add _ (by omega)]
  by_cases hz : z < k + 1
  · rw [if_pos hz, if_pos hz, Nat.testBit_two_pow, Nat.testBit_two_pow_sub_one]
    by_cases e : z = k
    · subst e; simp
    · have : ¬ k = z := fun h => e h.symm
      simp [this]
  · rw [if_neg hz, if_neg hz, Bool.and_self]
    have : z ≠ k := by omega
    simp [this]
theorem bitsL_step {x : Nat} (h0 : x ≠ 0) (h : x < 2 ^ 64) : bitsL x = Lib.ctz 64 x :: bitsL (x &&& (x - 1)) := by
  obtain ⟨h1, h2, h3⟩ := ctz64 h0 h
  exact filter_first h3 h1 h2 (low_bit h0 h)
theorem bitsL_zero : bitsL 0 = [] := List.filter_eq_nil_iff.2 fun z _ => by simp
theorem bitsL_len (x : Nat) : (bitsL x).length ≤ 64 := by
  have := List.length_filter_le x.testBit (List.range 64)
  simpa [bitsL] using this
theorem elems_words {s : Nat} : elems s = bitsL (lo64 s) ++ (bitsL (hi64 s)).map (64 + ·) := by
  unfold elems bitsL
  rw [show 128 = 64 + 64 from rfl, List.range_add, List.filter_append, List.filter_map]
  congr 1
  · exact List.filter_congr fun z hz => by rw [bit_lo]; simp [List.mem_range.1 hz]
  · congr 1
    exact List.filter_congr fun z hz => by
      show s.testBit (64 + z) = _
      rw [bit_hi]
      congr 1
      omega
/-- A row of one's own with these numbers. -/
def RisA (w w' : World) (e : Ending) (L : List Nat) : Prop := ∃ lo c, e = .returned (.slice lo L.length c) ∧ w'.ownsRow w.heap.size 3 1 (.slice lo L.length c) L.length (qv L) ∧ Below w.heap.size w w'
def wrd (s k : Nat) : Nat := if k = 0 then lo64 s else hi64 s
def upW (s : Nat) : Nat → List Nat
  | 0 => []
  | 1 => bitsL (lo64 s)
  | _ => elems s
theorem upW_step {s k : Nat} (hk : k < 2) : upW s (k + 1) = upW s k ++ (bitsL (wrd s k)).map (64 * k + ·) := by
  rcases (by omega : k = 0 ∨ k = 1) with rfl | rfl
  · simp [upW, wrd]
  · simp [upW, wrd, elems_words]
theorem upW_len {s k : Nat} (hk : k < 2) : (upW s k).length ≤ 64 := by
  rcases (by omega : k = 0 ∨ k = 1) with rfl | rfl
  · simp [upW]
  · exact bitsL_len _
theorem wrd_lt {s k : Nat} (hs : s < 2 ^ 128) : wrd s k < 2 ^ 64 := by
  unfold wrd
  split
  · exact lo_lt s
  · exact hi_lt hs
theorem idx76 {s k : Nat} (hk : k < 2) : (#[Value.int .u64 (lo64 s : Int), .int .u64 (hi64 s : Int)])[k]? = some (.int .u64 (wrd s k : Int)) := by
  rcases (by omega : k = 0 ∨ k = 1) with rfl | rfl <;> rfl
set_option maxHeartbeats 2000000 in
theorem rising_call {w : World} {s : Nat} (hs : s < 2 ^ 128) (ht : T64 w) : Calls Tryd.prog 43 #[sv s] w fun e w' => RisA w w' e (elems s) := by
  have HT : Hid (T64 w) := ht
  have HW : Hid (∀ k, wrd s k < 2 ^ 64) := fun k => wrd_lt hs
  clear hs ht
  show Calls Tryd.prog 43 #[.agg #[.int .u64 (lo64 s : Int), .int .u64 (hi64 s : Int)]] w _
  have HI : Hid (∀ k : Nat, k < 2 → ∀ w, (Instr.index 76 (.agg #[.int .u64 (lo64 s : Int), .int .u64 (hi64 s : Int)]) (.int .i64 (k : Int))).run Tryd.prog w = .ok (.int .u64 (wrd s k : Int)) w) := fun k hk w => by
    rcases (by omega : k = 0 ∨ k = 1) with rfl | rfl <;> kernel_rfl
  generalize (lo64 s : Int) = x0 at *
  generalize (hi64 s : Int) = x1 at *
  obtain ⟨q0, q1⟩ := cell_two (two_new w (.int .u64 x0) (.int .u64 x1) 76)
  have HB0 : Hid (Below w.heap.size w (w.alloc (Obj.cells #[.int .u64 x0, .int .u64 x1] 76))) := below_alloc (Below.refl _ w) _
  have HO0 : Hid ((w.alloc (Obj.cells #[.int .u64 x0, .int .u64 x1] 76)).ownsRow w.heap.size 3 1 (.slice none 0 0) 0 (qv [])) := ⟨rfl, Or.inl ⟨rfl, rfl⟩⟩
  go_enter Tryd.func43, Tryd.ntmps43
  go_upto_region 3 with (fail)
  generalize w.alloc (Obj.cells #[.int .u64 x0, .int .u64 x1] 76) = W at *
  clear q0 q1
  go_loopw [3, 7] (fun s3 s7 wz => ∃ (k : Nat) (lo : Option Addr) (c : Nat), k ≤ 2 ∧ s7 = .int .i64 (k : Int) ∧ s3 = .slice lo (upW s k).length c ∧ Hid (wz.ownsRow w.heap.size 3 1 (.slice lo (upW s k).length c) (upW s k).length (qv (upW s k))) ∧ Hid (Below w.heap.size w wz)) (fun _ s7 _ => 2 - (numOf s7).toNat)
  case atStart => exact ⟨0, none, 0, by omega, rfl, rfl, HO0.out, HB0.out⟩
  case round =>
    obtain ⟨k, lo, c, hk, rfl, rfl, hO, hB⟩ := hrel
    by_cases hlt : k < 2
    · have hi := HI.out k hlt
      have i2 : (k : Int) < 2 := by omega
      obtain ⟨P, hP⟩ : ∃ P, P = upW s (k + 1) := ⟨_, rfl⟩
      have HP : Hid (P = upW s (k + 1)) := hP
      have hst : upW s k ++ (bitsL (wrd s k)).map (64 * k + ·) = P := by rw [hP, upW_step hlt]
      have hln : (upW s k).length + (bitsL (wrd s k)).length ≤ 128 := by have := upW_len (s := s) hlt; have := bitsL_len (wrd s k); omega
      have hxl := HW.out k
      generalize wrd s k = x0' at *
      generalize upW s k = L0 at *
      have HX : Hid (L0 ++ (bitsL x0').map (64 * k + ·) = P ∧ L0.length + (bitsL x0').length ≤ 128 ∧ x0' < 2 ^ 64) := ⟨hst, hln, hxl⟩
      clear hP hst hln hxl
      go_upto_region 5 with (fail)
      go_loopw [3, 5] (fun s3 s5 wz => ∃ (x : Nat) (L : List Nat) (lo : Option Addr) (c : Nat), s3 = .slice lo L.length c ∧ s5 = .int .u64 (x : Int) ∧ Hid (wz.ownsRow w.heap.size 3 1 (.slice lo L.length c) L.length (qv L)) ∧ Hid (L ++ (bitsL x).map (64 * k + ·) = P ∧ L.length + (bitsL x).length ≤ 128 ∧ x < 2 ^ 64) ∧ Hid (Below w.heap.size w wz)) (fun _ s5 _ => (numOf s5).toNat)
      case atStart => exact ⟨x0', L0, lo, c, rfl, rfl, hO, HX, hB⟩
      case round =>
        clear hO hB
        obtain ⟨x, L, lo2, c2, rfl, rfl, hO, hX, hB⟩ := hrel
        by_cases hx : x = 0
        · subst hx
          have hL : L = P := by have := hX.out.1; rw [bitsL_zero] at this; simpa using this
          subst hL
          go_wp2
          go_roundw
          case rel => exact ⟨k + 1, lo2, c2, by omega, by go_num, by rw [← HP.out], by rw [← HP.out]; exact hO, hB⟩
          case measure => simp [numOf]; omega
        · have hx64 := hX.out.2.2
          have hbs := bitsL_step hx hx64
          obtain ⟨z, hz⟩ : ∃ z, z = Lib.ctz 64 x := ⟨_, rfl⟩
          have hz64 : z < 64 := by rw [hz]; exact (ctz64 hx hx64).2.2
          rw [← hz] at hbs
          have C62 : Hid (Calls Tryd.prog 62 #[.int .u64 (x : Int)] wr fun e w' => e = .returned (.int .i64 (z : Int)) ∧ w' = wr) := by
            show Calls _ _ _ _ _
            rw [hz]
            exact tz_call x hx64 (HT.out.under hB.out)
          have hlow : x &&& (x - 1) < x := Nat.lt_of_le_of_lt Nat.and_le_right (by omega)
          have HN : Hid ((L ++ [64 * k + z]) ++ (bitsL (x &&& (x - 1))).map (64 * k + ·) = P ∧ (L ++ [64 * k + z]).length + (bitsL (x &&& (x - 1))).length ≤ 128 ∧ x &&& (x - 1) < 2 ^ 64) := by
            obtain ⟨h1, h2, h3⟩ := hX.out
            rw [hbs] at h1 h2
            exact ⟨by rw [← h1]; simp, by simp at h2 ⊢; omega, by omega⟩
          have hll : L.length ≤ 128 := by have := hX.out.2.1; omega
          have hand : bits .and .u64 (x : Int) ((x - 1 : Nat) : Int) = ((x &&& (x - 1) : Nat) : Int) := and_u64 hx64 (by omega)
          have hsub : (x : Int) - 1 = ((x - 1 : Nat) : Int) := by omega
          obtain ⟨y, hy⟩ : ∃ y, y = x &&& (x - 1) := ⟨_, rfl⟩
          rw [← hy] at HN hand hlow
          obtain ⟨q, hq⟩ : ∃ q, q = 64 * k + z := ⟨_, rfl⟩
          have hsum : (k : Int) * 64 + (z : Int) = (q : Int) := by omega
          rw [← hq] at HN
          have HBb : Hid _ := hB.out.size
          have e1 : ((x : Int) != 0) = true := by simp; omega
          have e2 : ¬ (x : Int) = 0 := by omega
          have HY : Hid (y < x) := hlow
          clear hX hbs hz hy hq hlow
          go_upto_region 6 with (first | (go_at_call 62; refine Calls.mono C62.out ?_; rintro e w' ⟨rfl, rfl⟩) | (at_builtin; refine wpList_pushA (x := q) rfl _ _ rfl rfl rfl hO.out (by omega) HBb.out ?_; intro g2 c3 w2 h2 h3 h4) | go_in)
          have HB2 : Hid (Below w.heap.size w w2) := by
            show Below _ _ _
            refine Turns.below (below_alloc hB.out (Obj.cells #[.int .i64 (q : Int)] 3)) (Turns.of_grown h3) (by have := hB.out.size; simp; omega) (fun k e => ?_)
            exact (hO.out.lt k e.symm).1
          have HO2 : Hid _ := h2
          clear h2 h3 h4
          go_wp2
          go_roundw
          case rel => exact ⟨y, L ++ [q], some ⟨g2, 0, none⟩, c3, by simp, rfl, HO2.out, HN.out, HB2.out⟩
          case measure => simp [numOf]; exact HY.out
    · obtain rfl : k = 2 := by omega
      go_wp2
      go_ret
      exact ⟨lo, c, rfl, hO.out, hB.out⟩
end Go.Proofs.YtdalconphfgepaaDoor
