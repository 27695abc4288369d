/- slices.Repeat of one number. -/
import Derived.Test.YtkkfjfphmlcieaaGreatKitC
import Derived.Laws.CopyOwn
import Derived.Deep.Cut
import Derived.Deep.CutRange
import Derived.Deep.RegionLaw
namespace Go.Proofs.YtkkfjfphmlcieaaGreat
open Go.RowKit Go.Maps
attribute [local go_sem ↓] Go.wp_at_zero Go.wp_at_succ

theorem and32 (n : Nat) (hn : n ≤ 1000) : bits .and .u64 (n : Int) 4294967295 = (n : Int) := by
  have h1 : (BitVec.ofInt 64 4294967295).toNat = 2 ^ 32 - 1 := by decide
  have key : (BitVec.ofInt 64 (n : Int) &&& BitVec.ofInt 64 4294967295).toNat = ((n : Int) % ((2 ^ 64 : Nat) : Int)).toNat % 2 ^ 32 := by
    rw [BitVec.toNat_and, BitVec.toNat_ofInt, h1, Nat.and_two_pow_sub_one_eq_mod]
  show IntKind.u64.wrap ((BitVec.ofInt 64 (n : Int) &&& BitVec.ofInt 64 4294967295).toNat : Nat) = n
  rw [key, IntKind.wrap_u64]
  omega
set_option maxRecDepth 4000 in
set_option maxHeartbeats 4000000 in
theorem mul_call (n : Nat) (hn : n ≤ 1000) (w : World) : Calls Tryz.prog 62 #[.int .u64 1, .int .u64 (n : Int)] w fun r w' => r = .returned (.tuple #[.int .u64 0, .int .u64 (n : Int)]) ∧ w' = w := by
  have h1 : bits .and .u64 1 4294967295 = 1 := by decide
  have h0 : bits .and .u64 0 4294967295 = 0 := by decide
  have h2 := and32 n hn
  have h3 : (n : Int) / 4294967296 = 0 := by omega
  have h4 : IntKind.u64.wrap (n : Int) = n := by rw [IntKind.wrap_u64]; omega
  have h5 : IntKind.u64.wrap 0 = 0 := by decide
  go_enter Tryz.func62, Tryz.ntmps62
  go_wp2_with (go_in)
  refine bodyPost_ret (v := .tuple #[.int .u64 0, .int .u64 (n : Int)]) (by simp [results, Tryz.results62, go_sem]) rfl ⟨rfl, rfl⟩

def repL (X Z : Value) (k n : Nat) : List Value := List.replicate k X ++ List.replicate (n - k) Z
theorem repL_len {X Z : Value} {k n : Nat} (h : k ≤ n) : (repL X Z k n).length = n := by simp [repL]; omega
theorem splice_rep {X Z : Value} {k n m : Nat} (h : k + m ≤ n) : splice (repL X Z k n) k (List.replicate m X) = repL X Z (k + m) n := by
  unfold splice repL
  rw [List.take_append_of_le_length (by simp), List.take_of_length_le (by simp), List.length_replicate, List.drop_append, List.drop_of_length_le (by simp)]
  simp only [List.length_replicate, List.nil_append, List.drop_replicate]
  rw [← List.append_assoc, List.replicate_append_replicate]
  congr 2
  omega
theorem repL_at {X Z : Value} {k n j : Nat} (h : j < k) : (repL X Z k n)[j]? = some X := by
  unfold repL
  rw [List.getElem?_append_left (by simpa using h)]
  simp [h]
theorem rep_made {n : Nat} {Z : Value} : rep n Z = (repL Z Z 0 n).toArray := by
  simp [repL, madeCells, Array.ext_iff]
  intro i h1
  rw [Nat.mod_one]
  rfl

set_option maxRecDepth 4000 in
set_option maxHeartbeats 4000000 in
theorem repeat_call {x : Int} {g0 c0 n : Nat} {w : World} (hc : w.cell? ⟨g0, 0, none⟩ = some (.int .i64 x)) (hn : n ≤ 1000) :
    Calls Tryz.prog 76 #[.slice (some ⟨g0, 0, none⟩) 1 c0, .int .i64 (n : Int)] w fun r w' => ∃ b, r = .returned (sl b n) ∧ w.heap.size ≤ b ∧ RowV w' b 3 n (fun _ => .int .i64 x) ∧ Below w.heap.size w w' := by
  have h4 : IntKind.u64.wrap (n : Int) = n := by rw [IntKind.wrap_u64]; omega
  have h1 : IntKind.u64.wrap (1 : Int) = 1 := by decide
  have h5 : IntKind.i64.wrap (n : Int) = n := by rw [IntKind.wrap_i64]; omega
  have h6 : ¬ (n : Int) < 0 := by omega
  have h7 : ¬ (n : Int) > 9223372036854775807 := by omega
  have hm := make45 n hn
  go_enter Tryz.func76, Tryz.ntmps76
  go_upto_region 7 with (first | (go_at_call 62; refine Calls.mono (mul_call n hn _) ?_; rintro r W1 ⟨rfl, rfl⟩) | go_in)
  have hb1 := below_alloc (Below.refl _ W1) (Obj.cells (rep n (.int .i64 0)) 3)
  have hg1 : (W1.alloc (Obj.cells (rep n (.int .i64 0)) 3)).heap[W1.heap.size]? = some (.cells (repL (.int .i64 0) (.int .i64 0) 0 n).toArray 3 (0, 0)) := by
    rw [← rep_made]; exact heap_alloc_new _ _
  have hc1 := (hb1.cell (World.block_lt_of_cell? W1 _ hc)).trans hc
  have hZ : repL (.int .i64 0) (.int .i64 0) 0 n = repL (.int .i64 x) (.int .i64 0) 0 n := by simp [repL]
  rw [hZ] at hg1
  clear hZ hm
  obtain ⟨g, hg⟩ : ∃ g, g = W1.heap.size := ⟨_, rfl⟩
  rw [← hg] at hg1 ⊢
  have hge : W1.heap.size ≤ g := by omega
  generalize W1.alloc (Obj.cells (rep n (.int .i64 0)) 3) = W2 at hb1 hg1 hc1 ⊢
  clear hg
  obtain ⟨k0, hk0, hk3, hk1, hk2⟩ : ∃ k0, k0 = Nat.min 1 n ∧ k0 ≤ 1 ∧ k0 ≤ n ∧ (k0 = 0 → n = 0) := by
    by_cases h : n = 0
    · exact ⟨0, by rw [h]; rfl, by omega, by omega, fun _ => h⟩
    · exact ⟨1, (Nat.min_eq_left (by omega)).symm, by omega, by omega, by omega⟩
  have hsz3 : (Tryz.prog.info? 3).map (·.size) = some 1 := by kernel_rfl
  have c1 : (List.replicate k0 (Value.int .i64 x)).length = Nat.min 1 n := by rw [List.length_replicate, hk0]
  have c2 : 0 < (List.replicate k0 (Value.int .i64 x)).length → (some (⟨g, 0, none⟩ : Addr)) = some ⟨g, 0, none⟩ ∧ ∃ ad, some (⟨g0, 0, none⟩ : Addr) = some ad ∧ ∀ (j : Nat) v, (List.replicate k0 (Value.int .i64 x))[j]? = some v → W2.cell? (ad.add j) = some v := by
    intro h0
    rw [List.length_replicate] at h0
    refine ⟨rfl, _, rfl, fun j v hj => ?_⟩
    have hj0 : j = 0 := by
      have := (List.getElem?_eq_some_iff.1 hj).1
      rw [List.length_replicate] at this
      omega
    subst hj0
    have hv := List.eq_of_mem_replicate (List.mem_of_getElem? hj)
    rw [hv, add_none]; exact hc1
  have c3 : 0 + (List.replicate k0 (Value.int .i64 x)).length ≤ (repL (.int .i64 x) (.int .i64 0) 0 n).length := by
    rw [List.length_replicate, repL_len (Nat.zero_le _)]
    omega
  have c4 : ∀ v ∈ List.replicate k0 (Value.int .i64 x), v.oneCell' = true := by
    intro v hv
    rw [List.eq_of_mem_replicate hv]; rfl
  have HG1 : Hid (W2.heap[g]? = some (.cells (repL (.int .i64 x) (.int .i64 0) 0 n).toArray 3 (0, 0))) := hg1
  have HK0 : Hid (k0 = Nat.min 1 n) := hk0
  have C1 : Hid ((List.replicate k0 (Value.int .i64 x)).length = Nat.min 1 n) := c1
  have C2 : Hid (0 < (List.replicate k0 (Value.int .i64 x)).length → (some (⟨g, 0, none⟩ : Addr)) = some ⟨g, 0, none⟩ ∧ ∃ ad, some (⟨g0, 0, none⟩ : Addr) = some ad ∧ ∀ (j : Nat) v, (List.replicate k0 (Value.int .i64 x))[j]? = some v → W2.cell? (ad.add j) = some v) := c2
  have C3 : Hid (0 + (List.replicate k0 (Value.int .i64 x)).length ≤ (repL (.int .i64 x) (.int .i64 0) 0 n).length) := c3
  have C4 : Hid (∀ v ∈ List.replicate k0 (Value.int .i64 x), v.oneCell' = true) := c4
  clear hg1 hk0 c1 c2 c3 c4
  go_wp2_with (first | (refine wpList_copy_splice rfl _ _ 45 45 rfl 3 Tryz.underlying45 hsz3 _ _ _ _ _ _ rfl rfl g 0 (repL (.int .i64 x) (.int .i64 0) 0 n) 3 HG1.out (List.replicate k0 (.int .i64 x)) C1.out C2.out C3.out C4.out W1.heap.size W1 hb1 hge ?_; intro W3 HG3 hb3))
  have hrow : W3.heap[g]? = some (.cells (repL (.int .i64 x) (.int .i64 0) k0 n).toArray 3 (0, 0)) := by
    rw [HG3.out, splice_rep (by omega), Nat.zero_add]
  clear HG1 HK0 HG3 hb1 hc1 C1 C2 C3 C4 hc
  try simp only [goInt, List.length_replicate]
  go_loopw [8] (fun i wr => ∃ k : Nat, k ≤ n ∧ (k = 0 → n = 0) ∧ i = .int .i64 (k : Int) ∧ wr.heap[g]? = some (.cells (repL (.int .i64 x) (.int .i64 0) k n).toArray 3 (0, 0)) ∧ Below W1.heap.size W1 wr) (fun i _ => n - (numOf i).toNat)
  case atStart => exact ⟨k0, hk1, hk2, rfl, hrow, hb3⟩
  case round =>
    clear hrow hb3 hk1 hk2 hk3
    obtain ⟨k, hk, hkz, rfl, hrow, hbk⟩ := hrel
    by_cases hlt : k < n
    · have i1 : (0 : Int) ≤ (k : Int) := by omega
      have i2 : (k : Int) < (n : Int) := by omega
      have i3 : (k : Int) ≤ (n : Int) := by omega
      have i4 : ¬ n = k := by omega
      obtain ⟨m, hm1, hm2, hm3⟩ : ∃ m, m = Nat.min k (n - k) ∧ k + m ≤ n ∧ 0 < m := by
        by_cases h : k ≤ n - k
        · exact ⟨k, (Nat.min_eq_left h).symm, by omega, by omega⟩
        · exact ⟨n - k, (Nat.min_eq_right (by omega)).symm, by omega, by omega⟩
      have HR : Hid (wr.heap[g]? = some (.cells (repL (.int .i64 x) (.int .i64 0) k n).toArray 3 (0, 0))) := hrow
      have c1 : (List.replicate m (Value.int .i64 x)).length = Nat.min k (n - k) := by rw [List.length_replicate, hm1]
      have C1 : Hid ((List.replicate m (Value.int .i64 x)).length = Nat.min k (n - k)) := c1
      have HM : Hid (m ≤ k) := by rw [hm1]; exact Nat.min_le_left _ _
      clear hrow c1 hm1
      go_upto_region 9 with (fail)
      go_region_law (refine step_copy_splice rfl (.tmp 41) (.tmp 44) 45 45 (by rfl) 3 Tryz.underlying45 hsz3 (some ⟨g, k, none⟩) (some ⟨g, 0, none⟩) (n - k) (n - k) k n (by rfl) (by rfl) g k (repL (.int .i64 x) (.int .i64 0) k n) 3 (by exact HR.out) (List.replicate m (.int .i64 x)) (by first | exact C1.out | (simpa using C1.out)) (fun _ => ⟨by rfl, _, rfl, fun j v hj => by
        have h1 := (List.getElem?_eq_some_iff.1 hj).1
        rw [List.length_replicate] at h1
        have hv := List.eq_of_mem_replicate (List.mem_of_getElem? hj)
        rw [hv, add_none]
        have h2 := cell_of_row wr.drew g j (repL (.int .i64 x) (.int .i64 0) k n).toArray 3 (0, 0) HR.out
        rw [h2]
        have := HM.out
        simpa using repL_at (by omega)⟩) (by rw [List.length_replicate, repL_len (by omega)]; omega) (fun v hv => by rw [List.eq_of_mem_replicate hv]; rfl) W1.heap.size W1 hbk.drew hge ?_; intro W4 HG4 hb4)
      all_goals
        go_wp2
        have e1 : IntKind.i64.wrap ((k : Int) + (m : Int)) = ((k + m : Nat) : Int) := by rw [IntKind.wrap_i64]; omega
        simp [Act.put, e1]
        refine ⟨⟨k + m, by omega, by omega, by omega, by rw [HG4.out, splice_rep (by omega)], hb4⟩, ?_⟩
        simp [numOf]
        omega
    · have i2 : ¬ (k : Int) < (n : Int) := by omega
      have hkn : k = n := by omega
      subst hkn
      go_wp2
      go_ret
      refine ⟨g, rfl, hge, ⟨_, hrow, by simpa using repL_len (Nat.le_refl _), fun j hj => by simpa using repL_at hj⟩, hbk⟩
end Go.Proofs.YtkkfjfphmlcieaaGreat
