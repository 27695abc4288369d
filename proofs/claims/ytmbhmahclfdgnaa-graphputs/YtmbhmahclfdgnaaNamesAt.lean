/- Names of nodes: the first one that is wrong. -/
import Derived.Test.YtmbhmahclfdgnaaLine
import Derived.BigQuiet
import Derived.Deep.QuietTactic
namespace Go.Proofs.Ytmbhmahclfdgnaa
open Go.RowKit Go.Maps
attribute [local go_sem ↓] Go.wp_at_zero Go.wp_at_succ

/-- What is wrong with the name that stands behind those of pre: 0: nothing. -/
def badN (n : Int) (pre : List Int) (x : Int) : Int := if isN n x then (if pre.contains x then 5 else 0) else 3

def nmFrom (n : Int) : List Int → List Int → Int × Int
  | _, [] => (0, 0)
  | pre, x :: r => if badN n pre x = 0 then nmFrom n (pre ++ [x]) r else (badN n pre x, (pre.length : Int))

theorem nm_step {n : Int} {l : List Int} {k : Nat} (hk : k < l.length) :
    nmFrom n (l.take k) (l.drop k) = if badN n (l.take k) l[k] = 0 then nmFrom n (l.take (k + 1)) (l.drop (k + 1)) else (badN n (l.take k) l[k], (k : Int)) := by
  rw [List.drop_eq_getElem_cons hk, nmFrom, List.take_succ_eq_append_getElem hk]
  have : (l.take k).length = k := by simp; omega
  rw [this]
theorem nm_end {n : Int} {l : List Int} : nmFrom n (l.take l.length) (l.drop l.length) = (0, 0) := by simp [nmFrom]

theorem badN_range {n x : Int} {pre : List Int} (h : isN n x = false) : badN n pre x = 3 := by simp [badN, h]
theorem badN_twice {n x : Int} {pre : List Int} (h : isN n x = true) (hc : pre.contains x = true) : badN n pre x = 5 := by unfold badN; rw [if_pos h, if_pos hc]
theorem badN_none {n x : Int} {pre : List Int} (h : isN n x = true) (hc : pre.contains x = false) : badN n pre x = 0 := by unfold badN; rw [if_pos h, if_neg (by rw [hc]; decide)]
theorem badN_zero {n x : Int} {pre : List Int} (h : badN n pre x = 0) : isN n x = true ∧ pre.contains x = false := by
  unfold badN at h
  split at h
  · rename_i h1
    split at h
    · cases h
    · rename_i h2; exact ⟨h1, by simpa using h2⟩
  · cases h

theorem contains_take {l : List Int} {k : Nat} (hk : k < l.length) (j : Int) : (l.take (k + 1)).contains j = ((l.take k).contains j || j == l[k]) := by
  rw [List.take_succ_eq_append_getElem hk, Bool.eq_iff_iff]
  simp only [List.contains_iff_mem, List.mem_append, List.mem_singleton, Bool.or_eq_true, beq_iff_eq]

structure CN (w wr : World) (m : Nat) (b : Nat) (l : List Int) (k : Nat) : Prop where
  b0 : wr.heap[w.heap.size]? = some (.cells #[.int .i64 0, .int .i64 0] 27 (0, 0))
  row : RowB wr b m (fun j => (l.take k).contains (j : Int))
  hb : w.heap.size < b
  below : Below w.heap.size w wr
  hc : nmFrom m [] l = nmFrom m (l.take k) (l.drop k)

theorem CN.fault {w wr : World} {m b : Nat} {l : List Int} {k : Nat} (h : CN w wr m b l k) {x : Int} (hk : k < l.length) (hx : l[k] = x) {c : Int} (hc : c ≠ 0) (hb : badN m (l.take k) x = c) : nmFrom m [] l = (c, (k : Int)) := by
  rw [h.hc, nm_step hk, hx, hb, if_neg hc]

theorem CN.next {w wr : World} {m b : Nat} {l : List Int} {k : Nat} (h : CN w wr m b l k) {i : Nat} (hk : k < l.length) (hx : l[k] = (i : Int)) (hb : badN m (l.take k) i = 0) : CN w (wr.setCell ⟨b, i, none⟩ (.bool true)) m b l (k + 1) := by
  refine ⟨?_, ?_, h.hb, h.below.setCell (by simp; have := h.hb; omega) _, by rw [h.hc, nm_step hk, hx, if_pos hb]⟩
  · rw [Below.heap_setCell _ _ _ _ (by have := h.hb; simp; omega)]; exact h.b0
  · have := h.row.set i
    have e : (fun j : Nat => (l.take (k + 1)).contains (j : Int)) = fun j => j == i || (l.take k).contains (j : Int) := by
      funext j
      rw [contains_take hk, hx, Bool.or_comm]
      congr 1
      rw [Bool.eq_iff_iff]
      simp
      omega
    rw [e]
    exact this

set_option maxHeartbeats 1000000 in
theorem checkNames_any (m : Nat) (v : Value) (l : List Int) (w : World) (hI : IntsAt w v l) (hm : m ≤ 100) :
    Calls Try.prog 38 #[.int .i64 m, v] w fun e w' => e = .returned (.agg #[.int .i64 (nmFrom m [] l).1, .int .i64 (nmFrom m [] l).2]) ∧ Below w.heap.size w w' := by
  obtain ⟨ao, cap, rfl, hl2, _, hcells⟩ := hI
  obtain ⟨i0, hi, hz0, hz1, hz2⟩ := info_parts Try.info4
  go_enter Try.func38, Try.ntmps38
  go_wp2_with (first | (at_make; refine wpList_make_full _ rfl _ _ 41 rfl (w.heap.size + 1) 4 i0 (.bool false) 1 Try.underlying41 hi hz0 hz1 .i64 .i64 _ _ m rfl rfl rfl rfl ?_ ?_ ?_ ?_; (rw [hz2]; omega); (unfold maxLen; omega); simp; intro w1 hmade hg1) | go_in)
  have hst : CN w w1 m (w.heap.size + 1) l 0 := by
    have hr := rowB_made hmade
    refine ⟨?_, ?_, by omega, (below_alloc (Below.refl _ _) _).grown hg1 (by simp) (fun k hk => by cases hk), rfl⟩
    · rw [hg1.block _ (by simp) (by simp)]; exact heap_alloc_new _ _
    · simpa using hr
  clear hmade hg1
  go_loopw [12] (fun i wr => ∃ k : Nat, k ≤ l.length ∧ i = .int .i64 k ∧ CN w wr m (w.heap.size + 1) l k) (fun i _ => l.length - (intOf i).toNat)
  case atStart => exact ⟨0, Nat.zero_le _, rfl, hst⟩
  case round =>
    obtain ⟨k, hk, rfl, hcn⟩ := hrel
    have d0 := (cell_two hcn.b0).1
    have d1 := (cell_two hcn.b0).2
    have g0 := free_two hcn.b0
    by_cases hlt : k < l.length
    · obtain ⟨b, off, rfl, cx⟩ := hcells k hlt
      obtain ⟨x, hx⟩ : ∃ x, l[k] = x := ⟨_, rfl⟩
      rw [hx] at cx
      have hb := World.block_lt_of_cell? w _ cx
      rw [← hcn.below.cell (by exact hb)] at cx
      have HX : Hid _ := hx
      clear hx hcells
      by_cases hn : isN m x = true
      · have hin := isN_in hn
        obtain ⟨i, rfl⟩ : ∃ i : Nat, x = i := ⟨x.toNat, by omega⟩
        have c0 := hcn.row.cell (j := i) (by omega)
        have f0 := hcn.row.free i
        have i1 : (0 : Int) ≤ (i : Int) := by omega
        have i2 : (i : Int) < (m : Int) := by omega
        by_cases hh : (l.take k).contains (i : Int) = true
        · rw [hh] at c0
          go_wp2_with (go_at_call 34; refine (isNode_any _ _ _).mono ?_; rintro e w' ⟨rfl, rfl⟩)
          refine bodyPost_ret (v := .agg #[.int .i64 5, .int .i64 k]) ?_ rfl ⟨ret_fault (hcn.fault hlt HX.out (by decide) (badN_twice hn hh)), (hcn.below.setCell (by simp) _).setCell (by simp) _⟩
          simp [results, Try.results38, go_sem, d0, d1]
        · have hh' : (l.take k).contains (i : Int) = false := by simpa using hh
          rw [hh'] at c0
          have hcn2 := hcn.next hlt HX.out (badN_none hn hh')
          go_wp2_with (go_at_call 34; refine (isNode_any _ _ _).mono ?_; rintro e w' ⟨rfl, rfl⟩)
          go_roundw
          case rel => exact ⟨k + 1, by omega, by go_num, hcn2⟩
          case measure => simp [intOf]; omega
      · have hn' : isN m x = false := by simpa using hn
        go_wp2_with (go_at_call 34; refine (isNode_any _ _ _).mono ?_; rintro e w' ⟨rfl, rfl⟩)
        refine bodyPost_ret (v := .agg #[.int .i64 3, .int .i64 k]) ?_ rfl ⟨ret_fault (hcn.fault hlt HX.out (by decide) (badN_range hn')), (hcn.below.setCell (by simp) _).setCell (by simp) _⟩
        simp [results, Try.results38, go_sem, d0, d1]
    · have hke : k = l.length := by omega
      subst hke
      clear hcells
      go_wp2
      refine bodyPost_ret (v := .agg #[.int .i64 0, .int .i64 0]) ?_ rfl ⟨ret_fault (by rw [hcn.hc, nm_end]), (hcn.below.setCell (by simp) _).setCell (by simp) _⟩
      simp [results, Try.results38, go_sem, d0, d1]

structure IF (w wr : World) (m : Nat) (v0 : Value) (l : List Int) (k : Nat) : Prop where
  b0 : wr.heap[w.heap.size]? = some (.cells #[.int .i64 m, v0] 24 (0, 0))
  b1 : wr.heap[w.heap.size + 1]? = some (.cells #[.int .i64 0, .int .i64 0] 27 (0, 0))
  below : Below w.heap.size w wr
  hc : nmFrom m [] l = nmFrom m (l.take k) (l.drop k)

theorem IF.step {w wr wr' : World} {m : Nat} {v0 : Value} {l : List Int} {k : Nat} (h : IF w wr m v0 l k) (hb : Below wr.heap.size wr wr') : IF w wr' m v0 l k :=
  ⟨(hb.block _ (lt_of_block h.b0)).trans h.b0, (hb.block _ (lt_of_block h.b1)).trans h.b1, below_next h.below hb, h.hc⟩
theorem IF.fault {w wr : World} {m : Nat} {v0 : Value} {l : List Int} {k : Nat} (h : IF w wr m v0 l k) {x : Int} (hk : k < l.length) (hx : l[k] = x) {c : Int} (hc : c ≠ 0) (hb : badN m (l.take k) x = c) : nmFrom m [] l = (c, (k : Int)) := by
  rw [h.hc, nm_step hk, hx, hb, if_neg hc]
theorem IF.next {w wr : World} {m : Nat} {v0 : Value} {l : List Int} {k : Nat} (h : IF w wr m v0 l k) {x : Int} (hk : k < l.length) (hx : l[k] = x) (hb : badN m (l.take k) x = 0) : IF w wr m v0 l (k + 1) :=
  ⟨h.b0, h.b1, h.below, by rw [h.hc, nm_step hk, hx, if_pos hb]⟩

set_option maxHeartbeats 2000000 in
theorem indFault_any (m : Nat) (v0 : Value) (v : Value) (l : List Int) (w : World) (hI : IntsAt w v l) (_hm : m ≤ 100) :
    Calls Try.prog 25 #[.agg #[.int .i64 m, v0], v] w fun e w' => e = .returned (.agg #[.int .i64 (nmFrom m [] l).1, .int .i64 (nmFrom m [] l).2]) ∧ Below w.heap.size w w' := by
  obtain ⟨ao, cap, rfl, hl2, _, hcells⟩ := hI
  have HC : Hid _ := hcells
  clear hcells
  go_enter Try.func25, Try.ntmps25
  go_wp2
  go_loopw [5] (fun i wr => ∃ k : Nat, k ≤ l.length ∧ i = .int .i64 k ∧ IF w wr m v0 l k) (fun i _ => l.length - (intOf i).toNat)
  case atStart =>
    refine ⟨0, Nat.zero_le _, rfl, ?_, ?_, below2 _ _, rfl⟩
    · rw [Below.heap_alloc _ _ _ (by simp)]; exact heap_alloc_new _ _
    · simpa using heap_alloc_new (w.alloc (Obj.cells #[.int .i64 m, v0] 24)) (Obj.cells #[.int .i64 0, .int .i64 0] 27)
  case round =>
    obtain ⟨k, hk, rfl, hif⟩ := hrel
    by_cases hlt : k < l.length
    · obtain ⟨b, off, rfl, cx0⟩ := HC.out k hlt
      have cx := cx0
      obtain ⟨x, hx⟩ : ∃ x, l[k] = x := ⟨_, rfl⟩
      rw [hx] at cx
      have hb := World.block_lt_of_cell? w _ cx
      rw [← hif.below.cell (by exact hb)] at cx
      have HX : Hid _ := hx
      clear hx cx0
      have c0 := (cell_two hif.b0).1
      have k1 : (0 : Int) ≤ (k : Int) := by omega
      have k2 : (k : Int) < (l.length : Int) := by omega
      by_cases h1 : x < 0
      · have hd1 : decide (x < 0) = true := by simpa using h1
        have hn' : isN m x = false := by simp [isN]; omega
        go_wp2
        go_quiet (fail)
        have hif1 := fun nq => hif.step (below_drewN (Below.refl wr.heap.size wr) nq)
        go_wp2_with (go_at_call 17; refine (refF_any _ _ _).mono ?_; rintro e w2 ⟨rfl, hb2⟩; have hif2 := (hif1 _).step hb2; have d10 := (cell_two hif2.b1).1; have d11 := (cell_two hif2.b1).2; have g10 := free_two hif2.b1)
        refine bodyPost_ret (v := .agg #[.int .i64 3, .int .i64 k]) ?_ rfl ⟨ret_fault (hif.fault hlt HX.out (by decide) (badN_range hn')), (hif2.below.setCell (by simp) _).setCell (by simp) _⟩
        simp [results, Try.results25, go_sem, d10, d11]
      · have hd1 : decide (x < 0) = false := by simpa using h1
        by_cases h2 : (m : Int) ≤ x
        · have hn' : isN m x = false := by simp [isN]; omega
          go_wp2
          go_quiet (fail)
          have hif1 := fun nq => hif.step (below_drewN (Below.refl wr.heap.size wr) nq)
          go_wp2_with (go_at_call 17; refine (refF_any _ _ _).mono ?_; rintro e w2 ⟨rfl, hb2⟩; have hif2 := (hif1 _).step hb2; have d10 := (cell_two hif2.b1).1; have d11 := (cell_two hif2.b1).2; have g10 := free_two hif2.b1)
          refine bodyPost_ret (v := .agg #[.int .i64 3, .int .i64 k]) ?_ rfl ⟨ret_fault (hif.fault hlt HX.out (by decide) (badN_range hn')), (hif2.below.setCell (by simp) _).setCell (by simp) _⟩
          simp [results, Try.results25, go_sem, d10, d11]
        · have hn : isN m x = true := by simp [isN]; omega
          go_wp2
          go_quiet (fail)
          have hif1 := fun nq => hif.step (below_drewN (Below.refl wr.heap.size wr) nq)
          have HIF : Hid _ := hif1
          clear hif1 c0
          go_wp2
          go_loopw [6] (fun i wz => ∃ j : Nat, j ≤ k ∧ i = .int .i64 j ∧ IF w wz m v0 l k ∧ (l.take j).contains x = false) (fun i _ => k - (intOf i).toNat)
          case atStart => exact ⟨0, Nat.zero_le _, rfl, HIF.out _, by simp⟩
          case round =>
            rename_i wz _
            obtain ⟨j, hj, rfl, hifz, hno⟩ := hrel
            by_cases hlj : j < k
            · obtain ⟨b', off', e, cy⟩ := HC.out j (by omega)
              cases e
              obtain ⟨y, hy⟩ : ∃ y, l[j] = y := ⟨_, rfl⟩
              rw [hy] at cy
              have cx' := HC.out k hlt
              obtain ⟨b', off', e, cx2⟩ := cx'
              cases e
              rw [show l[k] = x from HX.out] at cx2
              rw [← hifz.below.cell (by exact hb)] at cy cx2
              have hct := contains_take (l := l) (k := j) (by omega) x
              rw [hno, hy] at hct
              have HCT : Hid _ := hct
              clear hct hy hno cx
              have j1 : (0 : Int) ≤ (j : Int) := by omega
              have j2 : (j : Int) < (l.length : Int) := by omega
              by_cases hxy : (y == x) = true
              · have hyes : (l.take k).contains x = true := by
                  have h1 : (l.take (j + 1)).contains x = true := by
                    rw [HCT.out]
                    have : y = x := by simpa using hxy
                    simp [this]
                  simp only [List.contains_iff_mem] at h1 ⊢
                  exact (List.take_subset_take_left l (show j + 1 ≤ k by omega)) h1
                have HY : Hid _ := hyes
                clear hyes
                go_wp2
                go_quiet (fail)
                have hif1 := fun nq => hifz.step (below_drewN (Below.refl _ _) nq)
                go_wp2_with (go_at_call 17; refine (refF_any _ _ _).mono ?_; rintro e w2 ⟨rfl, hb2⟩; have hif2 := (hif1 _).step hb2; have d10 := (cell_two hif2.b1).1; have d11 := (cell_two hif2.b1).2; have g10 := free_two hif2.b1)
                refine bodyPost_ret (v := .agg #[.int .i64 5, .int .i64 k]) ?_ rfl ⟨ret_fault (hif.fault hlt HX.out (by decide) (badN_twice hn HY.out)), (hif2.below.setCell (by simp) _).setCell (by simp) _⟩
                simp [results, Try.results25, go_sem, d10, d11]
              · have hxy' : (y == x) = false := by simpa using hxy
                have hno2 : (l.take (j + 1)).contains x = false := by
                  rw [HCT.out]
                  simp at hxy' ⊢
                  exact fun h => hxy' h.symm
                have HN2 : Hid _ := hno2
                clear hno2
                go_wp2
                go_quiet (fail)
                have hif1 := fun nq => hifz.step (below_drewN (Below.refl _ _) nq)
                go_wp2
                go_roundw
                case rel => exact ⟨j + 1, by omega, by go_num, hif1 _, HN2.out⟩
                case measure => simp [intOf]; omega
            · have hjk : j = k := by omega
              subst hjk
              have hnx := hifz.next hlt HX.out (badN_none hn hno)
              have HNX : Hid _ := hnx
              clear hno hnx
              go_wp2
              go_roundw
              case rel => exact ⟨j + 1, by omega, by go_num, HNX.out⟩
              case measure => simp [intOf]; omega
    · have hke : k = l.length := by omega
      subst hke
      have d10 := (cell_two hif.b1).1
      have d11 := (cell_two hif.b1).2
      have g10 := free_two hif.b1
      go_wp2
      refine bodyPost_ret (v := .agg #[.int .i64 0, .int .i64 0]) ?_ rfl ⟨ret_fault (by rw [hif.hc, nm_end]), (hif.below.setCell (by simp) _).setCell (by simp) _⟩
      simp [results, Try.results25, go_sem, d10, d11]
end Go.Proofs.Ytmbhmahclfdgnaa
