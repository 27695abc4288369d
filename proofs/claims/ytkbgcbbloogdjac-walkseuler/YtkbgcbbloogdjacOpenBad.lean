/- open, told of a graph out of form or of a number that is no node: its fault. -/
import Derived.Test.YtkbgcbbloogdjacOpen
namespace Go.Proofs.Ytkbgcbbloogdjac
open Go.RowKit Go.Maps
attribute [local go_sem ↓] Go.wp_at_zero Go.wp_at_succ

set_option maxHeartbeats 2000000 in
theorem open_bad (n : Int) (v nv : Value) (es : List Pair) (w : World) (hE : EdgesAt w v es) (hc : (chk n es).1 ≠ 0) :
    Calls Try.prog 28 #[.agg #[.int .i64 n, v], nv] w fun r w' => r = .returned (.tuple #[.slice none 0 0, .agg #[.int .i64 (chk n es).1, .int .i64 (chk n es).2]]) ∧ Below w.heap.size w w' := by
  have hc1 : ((chk n es).1 != 0) = true := by simpa using hc
  have hfs : formS n es = ⟨0, [], (chk n es).1, (chk n es).2⟩ := by unfold formS; rw [if_neg hc]
  obtain ⟨c, hcv⟩ : ∃ c, c = (chk n es).1 := ⟨_, rfl⟩
  obtain ⟨d, hdv⟩ : ∃ d, d = (chk n es).2 := ⟨_, rfl⟩
  rw [← hcv, ← hdv] at hfs ⊢
  rw [← hcv] at hc1
  clear hcv hdv hc
  go_enter Try.func28, Try.ntmps28
  go_upto_region 2 with (go_at_call 44; refine (form_as (a := ⟨0, [], c, d⟩) ?_ hfs).mono ?_; exact hE.below (below2 _ _); rintro e w1 ⟨hb, lo, lc, rfl, hEl, hfr⟩; have hz := hb.size; simp at hz)
  have t5 : Two ((w1.alloc (Obj.cells #[.int .i64 0, .slice lo 0 lc] 24)).alloc (Obj.cells #[.int .i64 c, .int .i64 d] 27)) (w.heap.size + 1) (.int .i64 0) (.int .i64 0) 27 := two_alloc (two_alloc (two_next (two_new1 w _ _ _ _) hb) _) _
  have t7 : Two ((w1.alloc (Obj.cells #[.int .i64 0, .slice lo 0 lc] 24)).alloc (Obj.cells #[.int .i64 c, .int .i64 d] 27)) (w1.heap.size + 1) (.int .i64 c) (.int .i64 d) 27 := two_new1 w1 _ _ _ _
  have hB := below_alloc (below_alloc (below_next (below2 (w := w) (Obj.cells #[.int .i64 n, v] 24) (Obj.cells #[.int .i64 0, .int .i64 0] 27)) hb) (Obj.cells #[.int .i64 0, .slice lo 0 lc] 24)) (Obj.cells #[.int .i64 c, .int .i64 d] 27)
  clear hEl hfr
  generalize (w1.alloc (Obj.cells #[.int .i64 0, .slice lo 0 lc] 24)).alloc (Obj.cells #[.int .i64 c, .int .i64 d] 27) = W at t5 t7 hB ⊢
  generalize w1.heap.size = b6 at t7 hz ⊢
  clear hb
  obtain ⟨y1, y2⟩ := cell_two t5
  obtain ⟨y3, y4⟩ := cell_two t7
  have f1 := free_two t5 0
  have f2 := free_two t5 1
  go_wp2_with fail
  go_region
  all_goals
    go_wp2
    refine bodyPost_ret (v := .tuple #[.slice none 0 0, .agg #[.int .i64 c, .int .i64 d]]) ?_ rfl ⟨rfl, ?_⟩
    · simp [results, Try.results28, go_sem, y1, y2]
    · exact ((hB.setCell (by simp) _).setCell (by simp) _).drew

set_option maxHeartbeats 4000000 in
theorem open_range (m : Nat) (ao : Option Addr) (cap : Nat) (es : List Pair) (nv : Value) (ns : List Int) (w : World) (hE : EdgesAt w (.slice ao es.length cap) es) (hI : IntsAt w nv ns) (hl : ns.length ≤ 10) (hc : (chk m es).1 = 0) {K : Nat} {x : Int} (hK : ns[K]? = some x) (hbad : x < 0 ∨ (m : Int) ≤ x) (hgood : ∀ (j : Nat) (y : Int), j < K → ns[j]? = some y → 0 ≤ y ∧ y < m) :
    Calls Try.prog 28 #[.agg #[.int .i64 (m : Int), .slice ao es.length cap], nv] w fun r w' => r = .returned (.tuple #[.slice none 0 0, .agg #[.int .i64 3, .int .i64 (K : Int)]]) ∧ Below w.heap.size w w' := by
  obtain ⟨hck, hn0, hn1, hle, _⟩ := chk_good hc
  have hm : m ≤ 100 := by omega
  have hfs := formS_good hc
  obtain ⟨fes, hfes⟩ : ∃ fes, fes = allP m (hasB es) := ⟨_, rfl⟩
  rw [← hfes] at hfs
  obtain ⟨no, nc, rfl, hnl, hnI, hncells⟩ := hI
  have hKl := (List.getElem?_eq_some_iff.1 hK).1
  have HE : Hid _ := hE
  have HFS : Hid _ := hfs
  have HNC : Hid _ := hncells
  have HK : Hid _ := hK
  have HBD : Hid _ := hbad
  have HGD : Hid _ := hgood
  clear hE hfs hncells hfes hck hn0 hn1 hle hc hnI hnl hK hbad hgood
  go_enter Try.func28, Try.ntmps28
  go_upto_region 2 with (go_at_call 44; refine (form_as (a := ⟨m, fes, 0, 0⟩) ?_ HFS.out).mono ?_; exact EdgesAt.below HE.out (below2 _ _); rintro e w1 ⟨hb, lo, lc, rfl, hEl, hfr⟩; have hz := hb.size; simp at hz)
  have t5 : Two ((w1.alloc (Obj.cells #[.int .i64 (m : Int), .slice lo fes.length lc] 24)).alloc (Obj.cells #[.int .i64 0, .int .i64 0] 27)) (w.heap.size + 1) (.int .i64 0) (.int .i64 0) 27 := two_alloc (two_alloc (two_next (two_new1 w _ _ _ _) hb) _) _
  have t6 : Two ((w1.alloc (Obj.cells #[.int .i64 (m : Int), .slice lo fes.length lc] 24)).alloc (Obj.cells #[.int .i64 0, .int .i64 0] 27)) w1.heap.size (.int .i64 (m : Int)) (.slice lo fes.length lc) 24 := two_alloc (two_new w1 _ _ _) _
  have t7 : Two ((w1.alloc (Obj.cells #[.int .i64 (m : Int), .slice lo fes.length lc] 24)).alloc (Obj.cells #[.int .i64 0, .int .i64 0] 27)) (w1.heap.size + 1) (.int .i64 0) (.int .i64 0) 27 := two_new1 w1 _ _ _ _
  have hB := below_alloc (below_alloc (below_next (below2 (w := w) (Obj.cells #[.int .i64 (m : Int), .slice ao es.length cap] 24) (Obj.cells #[.int .i64 0, .int .i64 0] 27)) hb) (Obj.cells #[.int .i64 (m : Int), .slice lo fes.length lc] 24)) (Obj.cells #[.int .i64 0, .int .i64 0] 27)
  clear hEl hfr
  generalize (w1.alloc (Obj.cells #[.int .i64 (m : Int), .slice lo fes.length lc] 24)).alloc (Obj.cells #[.int .i64 0, .int .i64 0] 27) = W at t5 t6 t7 hB ⊢
  clear hb HE HFS
  generalize w1.heap.size = b6 at t6 t7 hz ⊢
  obtain ⟨y1, y2⟩ := cell_two t6
  obtain ⟨y3, y4⟩ := cell_two t7
  go_wp2
  go_loopw [4, 24] (fun p i wr => ∃ k : Nat, p = .slice none 0 0 ∧ k ≤ K ∧ i = .int .i64 (k : Int) ∧ wr = W) (fun _ i _ => ns.length - (numOf i).toNat)
  case atStart => exact ⟨0, rfl, Nat.zero_le _, rfl, rfl⟩
  case round =>
    obtain ⟨k, rfl, hk, rfl, rfl⟩ := hrel
    have hkl : k < ns.length := by omega
    obtain ⟨b, off, rfl, c1⟩ := HNC.out k hkl
    rw [← hB.cell (by exact World.block_lt_of_cell? w _ c1)] at c1
    have i1 : (0 : Int) ≤ (k : Int) := by omega
    have i2 : (k : Int) < (ns.length : Int) := by omega
    by_cases hkK : k = K
    · subst hkK
      have hx : ns[k] = x := (List.getElem?_eq_some_iff.1 HK.out).2
      rw [hx] at c1
      clear hx
      obtain ⟨s1, s2⟩ := cell_two t5
      have f1 := free_two t5 0
      have f2 := free_two t5 1
      rcases HBD.out with hb | hb
      · go_wp2
        refine bodyPost_ret (v := .tuple #[.slice none 0 0, .agg #[.int .i64 3, .int .i64 (k : Int)]]) ?_ rfl ⟨rfl, (hB.setCell (by simp) _).setCell (by simp) _⟩
        simp [results, Try.results28, go_sem, s1, s2]
      · have hb0 : ¬ x < 0 := by omega
        go_wp2
        refine bodyPost_ret (v := .tuple #[.slice none 0 0, .agg #[.int .i64 3, .int .i64 (k : Int)]]) ?_ rfl ⟨rfl, (hB.setCell (by simp) _).setCell (by simp) _⟩
        simp [results, Try.results28, go_sem, s1, s2]
    · obtain ⟨x0, x1⟩ := HGD.out k ns[k] (by omega) (List.getElem?_eq_getElem hkl)
      obtain ⟨y, hy⟩ : ∃ y, y = ns[k] := ⟨_, rfl⟩
      rw [← hy] at c1 x0 x1
      clear hy
      have z1 : ¬ y < 0 := by omega
      have z2 : ¬ (m : Int) ≤ y := by omega
      go_wp2
      go_roundw
      case rel => exact ⟨k + 1, rfl, by omega, by go_num, trivial⟩
      case measure => simp [numOf]; omega
end Go.Proofs.Ytkbgcbbloogdjac
