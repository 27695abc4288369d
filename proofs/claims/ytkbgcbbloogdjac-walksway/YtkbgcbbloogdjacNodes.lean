/- nodesFault: that of the graph, or of the first number that is no node. -/
import Derived.BigQuiet
import Derived.Test.YtkbgcbbloogdjacWay
namespace Go.Proofs.Ytkbgcbbloogdjac
open Go.RowKit Go.Maps
attribute [local go_sem ↓] Go.wp_at_zero Go.wp_at_succ

set_option maxRecDepth 4000 in
set_option maxHeartbeats 2000000 in
theorem nodes_bad (n : Int) (ao : Option Addr) (cap : Nat) (es : List Pair) (lo : Option Addr) (ll lc : Nat) (w : World) (hE : EdgesAt w (.slice ao es.length cap) es) (hcap : es.length ≤ cap) {c d : Int} (hck : chk n es = (c, d)) (hc : c ≠ 0) :
    Calls Try.prog 8 #[.agg #[.int .i64 n, .slice ao es.length cap], .slice lo ll lc] w fun r w' => r = .returned (.agg #[.int .i64 c, .int .i64 d]) ∧ Below w.heap.size w w' := by
  have hc1 : (c == 0) = false := by simpa using hc
  have HE : Hid _ := hE
  have HCK : Hid _ := hck
  clear hE hck
  go_enter Try.func8, Try.ntmps8
  go_upto_region 1 with (fail)
  have t2 : Two ((w.alloc (Obj.cells #[.int .i64 n, .slice ao es.length cap] 24)).alloc (Obj.cells #[.int .i64 0, .int .i64 0] 27)) w.heap.size (.int .i64 n) (.slice ao es.length cap) 24 := two_alloc (two_new w _ _ _) _
  have t4 : Two ((w.alloc (Obj.cells #[.int .i64 n, .slice ao es.length cap] 24)).alloc (Obj.cells #[.int .i64 0, .int .i64 0] 27)) (w.heap.size + 1) (.int .i64 0) (.int .i64 0) 27 := two_new1 w _ _ _ _
  have hB := below2 (w := w) (Obj.cells #[.int .i64 n, .slice ao es.length cap] 24) (Obj.cells #[.int .i64 0, .int .i64 0] 27)
  generalize (w.alloc (Obj.cells #[.int .i64 n, .slice ao es.length cap] 24)).alloc (Obj.cells #[.int .i64 0, .int .i64 0] 27) = W at t2 t4 hB ⊢
  obtain ⟨y1, y2⟩ := cell_two t2
  go_upto_region 2 with (first
    | (go_at_call 19; refine (refCheck_as (EdgesAt.below HE.out hB) hcap HCK.out).mono ?_; rintro r wa ⟨rfl, hbA⟩)
    | go_in)
  have t4a := two_alloc (two_next t4 hbA) (Obj.cells #[.int .i64 c, .int .i64 d] 27)
  have t5a := two_new wa (.int .i64 c) (.int .i64 d) 27
  have hB2 := below_alloc (below_next hB hbA) (Obj.cells #[.int .i64 c, .int .i64 d] 27)
  generalize wa.heap.size = b5 at t5a ⊢
  generalize wa.alloc (Obj.cells #[.int .i64 c, .int .i64 d] 27) = W2 at t4a t5a hB2 ⊢
  clear y1 y2 hbA t2 t4
  obtain ⟨s1, s2⟩ := cell_two t4a
  obtain ⟨s3, s4⟩ := cell_two t5a
  have f1 := free_two t4a 0
  have f2 := free_two t4a 1
  go_wp2
  go_loopw [6] (fun i wr => i = .int .i64 0 ∧ wr = W2) (fun _ _ => 0)
  case atStart => exact ⟨rfl, rfl⟩
  case round =>
    obtain ⟨rfl, rfl⟩ := hrel
    by_cases h0 : 0 < ll
    · have h0' : (0 : Int) < (ll : Int) := by omega
      go_wp2
      refine bodyPost_ret (v := .agg #[.int .i64 c, .int .i64 d]) ?_ rfl ⟨rfl, (hB2.setCell (by simp) _).setCell (by simp) _⟩
      simp [results, Try.results8, go_sem, s1, s2]
    · have h0' : ¬ (0 : Int) < (ll : Int) := by omega
      go_wp2
      refine bodyPost_ret (v := .agg #[.int .i64 c, .int .i64 d]) ?_ rfl ⟨rfl, (hB2.setCell (by simp) _).setCell (by simp) _⟩
      simp [results, Try.results8, go_sem, s1, s2]

/-- What is wrong with numbers that should be nodes: (c, d). -/
def NodesAre (m : Nat) (ns : List Int) (c d : Int) : Prop :=
  ((∀ x ∈ ns, 0 ≤ x ∧ x < m) ∧ c = 0 ∧ d = 0) ∨ ∃ (K : Nat) (x : Int), ns[K]? = some x ∧ (x < 0 ∨ (m : Int) ≤ x) ∧ (∀ (j : Nat) (y : Int), j < K → ns[j]? = some y → 0 ≤ y ∧ y < m) ∧ c = 3 ∧ d = K

set_option maxRecDepth 8000 in
set_option maxHeartbeats 4000000 in
theorem nodes_ok (m : Nat) (ao : Option Addr) (cap : Nat) (es : List Pair) (lv : Value) (ns : List Int) (w : World) (hE : EdgesAt w (.slice ao es.length cap) es) (hcap : es.length ≤ cap) (hI : IntsAt w lv ns) (hl : ns.length ≤ 10) (hck : chk m es = (0, 0)) {c d : Int} (hN : NodesAre m ns c d) :
    Calls Try.prog 8 #[.agg #[.int .i64 (m : Int), .slice ao es.length cap], lv] w fun r w' => r = .returned (.agg #[.int .i64 c, .int .i64 d]) ∧ Below w.heap.size w w' := by
  obtain ⟨lo, lc, rfl, _, hI64, hcells⟩ := hI
  have HE : Hid _ := hE
  have HCK : Hid _ := hck
  have HC : Hid _ := hcells
  have HN : Hid _ := hN
  clear hE hck hcells hN hI64
  go_enter Try.func8, Try.ntmps8
  go_upto_region 1 with (fail)
  have t2 : Two ((w.alloc (Obj.cells #[.int .i64 (m : Int), .slice ao es.length cap] 24)).alloc (Obj.cells #[.int .i64 0, .int .i64 0] 27)) w.heap.size (.int .i64 (m : Int)) (.slice ao es.length cap) 24 := two_alloc (two_new w _ _ _) _
  have t4 : Two ((w.alloc (Obj.cells #[.int .i64 (m : Int), .slice ao es.length cap] 24)).alloc (Obj.cells #[.int .i64 0, .int .i64 0] 27)) (w.heap.size + 1) (.int .i64 0) (.int .i64 0) 27 := two_new1 w _ _ _ _
  have hB := below2 (w := w) (Obj.cells #[.int .i64 (m : Int), .slice ao es.length cap] 24) (Obj.cells #[.int .i64 0, .int .i64 0] 27)
  generalize (w.alloc (Obj.cells #[.int .i64 (m : Int), .slice ao es.length cap] 24)).alloc (Obj.cells #[.int .i64 0, .int .i64 0] 27) = W at t2 t4 hB ⊢
  obtain ⟨y1, y2⟩ := cell_two t2
  go_upto_region 2 with (first
    | (go_at_call 19; refine (refCheck_as (EdgesAt.below HE.out hB) hcap HCK.out).mono ?_; rintro r wa ⟨rfl, hbA⟩)
    | go_in)
  have t2a := two_alloc (two_next t2 hbA) (Obj.cells #[.int .i64 0, .int .i64 0] 27)
  have t4a := two_alloc (two_next t4 hbA) (Obj.cells #[.int .i64 0, .int .i64 0] 27)
  have t5a := two_new wa (.int .i64 0) (.int .i64 0) 27
  have hB2 := below_alloc (below_next hB hbA) (Obj.cells #[.int .i64 0, .int .i64 0] 27)
  have hb5 : w.heap.size + 1 < wa.heap.size := by have := lt_of_block (two_next t4 hbA); omega
  generalize wa.heap.size = b5 at t5a hb5 ⊢
  generalize wa.alloc (Obj.cells #[.int .i64 0, .int .i64 0] 27) = W2 at t2a t4a t5a hB2 ⊢
  clear y1 y2 hbA t2 t4
  go_wp2
  go_loopw [6] (fun i wr => Below w.heap.size w wr ∧ Two wr w.heap.size (.int .i64 (m : Int)) (.slice ao es.length cap) 24 ∧ Two wr (w.heap.size + 1) (.int .i64 0) (.int .i64 0) 27 ∧ ((∃ k : Nat, k ≤ ns.length ∧ i = .int .i64 (k : Int) ∧ Two wr b5 (.int .i64 0) (.int .i64 0) 27 ∧ ∀ (j : Nat) (y : Int), j < k → ns[j]? = some y → 0 ≤ y ∧ y < m) ∨ (∃ K : Nat, K < ns.length ∧ i = .int .i64 ((K : Int) + 1) ∧ c = 3 ∧ d = K ∧ Two wr b5 (.int .i64 3) (.int .i64 (K : Int)) 27))) (fun i _ => ns.length - (numOf i).toNat)
  case atStart => exact ⟨hB2, t2a, t4a, Or.inl ⟨0, Nat.zero_le _, rfl, t5a, fun j y h => by omega⟩⟩
  case round =>
    obtain ⟨hBr, r2, r4, hcase⟩ := hrel
    clear t2a t4a t5a hB2
    obtain ⟨s1, s2⟩ := cell_two r4
    have f1 := free_two r4 0
    have f2 := free_two r4 1
    rcases hcase with ⟨k, hk, rfl, r5, hgood⟩ | ⟨K, hK, rfl, rfl, rfl, r5⟩
    · obtain ⟨s3, s4⟩ := cell_two r5
      have HGD : Hid _ := hgood
      clear hgood
      by_cases hkl : k < ns.length
      · obtain ⟨b, off, rfl, c1⟩ := HC.out k hkl
        rw [← hBr.cell (by exact World.block_lt_of_cell? w _ c1)] at c1
        obtain ⟨x, hx⟩ : ∃ x, x = ns[k] := ⟨_, rfl⟩
        have hget : ns[k]? = some x := by rw [List.getElem?_eq_getElem hkl, hx]
        rw [← hx] at c1
        have HGT : Hid _ := hget
        clear hx hget
        obtain ⟨q1, q2⟩ := cell_two r2
        have i1 : (0 : Int) ≤ (k : Int) := by omega
        have i2 : (k : Int) < (ns.length : Int) := by omega
        have g1 := free_two r5 0
        have g2 := free_two r5 1
        by_cases hin : 0 ≤ x ∧ x < m
        · have z1 : ¬ x < 0 := by omega
          have z2 : ¬ (m : Int) ≤ x := by omega
          have hg2 : ∀ (j : Nat) (y : Int), j < k + 1 → ns[j]? = some y → 0 ≤ y ∧ y < m := fun j y hj hy => by
            by_cases e : j = k
            · subst e; rw [HGT.out] at hy; cases hy; exact hin
            · exact HGD.out j y (by omega) hy
          have HG2 : Hid _ := hg2
          clear hg2 hin
          go_upto_region 5 with (fail)
          go_quiet (fail)
          all_goals
            go_wp2
            go_roundw
            case rel => exact ⟨below_drewN hBr _, r2, r4, Or.inl ⟨k + 1, by omega, by go_num, r5, HG2.out⟩⟩
            case measure => simp [numOf]; omega
        · have hcd : c = 3 ∧ d = (k : Int) := by
            rcases HN.out with ⟨h1, _⟩ | ⟨K, x', h1, h2, h3, h4, h5⟩
            · exact absurd (h1 x (List.mem_of_getElem? HGT.out)) hin
            · have : K = k := by
                rcases Nat.lt_trichotomy K k with h | h | h
                · have := HGD.out K x' h h1
                  omega
                · exact h
                · exact absurd (h3 k x h HGT.out) hin
              exact ⟨h4, by rw [h5, this]⟩
          obtain ⟨rfl, rfl⟩ := hcd
          rcases Classical.em (x < 0) with z1 | z1
          · clear hin
            go_upto_region 5 with (fail)
            go_quiet (fail)
            all_goals
              rename Nat => nd
              have hbn : Below wr.heap.size wr (wr.drewN nd) := below_drewN (Below.refl _ _) _
              go_wp2_with (first
                | (go_at_call 13; refine (refF_any _ _ _).mono ?_; rintro r wc ⟨rfl, hbC⟩; have hbD := below_next hbn hbC; have r5c := two_next r5 hbD; obtain ⟨p1, p2⟩ := cell_two r5c; have p3 := free_two r5c 0; have p4 := free_two r5c 1)
                | go_in)
              go_roundw
              case rel => exact ⟨((below_next hBr hbD).setCell (by simp; omega) _).setCell (by simp; omega) _, two_far (two_far (two_next r2 hbD) (by omega)) (by omega), two_far (two_far (two_next r4 hbD) (by omega)) (by omega), Or.inr ⟨k, hkl, by go_num, trivial, rfl, two_set r5c⟩⟩
              case measure => simp [numOf]; omega
          · have z2 : (m : Int) ≤ x := by omega
            clear hin
            go_upto_region 5 with (fail)
            go_quiet (fail)
            all_goals
              rename Nat => nd
              have hbn : Below wr.heap.size wr (wr.drewN nd) := below_drewN (Below.refl _ _) _
              go_wp2_with (first
                | (go_at_call 13; refine (refF_any _ _ _).mono ?_; rintro r wc ⟨rfl, hbC⟩; have hbD := below_next hbn hbC; have r5c := two_next r5 hbD; obtain ⟨p1, p2⟩ := cell_two r5c; have p3 := free_two r5c 0; have p4 := free_two r5c 1)
                | go_in)
              go_roundw
              case rel => exact ⟨((below_next hBr hbD).setCell (by simp; omega) _).setCell (by simp; omega) _, two_far (two_far (two_next r2 hbD) (by omega)) (by omega), two_far (two_far (two_next r4 hbD) (by omega)) (by omega), Or.inr ⟨k, hkl, by go_num, trivial, rfl, two_set r5c⟩⟩
              case measure => simp [numOf]; omega
      · have hcd : c = 0 ∧ d = 0 := by
          rcases HN.out with ⟨_, h⟩ | ⟨K, x', h1, h2, _⟩
          · exact h
          · have hKl := (List.getElem?_eq_some_iff.1 h1).1
            have := HGD.out K x' (by omega) h1
            omega
        obtain ⟨rfl, rfl⟩ := hcd
        go_wp2
        refine bodyPost_ret (v := .agg #[.int .i64 0, .int .i64 0]) ?_ rfl ⟨rfl, (hBr.setCell (by simp) _).setCell (by simp) _⟩
        simp [results, Try.results8, go_sem, s1, s2]
    · obtain ⟨s3, s4⟩ := cell_two r5
      rcases Classical.em ((K : Int) + 1 < (ns.length : Int)) with h0 | h0
      all_goals
        go_wp2
        refine bodyPost_ret (v := .agg #[.int .i64 3, .int .i64 (K : Int)]) ?_ rfl ⟨rfl, (hBr.setCell (by simp) _).setCell (by simp) _⟩
        simp [results, Try.results8, go_sem, s1, s2]
end Go.Proofs.Ytkbgcbbloogdjac
