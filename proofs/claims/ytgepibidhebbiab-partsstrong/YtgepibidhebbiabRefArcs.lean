/- The document's ArcsFault. -/
import Derived.Test.YtgepibidhebbiabWholeWalk
namespace Go.Proofs.Ytgepibidhebbiab
open Go.RowKit Go.Maps
attribute [local go_sem ↓] Go.wp_at_zero Go.wp_at_succ

/-- Both ends of an arc are nodes. -/
def ArcIn (n : Int) (e : Pair) : Prop := 0 ≤ e.1 ∧ 0 ≤ e.2 ∧ e.1 < n ∧ e.2 < n
/-- What is wrong with arcs: (c, d). -/
def ArcsAre (n : Int) (es : List Pair) (c d : Int) : Prop :=
  ((n < 0 ∨ 100 < n ∨ 1000 < es.length) ∧ c = 2 ∧ d = 0) ∨
  ((0 ≤ n ∧ n ≤ 100 ∧ es.length ≤ 1000) ∧ ((∃ (k : Nat) (e : Pair), es[k]? = some e ∧ ¬ ArcIn n e ∧ (∀ (j : Nat) (e : Pair), j < k → es[j]? = some e → ArcIn n e) ∧ c = 3 ∧ d = k) ∨ ((∀ e ∈ es, ArcIn n e) ∧ c = 0 ∧ d = 0)))
theorem arcs_ex (n : Int) (es : List Pair) : ∃ c d, ArcsAre n es c d := by
  by_cases h : n < 0 ∨ 100 < n ∨ 1000 < es.length
  · exact ⟨2, 0, Or.inl ⟨h, rfl, rfl⟩⟩
  · have h' : 0 ≤ n ∧ n ≤ 100 ∧ es.length ≤ 1000 := by omega
    by_cases ha : ∀ e ∈ es, ArcIn n e
    · exact ⟨0, 0, Or.inr ⟨h', Or.inr ⟨ha, rfl, rfl⟩⟩⟩
    · obtain ⟨e, he⟩ := Classical.not_forall.1 ha
      have hm : e ∈ es := Classical.byContradiction fun hn => he fun h => absurd h hn
      have hb : ¬ ArcIn n e := fun h => he fun _ => h
      obtain ⟨i, hi⟩ := List.mem_iff_getElem?.1 hm
      obtain ⟨k, _, ⟨e', h1, h2⟩, h3⟩ := least_ex (P := fun k => ∃ e, es[k]? = some e ∧ ¬ ArcIn n e) ⟨e, hi, hb⟩
      exact ⟨3, k, Or.inr ⟨h', Or.inl ⟨k, e', h1, h2, fun j d hj hd => Classical.byContradiction fun hn => h3 j hj ⟨d, hd, hn⟩, rfl, rfl⟩⟩⟩

set_option maxHeartbeats 2000000 in
theorem refArcs_call (n : Int) (ao : Option Addr) (cap : Nat) (es : List Pair) (w : World) (hE : EdgesAt w (.slice ao es.length cap) es) {c d : Int} (h : ArcsAre n es c d) :
    Calls Try.prog 27 #[.int .i64 n, .slice ao es.length cap] w fun e w' => e = .returned (.agg #[.int .i64 c, .int .i64 d]) ∧ Below w.heap.size w w' := by
  rcases h with ⟨h, rfl, rfl⟩ | ⟨⟨hn0, hn1, hl⟩, h⟩
  · rcases Classical.em (n < 0) with h0 | h0
    · clear h hE
      go_enter Try.func27, Try.ntmps27
      go_wp2_with (go_at_call 33; refine (refF_any _ _ _).mono ?_; rintro e w2 ⟨rfl, hb2⟩; obtain ⟨bc, bf, bc1, bf1, bc2, bf2⟩ := bcell hb2)
      refine bodyPost_ret (v := .agg #[.int .i64 2, .int .i64 0]) ?_ rfl ⟨rfl, ((below_next (below_alloc (Below.refl _ _) _) hb2).setCell (by simp) _).setCell (by simp) _⟩
      simp [results, Try.results27, go_sem, bc]
    · rcases Classical.em (100 < n) with h1 | h1
      · clear h hE
        go_enter Try.func27, Try.ntmps27
        go_wp2_with (go_at_call 33; refine (refF_any _ _ _).mono ?_; rintro e w2 ⟨rfl, hb2⟩; obtain ⟨bc, bf, bc1, bf1, bc2, bf2⟩ := bcell hb2)
        refine bodyPost_ret (v := .agg #[.int .i64 2, .int .i64 0]) ?_ rfl ⟨rfl, ((below_next (below_alloc (Below.refl _ _) _) hb2).setCell (by simp) _).setCell (by simp) _⟩
        simp [results, Try.results27, go_sem, bc]
      · have h2 : (1000 : Int) < (es.length : Int) := by omega
        clear h hE
        go_enter Try.func27, Try.ntmps27
        go_wp2_with (go_at_call 33; refine (refF_any _ _ _).mono ?_; rintro e w2 ⟨rfl, hb2⟩; obtain ⟨bc, bf, bc1, bf1, bc2, bf2⟩ := bcell hb2)
        refine bodyPost_ret (v := .agg #[.int .i64 2, .int .i64 0]) ?_ rfl ⟨rfl, ((below_next (below_alloc (Below.refl _ _) _) hb2).setCell (by simp) _).setCell (by simp) _⟩
        simp [results, Try.results27, go_sem, bc]
  · have hl3 : ¬ (1000 : Int) < (es.length : Int) := by omega
    have hn2 : ¬ n < 0 := by omega
    have hn3 : ¬ 100 < n := by omega
    have HE : Hid _ := hE
    have HH : Hid _ := h
    clear hE h
    go_enter Try.func27, Try.ntmps27
    go_upto_region 3 with (fail)
    have t4 := two_new w (.int .i64 0) (.int .i64 0) 27
    have hB := below_alloc (Below.refl _ w) (Obj.cells #[.int .i64 0, .int .i64 0] 27)
    generalize w.alloc (Obj.cells #[.int .i64 0, .int .i64 0] 27) = W at t4 hB ⊢
    go_wp2
    go_loopw [5] (fun i wr => ∃ k : Nat, k ≤ es.length ∧ i = .int .i64 (k : Int) ∧ wr = W ∧ ∀ (j : Nat) (e : Pair), j < k → es[j]? = some e → ArcIn n e) (fun i _ => es.length - (numOf i).toNat)
    case atStart => exact ⟨0, Nat.zero_le _, rfl, rfl, fun j e hj => by omega⟩
    case round =>
      obtain ⟨k, hk, rfl, rfl, hsf⟩ := hrel
      have HSF : Hid _ := hsf
      clear hsf
      by_cases hkl : k < es.length
      · obtain ⟨yo, yc, ey, _, _, hcells⟩ := EdgesAt.below HE.out hB
        cases ey
        obtain ⟨b, off, rfl, c1, c2⟩ := hcells k hkl
        obtain ⟨x, y, hxy⟩ : ∃ x y, es[k] = (x, y) := ⟨es[k].1, es[k].2, rfl⟩
        have hget : es[k]? = some (x, y) := by rw [List.getElem?_eq_getElem hkl, hxy]
        have HGT : Hid _ := hget
        rw [hxy] at c1 c2
        clear hcells hxy hget
        have j1 : (0 : Int) ≤ (k : Int) := by omega
        have j2 : (k : Int) < (es.length : Int) := by omega
        by_cases hin : ArcIn n (x, y)
        · have HIN : Hid _ := hin
          obtain ⟨a1, a2, a3, a4⟩ := hin
          have b1 : ¬ x < 0 := by simp at a1; omega
          have b2 : ¬ y < 0 := by simp at a2; omega
          have b3 : ¬ n ≤ x := by simp at a3; omega
          have b4 : ¬ n ≤ y := by simp at a4; omega
          clear a1 a2 a3 a4
          go_wp2
          go_roundw
          case rel =>
            refine ⟨k + 1, by omega, by go_num, trivial, fun j e hj he => ?_⟩
            by_cases e1 : j = k
            · subst e1; rw [HGT.out] at he; cases he; exact HIN.out
            · exact HSF.out j e (by omega) he
          case measure => simp [numOf]; omega
        · have hcd : c = 3 ∧ d = (k : Int) := by
            rcases HH.out with ⟨k', e', h1, h2, h3, h4, h5⟩ | ⟨h1, _⟩
            · have e1 : k' = k := by
                rcases Nat.lt_trichotomy k' k with h | h | h
                · exact absurd (HSF.out k' e' h h1) h2
                · exact h
                · exact absurd (h3 k _ h HGT.out) hin
              exact ⟨h4, by rw [h5, e1]⟩
            · exact absurd (h1 _ (List.mem_of_getElem? HGT.out)) hin
          obtain ⟨rfl, rfl⟩ := hcd
          have hor : x < 0 ∨ (¬ x < 0 ∧ y < 0) ∨ (¬ x < 0 ∧ ¬ y < 0 ∧ n ≤ x) ∨ (¬ x < 0 ∧ ¬ y < 0 ∧ ¬ n ≤ x ∧ n ≤ y) := by
            unfold ArcIn at hin; simp only at hin; omega
          clear hin
          rcases hor with b1 | ⟨b1, b2⟩ | ⟨b1, b2, b3⟩ | ⟨b1, b2, b3, b4⟩
          all_goals
            go_wp2_with (first | (go_at_call 33; refine (refF_any _ _ _).mono ?_; rintro e w2 ⟨rfl, hb2⟩; obtain ⟨z1, z2⟩ := cell_two (two_next t4 hb2); have f1 := free_two (two_next t4 hb2) 0; have f2 := free_two (two_next t4 hb2) 1) | go_in)
            refine bodyPost_ret (v := .agg #[.int .i64 3, .int .i64 (k : Int)]) ?_ rfl ⟨rfl, ((below_next hB hb2).setCell (by simp) _).setCell (by simp) _⟩
            simp [results, Try.results27, go_sem, z1, z2]
      · have hcd : c = 0 ∧ d = 0 := by
          rcases HH.out with ⟨k', e', h1, h2, _⟩ | ⟨_, h2⟩
          · have := (List.getElem?_eq_some_iff.1 h1).1
            exact absurd (HSF.out k' e' (by omega) h1) h2
          · exact h2
        obtain ⟨rfl, rfl⟩ := hcd
        obtain ⟨z1, z2⟩ := cell_two t4
        have f1 := free_two t4 0
        have f2 := free_two t4 1
        go_wp2
        refine bodyPost_ret (v := .agg #[.int .i64 0, .int .i64 0]) ?_ rfl ⟨rfl, (hB.setCell (by simp) _).setCell (by simp) _⟩
        simp [results, Try.results27, go_sem, z1, z2]
end Go.Proofs.Ytgepibidhebbiab
