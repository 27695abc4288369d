/- The document's Own, with where the copy lies. -/
import Derived.Test.YtmbhmahclfdgnaaOwn
namespace Go.Proofs.Ytmbhmahclfdgnaa
open Go.RowKit Go.Maps
attribute [local go_sem ↓] Go.wp_at_zero Go.wp_at_succ

set_option maxHeartbeats 1000000 in
theorem own_some_at (n : Int) (ad : Addr) (cap : Nat) (es : List Pair) (w : World) (hE : EdgesAt w (.slice (some ad) es.length cap) es) (hpos : 0 < es.length) :
    Calls Try.prog 7 #[.agg #[.int .i64 n, .slice (some ad) es.length cap]] w fun e w' => Below w.heap.size w w' ∧ ∃ ao c, e = .returned (.agg #[.int .i64 n, .slice ao es.length c]) ∧ EdgesAt w' (.slice ao es.length c) es ∧ es.length ≤ c ∧ ∀ x, ao = some x → w.heap.size ≤ x.block ∧ x.block < w'.heap.size := by
  obtain ⟨i0, hi, hz0, hz1, hz2⟩ := info_parts Try.info47
  have hlen : es.length ≤ 8796093022208 := by obtain ⟨_, _, _, h, _⟩ := hE; exact h
  have hI : ∀ e ∈ es, I64 e.1 ∧ I64 e.2 := by obtain ⟨_, _, _, _, h, _⟩ := hE; exact h
  have HI : Hid _ := hI
  clear hI
  go_enter Try.func7, Try.ntmps7
  go_wp2_with fail
  go_region_held3 (fun w' => w'.cell? ⟨w.heap.size, 0, none⟩ = some (.int .i64 n) ∧ w'.cell? ⟨w.heap.size, 1, none⟩ = some (.slice (some ad) es.length cap))
    (first | exact (own_kept hgrow).1 | go_keep)
    ((refine step_append_lies _ (by rfl) _ _ _ (by rfl) (w.heap.size + 2) 47 i0 _ 2 16 Try.underlying22 hi hz0 hz1 hz2 rfl (by omega) (.slice none 0 0) 0 [] (by rfl) (World.ownsRow_nil _ _ _ _) ad es.length cap (flat es) (by rfl) (flat_length es) (edges_news (hE.below (below2 _ _).drew)) (flat_one es) hpos (by unfold maxLen; omega) (by omega) (by simp) (w.heap.size + 2) (by simp) ?_; intro g c w1 hown hgrow hat hlt; have e0 := (cell_two (own_kept hgrow).2).1; have e1 := (cell_two (own_kept hgrow).2).2; have g0 := free_two (own_kept hgrow).2))
  all_goals
    go_split_ands
    go_wp2
    have hE1 := edgesAt_row (base := w.heap.size + 2) (L := es) (by simpa using hown) HI.out hlen
    have hcap : es.length ≤ c := by
      rcases hown.2 with ⟨h, _⟩ | ⟨_, _, _, h, _, _, hle, _⟩
      · cases h
      · cases h; simpa using hle
    have hgb : w.heap.size + 1 < g := by
      have := (hown.lt g rfl).1
      omega
    refine bodyPost_ret (v := .agg #[.int .i64 n, .slice (some ⟨g, 0, none⟩) es.length c]) ?_ rfl ⟨?_, some ⟨g, 0, none⟩, c, rfl, ?_, hcap, ?_⟩
    · simp [results, Try.results7, go_sem, e0, e1]
    · exact ((below_next (below2 _ _).drew (below_grown hgrow)).setCell (by simp) _).setCell (by simp) _
    · exact (hE1.setCell (fun x hx => by cases hx; simp; omega) _).setCell (fun x hx => by cases hx; simp; omega) _
    · intro x hx
      cases hx
      refine ⟨?_, ?_⟩
      · show w.heap.size ≤ g
        omega
      · simpa [World.setCell] using hlt

theorem own_at (n : Int) (ao : Option Addr) (cap : Nat) (es : List Pair) (w : World) (hE : EdgesAt w (.slice ao es.length cap) es) :
    Calls Try.prog 7 #[.agg #[.int .i64 n, .slice ao es.length cap]] w fun e w' => Below w.heap.size w w' ∧ ∃ ao c, e = .returned (.agg #[.int .i64 n, .slice ao es.length c]) ∧ EdgesAt w' (.slice ao es.length c) es ∧ es.length ≤ c ∧ ∀ x, ao = some x → w.heap.size ≤ x.block ∧ x.block < w'.heap.size := by
  cases es with
  | nil =>
    refine (own_nil n ao cap w).mono ?_
    rintro e w' ⟨rfl, hb⟩
    exact ⟨hb, none, 0, rfl, edgesAt_nil _, Nat.le_refl _, fun x h => by cases h⟩
  | cons e r =>
    cases ao with
    | none =>
      obtain ⟨ao', cap', e', _, _, h⟩ := hE
      cases e'
      obtain ⟨b, off, h', _⟩ := h 0 (by simp)
      cases h'
    | some ad => exact own_some_at n ad cap (e :: r) w hE (by simp)

end Go.Proofs.Ytmbhmahclfdgnaa
