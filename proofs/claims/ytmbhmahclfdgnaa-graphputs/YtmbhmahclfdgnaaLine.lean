/- Line: the edges as nodes. -/
import Derived.Test.YtmbhmahclfdgnaaParts
import Derived.Test.YtmbhmahclfdgnaaSmall
namespace Go.Proofs.Ytmbhmahclfdgnaa
open Go.RowKit Go.Maps
attribute [local go_sem ↓] Go.wp_at_zero Go.wp_at_succ

/-- Have two edges a node together? -/
def meetB (d e : Pair) : Bool := d.1 == e.1 || (d.1 == e.2 || (d.2 == e.1 || d.2 == e.2))

/-- Which edges of a list, by their places, are near each other. -/
def lineP (L : List Pair) (u v : Int) : Bool := meetB (L.getD u.toNat (0, 0)) (L.getD v.toNat (0, 0))

theorem lineP_at {L : List Pair} {u v : Nat} (hu : u < L.length) (hv : v < L.length) : lineP L u v = meetB L[u] L[v] := by
  simp [lineP, hu, hv]

set_option maxHeartbeats 1000000 in
theorem meet_any (a b c d : Int) (w : World) :
    Calls Try.prog 37 #[.agg #[.int .i64 a, .int .i64 b], .agg #[.int .i64 c, .int .i64 d]] w fun e w' => e = .returned (.bool (meetB (a, b) (c, d))) ∧ Below w.heap.size w w' := by
  by_cases h1 : (a == c) = true
  · have e : meetB (a, b) (c, d) = true := by unfold meetB; simp only [h1]; rfl
    rw [e]
    go_enter Try.func37, Try.ntmps37
    go_wp2
    go_ret
    exact ⟨rfl, below2 _ _⟩
  · have h1' : (a == c) = false := by simpa using h1
    by_cases h2 : (a == d) = true
    · have e : meetB (a, b) (c, d) = true := by unfold meetB; simp only [h1', h2]; rfl
      rw [e]
      go_enter Try.func37, Try.ntmps37
      go_wp2
      go_ret
      exact ⟨rfl, below2 _ _⟩
    · have h2' : (a == d) = false := by simpa using h2
      by_cases h3 : (b == c) = true
      · have e : meetB (a, b) (c, d) = true := by unfold meetB; simp only [h1', h2', h3]; rfl
        rw [e]
        go_enter Try.func37, Try.ntmps37
        go_wp2
        go_ret
        exact ⟨rfl, below2 _ _⟩
      · have h3' : (b == c) = false := by simpa using h3
        have e : meetB (a, b) (c, d) = (b == d) := by unfold meetB; simp only [h1', h2', h3']; rfl
        rw [e]
        go_enter Try.func37, Try.ntmps37
        go_wp2
        go_ret
        exact ⟨rfl, below2 _ _⟩

theorem enter36 (args : Array Value) (w : World) : (callFunc 36 args).run Try.prog w = .ok (.enter 36 args) w := by
  simp [callFunc, Try.func36, go_sem]
  rw [if_neg (of_decide_eq_true (by kernel_rfl)), if_neg (by intro h; have : Try.f36.body.isSome = true := (by kernel_rfl); rw [h] at this; cases this)]

theorem EdgesAt.at {w : World} {ao : Option Addr} {n cap : Nat} {L : List Pair} (h : EdgesAt w (.slice ao n cap) L) {k : Nat} (hk : k < L.length) :
    ∃ b off, ao = some ⟨b, off, none⟩ ∧ w.cell? ⟨b, off + k * 2, none⟩ = some (.int .i64 L[k].1) ∧ w.cell? ⟨b, off + k * 2 + 1, none⟩ = some (.int .i64 L[k].2) := by
  obtain ⟨ao', cap', e, _, _, h4⟩ := h
  cases e
  exact h4 k hk

theorem keep_line {w : World} {B b off u v : Nat} {s : Value} {xa xb ya yb : Int} (hc : w.cell? ⟨B, 1, none⟩ = some s) (x0 : w.cell? ⟨b, off + u * 2, none⟩ = some (.int .i64 xa)) (x1 : w.cell? ⟨b, off + u * 2 + 1, none⟩ = some (.int .i64 xb)) (y0 : w.cell? ⟨b, off + v * 2, none⟩ = some (.int .i64 ya)) (y1 : w.cell? ⟨b, off + v * 2 + 1, none⟩ = some (.int .i64 yb)) {w' : World} (hb : Below w.heap.size w w') :
    Below w.heap.size w w' ∧ w'.cell? ⟨B, 1, none⟩ = some s ∧ w'.cell? ⟨b, off + u * 2, none⟩ = some (.int .i64 xa) ∧ w'.cell? ⟨b, off + u * 2 + 1, none⟩ = some (.int .i64 xb) ∧ w'.cell? ⟨b, off + v * 2, none⟩ = some (.int .i64 ya) ∧ w'.cell? ⟨b, off + v * 2 + 1, none⟩ = some (.int .i64 yb) :=
  ⟨hb, (hb.cell (World.block_lt_of_cell? w _ hc)).trans hc, (hb.cell (World.block_lt_of_cell? w _ x0)).trans x0, (hb.cell (World.block_lt_of_cell? w _ x1)).trans x1, (hb.cell (World.block_lt_of_cell? w _ y0)).trans y0, (hb.cell (World.block_lt_of_cell? w _ y1)).trans y1⟩

set_option maxHeartbeats 1000000 in
theorem line_call {w : World} {B : Nat} {ao : Option Addr} {cap : Nat} {L : List Pair} (hc : w.cell? ⟨B, 1, none⟩ = some (.slice ao L.length cap)) (hE : EdgesAt w (.slice ao L.length cap) L) {u v : Nat} (hu : u < L.length) (hv : v < L.length) :
    Calls Try.prog 36 #[.int .i64 u, .int .i64 v, .pointer (some ⟨B, 0, none⟩)] w fun e w' => e = .returned (.bool (lineP L u v)) ∧ Below w.heap.size w w' := by
  rw [lineP_at hu hv]
  obtain ⟨b, off, rfl, x0, x1⟩ := hE.at hu
  obtain ⟨b', off', e, y0, y1⟩ := hE.at hv
  cases e
  have hl : L.length ≤ 8796093022208 := by obtain ⟨_, _, _, h, _⟩ := hE; exact h
  clear hE
  obtain ⟨xa, xb, hxu⟩ : ∃ x y, L[u] = (x, y) := ⟨L[u].1, L[u].2, rfl⟩
  obtain ⟨ya, yb, hyv⟩ : ∃ x y, L[v] = (x, y) := ⟨L[v].1, L[v].2, rfl⟩
  rw [hxu] at x0 x1
  rw [hyv] at y0 y1
  rw [hxu, hyv]
  clear hxu hyv
  have u1 : (0 : Int) ≤ (u : Int) := by omega
  have u2 : (u : Int) < (L.length : Int) := by omega
  have v1 : (0 : Int) ≤ (v : Int) := by omega
  have v2 : (v : Int) < (L.length : Int) := by omega
  go_enter Try.func36, Try.ntmps36
  go_wp2_with fail
  go_region_held3 (fun w' => Below w.heap.size w w' ∧ w'.cell? ⟨B, 1, none⟩ = some (.slice (some ⟨b, off, none⟩) L.length cap) ∧ w'.cell? ⟨b, off + u * 2, none⟩ = some (.int .i64 xa) ∧ w'.cell? ⟨b, off + u * 2 + 1, none⟩ = some (.int .i64 xb) ∧ w'.cell? ⟨b, off + v * 2, none⟩ = some (.int .i64 ya) ∧ w'.cell? ⟨b, off + v * 2 + 1, none⟩ = some (.int .i64 yb))
    (first | assumption | exact keep_line hc x0 x1 y0 y1 (Below.refl _ _).drew | (go_split_ands; exact keep_line hc x0 x1 y0 y1 (below_next (by assumption) hbk)))
    ((go_at_call 37; refine (meet_any _ _ _ _ _).mono ?_; rintro e w1 ⟨rfl, hbk⟩))
  all_goals
    go_split_ands
    go_wp2
    go_ret
    exact ⟨rfl, by assumption⟩

/-- What Line answers. -/
def lineS (n : Int) (es : List Pair) : Ans := if (chk n es).1 = 0 then buildS (allP n.toNat (hasB es)).length (lineP (allP n.toNat (hasB es))) else ⟨0, [], (chk n es).1, (chk n es).2⟩

set_option maxHeartbeats 1000000 in
theorem line_tells (n : Int) (v : Value) (es : List Pair) (w : World) (hE : EdgesAt w v es) : Tells 20 #[.agg #[.int .i64 n, v]] w (lineS n es) := by
  unfold Tells
  by_cases hc0 : (chk n es).1 = 0
  · obtain ⟨hck, hn0, hn1, hl, hgood⟩ := chk_good hc0
    obtain ⟨m, rfl⟩ : ∃ m : Nat, n = m := ⟨n.toNat, by omega⟩
    clear hgood
    have hF := formS_good hc0
    have hlen := Nat.le_trans (allP_has_le m es) hl
    rw [show lineS m es = buildS (allP m (hasB es)).length (lineP (allP m (hasB es))) by unfold lineS; rw [if_pos hc0]; simp]
    generalize allP m (hasB es) = L at hF hlen
    have HF : Hid _ := hF
    clear hF hck
    go_enter Try.func20, Try.ntmps20
    go_wp2_with (first | (go_at_call 9; refine (form_as ?_ HF.out).mono ?_; exact hE.below (below3 _ _ _); rintro e w1 ⟨hb, lo, lc, rfl, hEl, _⟩; obtain ⟨bc, bf, bc1, bf1, bc2, bf2⟩ := bcell hb; have hz := hb.size; simp at hz) | (go_at_call 33; refine (build_tells L.length 36 #[.pointer (some ⟨w1.heap.size, 0, none⟩)] (lineP L) _ enter36 ?_).mono ?_; exact fun hm w' hw' u v h1 h2 => line_call (B := w1.heap.size) (ao := lo) (cap := lc) (by rw [hw'.cell (by simp; omega)]; exact all_alloc (cell_two (heap_alloc_new w1 _)).2 _) ((hEl.below (below2 _ _)).below hw') (by omega) h2; rintro e w2 ⟨hb2, ao2, cap2, rfl, hE2, hfr⟩; have hb3 := below_next (below_alloc (below_alloc hb _) _) hb2; obtain ⟨bc3, bf3, bc4, bf4, bc5, bf5⟩ := bcell hb3))
    refine bodyPost_ret (v := .tuple #[.agg #[.int .i64 (buildS L.length (lineP L)).n, .slice ao2 (buildS L.length (lineP L)).es.length cap2], .agg #[.int .i64 (buildS L.length (lineP L)).c, .int .i64 (buildS L.length (lineP L)).pos]]) ?_ rfl ⟨?_, ao2, cap2, rfl, ?_, ?_⟩
    · simp [results, Try.results20, go_sem, bc3]
    · exact below_set4 (below_next (below3 _ _ _) hb3) (by simp) (by simp) (by simp; omega) (by simp; omega)
    · have q : ∀ x, ao2 = some x → w.heap.size + 1 + 1 < x.block := fun x hx => by have := hfr x hx; simp at this; omega
      exact (((hE2.setCell (fun x hx => by have := q x hx; simp; omega) _).setCell (fun x hx => by have := q x hx; simp; omega) _).setCell (fun x hx => by have := q x hx; simp; omega) _).setCell (fun x hx => by have := q x hx; simp; omega) _
    · intro x hx; have := hfr x hx; simp at this; omega
  · have hc1 : ((chk n es).1 != 0) = true := by simpa using hc0
    rw [show lineS n es = ⟨0, [], (chk n es).1, (chk n es).2⟩ by unfold lineS; rw [if_neg hc0]]
    have hF : formS n es = ⟨0, [], (chk n es).1, (chk n es).2⟩ := by unfold formS; rw [if_neg hc0]
    have HF : Hid _ := hF
    clear hF
    go_enter Try.func20, Try.ntmps20
    go_wp2_with (go_at_call 9; refine (form_as ?_ HF.out).mono ?_; exact hE.below (below3 _ _ _); rintro e w1 ⟨hb, lo, lc, rfl, hEl, _⟩; obtain ⟨bc, bf, bc1, bf1, bc2, bf2⟩ := bcell hb; have hz := hb.size; simp at hz)
    go_region
    go_wp2
    refine bodyPost_ret (v := .tuple #[.agg #[.int .i64 0, .slice none 0 0], .agg #[.int .i64 (chk n es).1, .int .i64 (chk n es).2]]) ?_ rfl ⟨?_, none, 0, rfl, edgesAt_nil _, fun x h => by cases h⟩
    · simp [results, Try.results20, go_sem, bc2]
    · exact (below_set4 (below_alloc (below_alloc (below_next (below3 _ _ _) hb) _) _) (by simp) (by simp) (by simp; omega) (by simp; omega)).drew
end Go.Proofs.Ytmbhmahclfdgnaa
