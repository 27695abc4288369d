/- The bags that hang at each bag, as newScale lays them. The scale is laid: newScale. -/
import Derived.Test.YtdalconphfgepaaDoorUpW
namespace Go.Proofs.YtdalconphfgepaaDoor
set_option maxRecDepth 8000
open Go.RowKit Go.Maps
theorem make29 (N : Nat) (hN : N ≤ 1000) (w : World) : (Instr.makeSlice 29 (.int .i64 (N : Int)) (.int .i64 (N : Int))).run Tryd.prog w = .ok (.slice (some ⟨w.heap.size, 0, none⟩) N N) (w.alloc (.cells (rep N (.slice none 0 0)) 30)) := by
  obtain ⟨i30, hi30, hy0, hy1, hy2⟩ := info_parts Tryd.info30
  have hr := run_make (P := Tryd.prog) w 29 30 i30 (.slice none 0 0) Tryd.underlying29 hi30 hy0 .i64 .i64 N N (by omega) (Int.le_refl _) (by rw [hy2]; omega) (by omega)
  simpa [hy1, Value.cells] using hr
def rootV (f : Nat → Int) : Nat → Int
  | 0 => -1
  | k + 1 => if f k = -1 then (k : Int) else rootV f k
def kidsTo (f : Nat → Int) (k i : Nat) : List Nat := (List.range k).filter fun j => decide (f j = (i : Int))
theorem kidsTo_succ (f : Nat → Int) (k i : Nat) : kidsTo f (k + 1) i = kidsTo f k i ++ if f k = (i : Int) then [k] else [] := by
  unfold kidsTo
  rw [List.range_succ, List.filter_append]
  congr 1
  by_cases h : f k = (i : Int)
  · simp [h]
  · simp [h]
theorem kidsTo_mem {f : Nat → Int} {k i j : Nat} : j ∈ kidsTo f k i ↔ (j < k ∧ f j = (i : Int)) := by simp [kidsTo]
theorem kidsTo_len (f : Nat → Int) (k i : Nat) : (kidsTo f k i).length ≤ k := by
  unfold kidsTo
  refine Nat.le_trans (List.length_filter_le _ _) (by simp)
theorem kidsTo_nodup (f : Nat → Int) (k i : Nat) : (kidsTo f k i).Nodup := List.Pairwise.filter _ List.nodup_range
theorem root_is {f : Nat → Int} {r : Nat} : ∀ {m : Nat}, r < m → f r = -1 → (∀ s, s < m → f s = -1 → s = r) → rootV f m = (r : Int)
  | 0, h, _, _ => by omega
  | m + 1, h, hr, hu => by
    unfold rootV
    by_cases hm : f m = -1
    · rw [if_pos hm, hu m (by omega) hm]
    · rw [if_neg hm]
      have : r ≠ m := fun e => hm (by rw [← e]; exact hr)
      exact root_is (by omega) hr (fun s hs => hu s (by omega))
/-- The table of bags that hang at each bag. -/
structure KT (w : World) (bk m base : Nat) (kl : Nat → List Nat) (vals : Nat → Value) : Prop where
  row : RowV w bk 30 m vals
  own : ∀ i, i < m → w.ownsRow base 3 1 (vals i) (kl i).length (qv (kl i))
  nil : ∀ i, i < m → kl i = [] → vals i = .slice none 0 0
theorem KT.form {w : World} {bk m base : Nat} {kl : Nat → List Nat} {vals : Nat → Value} (h : KT w bk m base kl vals) {i : Nat} (hi : i < m) : ∃ xo xc, vals i = .slice xo (kl i).length xc := by
  obtain ⟨ao, cap, e⟩ := form_row (h.own i hi)
  exact ⟨ao, cap, e⟩
theorem KT.under {w w' : World} {bk m base : Nat} {kl : Nat → List Nat} {vals : Nat → Value} (h : KT w bk m base kl vals) (hb : Below w.heap.size w w') : KT w' bk m base kl vals :=
  ⟨h.row.block (hb.block bk h.row.lt), fun i hi => own_turns (h.own i hi) (row := none) ⟨hb.os, hb.tape, hb.output, hb.size, fun j hj _ => hb.block j hj⟩ (fun j hj e => by cases e), h.nil⟩
theorem KT.head {w : World} {bk m base : Nat} {kl : Nat → List Nat} {vals : Nat → Value} (h : KT w bk m base kl vals) {i g : Nat} (hi : i < m) (hg : (vals i).ownBlock = some g) : ∃ x ∈ kl i, w.cell? ⟨g, 0, none⟩ = some (.int .i64 (x : Int)) := by
  cases hl : kl i with
  | nil => rw [h.nil i hi hl] at hg; cases hg
  | cons x l =>
    obtain ⟨xo, xc, e⟩ := h.form hi
    have ho := h.own i hi
    rw [e] at ho hg
    obtain ⟨g', e1, c1⟩ := qcell ho (k := 0) (u := x) (by rw [hl]; rfl)
    subst e1
    cases hg
    exact ⟨x, by simp, c1⟩
theorem own_cells3 {w : World} {base : Nat} {v : Value} {n : Nat} {xs : List Value} (h : w.ownsRow base 3 1 v n xs) {g : Nat} (hg : v.ownBlock = some g) : ∃ cs z, w.heap[g]? = some (.cells cs 3 z) := by
  rcases h.2 with ⟨e1, e2⟩ | ⟨g', cc, cur, e1, e2, e3, _⟩
  · rw [e1] at hg; cases hg
  · rw [e1] at hg; cases hg; exact ⟨_, _, e3⟩
/-- One more is put behind the bags that hang at i. -/
theorem KT.push {w w1 w2 : World} {bk m base : Nat} {kl : Nat → List Nat} {vals : Nat → Value} (h : KT w bk m base kl vals) (hdis : ∀ i j x, i < m → j < m → i ≠ j → x ∈ kl i → x ∈ kl j → False) {i : Nat} (hi : i < m) (k : Nat) {v' : Value} (hB : Below w.heap.size w w1) (hg : w1.grownBy w2 (vals i).ownBlock) (ho : w2.ownsRow base 3 1 v' ((kl i).length + 1) (qv (kl i) ++ [.int .i64 (k : Int)])) :
    KT (w2.setCell ⟨bk, i, none⟩ v') bk m base (fun j => if j = i then kl i ++ [k] else kl j) (fun j => if j = i then v' else vals j) := by
  have h1 := h.under hB
  have hbk : ∀ {v : Value} {n : Nat} {xs : List Value} {W : World} {vs : Nat → Value}, RowV W bk 30 m vs → W.ownsRow base 3 1 v n xs → v.ownBlock ≠ some bk := fun hr ho e => by
    obtain ⟨cs, z, hc⟩ := own_cells3 ho e
    obtain ⟨cur, h2, _⟩ := hr
    rw [hc] at h2
    cases h2
  have hrow2 : RowV w2 bk 30 m vals := h1.row.block (hg.block bk h1.row.lt (fun e => hbk h1.row (h1.own i hi) e.symm))
  have hset : ∀ {v : Value} {n : Nat} {xs : List Value}, w2.ownsRow base 3 1 v n xs → (w2.setCell ⟨bk, i, none⟩ v').ownsRow base 3 1 v n xs := fun ho' => own_turns ho' (setCell_turns w2 bk i v').grown (fun g hg e => hbk hrow2 ho' (by cases e; exact hg))
  refine ⟨hrow2.set i v', fun j hj => ?_, fun j hj hn => ?_⟩
  rotate_left
  · by_cases e : j = i
    · subst e; simp at hn
    · simp only [if_neg e] at hn ⊢; exact h.nil j hj hn
  by_cases e : j = i
  · subst e
    simp only [if_true]
    have := hset ho
    simpa [qv] using this
  · simp only [if_neg e]
    refine hset (own_turns (h1.own j hj) hg (fun g hgj hgi => ?_))
    obtain ⟨x, hx, c1⟩ := h1.head hi hgi
    obtain ⟨y, hy, c2⟩ := h1.head hj hgj
    rw [c1] at c2
    have exy : x = y := by
      have := Option.some.inj c2
      simp only [Value.int.injEq, true_and] at this
      omega
    subst exy
    exact hdis i j x hi hj (fun e' => e e'.symm) hx hy
end Go.Proofs.YtdalconphfgepaaDoor

namespace Go.Proofs.YtdalconphfgepaaDoor
set_option maxRecDepth 8000
open Go.RowKit Go.Maps
attribute [local go_sem ↓] Go.wp_at_zero Go.wp_at_succ
theorem store_five {w : World} {b : Nat} {x0 x1 x2 x3 x4 : Value} {t : TypeId} (h : Box w b #[x0, x1, x2, x3, x4] t) (y0 y1 y2 y3 y4 : Value) : w.cell? ⟨b, 0, none⟩ = some x0 ∧ w.frozen? ⟨b, 0, none⟩ = false ∧ (w.setCell ⟨b, 0, none⟩ y0).cell? ⟨b, 1, none⟩ = some x1 ∧ (w.setCell ⟨b, 0, none⟩ y0).frozen? ⟨b, 1, none⟩ = false ∧ ((w.setCell ⟨b, 0, none⟩ y0).setCell ⟨b, 1, none⟩ y1).cell? ⟨b, 2, none⟩ = some x2 ∧ ((w.setCell ⟨b, 0, none⟩ y0).setCell ⟨b, 1, none⟩ y1).frozen? ⟨b, 2, none⟩ = false ∧ (((w.setCell ⟨b, 0, none⟩ y0).setCell ⟨b, 1, none⟩ y1).setCell ⟨b, 2, none⟩ y2).cell? ⟨b, 3, none⟩ = some x3 ∧ (((w.setCell ⟨b, 0, none⟩ y0).setCell ⟨b, 1, none⟩ y1).setCell ⟨b, 2, none⟩ y2).frozen? ⟨b, 3, none⟩ = false ∧ ((((w.setCell ⟨b, 0, none⟩ y0).setCell ⟨b, 1, none⟩ y1).setCell ⟨b, 2, none⟩ y2).setCell ⟨b, 3, none⟩ y3).cell? ⟨b, 4, none⟩ = some x4 ∧ ((((w.setCell ⟨b, 0, none⟩ y0).setCell ⟨b, 1, none⟩ y1).setCell ⟨b, 2, none⟩ y2).setCell ⟨b, 3, none⟩ y3).frozen? ⟨b, 4, none⟩ = false ∧ Box (((((w.setCell ⟨b, 0, none⟩ y0).setCell ⟨b, 1, none⟩ y1).setCell ⟨b, 2, none⟩ y2).setCell ⟨b, 3, none⟩ y3).setCell ⟨b, 4, none⟩ y4) b #[y0, y1, y2, y3, y4] t ∧ Turns (fun k => k = b) w (((((w.setCell ⟨b, 0, none⟩ y0).setCell ⟨b, 1, none⟩ y1).setCell ⟨b, 2, none⟩ y2).setCell ⟨b, 3, none⟩ y3).setCell ⟨b, 4, none⟩ y4) := by
  have h1 := box_set h 0 y0
  have h2 := box_set h1 1 y1
  have h3 := box_set h2 2 y2
  have h4 := box_set h3 3 y3
  exact ⟨box_cell h rfl, box_free h 0, box_cell h1 (i := 1) rfl, box_free h1 1, box_cell h2 (i := 2) rfl, box_free h2 2, box_cell h3 (i := 3) rfl, box_free h3 3, box_cell h4 (i := 4) rfl, box_free h4 4, box_set h4 4 y4, ((((setCell_turns w b 0 _).trans (setCell_turns _ b 1 _)).trans (setCell_turns _ b 2 _)).trans (setCell_turns _ b 3 _)).trans (setCell_turns _ b 4 _)⟩
def VN (W : World) (ao : Option Addr) (el cap N : Nat) (near : List Nat) (wo : Option Addr) (wl wc bb m : Nat) : Nat → Value → World → Prop
  | 0, x, _ => x = .agg #[.int .i64 (N : Int), .slice ao el cap]
  | 1, x, w => ∃ bn, x = sl bn N ∧ SetsAt w bn near ∧ W.heap.size ≤ bn
  | 2, x, _ => x = .slice wo wl wc
  | 3, x, _ => x = sl bb m
  | 4, x, _ => x = sl bb m
  | 5, x, _ => x = .int .i64 (m : Int)
  | 6, x, w => ∃ bk, x = sl bk m ∧ RowV w bk 30 m (fun _ => .slice none 0 0) ∧ W.heap.size ≤ bk
  | 7, x, w => ∃ bn bk, x = .agg #[sl bn N, .slice wo wl wc, sl bb m, sl bk m, .int .i64 (-1)] ∧ (SetsAt w bn near ∧ W.heap.size ≤ bn) ∧ RowV w bk 30 m (fun _ => .slice none 0 0) ∧ W.heap.size ≤ bk
  | _, _, _ => False
theorem VN_mono {W : World} {ao : Option Addr} {el cap N : Nat} {near : List Nat} {wo : Option Addr} {wl wc bb m : Nat} : ∀ i x w w', VN W ao el cap N near wo wl wc bb m i x w → Below w.heap.size w w' → VN W ao el cap N near wo wl wc bb m i x w' := fun i x w w' h hb => by
  match i with
  | 0 => exact h
  | 1 => obtain ⟨bn, h1, h2, h3⟩ := h; exact ⟨bn, h1, h2.under hb, h3⟩
  | 2 => exact h
  | 3 => exact h
  | 4 => exact h
  | 5 => exact h
  | 6 => obtain ⟨bk, h1, h2, h3⟩ := h; exact ⟨bk, h1, h2.block (hb.block bk h2.lt), h3⟩
  | 7 => obtain ⟨bn, bk, h1, h2, h3, h4⟩ := h; exact ⟨bn, bk, h1, ⟨h2.1.under hb, h2.2⟩, h3.block (hb.block bk h3.lt), h4⟩
  | n + 8 => exact h
def aggC : Value → Array Value
  | .agg cs => cs
  | _ => #[]
/-- What the loop over the bags keeps. -/
structure NwI (w wz : World) (b4 b8 b9 bn bk N m : Nat) (near : List Nat) (wv : Value) (bb : Nat) (f : Nat → Int) (k : Nat) (vals : Nat → Value) : Prop where
  bel : Below w.heap.size w wz
  box : Box wz b9 #[sl bn N, wv, sl bb m, sl bk m, .int .i64 (rootV f k)] 80
  res : Box wz b8 #[.slice none 0 0, .slice none 0 0, .slice none 0 0, .slice none 0 0, .int .i64 0] 80
  sn : SetsAt wz bn near
  kt : KT wz bk m w.heap.size (kidsTo f k) vals
  ap : w.heap.size ≤ b8 ∧ w.heap.size ≤ b9 ∧ w.heap.size ≤ bk ∧ b8 ≠ b9
def VK (b9 bk m a k : Nat) (va : Value) : Nat → Value
  | 0 => .pointer (some ⟨b9, 3, none⟩)
  | 1 => sl bk m
  | 2 => .int .i64 (a : Int)
  | 3 => .pointer (some ⟨b9, 3, none⟩)
  | 4 => sl bk m
  | 5 => .int .i64 (a : Int)
  | 6 => .pointer (some ⟨bk, a, none⟩)
  | 7 => va
  | 8 => .int .i64 (k : Int)
  | 11 => .pointer (some ⟨bk, a, none⟩)
  | _ => undef
/-- What append has done. -/
def AP (W : World) (base : Nat) (va : Value) (ka : List Nat) (k : Nat) (x : Value) (w : World) : Prop := ∃ w1, Below W.heap.size W w1 ∧ w1.grownBy w va.ownBlock ∧ w.ownsRow base 3 1 x (ka.length + 1) (qv ka ++ [.int .i64 (k : Int)])
structure SK (W : World) (b9 bk m a k base : Nat) (va : Value) (ka : List Nat) (L : Nat → Bool) (f : Nat → Value) (w : World) : Prop where
  told : ∀ i, (i < 9 ∨ i = 11) → L i = true → f i = VK b9 bk m a k va i
  t9 : L 9 = true → ∃ bq, f 9 = .slice (some ⟨bq, 0, none⟩) 1 1 ∧ (L 10 = false → w.cell? ⟨bq, 0, none⟩ = some (.int .i64 (k : Int)))
  w0 : L 10 = false → Below W.heap.size W w
  w1 : L 10 = true → L 12 = false → AP W base va ka k (f 10) w
  w2 : L 12 = true → ∃ w1, AP W base va ka k (f 10) w1 ∧ w = w1.setCell ⟨bk, a, none⟩ (f 10)
  cl : L 12 = true → ∀ j, j < 12 → L j = true
  cl2 : L 10 = true → L 7 = true ∧ L 9 = true
section
variable {W : World} {b9 bk m a k base : Nat} {va : Value} {ka : List Nat} {L : Nat → Bool} {f : Nat → Value} {w w' : World}
theorem SK.open_ (h : SK W b9 bk m a k base va ka L f w) {i : Nat} (hL : L i = false) (hi : i < 12) : L 12 = false := by
  cases e : L 12 with
  | false => rfl
  | true => have := h.cl e i hi; rw [hL] at this; cases this
theorem SK.start : SK W b9 bk m a k base va ka (fun _ => false) f W.drew :=
  ⟨fun _ _ h => (by cases h), fun h => (by cases h), fun _ => (Below.refl _ W).drew, fun h => (by cases h), fun h => (by cases h), fun h => (by cases h), fun h => (by cases h)⟩
/-- An operation that only reads. -/
theorem SK.put (h : SK W b9 bk m a k base va ka L f w) {i : Nat} (hL : L i = false) (hi : i < 9 ∨ i = 11) : SK W b9 bk m a k base va ka (also L i) (updV f i (VK b9 bk m a k va i)) w := by
  have h12 := h.open_ hL (by omega)
  have a12 : also L i 12 = false := by rw [also_at (by omega)]; exact h12
  have a10 : also L i 10 = L 10 := also_at (by omega)
  have a9 : also L i 9 = L 9 := also_at (by omega)
  refine ⟨fun j hj hk => ?_, fun hk => ?_, fun hk => h.w0 (by rw [← a10]; exact hk), fun hk _ => ?_, fun hk => (by rw [a12] at hk; cases hk), fun hk => (by rw [a12] at hk; cases hk), fun hk => ?_⟩
  · by_cases e : j = i
    · subst e; exact updV_same _ _ _
    · rw [updV_ne _ _ e]; exact h.told j hj (by rwa [also_at e] at hk)
  · rw [a9] at hk
    obtain ⟨bq, h1, h2⟩ := h.t9 hk
    exact ⟨bq, by rw [updV_ne _ _ (by omega)]; exact h1, fun h3 => h2 (by rw [← a10]; exact h3)⟩
  · rw [updV_ne _ _ (by omega)]; exact h.w1 (by rw [← a10]; exact hk) h12
  · rw [a10] at hk
    have := h.cl2 hk
    exact ⟨also_of this.1 _, also_of this.2 _⟩
theorem SK.build (h : SK W b9 bk m a k base va ka L f w) (hL : L 9 = false) : SK W b9 bk m a k base va ka (also L 9) (updV f 9 (.slice (some ⟨w.heap.size, 0, none⟩) 1 1)) (w.alloc (Obj.cells #[.int .i64 (k : Int)] 3)) := by
  have h12 := h.open_ hL (by omega)
  have h10 : L 10 = false := by
    cases e : L 10 with
    | false => rfl
    | true => have := (h.cl2 e).2; rw [hL] at this; cases this
  have a12 : also L 9 12 = false := by rw [also_at (by omega)]; exact h12
  have a10 : also L 9 10 = false := by rw [also_at (by omega)]; exact h10
  refine ⟨fun j hj hk => ?_, fun _ => ⟨w.heap.size, updV_same _ _ _, fun _ => box_cell (box_new _ _ _) (i := 0) rfl⟩, fun _ => below_alloc (h.w0 h10) _, fun hk => (by rw [a10] at hk; cases hk), fun hk => (by rw [a12] at hk; cases hk), fun hk => (by rw [a12] at hk; cases hk), fun hk => (by rw [a10] at hk; cases hk)⟩
  rw [updV_ne _ _ (by omega)]
  exact h.told j hj (by rwa [also_at (by omega)] at hk)
theorem SK.app (h : SK W b9 bk m a k base va ka L f w) (hL : L 10 = false) (h7 : L 7 = true) (h9 : L 9 = true) {x : Value} (hA : AP W base va ka k x w') : SK W b9 bk m a k base va ka (also L 10) (updV f 10 x) w' := by
  have h12 := h.open_ hL (by omega)
  have a12 : also L 10 12 = false := by rw [also_at (by omega)]; exact h12
  have a10 : also L 10 10 = true := also_self _ _
  refine ⟨fun j hj hk => ?_, fun _ => ?_, fun hk => (by rw [a10] at hk; cases hk), fun _ _ => (by rw [updV_same]; exact hA), fun hk => (by rw [a12] at hk; cases hk), fun hk => (by rw [a12] at hk; cases hk), fun _ => ⟨also_of h7 _, also_of h9 _⟩⟩
  · rw [updV_ne _ _ (by omega)]; exact h.told j hj (by rwa [also_at (by omega)] at hk)
  · obtain ⟨bq, h1, _⟩ := h.t9 h9
    exact ⟨bq, by rw [updV_ne _ _ (by omega)]; exact h1, fun h3 => (by rw [a10] at h3; cases h3)⟩
theorem SK.store (h : SK W b9 bk m a k base va ka L f w) (hL : L 12 = false) (hall : ∀ j, j < 12 → L j = true) (x : Value) : SK W b9 bk m a k base va ka (also L 12) (updV f 12 x) (w.setCell ⟨bk, a, none⟩ (f 10)) := by
  have a12 : also L 12 12 = true := also_self _ _
  have a10 : also L 12 10 = true := also_of (hall 10 (by omega)) _
  refine ⟨fun j hj hk => ?_, fun _ => ?_, fun hk => (by rw [a10] at hk; cases hk), fun _ hk => (by rw [a12] at hk; cases hk), fun _ => ⟨w, ?_, ?_⟩, fun _ j hj => also_of (hall j hj) _, fun _ => ⟨also_of (hall 7 (by omega)) _, also_of (hall 9 (by omega)) _⟩⟩
  · rw [updV_ne _ _ (by omega)]; exact h.told j hj (hall j (by omega))
  · obtain ⟨bq, h1, _⟩ := h.t9 (hall 9 (by omega))
    exact ⟨bq, by rw [updV_ne _ _ (by omega)]; exact h1, fun h3 => (by rw [a10] at h3; cases h3)⟩
  · rw [updV_ne _ _ (by omega)]; exact h.w1 (hall 10 (by omega)) hL
  · rw [updV_ne _ _ (by omega)]
end
set_option maxHeartbeats 16000000 in
theorem newScale_call {w : World} {ao wo uo : Option Addr} {cap wl wc uc N m bb : Nat} {es : List E2} {f : Nat → Int} (hE : EdgesAt w (.slice ao es.length cap) (pz es)) (hN : N ≤ 100) (hes : ∀ e ∈ es, e.1 < N ∧ e.2 < N) (hlen : es.length ≤ 1000000) (hm : m ≤ 100) (hF : NumF w uo m f) (hup : ∀ j, j < m → f j = -1 ∨ ∃ u : Nat, f j = u ∧ u < m) :
    Calls Tryd.prog 41 #[.agg #[.int .i64 (N : Int), .slice ao es.length cap], .slice wo wl wc, sl bb m, .slice uo m uc] w fun e w' => (∃ bn bk vals, e = .returned (.agg #[sl bn N, .slice wo wl wc, sl bb m, sl bk m, .int .i64 (rootV f m)]) ∧ SetsAt w' bn (nearBy N es) ∧ KT w' bk m w.heap.size (kidsTo f m) vals) ∧ Below w.heap.size w w' := by
  have C26 : Hid (∀ A, Below w.heap.size w A → Calls Tryd.prog 26 #[.agg #[.int .i64 (N : Int), .slice ao es.length cap]] A fun e w' => ∃ b, e = .returned (sl b N) ∧ SetsAt w' b (nearBy N es) ∧ A.heap.size ≤ b ∧ Below A.heap.size A w') := fun A hA => nearBy_call (hE.below hA) hN hes hlen
  have HF : Hid (NumF w uo m f ∧ ∀ j, j < m → f j = -1 ∨ ∃ u : Nat, f j = u ∧ u < m) := ⟨hF, hup⟩
  obtain ⟨i3, hi3, hz0, hz1, hz2⟩ := info_parts Tryd.info3
  generalize nearBy N es = near at *
  generalize es.length = el at *
  clear hE hF hup hes
  go_enter Tryd.func41, Tryd.ntmps41
  go_upto_region 1 with (fail)
  have y4 : Box ((w.alloc (Obj.cells #[.int .i64 (N : Int), .slice ao el cap] 24)).alloc (Obj.cells #[.slice none 0 0, .slice none 0 0, .slice none 0 0, .slice none 0 0, .int .i64 0] 80)) w.heap.size #[.int .i64 (N : Int), .slice ao el cap] 24 := (below_alloc (Below.refl _ _) _).block _ (by simp) |>.trans (heap_alloc_new _ _)
  have y8 := box_new (w.alloc (Obj.cells #[.int .i64 (N : Int), .slice ao el cap] 24)) #[.slice none 0 0, .slice none 0 0, .slice none 0 0, .slice none 0 0, .int .i64 0] 80
  have hB := below_alloc (below_alloc (Below.refl _ w) (Obj.cells #[.int .i64 (N : Int), .slice ao el cap] 24)) (Obj.cells #[.slice none 0 0, .slice none 0 0, .slice none 0 0, .slice none 0 0, .int .i64 0] 80)
  have e3 : (w.alloc (Obj.cells #[.int .i64 (N : Int), .slice ao el cap] 24)).heap.size = w.heap.size + 1 := by simp
  rw [e3] at y8
  generalize (w.alloc (Obj.cells #[.int .i64 (N : Int), .slice ao el cap] 24)).alloc (Obj.cells #[.slice none 0 0, .slice none 0 0, .slice none 0 0, .slice none 0 0, .int .i64 0] 80) = W0 at *
  obtain ⟨b4, hb4⟩ : ∃ b, b = w.heap.size := ⟨_, rfl⟩
  obtain ⟨b8, hb8⟩ : ∃ b, b = w.heap.size + 1 := ⟨_, rfl⟩
  rw [← hb8] at y8 ⊢
  rw [← hb4] at y4 ⊢
  have HW0 : Hid (∀ A, Below W0.heap.size W0 A → Two A b4 (.int .i64 (N : Int)) (.slice ao el cap) 24 ∧ Box A b8 #[.slice none 0 0, .slice none 0 0, .slice none 0 0, .slice none 0 0, .int .i64 0] 80 ∧ Below w.heap.size w A) := fun A hA => ⟨two_next y4 hA, box_next y8 hA, below_next hB hA⟩
  have HS0 : Hid (w.heap.size ≤ W0.heap.size ∧ w.heap.size ≤ b8) := ⟨hB.size, by omega⟩
  clear y4 y8 hB hb4 hb8 e3
  refine region_ext (J := SG W0 8 (VN W0 ao el cap N near wo wl wc bb m) #[.slice none 0 0, .slice none 0 0, .slice none 0 0, .slice none 0 0, .int .i64 0] 80 (fun f => aggC (f 7))) (by kernel_rfl) (by kernel_rfl) (by kernel_rfl) SG.start ?_ ?_
  · intro i0 o hi L0 xv a w1 hS hL hd hc hX
    match i0, hi with
    | 0, hi =>
      cases hi
      have s4 := hX.out (s := 4) rfl
      obtain ⟨c0, c1⟩ := cell_two (HW0.out _ (hS.early hL (by omega))).1
      refine wpOp_value rfl rfl (v := .agg #[.int .i64 (N : Int), .slice ao el cap]) (w' := w1) ?_ ⟨_, rfl, hS.put VN_mono hL (by omega) (Below.refl _ _) rfl⟩
      simp [go_sem, Act.eval, s4, c0, c1]
    | 1, hi =>
      cases hi
      have l0 := hd ⟨0, .data⟩ (by simp) rfl
      have v0 := hS.tl (j := 0) hL (by omega) (by omega) l0
      have r0 := hX.rd 0 _ 12 rfl rfl l0
      simp only [VN] at v0
      rw [v0] at r0
      refine wpOp_call (f := 26) (args := #[.agg #[.int .i64 (N : Int), .slice ao el cap]]) rfl rfl (w' := w1) ?_ ?_
      · simp [go_sem, Act.eval, r0]
      · refine (C26.out w1 (HW0.out _ (hS.early hL (by omega))).2.2).mono ?_
        rintro e w2 ⟨bn, rfl, hsn, hbn, hB3⟩
        exact ⟨_, rfl, _, rfl, hS.put VN_mono hL (by omega) hB3 ⟨bn, rfl, hsn, by have := (hS.early hL (by omega)).size; omega⟩⟩
    | 2, hi =>
      cases hi
      have s1 := hX.out (s := 1) rfl
      refine wpOp_value rfl rfl (v := .slice wo wl wc) (w' := w1) ?_ ⟨_, rfl, hS.put VN_mono hL (by omega) (Below.refl _ _) rfl⟩
      simp [go_sem, Act.eval, s1]
    | 3, hi =>
      cases hi
      have s2 := hX.out (s := 2) rfl
      refine wpOp_value rfl rfl (v := sl bb m) (w' := w1) ?_ ⟨_, rfl, hS.put VN_mono hL (by omega) (Below.refl _ _) rfl⟩
      simp [go_sem, Act.eval, s2]
    | 4, hi =>
      cases hi
      have s2 := hX.out (s := 2) rfl
      refine wpOp_value rfl rfl (v := sl bb m) (w' := w1) ?_ ⟨_, rfl, hS.put VN_mono hL (by omega) (Below.refl _ _) rfl⟩
      simp [go_sem, Act.eval, s2]
    | 5, hi =>
      cases hi
      have l4 := hd ⟨4, .data⟩ (by simp) rfl
      have v4 := hS.tl (j := 4) hL (by omega) (by omega) l4
      have r4 := hX.rd 4 _ 16 rfl rfl l4
      simp only [VN] at v4
      rw [v4] at r4
      refine wpOp_value rfl rfl (v := .int .i64 (m : Int)) (w' := w1) ?_ ⟨_, rfl, hS.put VN_mono hL (by omega) (Below.refl _ _) rfl⟩
      simp [go_sem, Act.eval, r4]
    | 6, hi =>
      cases hi
      have l5 := hd ⟨5, .data⟩ (by simp) rfl
      have v5 := hS.tl (j := 5) hL (by omega) (by omega) l5
      have r5 := hX.rd 5 _ 17 rfl rfl l5
      simp only [VN] at v5
      rw [v5] at r5
      refine wpOp_value rfl rfl (v := sl w1.heap.size m) (w' := w1.alloc (.cells (rep m (.slice none 0 0)) 30)) ?_ ⟨_, rfl, hS.put VN_mono hL (by omega) (below_alloc (Below.refl _ _) _) ⟨w1.heap.size, rfl, rowV_rep (heap_alloc_new _ _), (hS.early hL (by omega)).size⟩⟩
      have hmk := make29 m (by omega) w1
      simp [go_sem, Act.eval, r5, hmk]
    | 7, hi =>
      cases hi
      have l1 := hd ⟨1, .data⟩ (by simp) rfl
      have v1 := hS.tl (j := 1) hL (by omega) (by omega) l1
      have r1 := hX.rd 1 _ 13 rfl rfl l1
      simp only [VN] at v1
      have l2 := hd ⟨2, .data⟩ (by simp) rfl
      have v2 := hS.tl (j := 2) hL (by omega) (by omega) l2
      have r2 := hX.rd 2 _ 14 rfl rfl l2
      simp only [VN] at v2
      have l3 := hd ⟨3, .data⟩ (by simp) rfl
      have v3 := hS.tl (j := 3) hL (by omega) (by omega) l3
      have r3 := hX.rd 3 _ 15 rfl rfl l3
      simp only [VN] at v3
      have l6 := hd ⟨6, .data⟩ (by simp) rfl
      have v6 := hS.tl (j := 6) hL (by omega) (by omega) l6
      have r6 := hX.rd 6 _ 18 rfl rfl l6
      simp only [VN] at v6
      obtain ⟨bn, e1, hsn, hbn⟩ := v1
      obtain ⟨bk, e6, hrk, hbk⟩ := v6
      rw [e1] at r1
      rw [v2] at r2
      rw [v3] at r3
      rw [e6] at r6
      simp only [Array.getD_eq_getD_getElem?] at r1 r2 r3 r6
      refine wpOp_value rfl rfl (v := .agg #[sl bn N, .slice wo wl wc, sl bb m, sl bk m, .int .i64 (-1)]) (w' := w1) ?_ ⟨_, rfl, hS.put VN_mono hL (by omega) (Below.refl _ _) ⟨bn, bk, rfl, ⟨hsn, hbn⟩, hrk, hbk⟩⟩
      simp [go_sem, Act.eval, r1, r2, r3, r6]
    | 8, hi =>
      cases hi
      refine wpOp_value rfl rfl (v := .pointer (some ⟨w1.heap.size, 0, none⟩)) (w' := w1.alloc (Obj.cells #[.slice none 0 0, .slice none 0 0, .slice none 0 0, .slice none 0 0, .int .i64 0] 80)) ?_ ⟨_, rfl, hS.alloc VN_mono hL⟩
      simp [go_sem]
    | 9, hi =>
      cases hi
      have hall : ∀ j, j < 9 → L0 j = true := fun j hj => by
        have : j = 0 ∨ j = 1 ∨ j = 2 ∨ j = 3 ∨ j = 4 ∨ j = 5 ∨ j = 6 ∨ j = 7 ∨ j = 8 := by omega
        rcases this with rfl | rfl | rfl | rfl | rfl | rfl | rfl | rfl | rfl <;> exact hd ⟨_, .phase⟩ (by simp) rfl
      have v7 := hS.told hL 7 (by omega) (hall 7 (by omega))
      obtain ⟨bn, bk, e7, _⟩ := v7
      have r7 := (hX.rd 7 _ 19 rfl rfl (hall 7 (by omega))).trans e7
      obtain ⟨bq, e8, hq1, hq2⟩ := hS.am (hall 8 (by omega)) hL
      have r8 := (hX.rd 8 _ 9 rfl rfl (hall 8 (by omega))).trans e8
      obtain ⟨q1, q2, q3, q4, q5, q6, q7, q8, q9, q10, q11, q12⟩ := store_five hq2 (sl bn N) (.slice wo wl wc) (sl bb m) (sl bk m) (.int .i64 (-1))
      refine wpOp_skip rfl rfl (w' := (((((w1.setCell ⟨bq, 0, none⟩ (sl bn N)).setCell ⟨bq, 1, none⟩ (.slice wo wl wc)).setCell ⟨bq, 2, none⟩ (sl bb m)).setCell ⟨bq, 3, none⟩ (sl bk m)).setCell ⟨bq, 4, none⟩ (.int .i64 (-1)))) ?_ ⟨undef, rfl, hS.store hL hall e8 hq1 hq2 undef q12 (by rw [updV_ne _ _ (by omega), e7]; exact q11)⟩
      simp [go_sem, Act.eval, r7, r8, q1, q2, q3, q4, q5, q6, q7, q8, q9, q10]
    | n + 10, hi => cases hi
  · intro L0 xv w1 hS hall
    obtain ⟨w9, b9, e8, h9, x9, htd, htu, y9, hB1, hB9⟩ := hS.done (hall 9 (by simp))
    obtain ⟨bn, bk, e7, hbn, hbk, hbk0⟩ := htd 7 (by omega)
    rw [e7] at y9
    simp only [aggC] at y9
    simp only [puts, Act.put, e7, e8, List.setIfInBounds_toArray, List.set_cons_succ, List.set_cons_zero]
    have h89 : b8 ≠ b9 := fun e => by
      have h1 := lt_of_block (HW0.out _ (Below.refl _ _)).2.1
      omega
    have HN : Hid (NwI w w1 b4 b8 b9 bn bk N m near (.slice wo wl wc) bb f 0 (fun _ => .slice none 0 0)) := by
      have nb : bn ≠ b9 := fun e => by
        obtain ⟨⟨cur, h1, _⟩, _⟩ := hbn.1
        have h2 : w9.heap[b9]? = some (.cells _ 80 (0, 0)) := x9
        rw [e, h2] at h1
        cases h1
      have kb : bk ≠ b9 := fun e => by
        obtain ⟨cur, h1, _⟩ := hbk
        have h2 : w9.heap[b9]? = some (.cells _ 80 (0, 0)) := x9
        rw [e, h2] at h1
        cases h1
      refine ⟨(HW0.out _ hB1).2.2, y9, (HW0.out _ hB1).2.1, hbn.1.block (htu.block bn hbn.1.ltS nb), ⟨hbk.block (htu.block bk hbk.lt kb), fun i hi => World.ownsRow_nil _ _ _ _, fun i hi _ => rfl⟩, HS0.out.2, by have := HS0.out.1; omega, by have := HS0.out.1; omega, h89⟩
    clear e7 e8 hall hS htd htu y9 x9 hB1 hB9 hbn hbk hbk0 h9 h89 C26
    generalize xv 0 = z0
    generalize xv 1 = z1
    generalize xv 2 = z2
    generalize xv 3 = z3
    generalize xv 4 = z4
    generalize xv 5 = z5
    generalize xv 6 = z6
    go_upto_region 3 with (fail)
    go_loopw [10, 11, 22] (fun _ _ s22 wz => ∃ (k : Nat) (vals : Nat → Value), k ≤ m ∧ s22 = .int .i64 (k : Int) ∧ Hid (NwI w wz b4 b8 b9 bn bk N m near (.slice wo wl wc) bb f k vals)) (fun _ _ s22 _ => m - (numOf s22).toNat)
    case atStart => exact ⟨0, _, Nat.zero_le _, rfl, HN⟩
    case round =>
      clear HN
      obtain ⟨k, vals, hk, rfl, hI⟩ := hrel
      by_cases hlt : k < m
      · obtain ⟨ub, uoff, rfl, cu⟩ := (HF.out.1.below hI.out.bel) k hlt
        have i1 : (0 : Int) ≤ (k : Int) := by omega
        have i2 : (k : Int) < (m : Int) := by omega
        by_cases hr : f k = -1
        · have kr : (f k == -1) = true := by simpa using hr
          have hbx := hI.out.box
          have c4 : wr.cell? ⟨b9, 4, none⟩ = some (.int .i64 (rootV f k)) := box_cell hbx (i := 4) rfl
          have fz := box_free hbx 4
          have HN : Hid (NwI w (wr.setCell ⟨b9, 4, none⟩ (.int .i64 (k : Int))) b4 b8 b9 bn bk N m near (.slice wo wl wc) bb f (k + 1) vals) := by
            have h := hI.out
            have ht := setCell_turns wr b9 4 (.int .i64 (k : Int))
            have nb : bn ≠ b9 := fun e => by
              obtain ⟨⟨cur, h1, _⟩, _⟩ := h.sn
              have h2 : wr.heap[b9]? = some (.cells _ 80 (0, 0)) := h.box
              rw [e, h2] at h1
              cases h1
            have kb : bk ≠ b9 := fun e => by
              obtain ⟨cur, h1, _⟩ := h.kt.row
              have h2 : wr.heap[b9]? = some (.cells _ 80 (0, 0)) := h.box
              rw [e, h2] at h1
              cases h1
            refine ⟨h.bel.setCell h.ap.2.1 _, ?_, (ht.block b8 (lt_of_block h.res) h.ap.2.2.2).trans h.res, h.sn.block (ht.block bn h.sn.ltS nb), ⟨h.kt.row.block (ht.block bk h.kt.row.lt kb), fun i hi => ?_, fun i hi hn => ?_⟩, h.ap⟩
            · have := box_set h.box 4 (.int .i64 (k : Int))
              have e : rootV f (k + 1) = (k : Int) := by unfold rootV; rw [if_pos hr]
              rw [e]
              exact this
            · have e : kidsTo f (k + 1) i = kidsTo f k i := by rw [kidsTo_succ, if_neg (by omega), List.append_nil]
              rw [e]
              refine own_turns (h.kt.own i hi) ht.grown (fun g hg e => ?_)
              cases e
              obtain ⟨cs, z, hc⟩ := own_cells3 (h.kt.own i hi) hg
              have h2 : wr.heap[b9]? = some (.cells _ 80 (0, 0)) := h.box
              rw [hc] at h2
              cases h2
            · have e : kidsTo f (k + 1) i = kidsTo f k i := by rw [kidsTo_succ, if_neg (by omega), List.append_nil]
              rw [e] at hn
              exact h.kt.nil i hi hn
          clear hI hbx hr
          go_wp2
          go_roundw
          case rel => exact ⟨k + 1, vals, by omega, by go_num, HN⟩
          case measure => simp [numOf]; omega
        · have kr : (f k == -1) = false := by simpa using hr
          obtain ⟨a, ha, ham⟩ := (HF.out.2 k hlt).resolve_left hr
          have HA : Hid (f k = (a : Int)) := ha
          rw [ha] at cu kr
          go_upto_region 7 with (fail)
          have HI : Hid (NwI w wr b4 b8 b9 bn bk N m near (.slice wo wl wc) bb f k vals) := hI
          obtain ⟨xo, xc, hva⟩ := HI.out.kt.form ham
          have j1 : (0 : Int) ≤ (a : Int) := by omega
          have j2 : (a : Int) < (m : Int) := by omega
          have hlk := kidsTo_len f k a
          have HCB : Hid (∀ A, (Below wr.heap.size wr A ∨ ∃ x, AP wr w.heap.size (vals a) (kidsTo f k a) k x A) → A.cell? ⟨b9, 3, none⟩ = some (sl bk m)) := fun A hA => by
            rcases hA with hA | ⟨x, w1, h1, h2, _⟩
            · exact box_cell (box_next HI.out.box hA) (i := 3) rfl
            · have hb := box_next HI.out.box h1
              refine box_cell (cs := #[sl bn N, .slice wo wl wc, sl bb m, sl bk m, .int .i64 (rootV f k)]) ((h2.block b9 (lt_of_block hb) (fun e => ?_)).trans hb) (i := 3) rfl
              obtain ⟨cs, z, hc⟩ := own_cells3 (HI.out.kt.own a ham) e.symm
              have h3 : wr.heap[b9]? = some (.cells _ 80 (0, 0)) := HI.out.box
              rw [hc] at h3
              cases h3
          clear cu hI kr
          refine region_ext (J := SK wr b9 bk m a k w.heap.size (vals a) (kidsTo f k a)) (by kernel_rfl) (by kernel_rfl) (by kernel_rfl) SK.start ?_ ?_
          · intro i0 o hi L0 xv a1 w1 hS hL hd hc hX
            match i0, hi with
            | 0, hi =>
              cases hi
              have s9 := hX.out (s := 9) rfl
              refine wpOp_value rfl rfl (v := VK b9 bk m a k (vals a) 0) (w' := w1) ?_ ⟨_, rfl, hS.put hL (by omega)⟩
              simp [go_sem, Act.eval, VK, s9]
            | 1, hi =>
              cases hi
              have l0 := hd ⟨0, .data⟩ (by simp) rfl
              have r0 := (hX.rd 0 _ 31 rfl rfl l0).trans (hS.told 0 (by omega) l0)
              simp only [VK] at r0
              have c3 := HCB.out w1 (by
                cases e : L0 10 with
                | false => exact Or.inl (hS.w0 e)
                | true => exact Or.inr ⟨_, hS.w1 e (hS.open_ hL (by omega))⟩)
              refine wpOp_value rfl rfl (v := VK b9 bk m a k (vals a) 1) (w' := w1) ?_ ⟨_, rfl, hS.put hL (by omega)⟩
              simp [go_sem, Act.eval, VK, r0, c3]
            | 2, hi =>
              cases hi
              have s11 := hX.out (s := 11) rfl
              refine wpOp_value rfl rfl (v := VK b9 bk m a k (vals a) 2) (w' := w1) ?_ ⟨_, rfl, hS.put hL (by omega)⟩
              simp [go_sem, Act.eval, VK, s11]
            | 3, hi =>
              cases hi
              have s9 := hX.out (s := 9) rfl
              refine wpOp_value rfl rfl (v := VK b9 bk m a k (vals a) 3) (w' := w1) ?_ ⟨_, rfl, hS.put hL (by omega)⟩
              simp [go_sem, Act.eval, VK, s9]
            | 4, hi =>
              cases hi
              have l3 := hd ⟨3, .data⟩ (by simp) rfl
              have r3 := (hX.rd 3 _ 34 rfl rfl l3).trans (hS.told 3 (by omega) l3)
              simp only [VK] at r3
              have c3 := HCB.out w1 (by
                cases e : L0 10 with
                | false => exact Or.inl (hS.w0 e)
                | true => exact Or.inr ⟨_, hS.w1 e (hS.open_ hL (by omega))⟩)
              refine wpOp_value rfl rfl (v := VK b9 bk m a k (vals a) 4) (w' := w1) ?_ ⟨_, rfl, hS.put hL (by omega)⟩
              simp [go_sem, Act.eval, VK, r3, c3]
            | 5, hi =>
              cases hi
              have s11 := hX.out (s := 11) rfl
              refine wpOp_value rfl rfl (v := VK b9 bk m a k (vals a) 5) (w' := w1) ?_ ⟨_, rfl, hS.put hL (by omega)⟩
              simp [go_sem, Act.eval, VK, s11]
            | 6, hi =>
              cases hi
              have l4 := hd ⟨4, .data⟩ (by simp) rfl
              have r4 := (hX.rd 4 _ 35 rfl rfl l4).trans (hS.told 4 (by omega) l4)
              simp only [VK] at r4
              have l5 := hd ⟨5, .data⟩ (by simp) rfl
              have r5 := (hX.rd 5 _ 36 rfl rfl l5).trans (hS.told 5 (by omega) l5)
              simp only [VK] at r5
              refine wpOp_value rfl rfl (v := VK b9 bk m a k (vals a) 6) (w' := w1) ?_ ⟨_, rfl, hS.put hL (by omega)⟩
              simp [go_sem, Act.eval, VK, r4, r5, j1, j2]
            | 7, hi =>
              cases hi
              have l6 := hd ⟨6, .data⟩ (by simp) rfl
              have r6 := (hX.rd 6 _ 37 rfl rfl l6).trans (hS.told 6 (by omega) l6)
              simp only [VK] at r6
              have h10 : L0 10 = false := by
                cases e : L0 10 with
                | false => rfl
                | true => have := (hS.cl2 e).1; rw [hL] at this; cases this
              have c7 : w1.cell? ⟨bk, a, none⟩ = some (vals a) := (HI.out.kt.under (hS.w0 h10)).row.cell ham
              refine wpOp_value rfl rfl (v := VK b9 bk m a k (vals a) 7) (w' := w1) ?_ ⟨_, rfl, hS.put hL (by omega)⟩
              simp [go_sem, Act.eval, VK, r6, c7]
            | 8, hi =>
              cases hi
              have s10 := hX.out (s := 10) rfl
              refine wpOp_value rfl rfl (v := VK b9 bk m a k (vals a) 8) (w' := w1) ?_ ⟨_, rfl, hS.put hL (by omega)⟩
              simp [go_sem, Act.eval, VK, s10]
            | 9, hi =>
              cases hi
              have l8 := hd ⟨8, .data⟩ (by simp) rfl
              have r8 := (hX.rd 8 _ 39 rfl rfl l8).trans (hS.told 8 (by omega) l8)
              simp only [VK] at r8
              simp only [Array.getD_eq_getD_getElem?] at r8
              refine wpOp_value rfl rfl (v := .slice (some ⟨w1.heap.size, 0, none⟩) 1 1) (w' := w1.alloc (Obj.cells #[.int .i64 (k : Int)] 3)) ?_ ⟨_, rfl, hS.build hL⟩
              simp [go_sem, Act.eval, r8]
            | 10, hi =>
              cases hi
              have l7 := hd ⟨7, .data⟩ (by simp) rfl
              have l9 := hd ⟨9, .data⟩ (by simp) rfl
              have r7 := (hX.rd 7 _ 38 rfl rfl l7).trans (hS.told 7 (by omega) l7)
              obtain ⟨bq, e9, c9⟩ := hS.t9 l9
              have r9 := (hX.rd 9 _ 40 rfl rfl l9).trans e9
              have hB1 := hS.w0 hL
              have hkt := HI.out.kt.under hB1
              obtain ⟨v', w', hrun, hown', hg', _⟩ := run_append_own (P := Tryd.prog) w1 w.heap.size 30 30 3 i3 (.int .i64 0) 1 8 Tryd.underlying30 hi3 hz0 hz1 hz2 rfl (by decide) (vals a) (kidsTo f k a).length (qv (kidsTo f k a)) (hkt.own a ham) ⟨bq, 0, none⟩ 1 1 [.int .i64 (k : Int)] rfl (fun j u hj => by
                match j, hj with
                | 0, hj => cases hj; exact c9 hL
                | n + 1, hj => cases hj) (fun u hu => by simp at hu; subst hu; rfl) (by unfold maxLen; omega) (by omega) (below_next HI.out.bel hB1).size
              refine wpOp_value rfl rfl (v := v') (w' := w') ?_ ⟨_, rfl, hS.app hL l7 l9 ⟨w1, hB1, hg', hown'⟩⟩
              have q7 : a1.eval (.tmp 38) = vals a := r7
              have q9 : a1.eval (.tmp 40) = .slice (some ⟨bq, 0, none⟩) 1 1 := r9
              exact exec_append rfl q7 q9 hrun
            | 11, hi =>
              cases hi
              have l1 := hd ⟨1, .data⟩ (by simp) rfl
              have r1 := (hX.rd 1 _ 32 rfl rfl l1).trans (hS.told 1 (by omega) l1)
              simp only [VK] at r1
              have l2 := hd ⟨2, .data⟩ (by simp) rfl
              have r2 := (hX.rd 2 _ 33 rfl rfl l2).trans (hS.told 2 (by omega) l2)
              simp only [VK] at r2
              refine wpOp_value rfl rfl (v := VK b9 bk m a k (vals a) 11) (w' := w1) ?_ ⟨_, rfl, hS.put hL (by omega)⟩
              simp [go_sem, Act.eval, VK, r1, r2, j1, j2]
            | 12, hi =>
              cases hi
              have hall : ∀ j, j < 12 → L0 j = true := fun j hj => by
                have h11 : L0 11 = true := hd ⟨11, .data⟩ (by simp) rfl
                have : j = 0 ∨ j = 1 ∨ j = 2 ∨ j = 3 ∨ j = 4 ∨ j = 5 ∨ j = 6 ∨ j = 7 ∨ j = 8 ∨ j = 9 ∨ j = 10 ∨ j = 11 := by omega
                rcases this with rfl | rfl | rfl | rfl | rfl | rfl | rfl | rfl | rfl | rfl | rfl | rfl
                · exact hd ⟨0, .phase⟩ (by simp) rfl
                · exact hd ⟨1, .phase⟩ (by simp) rfl
                · exact hd ⟨2, .phase⟩ (by simp) rfl
                · exact hd ⟨3, .phase⟩ (by simp) rfl
                · exact hd ⟨4, .phase⟩ (by simp) rfl
                · exact hd ⟨5, .phase⟩ (by simp) rfl
                · exact hd ⟨6, .phase⟩ (by simp) rfl
                · exact hd ⟨7, .phase⟩ (by simp) rfl
                · exact hd ⟨8, .phase⟩ (by simp) rfl
                · exact hd ⟨9, .phase⟩ (by simp) rfl
                · exact hd ⟨10, .phase⟩ (by simp) rfl
                · exact h11
              have r11 := (hX.rd 11 _ 42 rfl rfl (hall 11 (by omega))).trans (hS.told 11 (by omega) (hall 11 (by omega)))
              simp only [VK] at r11
              have r10 := hX.rd 10 _ 41 rfl rfl (hall 10 (by omega))
              obtain ⟨w3, hB3, hg3, ho3⟩ := hS.w1 (hall 10 (by omega)) hL
              obtain ⟨xo', xc', ev⟩ := form_row ho3
              have hrow : RowV w1 bk 30 m vals := by
                have h1 := (HI.out.kt.under hB3).row
                refine h1.block (hg3.block bk h1.lt (fun e => ?_))
                obtain ⟨cs, z, hc⟩ := own_cells3 (HI.out.kt.own a ham) e.symm
                obtain ⟨cur, h2, _⟩ := HI.out.kt.row
                rw [hc] at h2
                cases h2
              have c1 := hrow.cell ham
              have c2 := hrow.free a
              refine wpOp_skip rfl rfl (w' := w1.setCell ⟨bk, a, none⟩ (xv 10)) ?_ ⟨undef, rfl, hS.store hL hall undef⟩
              rw [ev] at r10 ⊢
              simp [go_sem, Act.eval, r10, r11, c1, c2, hva]
            | n + 13, hi => cases hi
          · intro L0 xv w1 hS hall
            obtain ⟨w2, hAP, rfl⟩ := hS.w2 (hall 12 (by simp))
            have HN : Hid (∃ vals', NwI w (w2.setCell ⟨bk, a, none⟩ (xv 10)) b4 b8 b9 bn bk N m near (.slice wo wl wc) bb f (k + 1) vals') := by
              have h := HI.out
              obtain ⟨w3, hB3, hg3, ho3⟩ := hAP
              have hKT := h.kt.push (fun i j x hi hj hne h1 h2 => hne (by have e1 := (kidsTo_mem.1 h1).2; have e2 := (kidsTo_mem.1 h2).2; omega)) ham k hB3 hg3 ho3
              have cells80 : ∀ {b : Nat} {cs : Array Value}, Box wr b cs 80 → (vals a).ownBlock ≠ some b := fun hb e => by
                obtain ⟨cs', z, hc⟩ := own_cells3 (h.kt.own a ham) e
                have h3 : wr.heap[_]? = some (Obj.cells _ 80 (0, 0)) := hb
                rw [hc] at h3
                cases h3
              have nk : ∀ {b : Nat} {cs : Array Value}, Box wr b cs 80 → b ≠ bk := fun hb e => by
                obtain ⟨cur, h1, _⟩ := h.kt.row
                have h2 : wr.heap[_]? = some (Obj.cells _ 80 (0, 0)) := hb
                rw [e, h1] at h2
                cases h2
              have keep : ∀ {b : Nat} {cs : Array Value}, Box wr b cs 80 → Box (w2.setCell ⟨bk, a, none⟩ (xv 10)) b cs 80 := fun hb => by
                have h1 := box_next hb hB3
                have h2 : Box w2 _ _ 80 := (hg3.block _ (lt_of_block h1) (fun e => cells80 hb e.symm)).trans h1
                exact ((setCell_turns w2 bk a (xv 10)).block _ (lt_of_block h2) (nk hb)).trans h2
              refine ⟨fun j => if j = a then xv 10 else vals j, ?_, ?_, keep h.res, ?_, ?_, h.ap⟩
              · have h1 := below_next h.bel hB3
                have h2 : Below w.heap.size w w2 := (Turns.of_grown hg3).below h1 h1.size (fun z hz => ((h.kt.own a ham).lt z hz.symm).1)
                exact h2.setCell h.ap.2.2.1 _
              · have e : rootV f (k + 1) = rootV f k := if_neg hr
                rw [e]
                exact keep h.box
              · have h1 := h.sn.under hB3
                have n1 : bn ≠ bk := fun e => by
                  obtain ⟨⟨cur, h2, _⟩, _⟩ := h.sn
                  obtain ⟨cur', h3, _⟩ := h.kt.row
                  rw [e, h3] at h2
                  cases h2
                have n2 : some bn ≠ (vals a).ownBlock := fun e => by
                  obtain ⟨cs', z, hc⟩ := own_cells3 (h.kt.own a ham) e.symm
                  obtain ⟨⟨cur, h2, _⟩, _⟩ := h.sn
                  rw [hc] at h2
                  cases h2
                have h2 := h1.block (hg3.block bn h1.ltS n2)
                exact h2.block ((setCell_turns w2 bk a (xv 10)).block bn h2.ltS n1)
              · refine ⟨hKT.row, fun i hi => ?_, fun i hi hn => ?_⟩
                · have := hKT.own i hi
                  by_cases e : i = a
                  · subst e
                    simp only [if_true] at this ⊢
                    rw [kidsTo_succ, if_pos HA.out]
                    exact this
                  · simp only [if_neg e] at this ⊢
                    rw [kidsTo_succ, if_neg (by have := HA.out; omega), List.append_nil]
                    exact this
                · by_cases e : i = a
                  · subst e
                    rw [kidsTo_succ, if_pos HA.out] at hn
                    simp at hn
                  · simp only [if_neg e]
                    rw [kidsTo_succ, if_neg (by have := HA.out; omega), List.append_nil] at hn
                    exact h.kt.nil i hi hn
            simp only [puts, Act.put, List.setIfInBounds_toArray, List.set_cons_succ, List.set_cons_zero]
            obtain ⟨vals', hN'⟩ := HN.out
            have HN2 : Hid _ := hN'
            clear hN' HN hS hall hAP HCB HI
            generalize w2.setCell ⟨bk, a, none⟩ (xv 10) = w3 at *
            generalize xv 0 = y0
            generalize xv 1 = y1
            generalize xv 2 = y2
            generalize xv 3 = y3
            generalize xv 4 = y4
            generalize xv 5 = y5
            generalize xv 6 = y6
            generalize xv 7 = y7
            generalize xv 8 = y8
            generalize xv 9 = y9
            generalize xv 10 = y10
            generalize xv 11 = y11
            generalize xv 12 = y12
            go_wp2
            go_roundw
            case rel => exact ⟨k + 1, vals', by omega, by go_num, HN2⟩
            case measure => simp [numOf]; omega
      · obtain rfl : k = m := by omega
        have hbx := hI.out.box
        have c0 : wr.cell? ⟨b9, 0, none⟩ = some (sl bn N) := box_cell hbx (i := 0) rfl
        have c1 : wr.cell? ⟨b9, 1, none⟩ = some (.slice wo wl wc) := box_cell hbx (i := 1) rfl
        have c2 : wr.cell? ⟨b9, 2, none⟩ = some (sl bb k) := box_cell hbx (i := 2) rfl
        have c3 : wr.cell? ⟨b9, 3, none⟩ = some (sl bk k) := box_cell hbx (i := 3) rfl
        have c4 : wr.cell? ⟨b9, 4, none⟩ = some (.int .i64 (rootV f k)) := box_cell hbx (i := 4) rfl
        obtain ⟨q1, q2, q3, q4, q5, q6, q7, q8, q9, q10, q11, q12⟩ := store_five hI.out.res (sl bn N) (.slice wo wl wc) (sl bb k) (sl bk k) (.int .i64 (rootV f k))
        have HR : Hid (SetsAt (((((wr.setCell ⟨b8, 0, none⟩ (sl bn N)).setCell ⟨b8, 1, none⟩ (.slice wo wl wc)).setCell ⟨b8, 2, none⟩ (sl bb k)).setCell ⟨b8, 3, none⟩ (sl bk k)).setCell ⟨b8, 4, none⟩ (.int .i64 (rootV f k))) bn near ∧ KT (((((wr.setCell ⟨b8, 0, none⟩ (sl bn N)).setCell ⟨b8, 1, none⟩ (.slice wo wl wc)).setCell ⟨b8, 2, none⟩ (sl bb k)).setCell ⟨b8, 3, none⟩ (sl bk k)).setCell ⟨b8, 4, none⟩ (.int .i64 (rootV f k))) bk k w.heap.size (kidsTo f k) vals ∧ Below w.heap.size w (((((wr.setCell ⟨b8, 0, none⟩ (sl bn N)).setCell ⟨b8, 1, none⟩ (.slice wo wl wc)).setCell ⟨b8, 2, none⟩ (sl bb k)).setCell ⟨b8, 3, none⟩ (sl bk k)).setCell ⟨b8, 4, none⟩ (.int .i64 (rootV f k)))) := by
          have h := hI.out
          have nb : bn ≠ b8 := fun e => by
            obtain ⟨⟨cur, h1, _⟩, _⟩ := h.sn
            have h2 : wr.heap[b8]? = some (.cells _ 80 (0, 0)) := h.res
            rw [e, h2] at h1
            cases h1
          have kb : bk ≠ b8 := fun e => by
            obtain ⟨cur, h1, _⟩ := h.kt.row
            have h2 : wr.heap[b8]? = some (.cells _ 80 (0, 0)) := h.res
            rw [e, h2] at h1
            cases h1
          refine ⟨h.sn.block (q12.block bn h.sn.ltS nb), ⟨h.kt.row.block (q12.block bk h.kt.row.lt kb), fun i hi => own_turns (h.kt.own i hi) q12.grown (fun g hg e => ?_), h.kt.nil⟩, q12.below h.bel h.bel.size (fun z hz => by subst hz; exact h.ap.1)⟩
          cases e
          obtain ⟨cs, z, hc⟩ := own_cells3 (h.kt.own i hi) hg
          have h2 : wr.heap[b8]? = some (.cells _ 80 (0, 0)) := h.res
          rw [hc] at h2
          cases h2
        have r0 := box_cell q11 (i := 0) (x := sl bn N) rfl
        have r1 := box_cell q11 (i := 1) (x := .slice wo wl wc) rfl
        have r2 := box_cell q11 (i := 2) (x := sl bb k) rfl
        have r3 := box_cell q11 (i := 3) (x := sl bk k) rfl
        have r4 := box_cell q11 (i := 4) (x := .int .i64 (rootV f k)) rfl
        clear hbx hI q11 q12
        go_wp2
        refine bodyPost_ret (v := .agg #[sl bn N, .slice wo wl wc, sl bb k, sl bk k, .int .i64 (rootV f k)]) ?_ rfl ⟨⟨bn, bk, vals, rfl, HR.out.1, HR.out.2.1⟩, HR.out.2.2⟩
        simp [results, Tryd.results41, go_sem, r0, r1, r2, r3, r4]
end Go.Proofs.YtdalconphfgepaaDoor
