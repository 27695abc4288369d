/- The colours of edges in memory: what reads them, and what sets them. -/
import Derived.Test.YtdnmoifbkojnlaaIndex
import Derived.Test.YtdnmoifbkojnlaaVizA
import Derived.BigRegion
namespace Go.Proofs.Ytdnmoifbkojnlaa
open Go.RowKit Go.Maps
attribute [local go_sem ↓] Go.wp_at_zero Go.wp_at_succ

/-- Block p holds the dye: its table's rows lie in t, the row of node v in B v. -/
structure DyeAt (w : World) (p t n k : Nat) (B : Nat → Nat) (D : Nat → Nat → Int) : Prop where
  box : Box w p #[sl t n] 84
  top : RowV w t 29 n (fun v => sl (B v) k)
  row : ∀ v, v < n → RowV w (B v) 3 k (iv (D v))
  inj : ∀ v v', v < n → v' < n → B v = B v' → v = v'
section
variable {w w' : World} {p t n k : Nat} {B : Nat → Nat} {D E : Nat → Nat → Int}
theorem DyeAt.cells (h : DyeAt w p t n k B D) {v c : Nat} (hv : v < n) (hc : c < k) : w.cell? ⟨p, 0, none⟩ = some (sl t n) ∧ w.cell? ⟨t, v, none⟩ = some (sl (B v) k) ∧ w.cell? ⟨B v, c, none⟩ = some (.int .i64 (D v c)) :=
  ⟨box_cell h.box rfl, h.top.cell hv, (h.row v hv).cell hc⟩
theorem DyeAt.numF (h : DyeAt w p t n k B D) {v : Nat} (hv : v < n) : NumF w (some ⟨B v, 0, none⟩) k (D v) := fun j hj => ⟨B v, 0, rfl, by rw [Nat.zero_add]; exact (h.row v hv).cell hj⟩
theorem DyeAt.congr (h : DyeAt w p t n k B D) (e : ∀ v c, v < n → c < k → D v c = E v c) : DyeAt w p t n k B E := ⟨h.box, h.top, fun v hv => (h.row v hv).congr (fun c hc => by unfold iv; rw [e v c hv hc]), h.inj⟩
theorem DyeAt.bt (h : DyeAt w p t n k B D) {v : Nat} (hv : v < n) : B v ≠ t := fun e => by
  obtain ⟨cur, h1, _⟩ := h.row v hv
  obtain ⟨cur', h2, _⟩ := h.top
  rw [e, h2] at h1
  simp at h1
theorem DyeAt.bp (h : DyeAt w p t n k B D) {v : Nat} (hv : v < n) : B v ≠ p := fun e => by
  obtain ⟨cur, h1, _⟩ := h.row v hv
  have h2 : w.heap[p]? = _ := h.box
  rw [e, h2] at h1
  simp at h1
theorem DyeAt.turns {M : Nat → Prop} (h : DyeAt w p t n k B D) (ht : Turns M w w') (hm : ∀ x, x = p ∨ x = t ∨ (∃ v, v < n ∧ x = B v) → ¬ M x) : DyeAt w' p t n k B D :=
  ⟨box_turns h.box ht (hm _ (Or.inl rfl)), h.top.turns ht (hm _ (Or.inr (Or.inl rfl))), fun v hv => (h.row v hv).turns ht (hm _ (Or.inr (Or.inr ⟨v, hv, rfl⟩))), h.inj⟩
theorem DyeAt.below (h : DyeAt w p t n k B D) (hb : Below w.heap.size w w') : DyeAt w' p t n k B D :=
  h.turns (Turns.of_below hb (fun _ => False)) (fun _ _ => id)
/-- One colour of one node is set. -/
theorem DyeAt.set (h : DyeAt w p t n k B D) {v : Nat} (hv : v < n) (c : Nat) (x : Int) : DyeAt (w.setCell ⟨B v, c, none⟩ (.int .i64 x)) p t n k B (fun y d => if y = v then (if d = c then x else D y d) else D y d) := by
  have T := setCell_turns w (B v) c (.int .i64 x)
  refine ⟨box_turns h.box T (fun e => h.bp hv e.symm), h.top.turns T (fun e => h.bt hv e.symm), fun y hy => ?_, h.inj⟩
  by_cases e : y = v
  · subst e
    refine ((h.row y hy).set c (.int .i64 x)).congr (fun d _ => ?_)
    unfold iv
    by_cases e2 : d = c
    · simp [e2]
    · simp [e2]
  · refine ((h.row y hy).turns T (fun e2 => e (h.inj y v hy hv e2))).congr (fun d _ => ?_)
    unfold iv
    simp [e]
/-- The blocks of the rows. -/
abbrev rowsOf (n : Nat) (B : Nat → Nat) (x : Nat) : Prop := ∃ v, v < n ∧ x = B v
theorem set_turns {v : Nat} (hv : v < n) (c : Nat) (x : Value) : Turns (rowsOf n B) w (w.setCell ⟨B v, c, none⟩ x) := (setCell_turns w (B v) c x).mono (fun _ _ e => ⟨v, hv, e⟩)
set_option maxHeartbeats 600000 in
theorem isFree_call (h : DyeAt w p t n k B D) {v c : Nat} (hv : v < n) (hc : c < k) :
    Calls Try.prog 54 #[ptr p, .int .i64 (v : Int), .int .i64 (c : Int)] w fun e w' => e = .returned (.bool (D v c == -1)) ∧ w' = w := by
  obtain ⟨c1, c2, c3⟩ := h.cells hv hc
  have i1 : (0 : Int) ≤ (v : Int) := by omega
  have i2 : (v : Int) < (n : Int) := by omega
  have i3 : (0 : Int) ≤ (c : Int) := by omega
  have i4 : (c : Int) < (k : Int) := by omega
  clear h
  go_enter Try.func54, Try.ntmps54
  go_wp2
  go_ret
  exact ⟨rfl, rfl⟩
/-- What slices.Index answers. -/
def Idx (k : Nat) (f : Nat → Int) (x m : Int) : Prop := (m = -1 ∧ ∀ j, j < k → f j ≠ x) ∨ ∃ j : Nat, m = j ∧ j < k ∧ f j = x ∧ ∀ i, i < j → f i ≠ x
set_option maxHeartbeats 600000 in
theorem free_call (h : DyeAt w p t n k B D) (hk : k ≤ 1000) {v : Nat} (hv : v < n) :
    Calls Try.prog 50 #[ptr p, .int .i64 (v : Int)] w fun e w' => (∃ m, e = .returned (.int .i64 m) ∧ Idx k (D v) (-1) m) ∧ w' = w := by
  have c1 : w.cell? ⟨p, 0, none⟩ = some (sl t n) := box_cell h.box rfl
  have c2 := h.top.cell hv
  have H56 : Hid (Calls Try.prog 56 #[.slice (some ⟨B v, 0, none⟩) k k, .int .i64 (-1)] w fun e w' => (∃ m : Int, e = .returned (.int .i64 m) ∧ Idx k (D v) (-1) m) ∧ w' = w) := index_call (h.numF hv) (by omega) (-1)
  have i1 : (0 : Int) ≤ (v : Int) := by omega
  have i2 : (v : Int) < (n : Int) := by omega
  clear h
  go_enter Try.func50, Try.ntmps50
  go_wp2_with (first | (go_at_call 56; refine Calls.mono H56.out ?_; rintro e _ ⟨⟨m, rfl, hm⟩, rfl⟩) | go_in)
  go_ret
  exact ⟨⟨m, rfl, hm⟩, rfl⟩
set_option maxHeartbeats 600000 in
theorem colour_call (h : DyeAt w p t n k B D) (hk : k ≤ 1000) {u : Nat} (hu : u < n) (x : Int) :
    Calls Try.prog 39 #[ptr p, .int .i64 (u : Int), .int .i64 x] w fun e w' => (∃ m, e = .returned (.int .i64 m) ∧ Idx k (D u) x m) ∧ w' = w := by
  have c1 : w.cell? ⟨p, 0, none⟩ = some (sl t n) := box_cell h.box rfl
  have c2 := h.top.cell hu
  have H56 : Hid (Calls Try.prog 56 #[.slice (some ⟨B u, 0, none⟩) k k, .int .i64 x] w fun e w' => (∃ m : Int, e = .returned (.int .i64 m) ∧ Idx k (D u) x m) ∧ w' = w) := index_call (h.numF hu) (by omega) x
  have i1 : (0 : Int) ≤ (u : Int) := by omega
  have i2 : (u : Int) < (n : Int) := by omega
  clear h
  go_enter Try.func39, Try.ntmps39
  go_wp2_with (first | (go_at_call 56; refine Calls.mono H56.out ?_; rintro e _ ⟨⟨m, rfl, hm⟩, rfl⟩) | go_in)
  go_ret
  exact ⟨⟨m, rfl, hm⟩, rfl⟩
set_option maxRecDepth 4000 in
set_option maxHeartbeats 2000000 in
theorem dset_call (h : DyeAt w p t n k B D) {u v c : Nat} (hu : u < n) (hv : v < n) (hc : c < k) (huv : v ≠ u) :
    Calls Try.prog 64 #[ptr p, .int .i64 (u : Int), .int .i64 (v : Int), .int .i64 (c : Int)] w fun e w' => e = .returned (.tuple #[]) ∧ DyeAt w' p t n k B (st D u v c) ∧ Turns (rowsOf n B) w w' := by
  have HD : Hid (DyeAt w p t n k B D) := h
  obtain ⟨c1, c2, c3⟩ := h.cells hu hc
  obtain ⟨_, d2, d3⟩ := h.cells hv hc
  have f1 := (h.row u hu).free c
  have hne : B v ≠ B u := fun e => huv (h.inj v u hv hu e)
  have i1 : (0 : Int) ≤ (u : Int) := by omega
  have i2 : (u : Int) < (n : Int) := by omega
  have i3 : (0 : Int) ≤ (c : Int) := by omega
  have i4 : (c : Int) < (k : Int) := by omega
  have i5 : (0 : Int) ≤ (v : Int) := by omega
  have i6 : (v : Int) < (n : Int) := by omega
  have f2 := ((h.set hu c (v : Int)).row v hv).free c
  have e2 : (w.setCell ⟨B u, c, none⟩ (.int .i64 (v : Int))).cell? ⟨B v, c, none⟩ = some (.int .i64 (D v c)) := by
    have := ((h.set hu c (v : Int)).cells hv hc).2.2
    simpa [huv] using this
  clear h
  go_enter Try.func64, Try.ntmps64
  go_region
  have T := (set_turns (w := w) (B := B) hu c (.int .i64 (v : Int))).trans (set_turns (B := B) hv c (.int .i64 (u : Int)))
  have hw := (HD.out.set hu c (v : Int)).set hv c (u : Int)
  go_end0
  refine ⟨rfl, (hw.below (Below.refl _ _).drew).congr (fun y d _ _ => ?_), T.trans (Turns.of_below (Below.refl _ _).drew _)⟩
  unfold st
  by_cases e1 : d = c
  · by_cases e2 : y = u
    · have e3 : ¬ y = v := fun e => huv (e ▸ e2)
      simp only [if_pos e1, if_pos e2, if_neg e3]
    · by_cases e3 : y = v
      · simp only [if_pos e1, if_neg e2, if_pos e3]
      · simp only [if_pos e1, if_neg e2, if_neg e3]
  · simp only [if_neg e1, ite_self]
set_option maxRecDepth 4000 in
set_option maxHeartbeats 2000000 in
theorem dunset_call (h : DyeAt w p t n k B D) {u v c : Nat} (hu : u < n) (hv : v < n) (hc : c < k) (huv : v ≠ u) :
    Calls Try.prog 63 #[ptr p, .int .i64 (u : Int), .int .i64 (v : Int), .int .i64 (c : Int)] w fun e w' => e = .returned (.tuple #[]) ∧ DyeAt w' p t n k B (un D u v c) ∧ Turns (rowsOf n B) w w' := by
  have HD : Hid (DyeAt w p t n k B D) := h
  obtain ⟨c1, c2, c3⟩ := h.cells hu hc
  obtain ⟨_, d2, d3⟩ := h.cells hv hc
  have f1 := (h.row u hu).free c
  have hne : B v ≠ B u := fun e => huv (h.inj v u hv hu e)
  have i1 : (0 : Int) ≤ (u : Int) := by omega
  have i2 : (u : Int) < (n : Int) := by omega
  have i3 : (0 : Int) ≤ (c : Int) := by omega
  have i4 : (c : Int) < (k : Int) := by omega
  have i5 : (0 : Int) ≤ (v : Int) := by omega
  have i6 : (v : Int) < (n : Int) := by omega
  have f2 := ((h.set hu c (-1)).row v hv).free c
  have e2 : (w.setCell ⟨B u, c, none⟩ (.int .i64 (-1))).cell? ⟨B v, c, none⟩ = some (.int .i64 (D v c)) := by
    have := ((h.set hu c (-1)).cells hv hc).2.2
    simpa [huv] using this
  clear h
  go_enter Try.func63, Try.ntmps63
  go_region
  have T := (set_turns (w := w) (B := B) hu c (.int .i64 (-1))).trans (set_turns (B := B) hv c (.int .i64 (-1)))
  have hw := (HD.out.set hu c (-1)).set hv c (-1)
  go_end0
  refine ⟨rfl, (hw.below (Below.refl _ _).drew).congr (fun y d _ _ => ?_), T.trans (Turns.of_below (Below.refl _ _).drew _)⟩
  unfold un
  by_cases e1 : d = c
  · by_cases e2 : y = u
    · have e3 : ¬ y = v := fun e => huv (e ▸ e2)
      simp only [if_pos e1, if_pos e2, if_neg e3]
    · by_cases e3 : y = v
      · simp only [if_pos e1, if_neg e2, if_pos e3]
      · simp only [if_pos e1, if_neg e2, if_neg e3]
  · simp only [if_neg e1, ite_self]
end
end Go.Proofs.Ytdnmoifbkojnlaa
