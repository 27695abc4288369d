/- twoCross. -/
import Derived.Test.YtnboonhlffkimaaGreatDoorMtsM
import Derived.Test.YtnboonhlffkimaaGreatDoorRegM
namespace Go.Proofs.YtnboonhlffkimaaGreatDoor
set_option maxRecDepth 8000
open Go.RowKit Go.Maps
attribute [local go_sem ↓] Go.wp_at_zero Go.wp_at_succ
/-- Ten values that are told, two new boxes, each of which is written once. -/
structure S2 (W : World) (V : Nat → Value) (x1 x2 y1 y2 : Value) (L : Nat → Bool) (f : Nat → Value) (w : World) : Prop where
  told : ∀ i, i < 10 → L i = true → f i = V i
  bel : Below W.heap.size W w
  a10 : L 10 = true → ∃ b, f 10 = ptr b ∧ W.heap.size ≤ b ∧ Two w b (if L 12 = true then x1 else .int .i64 0) (if L 12 = true then x2 else .int .i64 0) 32
  a11 : L 11 = true → ∃ b, f 11 = ptr b ∧ W.heap.size ≤ b ∧ Two w b (if L 13 = true then y1 else .int .i64 0) (if L 13 = true then y2 else .int .i64 0) 32
  ne : L 10 = true → L 11 = true → f 10 ≠ f 11
  c12 : L 12 = true → L 10 = true
  c13 : L 13 = true → L 11 = true
section
variable {W : World} {V : Nat → Value} {x1 x2 y1 y2 : Value} {L : Nat → Bool} {f : Nat → Value} {w : World}
theorem S2.start : S2 W V x1 x2 y1 y2 (fun _ => false) f W.drew := ⟨fun _ _ h => (by cases h), (Below.refl _ W).drew, fun h => (by cases h), fun h => (by cases h), fun h => (by cases h), fun h => (by cases h), fun h => (by cases h)⟩
theorem S2.put (h : S2 W V x1 x2 y1 y2 L f w) {i : Nat} (hi : i < 10) {x : Value} (hx : x = V i) : S2 W V x1 x2 y1 y2 (also L i) (updW f i x) w := by
  have e : ∀ k, 10 ≤ k → also L i k = L k := fun k hk => also_atW (by omega)
  have e' : ∀ k, 10 ≤ k → updW f i x k = f k := fun k hk => updW_ne _ _ (by omega)
  refine ⟨fun j hj hl => ?_, h.bel, ?_, ?_, ?_, ?_, ?_⟩
  · by_cases q : j = i
    · subst q; rw [updW_same]; exact hx
    · rw [updW_ne _ _ q]; exact h.told j hj (by rwa [also_atW q] at hl)
  · rw [e 10 (by omega), e 12 (by omega), e' 10 (by omega)]; exact h.a10
  · rw [e 11 (by omega), e 13 (by omega), e' 11 (by omega)]; exact h.a11
  · rw [e 10 (by omega), e 11 (by omega), e' 10 (by omega), e' 11 (by omega)]; exact h.ne
  · rw [e 12 (by omega), e 10 (by omega)]; exact h.c12
  · rw [e 13 (by omega), e 11 (by omega)]; exact h.c13
theorem ptr_ne {b c : Nat} (h : b ≠ c) : ptr b ≠ ptr c := fun e => h (by injection e with e1; injection e1 with e2; injection e2)
theorem S2.alloc10 (h : S2 W V x1 x2 y1 y2 L f w) (hL : L 10 = false) : S2 W V x1 x2 y1 y2 (also L 10) (updW f 10 (ptr w.heap.size)) (w.alloc (Obj.cells #[.int .i64 0, .int .i64 0] 32)) := by
  have h12 : L 12 = false := by
    cases e : L 12 with
    | false => rfl
    | true => have := h.c12 e; rw [hL] at this; cases this
  have a : ∀ k, k ≠ 10 → also L 10 k = L k := fun k hk => also_atW hk
  have a' : ∀ k, k ≠ 10 → updW f 10 (ptr w.heap.size) k = f k := fun k hk => updW_ne _ _ hk
  refine ⟨fun j hj hl => ?_, below_alloc h.bel _, fun _ => ⟨w.heap.size, updW_same _ _ _, h.bel.size, ?_⟩, fun hl => ?_, fun _ hl => ?_, fun hl => also_self _ _, fun hl => ?_⟩
  · rw [a' j (by omega)]; exact h.told j hj (by rwa [a j (by omega)] at hl)
  · rw [a 12 (by omega), h12]; exact two_new _ _ _ _
  · rw [a 11 (by omega)] at hl
    obtain ⟨b, h1, h2, h3⟩ := h.a11 hl
    rw [a 13 (by omega), a' 11 (by omega)]
    exact ⟨b, h1, h2, two_alloc h3 _⟩
  · rw [a 11 (by omega)] at hl
    obtain ⟨b, h1, h2, h3⟩ := h.a11 hl
    rw [updW_same, a' 11 (by omega), h1]
    exact ptr_ne (by have := lt_of_block h3; omega)
  · rw [a 13 (by omega)] at hl; rw [a 11 (by omega)]; exact h.c13 hl
theorem S2.alloc11 (h : S2 W V x1 x2 y1 y2 L f w) (hL : L 11 = false) : S2 W V x1 x2 y1 y2 (also L 11) (updW f 11 (ptr w.heap.size)) (w.alloc (Obj.cells #[.int .i64 0, .int .i64 0] 32)) := by
  have h13 : L 13 = false := by
    cases e : L 13 with
    | false => rfl
    | true => have := h.c13 e; rw [hL] at this; cases this
  have a : ∀ k, k ≠ 11 → also L 11 k = L k := fun k hk => also_atW hk
  have a' : ∀ k, k ≠ 11 → updW f 11 (ptr w.heap.size) k = f k := fun k hk => updW_ne _ _ hk
  refine ⟨fun j hj hl => ?_, below_alloc h.bel _, fun hl => ?_, fun _ => ⟨w.heap.size, updW_same _ _ _, h.bel.size, ?_⟩, fun hl _ => ?_, fun hl => ?_, fun hl => also_self _ _⟩
  · rw [a' j (by omega)]; exact h.told j hj (by rwa [a j (by omega)] at hl)
  · rw [a 10 (by omega)] at hl
    obtain ⟨b, h1, h2, h3⟩ := h.a10 hl
    rw [a 12 (by omega), a' 10 (by omega)]
    exact ⟨b, h1, h2, two_alloc h3 _⟩
  · rw [a 13 (by omega), h13]; exact two_new _ _ _ _
  · rw [a 10 (by omega)] at hl
    obtain ⟨b, h1, h2, h3⟩ := h.a10 hl
    rw [updW_same, a' 10 (by omega), h1]
    exact ptr_ne (by have := lt_of_block h3; omega)
  · rw [a 12 (by omega)] at hl; rw [a 10 (by omega)]; exact h.c12 hl
theorem S2.store12 (h : S2 W V x1 x2 y1 y2 L f w) (hL : L 12 = false) (h10 : L 10 = true) {b : Nat} (hb : f 10 = ptr b) (x : Value) : S2 W V x1 x2 y1 y2 (also L 12) (updW f 12 x) ((w.setCell ⟨b, 0, none⟩ x1).setCell ⟨b, 1, none⟩ x2) := by
  have a : ∀ k, k ≠ 12 → also L 12 k = L k := fun k hk => also_atW hk
  have a' : ∀ k, k ≠ 12 → updW f 12 x k = f k := fun k hk => updW_ne _ _ hk
  obtain ⟨b', e1, h2, h3⟩ := h.a10 h10
  have hbb : b' = b := by
    rw [hb] at e1
    injection e1 with e1; injection e1 with e2; injection e2 with e3; exact e3.symm
  subst hbb
  rw [if_neg (by rw [hL]; decide), if_neg (by rw [hL]; decide)] at h3
  refine ⟨fun j hj hl => ?_, (h.bel.setCell h2 _).setCell h2 _, fun _ => ⟨b', by rw [a' 10 (by omega)]; exact hb, h2, ?_⟩, fun hl => ?_, fun h1' h2' => ?_, fun _ => by rw [a 10 (by omega)]; exact h10, fun hl => ?_⟩
  · rw [a' j (by omega)]; exact h.told j hj (by rwa [a j (by omega)] at hl)
  · rw [also_self, if_pos rfl, if_pos rfl]; exact two_setN h3
  · rw [a 11 (by omega)] at hl
    obtain ⟨c, k1, k2, k3⟩ := h.a11 hl
    have hne : c ≠ b' := fun e => h.ne h10 hl (by rw [hb, k1, e])
    rw [a 13 (by omega), a' 11 (by omega)]
    exact ⟨c, k1, k2, two_far (two_far k3 hne) hne⟩
  · rw [a' 10 (by omega), a' 11 (by omega)]; rw [a 10 (by omega)] at h1'; rw [a 11 (by omega)] at h2'; exact h.ne h1' h2'
  · rw [a 13 (by omega)] at hl; rw [a 11 (by omega)]; exact h.c13 hl
theorem S2.store13 (h : S2 W V x1 x2 y1 y2 L f w) (hL : L 13 = false) (h11 : L 11 = true) {b : Nat} (hb : f 11 = ptr b) (x : Value) : S2 W V x1 x2 y1 y2 (also L 13) (updW f 13 x) ((w.setCell ⟨b, 0, none⟩ y1).setCell ⟨b, 1, none⟩ y2) := by
  have a : ∀ k, k ≠ 13 → also L 13 k = L k := fun k hk => also_atW hk
  have a' : ∀ k, k ≠ 13 → updW f 13 x k = f k := fun k hk => updW_ne _ _ hk
  obtain ⟨b', e1, h2, h3⟩ := h.a11 h11
  have hbb : b' = b := by
    rw [hb] at e1
    injection e1 with e1; injection e1 with e2; injection e2 with e3; exact e3.symm
  subst hbb
  rw [if_neg (by rw [hL]; decide), if_neg (by rw [hL]; decide)] at h3
  refine ⟨fun j hj hl => ?_, (h.bel.setCell h2 _).setCell h2 _, fun hl => ?_, fun _ => ⟨b', by rw [a' 11 (by omega)]; exact hb, h2, ?_⟩, fun h1' h2' => ?_, fun hl => ?_, fun _ => by rw [a 11 (by omega)]; exact h11⟩
  · rw [a' j (by omega)]; exact h.told j hj (by rwa [a j (by omega)] at hl)
  · rw [a 10 (by omega)] at hl
    obtain ⟨c, k1, k2, k3⟩ := h.a10 hl
    have hne : c ≠ b' := fun e => h.ne hl h11 (by rw [hb, k1, e])
    rw [a 12 (by omega), a' 10 (by omega)]
    exact ⟨c, k1, k2, two_far (two_far k3 hne) hne⟩
  · rw [also_self, if_pos rfl, if_pos rfl]; exact two_setN h3
  · rw [a' 10 (by omega), a' 11 (by omega)]; rw [a 10 (by omega)] at h1'; rw [a 11 (by omega)] at h2'; exact h.ne h1' h2'
  · rw [a 12 (by omega)] at hl; rw [a 10 (by omega)]; exact h.c12 hl
end
def V2 (b off be : Nat) (x y : Nat) (sv_ : Value) (px py : Value) : Nat → Value
  | 0 => sv_
  | 1 => .pointer (some ⟨be, 0, none⟩)
  | 2 => .int .i64 (x : Int)
  | 3 => .pointer (some ⟨b, off + x * 2, none⟩)
  | 4 => px
  | 5 => sv_
  | 6 => .pointer (some ⟨be, 1, none⟩)
  | 7 => .int .i64 (y : Int)
  | 8 => .pointer (some ⟨b, off + y * 2, none⟩)
  | 9 => py
  | _ => undef
def crB (P : Nat → Pt) (a b : Pt) (e : Nat × Nat) : Bool := decide (sideZ a b (P e.1) * sideZ a b (P e.2) < 0) && decide (sideZ (P e.1) (P e.2) a * sideZ (P e.1) (P e.2) b < 0)
theorem sd_bd (a b c d e f : Pt) : -1 ≤ sideZ a b c * sideZ d e f ∧ sideZ a b c * sideZ d e f ≤ 1 := by
  rcases sideZ_cases a b c with ⟨_, h⟩ | ⟨_, h⟩ | ⟨_, h⟩ <;> rcases sideZ_cases d e f with ⟨_, h'⟩ | ⟨_, h'⟩ | ⟨_, h'⟩ <;> rw [h, h'] <;> decide
theorem store_two' {w : World} {b : Nat} {x y : Value} {t : TypeId} (h : Two w b x y t) (x' y' : Value) : w.cell? ⟨b, 0, none⟩ = some x ∧ w.frozen? ⟨b, 0, none⟩ = false ∧ (w.setCell ⟨b, 0, none⟩ x').cell? ⟨b, 1, none⟩ = some y ∧ (w.setCell ⟨b, 0, none⟩ x').frozen? ⟨b, 1, none⟩ = false ∧ ((w.setCell ⟨b, 0, none⟩ x').setCell ⟨b, 1, none⟩ y').cell? ⟨b, 0, none⟩ = some x' ∧ ((w.setCell ⟨b, 0, none⟩ x').setCell ⟨b, 1, none⟩ y').cell? ⟨b, 1, none⟩ = some y' := by
  have h1 : Two (w.setCell ⟨b, 0, none⟩ x') b x' y t := box_set (cs := #[x, y]) h 0 x'
  exact ⟨(cell_two h).1, box_free (cs := #[x, y]) h 0, (cell_two h1).2, box_free (cs := #[x', y]) h1 1, (cell_two (two_setN h)).1, (cell_two (two_setN h)).2⟩
set_option maxHeartbeats 16000000 in
theorem cross1_call {w : World} {bs ba bb N cap : Nat} {ao : Option Addr} {P : Nat → Pt} {e : Nat × Nat} {pa pb : Pt} (h1 : One w bs (.slice ao N cap) 25) (h2 : Two w ba (.int .i64 pa.1) (.int .i64 pa.2) 32) (h3 : Two w bb (.int .i64 pb.1) (.int .i64 pb.2) 32) (hP : PF w ao N P) (hB : ∀ j, j < N → BdP (P j)) (ha : BdP pa) (hb : BdP pb) (he : e.1 < N ∧ e.2 < N) :
    Calls Tryz.prog 27 #[ptv (eZ e), ptr bs, ptr ba, ptr bb] w fun r w' => r = .returned (.bool (crB P pa pb e)) ∧ Below w.heap.size w w' := by
  obtain ⟨x, y⟩ := e
  obtain ⟨hx, hy⟩ := he
  simp only at hx hy
  have S1 : Hid (∀ A : World, Calls Tryz.prog 28 #[ptv pa, ptv pb, ptv (P x)] A fun e w' => e = .returned (.int .i64 (sideZ pa pb (P x))) ∧ Below A.heap.size A w') := fun A => side_call ha hb (hB x hx)
  have S2_ : Hid (∀ A : World, Calls Tryz.prog 28 #[ptv pa, ptv pb, ptv (P y)] A fun e w' => e = .returned (.int .i64 (sideZ pa pb (P y))) ∧ Below A.heap.size A w') := fun A => side_call ha hb (hB y hy)
  have S3 : Hid (∀ A : World, Calls Tryz.prog 28 #[ptv (P x), ptv (P y), ptv pa] A fun e w' => e = .returned (.int .i64 (sideZ (P x) (P y) pa)) ∧ Below A.heap.size A w') := fun A => side_call (hB x hx) (hB y hy) ha
  have S4 : Hid (∀ A : World, Calls Tryz.prog 28 #[ptv (P x), ptv (P y), ptv pb] A fun e w' => e = .returned (.int .i64 (sideZ (P x) (P y) pb)) ∧ Below A.heap.size A w') := fun A => side_call (hB x hx) (hB y hy) hb
  obtain ⟨R, hR⟩ : ∃ R, R = crB P pa pb (x, y) := ⟨_, rfl⟩
  have HR : Hid (R = (decide (sideZ pa pb (P x) * sideZ pa pb (P y) < 0) && decide (sideZ (P x) (P y) pa * sideZ (P x) (P y) pb < 0))) := hR
  have bd1 := sd_bd pa pb (P x) pa pb (P y)
  have bd2 := sd_bd (P x) (P y) pa (P x) (P y) pb
  rw [← hR]
  generalize sideZ pa pb (P x) = s1 at *
  generalize sideZ pa pb (P y) = s2 at *
  generalize sideZ (P x) (P y) pa = s3 at *
  generalize sideZ (P x) (P y) pb = s4 at *
  have m1 : -9223372036854775808 ≤ s1 * s2 := by omega
  have m2 : s1 * s2 < 9223372036854775808 := by omega
  have m3 : -9223372036854775808 ≤ s3 * s4 := by omega
  have m4 : s3 * s4 < 9223372036854775808 := by omega
  obtain ⟨b, off, rfl, p0, p1⟩ := hP x hx
  obtain ⟨b', off', e', p2, p3⟩ := hP y hy
  cases e'
  have hB0 := below_alloc (Below.refl _ w) (Obj.cells #[.int .i64 (x : Int), .int .i64 (y : Int)] 38)
  have t4 := two_new w (.int .i64 (x : Int)) (.int .i64 (y : Int)) 38
  unfold ptv eZ at *
  obtain ⟨ax, ay⟩ := pa
  obtain ⟨bx, b_y⟩ := pb
  simp only at *
  generalize (P x).1 = x1 at *
  generalize (P x).2 = x2 at *
  generalize (P y).1 = y1 at *
  generalize (P y).2 = y2 at *
  have i1 : (0 : Int) ≤ (x : Int) := by omega
  have i2 : (x : Int) < (N : Int) := by omega
  have i3 : (0 : Int) ≤ (y : Int) := by omega
  have i4 : (y : Int) < (N : Int) := by omega
  go_enter Tryz.func27, Tryz.ntmps27
  go_upto_region 1 with (fail)
  obtain ⟨be, hbe⟩ : ∃ q, q = w.heap.size := ⟨_, rfl⟩
  rw [← hbe] at t4 ⊢
  generalize w.alloc (Obj.cells #[.int .i64 (x : Int), .int .i64 (y : Int)] 38) = W1 at *
  have HC : Hid (∀ A, Below W1.heap.size W1 A → A.cell? ⟨bs, 0, none⟩ = some (.slice (some ⟨b, off, none⟩) N cap) ∧ A.cell? ⟨be, 0, none⟩ = some (.int .i64 (x : Int)) ∧ A.cell? ⟨be, 1, none⟩ = some (.int .i64 (y : Int)) ∧ A.cell? ⟨b, off + x * 2, none⟩ = some (.int .i64 x1) ∧ A.cell? ⟨b, off + x * 2 + 1, none⟩ = some (.int .i64 x2) ∧ A.cell? ⟨b, off + y * 2, none⟩ = some (.int .i64 y1) ∧ A.cell? ⟨b, off + y * 2 + 1, none⟩ = some (.int .i64 y2)) := fun A hA => by
    have q := below_next hB0 hA
    have k : ∀ {a : Addr} {z : Value}, w.cell? a = some z → A.cell? a = some z := fun h => (q.cell (World.block_lt_of_cell? w _ h)).trans h
    obtain ⟨c0, c1⟩ := cell_two (two_next t4 hA)
    exact ⟨k (box_cell h1 (i := 0) rfl), c0, c1, k p0, k p1, k p2, k p3⟩
  have HT : Hid (∀ A, Below W1.heap.size W1 A → Two A ba (.int .i64 ax) (.int .i64 ay) 32 ∧ Two A bb (.int .i64 bx) (.int .i64 b_y) 32 ∧ Below w.heap.size w A) := fun A hA => by
    have q := below_next hB0 hA
    exact ⟨two_next h2 q, two_next h3 q, q⟩
  clear hB0 hbe t4 h1 h2 h3 hP hB hR p0 p1 p2 p3 bd1 bd2 ha hb
  refine region_ext (J := S2 W1 (V2 b off be x y (.slice (some ⟨b, off, none⟩) N cap) (.agg #[.int .i64 x1, .int .i64 x2]) (.agg #[.int .i64 y1, .int .i64 y2])) (.int .i64 x1) (.int .i64 x2) (.int .i64 y1) (.int .i64 y2)) (by kernel_rfl) (by kernel_rfl) (by kernel_rfl) S2.start ?_ ?_
  · intro i o hi L xs a w1 hJ hL hd hcl hX
    obtain ⟨q0, q1, q2, q3, q4, q5, q6⟩ := HC.out _ hJ.bel
    match i, hi with
    | 0, hi =>
      cases hi
      have s1 := hX.out (s := 1) rfl
      refine wpOp_value rfl rfl (v := .slice (some ⟨b, off, none⟩) N cap) (w' := w1) ?_ ⟨_, rfl, hJ.put (by omega) rfl⟩
      simp [go_sem, Act.eval, s1, q0]
    | 1, hi =>
      cases hi
      have s1 := hX.out (s := 4) rfl
      refine wpOp_value rfl rfl (v := .pointer (some ⟨be, 0, none⟩)) (w' := w1) ?_ ⟨_, rfl, hJ.put (by omega) rfl⟩
      simp [go_sem, Act.eval, s1, Addr.add]
    | 2, hi =>
      cases hi
      have l1 := hd ⟨1, .data⟩ (by simp) rfl
      have r1 : _ = V2 b off be x y (.slice (some ⟨b, off, none⟩) N cap) (.agg #[.int .i64 x1, .int .i64 x2]) (.agg #[.int .i64 y1, .int .i64 y2]) 1 := (hX.rd 1 _ 9 rfl rfl l1).trans (hJ.told 1 (by omega) l1)
      simp only [V2] at r1
      refine wpOp_value rfl rfl (v := .int .i64 (x : Int)) (w' := w1) ?_ ⟨_, rfl, hJ.put (by omega) rfl⟩
      simp [go_sem, Act.eval, r1, q1]
    | 3, hi =>
      cases hi
      have l0 := hd ⟨0, .data⟩ (by simp) rfl
      have l2 := hd ⟨2, .data⟩ (by simp) rfl
      have r0 : _ = V2 b off be x y (.slice (some ⟨b, off, none⟩) N cap) (.agg #[.int .i64 x1, .int .i64 x2]) (.agg #[.int .i64 y1, .int .i64 y2]) 0 := (hX.rd 0 _ 8 rfl rfl l0).trans (hJ.told 0 (by omega) l0)
      have r2 : _ = V2 b off be x y (.slice (some ⟨b, off, none⟩) N cap) (.agg #[.int .i64 x1, .int .i64 x2]) (.agg #[.int .i64 y1, .int .i64 y2]) 2 := (hX.rd 2 _ 10 rfl rfl l2).trans (hJ.told 2 (by omega) l2)
      simp only [V2] at r0 r2
      refine wpOp_value rfl rfl (v := .pointer (some ⟨b, off + x * 2, none⟩)) (w' := w1) ?_ ⟨_, rfl, hJ.put (by omega) rfl⟩
      simp [go_sem, Act.eval, r0, r2, i1, i2, Addr.add]
    | 4, hi =>
      cases hi
      have l3 := hd ⟨3, .data⟩ (by simp) rfl
      have r3 : _ = V2 b off be x y (.slice (some ⟨b, off, none⟩) N cap) (.agg #[.int .i64 x1, .int .i64 x2]) (.agg #[.int .i64 y1, .int .i64 y2]) 3 := (hX.rd 3 _ 11 rfl rfl l3).trans (hJ.told 3 (by omega) l3)
      simp only [V2] at r3
      refine wpOp_value rfl rfl (v := .agg #[.int .i64 x1, .int .i64 x2]) (w' := w1) ?_ ⟨_, rfl, hJ.put (by omega) rfl⟩
      simp [go_sem, Act.eval, r3, q3, q4]
    | 5, hi =>
      cases hi
      have s1 := hX.out (s := 1) rfl
      refine wpOp_value rfl rfl (v := .slice (some ⟨b, off, none⟩) N cap) (w' := w1) ?_ ⟨_, rfl, hJ.put (by omega) rfl⟩
      simp [go_sem, Act.eval, s1, q0]
    | 6, hi =>
      cases hi
      have s1 := hX.out (s := 4) rfl
      refine wpOp_value rfl rfl (v := .pointer (some ⟨be, 1, none⟩)) (w' := w1) ?_ ⟨_, rfl, hJ.put (by omega) rfl⟩
      simp [go_sem, Act.eval, s1, Addr.add]
    | 7, hi =>
      cases hi
      have l6 := hd ⟨6, .data⟩ (by simp) rfl
      have r6 : _ = V2 b off be x y (.slice (some ⟨b, off, none⟩) N cap) (.agg #[.int .i64 x1, .int .i64 x2]) (.agg #[.int .i64 y1, .int .i64 y2]) 6 := (hX.rd 6 _ 14 rfl rfl l6).trans (hJ.told 6 (by omega) l6)
      simp only [V2] at r6
      refine wpOp_value rfl rfl (v := .int .i64 (y : Int)) (w' := w1) ?_ ⟨_, rfl, hJ.put (by omega) rfl⟩
      simp [go_sem, Act.eval, r6, q2]
    | 8, hi =>
      cases hi
      have l5 := hd ⟨5, .data⟩ (by simp) rfl
      have l7 := hd ⟨7, .data⟩ (by simp) rfl
      have r5 : _ = V2 b off be x y (.slice (some ⟨b, off, none⟩) N cap) (.agg #[.int .i64 x1, .int .i64 x2]) (.agg #[.int .i64 y1, .int .i64 y2]) 5 := (hX.rd 5 _ 13 rfl rfl l5).trans (hJ.told 5 (by omega) l5)
      have r7 : _ = V2 b off be x y (.slice (some ⟨b, off, none⟩) N cap) (.agg #[.int .i64 x1, .int .i64 x2]) (.agg #[.int .i64 y1, .int .i64 y2]) 7 := (hX.rd 7 _ 15 rfl rfl l7).trans (hJ.told 7 (by omega) l7)
      simp only [V2] at r5 r7
      refine wpOp_value rfl rfl (v := .pointer (some ⟨b, off + y * 2, none⟩)) (w' := w1) ?_ ⟨_, rfl, hJ.put (by omega) rfl⟩
      simp [go_sem, Act.eval, r5, r7, i3, i4, Addr.add]
    | 9, hi =>
      cases hi
      have l8 := hd ⟨8, .data⟩ (by simp) rfl
      have r8 : _ = V2 b off be x y (.slice (some ⟨b, off, none⟩) N cap) (.agg #[.int .i64 x1, .int .i64 x2]) (.agg #[.int .i64 y1, .int .i64 y2]) 8 := (hX.rd 8 _ 16 rfl rfl l8).trans (hJ.told 8 (by omega) l8)
      simp only [V2] at r8
      refine wpOp_value rfl rfl (v := .agg #[.int .i64 y1, .int .i64 y2]) (w' := w1) ?_ ⟨_, rfl, hJ.put (by omega) rfl⟩
      simp [go_sem, Act.eval, r8, q5, q6]
    | 10, hi =>
      cases hi
      refine wpOp_value rfl rfl (v := ptr w1.heap.size) (w' := w1.alloc (Obj.cells #[.int .i64 0, .int .i64 0] 32)) ?_ ⟨_, rfl, hJ.alloc10 hL⟩
      simp [go_sem]
    | 11, hi =>
      cases hi
      refine wpOp_value rfl rfl (v := ptr w1.heap.size) (w' := w1.alloc (Obj.cells #[.int .i64 0, .int .i64 0] 32)) ?_ ⟨_, rfl, hJ.alloc11 hL⟩
      simp [go_sem]
    | 12, hi =>
      cases hi
      have l10 := hd ⟨10, .data⟩ (by simp) rfl
      have l4 := hd ⟨4, .data⟩ (by simp) rfl
      have r4 : _ = V2 b off be x y (.slice (some ⟨b, off, none⟩) N cap) (.agg #[.int .i64 x1, .int .i64 x2]) (.agg #[.int .i64 y1, .int .i64 y2]) 4 := (hX.rd 4 _ 12 rfl rfl l4).trans (hJ.told 4 (by omega) l4)
      simp only [V2] at r4
      obtain ⟨bb, e1, e2, e3⟩ := hJ.a10 l10
      have r10 := (hX.rd 10 _ 6 rfl rfl l10).trans e1
      rw [if_neg (by rw [hL]; decide), if_neg (by rw [hL]; decide)] at e3
      obtain ⟨z1, z2, z3, z4, z5, z6⟩ := store_two' e3 (.int .i64 x1) (.int .i64 x2)
      refine wpOp_skip rfl rfl (w' := (w1.setCell ⟨bb, 0, none⟩ (.int .i64 x1)).setCell ⟨bb, 1, none⟩ (.int .i64 x2)) ?_ ⟨undef, rfl, hJ.store12 hL l10 e1 undef⟩
      simp [go_sem, Act.eval, r10, r4, z1, z2, z3, z4]
    | 13, hi =>
      cases hi
      have l11 := hd ⟨11, .data⟩ (by simp) rfl
      have l9 := hd ⟨9, .data⟩ (by simp) rfl
      have r9 : _ = V2 b off be x y (.slice (some ⟨b, off, none⟩) N cap) (.agg #[.int .i64 x1, .int .i64 x2]) (.agg #[.int .i64 y1, .int .i64 y2]) 9 := (hX.rd 9 _ 17 rfl rfl l9).trans (hJ.told 9 (by omega) l9)
      simp only [V2] at r9
      obtain ⟨bb, e1, e2, e3⟩ := hJ.a11 l11
      have r11 := (hX.rd 11 _ 7 rfl rfl l11).trans e1
      rw [if_neg (by rw [hL]; decide), if_neg (by rw [hL]; decide)] at e3
      obtain ⟨z1, z2, z3, z4, z5, z6⟩ := store_two' e3 (.int .i64 y1) (.int .i64 y2)
      refine wpOp_skip rfl rfl (w' := (w1.setCell ⟨bb, 0, none⟩ (.int .i64 y1)).setCell ⟨bb, 1, none⟩ (.int .i64 y2)) ?_ ⟨undef, rfl, hJ.store13 hL l11 e1 undef⟩
      simp [go_sem, Act.eval, r11, r9, z1, z2, z3, z4]
    | m + 14, hi => cases hi
  · intro L0 xv w3 hJ hall
    obtain ⟨b6, e6, g6, t6⟩ := hJ.a10 (hall 10 (by simp))
    obtain ⟨b7, e7, g7, t7⟩ := hJ.a11 (hall 11 (by simp))
    rw [if_pos (hall 12 (by simp)), if_pos (hall 12 (by simp))] at t6
    rw [if_pos (hall 13 (by simp)), if_pos (hall 13 (by simp))] at t7
    simp only [puts, Act.put, e6, e7, List.setIfInBounds_toArray, List.set_cons_succ, List.set_cons_zero]
    have HW3 : Hid (Below W1.heap.size W1 w3 ∧ Two w3 b6 (.int .i64 x1) (.int .i64 x2) 32 ∧ Two w3 b7 (.int .i64 y1) (.int .i64 y2) 32) := ⟨hJ.bel, t6, t7⟩
    clear hJ hall t6 t7 e6 e7 g6 g7
    generalize xv 0 = z0
    generalize xv 1 = z1
    generalize xv 2 = z2
    generalize xv 3 = z3
    generalize xv 4 = z4
    generalize xv 5 = z5
    generalize xv 6 = z6
    generalize xv 7 = z7
    generalize xv 8 = z8
    generalize xv 9 = z9
    generalize xv 12 = z12
    generalize xv 13 = z13
    clear HC
    obtain ⟨u1, u2, _⟩ := HT.out _ HW3.out.1
    have g0 := cell_growD (cell_two u1).1
    have g1 := cell_growD (cell_two u1).2
    have g2 := cell_growD (cell_two u2).1
    have g3 := cell_growD (cell_two u2).2
    have g4 := cell_growD (cell_two HW3.out.2.1).1
    have g5 := cell_growD (cell_two HW3.out.2.1).2
    have g6 := cell_growD (cell_two HW3.out.2.2).1
    have g7 := cell_growD (cell_two HW3.out.2.2).2
    clear u1 u2
    go_upto_region 2 with (fail)
    by_cases hs : s1 * s2 < 0
    · have k1 : decide (s1 * s2 < 0) = true := by simpa using hs
      have HR2 : Hid (R = decide (s3 * s4 < 0)) := by show R = _; rw [HR.out, k1]; rfl
      clear HR hs
      refine wp_region_below (by kernel_rfl) (by kernel_rfl) ?_
      repeat (go_big_quiet_step (first | (go_at_call 28; with_reducible exact Calls.belowQ (fun W hW => S1.out W)) | (go_at_call 28; with_reducible exact Calls.belowQ (fun W hW => S2_.out W)) | (go_at_call 28; with_reducible exact Calls.belowQ (fun W hW => S3.out W)) | (go_at_call 28; with_reducible exact Calls.belowQ (fun W hW => S4.out W))))
      refine wpQuiet_nil ?_
      rintro _ ⟨gp, rfl⟩
      have HB8 : Hid (Below w.heap.size w (growD w3 gp)) := (HT.out _ (below_next HW3.out.1 (growD_below w3 gp))).2.2
      clear g0 g1 g2 g3 g4 g5 g6 g7
      generalize growD w3 gp = w8 at *
      go_wp2
      go_ret
      exact ⟨by rw [HR2.out]; rfl, HB8.out⟩
    · have k1 : decide (s1 * s2 < 0) = false := by simpa using hs
      have HR2 : Hid (R = false) := by show R = _; rw [HR.out, k1]; rfl
      clear HR hs
      refine wp_region_below (by kernel_rfl) (by kernel_rfl) ?_
      repeat (go_big_quiet_step (first | (go_at_call 28; with_reducible exact Calls.belowQ (fun W hW => S1.out W)) | (go_at_call 28; with_reducible exact Calls.belowQ (fun W hW => S2_.out W)) | (go_at_call 28; with_reducible exact Calls.belowQ (fun W hW => S3.out W)) | (go_at_call 28; with_reducible exact Calls.belowQ (fun W hW => S4.out W))))
      refine wpQuiet_nil ?_
      rintro _ ⟨gp, rfl⟩
      have HB8 : Hid (Below w.heap.size w (growD w3 gp)) := (HT.out _ (below_next HW3.out.1 (growD_below w3 gp))).2.2
      clear g0 g1 g2 g3 g4 g5 g6 g7
      generalize growD w3 gp = w8 at *
      go_wp2
      go_ret
      exact ⟨by rw [HR2.out]; rfl, HB8.out⟩
/-- Edge i goes across one ahead of it. -/
def acrB (G : Nat → Nat × Nat) (P : Nat → Pt) (i : Nat) : Bool := anyB i (fun k => crB P (P (G i).1) (P (G i).2) (G k))
set_option maxHeartbeats 16000000 in
theorem twoCross_call {w : World} {eo ao : Option Addr} {m ec N cap : Nat} {P : Nat → Pt} {G : Nat → Nat × Nat} (hE : PF w eo m (fun k => eZ (G k))) (hP : PF w ao N P) (hB : ∀ j, j < N → BdP (P j)) (hG : ∀ k, k < m → (G k).1 < N ∧ (G k).2 < N) (hm : m ≤ 1000) (hec : m ≤ ec) :
    Calls Tryz.prog 15 #[.slice eo m ec, .slice ao N cap] w fun e w' => e = .returned (.bool (anyB m (acrB G P))) ∧ Below w.heap.size w w' := by
  have HH : Hid (PF w eo m (fun k => eZ (G k)) ∧ PF w ao N P ∧ (∀ j, j < N → BdP (P j)) ∧ (∀ k, k < m → (G k).1 < N ∧ (G k).2 < N)) := ⟨hE, hP, hB, hG⟩
  obtain ⟨R, hR⟩ : ∃ R, R = anyB m (acrB G P) := ⟨_, rfl⟩
  have HR : Hid (R = anyB m (acrB G P)) := hR
  rw [← hR]
  clear hE hP hB hG hR
  go_enter Tryz.func15, Tryz.ntmps15
  go_upto_region 2 with (fail)
  have t1 : One (w.alloc (Obj.cells #[.slice ao N cap] 25)) w.heap.size (.slice ao N cap) 25 := heap_alloc_new _ _
  have hB0 := below_alloc (Below.refl _ w) (Obj.cells #[.slice ao N cap] 25)
  obtain ⟨bs, hbs⟩ : ∃ b, b = w.heap.size := ⟨_, rfl⟩
  rw [← hbs] at t1 ⊢
  generalize w.alloc (Obj.cells #[.slice ao N cap] 25) = W0 at *
  have HW : Hid (One W0 bs (.slice ao N cap) 25 ∧ Below w.heap.size w W0) := ⟨t1, hB0⟩
  clear t1 hB0 hbs
  go_loopw [5, 6, 7, 8, 9, 12] (fun _ _ _ _ _ s12 wz => ∃ k : Nat, k ≤ m ∧ s12 = .int .i64 (k : Int) ∧ Hid ((∀ j, j < k → acrB G P j = false) ∧ Below W0.heap.size W0 wz)) (fun _ _ _ _ _ s12 _ => m - (numOf s12).toNat)
  case atStart => exact ⟨0, Nat.zero_le _, rfl, fun j hj => by omega, Below.refl _ _⟩
  case round =>
    obtain ⟨i, hi, rfl, hJ⟩ := hrel
    by_cases hlt : i < m
    · have hBw : Below w.heap.size w wr := below_next HW.out.2 hJ.out.2
      obtain ⟨b9, off9, hao, c0, c1⟩ := HH.out.1.below hBw i hlt
      subst hao
      obtain ⟨hx, hy⟩ := HH.out.2.2.2 i hlt
      obtain ⟨x, hxe⟩ : ∃ x, x = (G i).1 := ⟨_, rfl⟩
      obtain ⟨y, hye⟩ : ∃ y, y = (G i).2 := ⟨_, rfl⟩
      rw [← hxe] at hx
      rw [← hye] at hy
      have c0' : wr.cell? ⟨b9, off9 + i * 2, none⟩ = some (.int .i64 (x : Int)) := by rw [hxe]; exact c0
      have c1' : wr.cell? ⟨b9, off9 + i * 2 + 1, none⟩ = some (.int .i64 (y : Int)) := by rw [hye]; exact c1
      clear c0 c1
      have j1 : (0 : Int) ≤ (i : Int) := by omega
      have j2 : (i : Int) < (m : Int) := by omega
      obtain ⟨b, off, hao, p0, p1⟩ := HH.out.2.1.below hBw x hx
      subst hao
      obtain ⟨b', off', e', p2, p3⟩ := HH.out.2.1.below hBw y hy
      cases e'
      have HV : Hid (x = (G i).1 ∧ y = (G i).2) := ⟨hxe, hye⟩
      obtain ⟨x1, hx1⟩ : ∃ q, q = (P x).1 := ⟨_, rfl⟩
      obtain ⟨x2, hx2⟩ : ∃ q, q = (P x).2 := ⟨_, rfl⟩
      obtain ⟨y1, hy1⟩ : ∃ q, q = (P y).1 := ⟨_, rfl⟩
      obtain ⟨y2, hy2⟩ : ∃ q, q = (P y).2 := ⟨_, rfl⟩
      rw [← hx1] at p0
      rw [← hx2] at p1
      rw [← hy1] at p2
      rw [← hy2] at p3
      have HQ : Hid (x1 = (P x).1 ∧ x2 = (P x).2 ∧ y1 = (P y).1 ∧ y2 = (P y).2) := ⟨hx1, hx2, hy1, hy2⟩
      have HP0 : Hid (wr.cell? ⟨b, off + x * 2, none⟩ = some (.int .i64 x1) ∧ wr.cell? ⟨b, off + x * 2 + 1, none⟩ = some (.int .i64 x2) ∧ wr.cell? ⟨b, off + y * 2, none⟩ = some (.int .i64 y1) ∧ wr.cell? ⟨b, off + y * 2 + 1, none⟩ = some (.int .i64 y2)) := ⟨p0, p1, p2, p3⟩
      clear hxe hye hx1 hx2 hy1 hy2 p0 p1 p2 p3 hBw
      go_upto_region 4 with (fail)
      have hB4 : Below wr.heap.size wr (wr.alloc (Obj.cells #[.int .i64 (x : Int), .int .i64 (y : Int)] 38)) := below_alloc (Below.refl _ wr) _
      have t4 := two_new wr (.int .i64 (x : Int)) (.int .i64 (y : Int)) 38
      obtain ⟨be, hbe⟩ : ∃ q, q = wr.heap.size := ⟨_, rfl⟩
      rw [← hbe] at t4 ⊢
      generalize wr.alloc (Obj.cells #[.int .i64 (x : Int), .int .i64 (y : Int)] 38) = W1 at *
      have i1 : (0 : Int) ≤ (x : Int) := by omega
      have i2 : (x : Int) < (N : Int) := by omega
      have i3 : (0 : Int) ≤ (y : Int) := by omega
      have i4 : (y : Int) < (N : Int) := by omega
      have HC : Hid (∀ A, Below W1.heap.size W1 A → A.cell? ⟨bs, 0, none⟩ = some (.slice (some ⟨b, off, none⟩) N cap) ∧ A.cell? ⟨be, 0, none⟩ = some (.int .i64 (x : Int)) ∧ A.cell? ⟨be, 1, none⟩ = some (.int .i64 (y : Int)) ∧ A.cell? ⟨b, off + x * 2, none⟩ = some (.int .i64 x1) ∧ A.cell? ⟨b, off + x * 2 + 1, none⟩ = some (.int .i64 x2) ∧ A.cell? ⟨b, off + y * 2, none⟩ = some (.int .i64 y1) ∧ A.cell? ⟨b, off + y * 2 + 1, none⟩ = some (.int .i64 y2)) := fun A hA => by
        have q := below_next hB4 hA
        have k : ∀ {a : Addr} {z : Value}, wr.cell? a = some z → A.cell? a = some z := fun h => (q.cell (World.block_lt_of_cell? wr _ h)).trans h
        obtain ⟨c0, c1⟩ := cell_two (two_next t4 hA)
        have o := ((below_next hJ.out.2 q).block _ (lt_of_block HW.out.1)).trans HW.out.1
        exact ⟨box_cell o (i := 0) rfl, c0, c1, k HP0.out.1, k HP0.out.2.1, k HP0.out.2.2.1, k HP0.out.2.2.2⟩
      have HT : Hid (∀ A, Below W1.heap.size W1 A → One A bs (.slice (some ⟨b, off, none⟩) N cap) 25 ∧ Below w.heap.size w A ∧ Below W0.heap.size W0 A) := fun A hA => by
        have q := below_next hJ.out.2 (below_next hB4 hA)
        exact ⟨(q.block _ (lt_of_block HW.out.1)).trans HW.out.1, below_next HW.out.2 q, q⟩
      clear hbe hB4 t4 c0' c1' HP0
      refine region_ext (J := S2 W1 (V2 b off be x y (.slice (some ⟨b, off, none⟩) N cap) (.agg #[.int .i64 x1, .int .i64 x2]) (.agg #[.int .i64 y1, .int .i64 y2])) (.int .i64 x1) (.int .i64 x2) (.int .i64 y1) (.int .i64 y2)) (by kernel_rfl) (by kernel_rfl) (by kernel_rfl) S2.start ?_ ?_
      · intro i o hi L xs a w1 hK hL hd hcl hX
        obtain ⟨q0, q1, q2, q3, q4, q5, q6⟩ := HC.out _ hK.bel
        match i, hi with
        | 0, hi =>
          cases hi
          have s1 := hX.out (s := 3) rfl
          refine wpOp_value rfl rfl (v := .slice (some ⟨b, off, none⟩) N cap) (w' := w1) ?_ ⟨_, rfl, hK.put (by omega) rfl⟩
          simp [go_sem, Act.eval, s1, q0]
        | 1, hi =>
          cases hi
          have s1 := hX.out (s := 6) rfl
          refine wpOp_value rfl rfl (v := .pointer (some ⟨be, 0, none⟩)) (w' := w1) ?_ ⟨_, rfl, hK.put (by omega) rfl⟩
          simp [go_sem, Act.eval, s1, Addr.add]
        | 2, hi =>
          cases hi
          have l1 := hd ⟨1, .data⟩ (by simp) rfl
          have r1 : _ = V2 b off be x y (.slice (some ⟨b, off, none⟩) N cap) (.agg #[.int .i64 x1, .int .i64 x2]) (.agg #[.int .i64 y1, .int .i64 y2]) 1 := (hX.rd 1 _ 18 rfl rfl l1).trans (hK.told 1 (by omega) l1)
          simp only [V2] at r1
          refine wpOp_value rfl rfl (v := .int .i64 (x : Int)) (w' := w1) ?_ ⟨_, rfl, hK.put (by omega) rfl⟩
          simp [go_sem, Act.eval, r1, q1]
        | 3, hi =>
          cases hi
          have l0 := hd ⟨0, .data⟩ (by simp) rfl
          have l2 := hd ⟨2, .data⟩ (by simp) rfl
          have r0 : _ = V2 b off be x y (.slice (some ⟨b, off, none⟩) N cap) (.agg #[.int .i64 x1, .int .i64 x2]) (.agg #[.int .i64 y1, .int .i64 y2]) 0 := (hX.rd 0 _ 17 rfl rfl l0).trans (hK.told 0 (by omega) l0)
          have r2 : _ = V2 b off be x y (.slice (some ⟨b, off, none⟩) N cap) (.agg #[.int .i64 x1, .int .i64 x2]) (.agg #[.int .i64 y1, .int .i64 y2]) 2 := (hX.rd 2 _ 19 rfl rfl l2).trans (hK.told 2 (by omega) l2)
          simp only [V2] at r0 r2
          refine wpOp_value rfl rfl (v := .pointer (some ⟨b, off + x * 2, none⟩)) (w' := w1) ?_ ⟨_, rfl, hK.put (by omega) rfl⟩
          simp [go_sem, Act.eval, r0, r2, i1, i2, Addr.add]
        | 4, hi =>
          cases hi
          have l3 := hd ⟨3, .data⟩ (by simp) rfl
          have r3 : _ = V2 b off be x y (.slice (some ⟨b, off, none⟩) N cap) (.agg #[.int .i64 x1, .int .i64 x2]) (.agg #[.int .i64 y1, .int .i64 y2]) 3 := (hX.rd 3 _ 20 rfl rfl l3).trans (hK.told 3 (by omega) l3)
          simp only [V2] at r3
          refine wpOp_value rfl rfl (v := .agg #[.int .i64 x1, .int .i64 x2]) (w' := w1) ?_ ⟨_, rfl, hK.put (by omega) rfl⟩
          simp [go_sem, Act.eval, r3, q3, q4]
        | 5, hi =>
          cases hi
          have s1 := hX.out (s := 3) rfl
          refine wpOp_value rfl rfl (v := .slice (some ⟨b, off, none⟩) N cap) (w' := w1) ?_ ⟨_, rfl, hK.put (by omega) rfl⟩
          simp [go_sem, Act.eval, s1, q0]
        | 6, hi =>
          cases hi
          have s1 := hX.out (s := 6) rfl
          refine wpOp_value rfl rfl (v := .pointer (some ⟨be, 1, none⟩)) (w' := w1) ?_ ⟨_, rfl, hK.put (by omega) rfl⟩
          simp [go_sem, Act.eval, s1, Addr.add]
        | 7, hi =>
          cases hi
          have l6 := hd ⟨6, .data⟩ (by simp) rfl
          have r6 : _ = V2 b off be x y (.slice (some ⟨b, off, none⟩) N cap) (.agg #[.int .i64 x1, .int .i64 x2]) (.agg #[.int .i64 y1, .int .i64 y2]) 6 := (hX.rd 6 _ 23 rfl rfl l6).trans (hK.told 6 (by omega) l6)
          simp only [V2] at r6
          refine wpOp_value rfl rfl (v := .int .i64 (y : Int)) (w' := w1) ?_ ⟨_, rfl, hK.put (by omega) rfl⟩
          simp [go_sem, Act.eval, r6, q2]
        | 8, hi =>
          cases hi
          have l5 := hd ⟨5, .data⟩ (by simp) rfl
          have l7 := hd ⟨7, .data⟩ (by simp) rfl
          have r5 : _ = V2 b off be x y (.slice (some ⟨b, off, none⟩) N cap) (.agg #[.int .i64 x1, .int .i64 x2]) (.agg #[.int .i64 y1, .int .i64 y2]) 5 := (hX.rd 5 _ 22 rfl rfl l5).trans (hK.told 5 (by omega) l5)
          have r7 : _ = V2 b off be x y (.slice (some ⟨b, off, none⟩) N cap) (.agg #[.int .i64 x1, .int .i64 x2]) (.agg #[.int .i64 y1, .int .i64 y2]) 7 := (hX.rd 7 _ 24 rfl rfl l7).trans (hK.told 7 (by omega) l7)
          simp only [V2] at r5 r7
          refine wpOp_value rfl rfl (v := .pointer (some ⟨b, off + y * 2, none⟩)) (w' := w1) ?_ ⟨_, rfl, hK.put (by omega) rfl⟩
          simp [go_sem, Act.eval, r5, r7, i3, i4, Addr.add]
        | 9, hi =>
          cases hi
          have l8 := hd ⟨8, .data⟩ (by simp) rfl
          have r8 : _ = V2 b off be x y (.slice (some ⟨b, off, none⟩) N cap) (.agg #[.int .i64 x1, .int .i64 x2]) (.agg #[.int .i64 y1, .int .i64 y2]) 8 := (hX.rd 8 _ 25 rfl rfl l8).trans (hK.told 8 (by omega) l8)
          simp only [V2] at r8
          refine wpOp_value rfl rfl (v := .agg #[.int .i64 y1, .int .i64 y2]) (w' := w1) ?_ ⟨_, rfl, hK.put (by omega) rfl⟩
          simp [go_sem, Act.eval, r8, q5, q6]
        | 10, hi =>
          cases hi
          refine wpOp_value rfl rfl (v := ptr w1.heap.size) (w' := w1.alloc (Obj.cells #[.int .i64 0, .int .i64 0] 32)) ?_ ⟨_, rfl, hK.alloc10 hL⟩
          simp [go_sem]
        | 11, hi =>
          cases hi
          refine wpOp_value rfl rfl (v := ptr w1.heap.size) (w' := w1.alloc (Obj.cells #[.int .i64 0, .int .i64 0] 32)) ?_ ⟨_, rfl, hK.alloc11 hL⟩
          simp [go_sem]
        | 12, hi =>
          cases hi
          have l10 := hd ⟨10, .data⟩ (by simp) rfl
          have l4 := hd ⟨4, .data⟩ (by simp) rfl
          have r4 : _ = V2 b off be x y (.slice (some ⟨b, off, none⟩) N cap) (.agg #[.int .i64 x1, .int .i64 x2]) (.agg #[.int .i64 y1, .int .i64 y2]) 4 := (hX.rd 4 _ 21 rfl rfl l4).trans (hK.told 4 (by omega) l4)
          simp only [V2] at r4
          obtain ⟨bb, e1, e2, e3⟩ := hK.a10 l10
          have r10 := (hX.rd 10 _ 7 rfl rfl l10).trans e1
          rw [if_neg (by rw [hL]; decide), if_neg (by rw [hL]; decide)] at e3
          obtain ⟨z1, z2, z3, z4, z5, z6⟩ := store_two' e3 (.int .i64 x1) (.int .i64 x2)
          refine wpOp_skip rfl rfl (w' := (w1.setCell ⟨bb, 0, none⟩ (.int .i64 x1)).setCell ⟨bb, 1, none⟩ (.int .i64 x2)) ?_ ⟨undef, rfl, hK.store12 hL l10 e1 undef⟩
          simp [go_sem, Act.eval, r10, r4, z1, z2, z3, z4]
        | 13, hi =>
          cases hi
          have l11 := hd ⟨11, .data⟩ (by simp) rfl
          have l9 := hd ⟨9, .data⟩ (by simp) rfl
          have r9 : _ = V2 b off be x y (.slice (some ⟨b, off, none⟩) N cap) (.agg #[.int .i64 x1, .int .i64 x2]) (.agg #[.int .i64 y1, .int .i64 y2]) 9 := (hX.rd 9 _ 26 rfl rfl l9).trans (hK.told 9 (by omega) l9)
          simp only [V2] at r9
          obtain ⟨bb, e1, e2, e3⟩ := hK.a11 l11
          have r11 := (hX.rd 11 _ 8 rfl rfl l11).trans e1
          rw [if_neg (by rw [hL]; decide), if_neg (by rw [hL]; decide)] at e3
          obtain ⟨z1, z2, z3, z4, z5, z6⟩ := store_two' e3 (.int .i64 y1) (.int .i64 y2)
          refine wpOp_skip rfl rfl (w' := (w1.setCell ⟨bb, 0, none⟩ (.int .i64 y1)).setCell ⟨bb, 1, none⟩ (.int .i64 y2)) ?_ ⟨undef, rfl, hK.store13 hL l11 e1 undef⟩
          simp [go_sem, Act.eval, r11, r9, z1, z2, z3, z4]
        | m + 14, hi => cases hi
      · intro L0 xv w3 hK hall
        obtain ⟨b6, e6, g6, t6⟩ := hK.a10 (hall 10 (by simp))
        obtain ⟨b7, e7, g7, t7⟩ := hK.a11 (hall 11 (by simp))
        rw [if_pos (hall 12 (by simp)), if_pos (hall 12 (by simp))] at t6
        rw [if_pos (hall 13 (by simp)), if_pos (hall 13 (by simp))] at t7
        simp only [puts, Act.put, e6, e7, List.setIfInBounds_toArray, List.set_cons_succ, List.set_cons_zero]
        have HW3 : Hid (Below W1.heap.size W1 w3 ∧ Two w3 b6 (.int .i64 x1) (.int .i64 x2) 32 ∧ Two w3 b7 (.int .i64 y1) (.int .i64 y2) 32) := ⟨hK.bel, t6, t7⟩
        clear hK hall t6 t7 e6 e7 g6 g7
        generalize xv 0 = z0
        generalize xv 1 = z1
        generalize xv 2 = z2
        generalize xv 3 = z3
        generalize xv 4 = z4
        generalize xv 5 = z5
        generalize xv 6 = z6
        generalize xv 7 = z7
        generalize xv 8 = z8
        generalize xv 9 = z9
        generalize xv 12 = z12
        generalize xv 13 = z13
        clear HC
        obtain ⟨r1, hr1⟩ : ∃ r, r = acrB G P i := ⟨_, rfl⟩
        have C26 : Hid (∀ A, Below w3.heap.size w3 A → Calls Tryz.prog 26 #[.slice (some ⟨b9, off9, none⟩) i ec, .func (.func 27) #[] #[ptr bs, ptr b6, ptr b7]] A fun e w' => e = .returned (.bool r1) ∧ Below A.heap.size A w') := fun A hA => by
          rw [hr1]
          have hq := (HT.out A (below_next HW3.out.1 hA)).2.1
          refine containsE27_call ((HH.out.1.below hq).less (by omega : i ≤ m)) (by omega) (fun A' k hA' hk => ?_)
          have hA2 := below_next HW3.out.1 (below_next hA hA')
          have q6 := two_next HW3.out.2.1 (below_next hA hA')
          have q7 := two_next HW3.out.2.2 (below_next hA hA')
          rw [HQ.out.1, HQ.out.2.1] at q6
          rw [HQ.out.2.2.1, HQ.out.2.2.2] at q7
          rw [HV.out.1] at q6
          rw [HV.out.2] at q7
          exact cross1_call (HT.out A' hA2).1 q6 q7 (HH.out.2.1.below (HT.out A' hA2).2.1) HH.out.2.2.1 (HH.out.2.2.1 _ (HH.out.2.2.2 i hlt).1) (HH.out.2.2.1 _ (HH.out.2.2.2 i hlt).2) (HH.out.2.2.2 k (by omega))
        have HR1 : Hid (r1 = acrB G P i) := hr1
        have C26' : Hid _ := C26.out _ (Below.refl _ w3)
        have j3 : (i : Int) ≤ (ec : Int) := by omega
        clear hr1 C26
        cases r1 with
        | true =>
          go_wp2_with (first | (go_at_call 26; refine Calls.mono C26'.out ?_; rintro e w9 ⟨rfl, h9⟩) | fail)
          go_ret
          refine ⟨?_, (HT.out _ (below_next HW3.out.1 h9)).2.1⟩
          have : R = true := by rw [HR.out]; exact anyB_iff.2 ⟨i, hlt, HR1.out.symm⟩
          rw [this]; rfl
        | false =>
          go_wp2_with (first | (go_at_call 26; refine Calls.mono C26'.out ?_; rintro e w9 ⟨rfl, h9⟩) | fail)
          go_roundw
          case rel => exact ⟨i + 1, by omega, by go_num, fun j hj => by
            by_cases e : j = i
            · subst e; exact HR1.out.symm
            · exact hJ.out.1 j (by omega), (HT.out _ (below_next HW3.out.1 h9)).2.2⟩
          case measure => simp [numOf]; omega
    · obtain rfl : i = m := by omega
      go_wp2
      go_ret
      refine ⟨?_, below_next HW.out.2 hJ.out.2⟩
      have : R = false := by
        rw [HR.out, Bool.eq_false_iff]
        intro h
        obtain ⟨j, hj, hq⟩ := anyB_iff.1 h
        rw [hJ.out.1 j hj] at hq
        cases hq
      rw [this]
      rfl
end Go.Proofs.YtnboonhlffkimaaGreatDoor
