/- Where ways lead from a node through gone ones: what width.behind reckons. Where ways lead from a node through gone ones: width.behind. -/
import Derived.Test.YtdalconphfgepaaDoorRegX
import Derived.Test.YtdalconphfgepaaDoorHangW
import Derived.Test.YtdalconphfgepaaDoorWithW
import Derived.Test.YtdalconphfgepaaDoorNearM
namespace Go.Proofs.YtdalconphfgepaaDoor
set_option maxRecDepth 8000
open Go.RowKit Go.Maps
def orL (near : List Nat) (l : List Nat) (r : Nat) : Nat := l.foldl (fun r u => r ||| at' near u) r
def behF (near : List Nat) (gone v : Nat) : Nat → Nat → Nat → Nat
  | 0, r, _ => sDrop (sLess r gone) v
  | k + 1, r, t => if sLess (r &&& gone) t = 0 then sDrop (sLess r gone) v else behF near gone v k (orL near (elems (sLess (r &&& gone) t)) r) (t ||| sLess (r &&& gone) t)
def behS (near : List Nat) (gone v : Nat) : Nat := behF near gone v 129 (at' near v) (sAdd 0 v)
theorem count_le (s : Nat) : countS s ≤ 128 := by
  unfold countS elems
  refine Nat.le_trans (List.length_filter_le _ _) (by simp)
theorem or_lt {s t : Nat} (hs : s < 2 ^ 128) (ht : t < 2 ^ 128) : s ||| t < 2 ^ 128 := Nat.or_lt_two_pow hs ht
theorem and_lt {s t : Nat} (hs : s < 2 ^ 128) : s &&& t < 2 ^ 128 := Nat.lt_of_le_of_lt Nat.and_le_left hs
theorem orL_lt {near : List Nat} (hn : ∀ s ∈ near, s < 2 ^ 128) : ∀ (l : List Nat) (r : Nat), r < 2 ^ 128 → orL near l r < 2 ^ 128
  | [], _, h => h
  | u :: l, _, h => orL_lt hn l _ (or_lt h (at_lt hn u))
theorem orL_snoc (near l : List Nat) (u r : Nat) : orL near (l ++ [u]) r = orL near l r ||| at' near u := by
  unfold orL
  rw [List.foldl_append]
  rfl
theorem orL_bits {near : List Nat} {N : Nat} (hn : ∀ u v, (at' near u).testBit v = true → v < N) : ∀ (l : List Nat) (r : Nat), (∀ v, r.testBit v = true → v < N) → ∀ v, (orL near l r).testBit v = true → v < N
  | [], r, h, v, hv => h v hv
  | u :: l, r, h, v, hv => orL_bits hn l _ (fun x hx => by
    rw [Nat.testBit_or] at hx
    rcases Bool.or_eq_true_iff.1 hx with h1 | h1
    · exact h x h1
    · exact hn u x h1) v hv
/-- A set and a part of nodes that are not in it: it grows. -/
theorem count_or {s t : Nat} (ht0 : t ≠ 0) (ht : t < 2 ^ 128) (hd : ∀ v, t.testBit v = true → s.testBit v = false) : countS s + 1 ≤ countS (s ||| t) := by
  unfold countS elems
  obtain ⟨v, hv⟩ : ∃ v, t.testBit v = true := by
    apply Classical.byContradiction
    intro hn
    refine ht0 (Nat.eq_of_testBit_eq fun i => ?_)
    rw [Nat.zero_testBit]
    cases h : t.testBit i with
    | false => rfl
    | true => exact absurd ⟨i, h⟩ hn
  have key : ∀ n, v < n → ((List.range n).filter s.testBit).length + 1 ≤ ((List.range n).filter (s ||| t).testBit).length ∧ True := fun n => by
    induction n with
    | zero => intro h; omega
    | succ n ih =>
      intro hvn
      rw [List.range_succ, List.filter_append, List.filter_append, List.length_append, List.length_append]
      have hle : ∀ m, ((List.range m).filter s.testBit).length ≤ ((List.range m).filter (s ||| t).testBit).length := fun m => by
        induction m with
        | zero => simp
        | succ m ihm =>
          rw [List.range_succ, List.filter_append, List.filter_append, List.length_append, List.length_append]
          have : ([m].filter s.testBit).length ≤ ([m].filter (s ||| t).testBit).length := by
            by_cases h : s.testBit m = true
            · simp [h, Nat.testBit_or]
            · simp [h]
          omega
      by_cases e : v = n
      · subst e
        have h1 := hd v hv
        have h2 := hle v
        simp [h1, hv, Nat.testBit_or]
        exact h2
      · have h1 := (ih (by omega)).1
        have h2 : ([n].filter s.testBit).length ≤ ([n].filter (s ||| t).testBit).length := by
          by_cases h : s.testBit n = true
          · simp [h, Nat.testBit_or]
          · simp [h]
        exact ⟨by omega, trivial⟩
  exact (key 128 (bit_lt ht hv)).1
/-- How far it has come. -/
structure Bh (near : List Nat) (gone v RES r t k : Nat) : Prop where
  rl : r < 2 ^ 128
  tl : t < 2 ^ 128
  fuel : 130 ≤ k + countS t
  res : behF near gone v k r t = RES
theorem Bh.next {near : List Nat} {gone v RES r t k : Nat} (h : Bh near gone v RES r t k) (hn : ∀ s ∈ near, s < 2 ^ 128) (h0 : sLess (r &&& gone) t ≠ 0) : ∃ k', Bh near gone v RES (orL near (elems (sLess (r &&& gone) t)) r) (t ||| sLess (r &&& gone) t) k' := by
  have hnl : sLess (r &&& gone) t < 2 ^ 128 := less_lt (and_lt h.rl)
  have hc := count_or (s := t) h0 hnl fun x hx => by
    rw [bit_less] at hx
    simpa using (Bool.and_eq_true_iff.1 hx).2
  have hcl := count_le t
  have hf := h.fuel
  obtain ⟨k', rfl⟩ : ∃ k', k = k' + 1 := ⟨k - 1, by omega⟩
  refine ⟨k', orL_lt hn _ _ h.rl, or_lt h.tl hnl, by omega, ?_⟩
  have := h.res
  rw [behF, if_neg h0] at this
  exact this
theorem Bh.done {near : List Nat} {gone v RES r t k : Nat} (h : Bh near gone v RES r t k) (h0 : sLess (r &&& gone) t = 0) : RES = sDrop (sLess r gone) v := by
  have := h.res
  cases k with
  | zero => rw [behF] at this; exact this.symm
  | succ k => rw [behF, if_pos h0] at this; exact this.symm
theorem Bh.start {near : List Nat} {gone v : Nat} (hn : ∀ s ∈ near, s < 2 ^ 128) (hv : v < 128) : Bh near gone v (behS near gone v) (at' near v) (sAdd 0 v) 129 := by
  refine ⟨at_lt hn v, add_lt (by decide) hv, ?_, rfl⟩
  have h := count_or (s := 0) (t := sAdd 0 v) (fun e => by
    have h1 := bit_add 0 v v
    rw [e] at h1
    simp at h1) (add_lt (by decide) hv) (fun x _ => by simp)
  have : (0 ||| sAdd 0 v) = sAdd 0 v := by simp
  rw [this] at h
  omega
def numAt (w : World) (b i : Nat) : Nat := match w.cell? ⟨b, i, none⟩ with | some (.int _ q) => q.toNat | _ => 0
/-- How many nodes the set in a box has. -/
def boxCount (w : World) (b : Nat) : Nat := cntB (numAt w b 0) 64 + cntB (numAt w b 1) 64
theorem sbox_count {w : World} {b s : Nat} (h : SBox w b s) : boxCount w b = countS s := by
  obtain ⟨h0, h1⟩ := cell_two h
  unfold boxCount numAt
  rw [h0, h1, count_two]
  simp
/-- What lies in memory. -/
structure BhI (w wz : World) (b4 b6 b7 b8 gone r t : Nat) : Prop where
  l4 : SBox wz b4 gone
  z6 : SBox wz b6 0
  r7 : SBox wz b7 r
  t8 : SBox wz b8 t
  below : Below w.heap.size w wz
def Apart4 (n b4 b6 b7 b8 : Nat) : Prop := n ≤ b4 ∧ b4 < b6 ∧ b6 < b7 ∧ b7 < b8
theorem BhI.under {w wz wz' : World} {b4 b6 b7 b8 gone r t : Nat} (h : BhI w wz b4 b6 b7 b8 gone r t) (hb : Below wz.heap.size wz wz') : BhI w wz' b4 b6 b7 b8 gone r t :=
  ⟨two_next h.l4 hb, two_next h.z6 hb, two_next h.r7 hb, two_next h.t8 hb, below_next h.below hb⟩
theorem BhI.set7 {w wz : World} {b4 b6 b7 b8 gone r t : Nat} (h : BhI w wz b4 b6 b7 b8 gone r t) (ha : Apart4 w.heap.size b4 b6 b7 b8) (r' : Nat) : BhI w ((wz.setCell ⟨b7, 0, none⟩ (.int .u64 (lo64 r' : Int))).setCell ⟨b7, 1, none⟩ (.int .u64 (hi64 r' : Int))) b4 b6 b7 b8 gone r' t := by
  obtain ⟨a1, a2, a3, a4⟩ := ha
  exact ⟨two_far (two_far h.l4 (by omega)) (by omega), two_far (two_far h.z6 (by omega)) (by omega), two_setN h.r7, two_far (two_far h.t8 (by omega)) (by omega), (h.below.setCell (p := ⟨b7, 0, none⟩) (by simp only; omega) _).setCell (p := ⟨b7, 1, none⟩) (by simp only; omega) _⟩
theorem BhI.set8 {w wz : World} {b4 b6 b7 b8 gone r t : Nat} (h : BhI w wz b4 b6 b7 b8 gone r t) (ha : Apart4 w.heap.size b4 b6 b7 b8) (t' : Nat) : BhI w ((wz.setCell ⟨b8, 0, none⟩ (.int .u64 (lo64 t' : Int))).setCell ⟨b8, 1, none⟩ (.int .u64 (hi64 t' : Int))) b4 b6 b7 b8 gone r t' := by
  obtain ⟨a1, a2, a3, a4⟩ := ha
  exact ⟨two_far (two_far h.l4 (by omega)) (by omega), two_far (two_far h.z6 (by omega)) (by omega), two_far (two_far h.r7 (by omega)) (by omega), two_setN h.t8, (h.below.setCell (p := ⟨b8, 0, none⟩) (by simp only; omega) _).setCell (p := ⟨b8, 1, none⟩) (by simp only; omega) _⟩
/-- V i is what operation i leaves, for i below m; operation m makes a set; operation m + 1 stores s there. -/
structure SA (W : World) (m : Nat) (V : Nat → Value) (s : Nat) (L : Nat → Bool) (f : Nat → Value) (w : World) : Prop where
  told : ∀ i, i < m → L i = true → f i = V i
  w0 : L (m + 1) = false → Below W.heap.size W w
  am : L m = true → L (m + 1) = false → ∃ b, f m = .pointer (some ⟨b, 0, none⟩) ∧ W.heap.size ≤ b ∧ Two w b (.int .u64 0) (.int .u64 0) 76
  wm : L (m + 1) = true → ∃ w1 b, f m = .pointer (some ⟨b, 0, none⟩) ∧ Below W.heap.size W w1 ∧ W.heap.size ≤ b ∧ Two w1 b (.int .u64 0) (.int .u64 0) 76 ∧ w = (w1.setCell ⟨b, 0, none⟩ (.int .u64 (lo64 s : Int))).setCell ⟨b, 1, none⟩ (.int .u64 (hi64 s : Int))
  cl : L (m + 1) = true → ∀ j, j < m + 1 → L j = true
section
variable {W : World} {m : Nat} {V : Nat → Value} {s : Nat} {L : Nat → Bool} {f : Nat → Value} {w w' : World}
theorem SA.open_ (h : SA W m V s L f w) {i : Nat} (hL : L i = false) (hi : i < m + 1) : L (m + 1) = false := by
  cases e : L (m + 1) with
  | false => rfl
  | true => have := h.cl e i hi; rw [hL] at this; cases this
theorem SA.early (h : SA W m V s L f w) {i : Nat} (hL : L i = false) (hi : i < m + 1) : Below W.heap.size W w := h.w0 (h.open_ hL hi)
theorem SA.put (h : SA W m V s L f w) {i : Nat} (hL : L i = false) (hi : i < m) (hb : Below w.heap.size w w') : SA W m V s (also L i) (updV f i (V i)) w' := by
  have h7 := h.open_ hL (by omega)
  have a7 : also L i (m + 1) = false := by rw [also_at (by omega)]; exact h7
  refine ⟨fun j hj hk => ?_, fun _ => below_next (h.w0 h7) hb, fun hk _ => ?_, fun hk => (by rw [a7] at hk; cases hk), fun hk => (by rw [a7] at hk; cases hk)⟩
  · by_cases e : j = i
    · subst e; exact updV_same _ _ _
    · rw [updV_ne _ _ e]; exact h.told j hj (by rwa [also_at e] at hk)
  · rw [also_at (by omega)] at hk
    obtain ⟨b, h1, h2, h3⟩ := h.am hk h7
    exact ⟨b, by rw [updV_ne _ _ (by omega)]; exact h1, h2, (hb.block _ (lt_of_block h3)).trans h3⟩
theorem SA.alloc (h : SA W m V s L f w) (hL : L m = false) : SA W m V s (also L m) (updV f m (.pointer (some ⟨w.heap.size, 0, none⟩))) (w.alloc (Obj.cells #[.int .u64 0, .int .u64 0] 76)) := by
  have h7 := h.open_ hL (by omega)
  have a7 : also L m (m + 1) = false := by rw [also_at (by omega)]; exact h7
  refine ⟨fun j hj hk => ?_, fun _ => below_alloc (h.w0 h7) _, fun _ _ => ⟨w.heap.size, updV_same _ _ _, (h.w0 h7).size, two_new _ _ _ 76⟩, fun hk => (by rw [a7] at hk; cases hk), fun hk => (by rw [a7] at hk; cases hk)⟩
  rw [updV_ne _ _ (by omega)]
  exact h.told j hj (by rwa [also_at (by omega)] at hk)
theorem SA.store (h : SA W m V s L f w) (hL : L (m + 1) = false) (hall : ∀ j, j < m + 1 → L j = true) {b : Nat} (hb : f m = .pointer (some ⟨b, 0, none⟩)) (h2 : W.heap.size ≤ b) (h3 : Two w b (.int .u64 0) (.int .u64 0) 76) (x : Value) :
    SA W m V s (also L (m + 1)) (updV f (m + 1) x) ((w.setCell ⟨b, 0, none⟩ (.int .u64 (lo64 s : Int))).setCell ⟨b, 1, none⟩ (.int .u64 (hi64 s : Int))) := by
  have a7 : also L (m + 1) (m + 1) = true := also_self _ _
  refine ⟨fun j hj hk => ?_, fun hk => (by rw [a7] at hk; cases hk), fun _ hk => (by rw [a7] at hk; cases hk), fun _ => ⟨w, b, ?_, h.w0 hL, h2, h3, rfl⟩, fun _ j hj => also_of (hall j hj) _⟩
  · rw [updV_ne _ _ (by omega)]; exact h.told j hj (hall j (by omega))
  · rw [updV_ne _ _ (by omega)]; exact hb
theorem SA.start : SA W m V s (fun _ => false) f W.drew :=
  ⟨fun _ _ h => (by cases h), fun _ => (Below.refl _ W).drew, fun h => (by cases h), fun h => (by cases h), fun h => (by cases h)⟩
theorem SA.done (h : SA W m V s L f w) (hall : L (m + 1) = true) : ∃ b, f m = .pointer (some ⟨b, 0, none⟩) ∧ W.heap.size ≤ b ∧ SBox w b s ∧ Below W.heap.size W w := by
  obtain ⟨w1, b, h1, h2, h3, h4, rfl⟩ := h.wm hall
  exact ⟨b, h1, h3, two_setN h4, (h2.setCell h3 _).setCell h3 _⟩
end
theorem store_two' {w : World} {b : Nat} {x y : Value} {t : TypeId} (h : Two w b x y t) (x' y' : Value) : w.cell? ⟨b, 0, none⟩ = some x ∧ w.frozen? ⟨b, 0, none⟩ = false ∧ (w.setCell ⟨b, 0, none⟩ x').cell? ⟨b, 1, none⟩ = some y ∧ (w.setCell ⟨b, 0, none⟩ x').frozen? ⟨b, 1, none⟩ = false ∧ ((w.setCell ⟨b, 0, none⟩ x').setCell ⟨b, 1, none⟩ y').cell? ⟨b, 0, none⟩ = some x' ∧ ((w.setCell ⟨b, 0, none⟩ x').setCell ⟨b, 1, none⟩ y').cell? ⟨b, 1, none⟩ = some y' :=
  ⟨(cell_two h).1, box_free h 0, box_cell (box_set h 0 x') (i := 1) rfl, box_free (box_set h 0 x') 1, (cell_two (two_setN h)).1, (cell_two (two_setN h)).2⟩
end Go.Proofs.YtdalconphfgepaaDoor

namespace Go.Proofs.YtdalconphfgepaaDoor
set_option maxRecDepth 8000
open Go.RowKit Go.Maps
attribute [local go_sem ↓] Go.wp_at_zero Go.wp_at_succ
def V49 (r gone t : Nat) : Nat → Value
  | 0 => sv r
  | 1 => sv gone
  | 2 => sv (r &&& gone)
  | 3 => sv t
  | _ => sv (sLess (r &&& gone) t)
set_option maxHeartbeats 8000000 in
theorem behind_call {w : World} {bn N gone v : Nat} {near : List Nat} (hS : SetsAt w bn near) (hl : near.length = N) (hN : N ≤ 100) (hbit : ∀ u x, (at' near u).testBit x = true → x < N) (hg : gone < 2 ^ 128) (hv : v < N) (ht : T64 w) :
    Calls Tryd.prog 49 #[sl bn N, sv gone, .int .i64 (v : Int)] w fun e w' => e = .returned (sv (behS near gone v)) ∧ Below w.heap.size w w' := by
  have HH : Hid (SetsAt w bn near ∧ near.length = N ∧ (∀ u x, (at' near u).testBit x = true → x < N) ∧ T64 w ∧ gone < 2 ^ 128) := ⟨hS, hl, hbit, ht, hg⟩
  have HST : Hid _ := Bh.start (near := near) (gone := gone) (v := v) hS.lt (by omega)
  obtain ⟨RES, hRES⟩ : ∃ R, R = behS near gone v := ⟨_, rfl⟩
  rw [← hRES] at HST ⊢
  obtain ⟨c0, c1⟩ := hS.cell (at_some (show v < near.length by omega))
  have hvl := at_lt hS.lt v
  have C53 : Hid (∀ A, Calls Tryd.prog 53 #[sv 0, .int .i64 (v : Int)] A fun e w' => e = .returned (sv (sAdd 0 v)) ∧ Below A.heap.size A w') := fun A => with_call (by decide) (by omega)
  have hbv : v < 128 := by omega
  clear hS hl hbit ht hRES
  have z0 : ((lo64 0 : Nat) : Int) = 0 := by decide
  have z1 : ((hi64 0 : Nat) : Int) = 0 := by decide
  show Calls Tryd.prog 49 #[sl bn N, .agg #[.int .u64 (lo64 gone : Int), .int .u64 (hi64 gone : Int)], .int .i64 (v : Int)] w _
  have C53' : Hid (∀ A, Calls Tryd.prog 53 #[.agg #[.int .u64 0, .int .u64 0], .int .i64 (v : Int)] A fun e w' => e = .returned (sv (sAdd 0 v)) ∧ Below A.heap.size A w') := fun A => by
    have := C53.out A
    unfold sv at this
    rw [z0, z1] at this
    exact this
  have i1 : (0 : Int) ≤ (v : Int) := by omega
  have i2 : (v : Int) < (N : Int) := by omega
  have HC : Hid (∀ A, Below w.heap.size w A → A.cell? ⟨bn, v * 2, none⟩ = some (.int .u64 (lo64 (at' near v) : Int)) ∧ A.cell? ⟨bn, v * 2 + 1, none⟩ = some (.int .u64 (hi64 (at' near v) : Int))) := fun A hA => ⟨by rw [hA.cell (World.block_lt_of_cell? w _ c0)]; exact c0, by rw [hA.cell (World.block_lt_of_cell? w _ c1)]; exact c1⟩
  have HA0 : Hid (∀ x, (at' near v).testBit x = true → x < N) := HH.out.2.2.1 v
  generalize at' near v = a0 at *
  generalize sAdd 0 v = t0 at *
  clear C53 c0 c1 z0 z1
  go_enter Tryd.func49, Tryd.ntmps49
  go_upto_region 1 with (fail)
  have x4 := two_alloc (two_new w (.int .u64 (lo64 gone : Int)) (.int .u64 (hi64 gone : Int)) 76) (Obj.cells #[.int .u64 0, .int .u64 0] 76)
  have x6 := two_nxt w (Obj.cells #[.int .u64 (lo64 gone : Int), .int .u64 (hi64 gone : Int)] 76) (.int .u64 0) (.int .u64 0) 76
  have hB0 := below_alloc (below_alloc (Below.refl _ w) (Obj.cells #[.int .u64 (lo64 gone : Int), .int .u64 (hi64 gone : Int)] 76)) (Obj.cells #[.int .u64 0, .int .u64 0] 76)
  have hsz : ((w.alloc (Obj.cells #[.int .u64 (lo64 gone : Int), .int .u64 (hi64 gone : Int)] 76)).alloc (Obj.cells #[.int .u64 0, .int .u64 0] 76)).heap.size = w.heap.size + 1 + 1 := by simp
  obtain ⟨b6, hb6⟩ : ∃ b, b = w.heap.size + 1 := ⟨_, rfl⟩
  obtain ⟨b4, hb4⟩ : ∃ b, b = w.heap.size := ⟨_, rfl⟩
  rw [← hb6] at x6 ⊢
  rw [← hb4] at x4 ⊢
  generalize (w.alloc (Obj.cells #[.int .u64 (lo64 gone : Int), .int .u64 (hi64 gone : Int)] 76)).alloc (Obj.cells #[.int .u64 0, .int .u64 0] 76) = W0 at *
  obtain ⟨d0, d1⟩ := HC.out W0 hB0
  have HW0 : Hid (Two W0 b4 (.int .u64 (lo64 gone : Int)) (.int .u64 (hi64 gone : Int)) 76 ∧ Two W0 b6 (.int .u64 0) (.int .u64 0) 76 ∧ Below w.heap.size w W0 ∧ w.heap.size ≤ b4 ∧ b4 < b6 ∧ b6 < W0.heap.size) := ⟨x4, x6, hB0, by omega, by omega, by omega⟩
  clear x4 x6 hB0 hsz hb4 hb6
  go_upto_region 2 with (fail)
  have x7 := two_new W0 (.int .u64 (lo64 a0 : Int)) (.int .u64 (hi64 a0 : Int)) 76
  have hB1 := below_alloc (Below.refl _ W0) (Obj.cells #[.int .u64 (lo64 a0 : Int), .int .u64 (hi64 a0 : Int)] 76)
  obtain ⟨b7, hb7⟩ : ∃ b, b = W0.heap.size := ⟨_, rfl⟩
  have hlt7 : W0.heap.size < (W0.alloc (Obj.cells #[.int .u64 (lo64 a0 : Int), .int .u64 (hi64 a0 : Int)] 76)).heap.size := by simp
  rw [← hb7] at x7 hlt7 ⊢
  generalize W0.alloc (Obj.cells #[.int .u64 (lo64 a0 : Int), .int .u64 (hi64 a0 : Int)] 76) = W1 at *
  have HW1 : Hid (Two W1 b7 (.int .u64 (lo64 a0 : Int)) (.int .u64 (hi64 a0 : Int)) 76 ∧ Below W0.heap.size W0 W1 ∧ b7 = W0.heap.size ∧ b7 < W1.heap.size) := ⟨x7, hB1, hb7, hlt7⟩
  clear x7 hB1 hb7 d0 d1 hlt7
  go_upto_region 3 with (first | (go_at_call 53; refine Calls.mono (C53'.out _) ?_; rintro e w2 ⟨rfl, h2⟩) | fail)
  have x8 := two_new w2 (.int .u64 (lo64 t0 : Int)) (.int .u64 (hi64 t0 : Int)) 76
  have hB2 := below_alloc h2 (Obj.cells #[.int .u64 (lo64 t0 : Int), .int .u64 (hi64 t0 : Int)] 76)
  obtain ⟨b8, hb8⟩ : ∃ b, b = w2.heap.size := ⟨_, rfl⟩
  have hle8 : W1.heap.size ≤ b8 := by rw [hb8]; exact h2.size
  rw [← hb8] at x8 ⊢
  generalize w2.alloc (Obj.cells #[.int .u64 (lo64 t0 : Int), .int .u64 (hi64 t0 : Int)] 76) = W2 at *
  have HAP : Hid (Apart4 w.heap.size b4 b6 b7 b8) := ⟨HW0.out.2.2.2.1, HW0.out.2.2.2.2.1, by have := HW1.out.2.2.1; have := HW0.out.2.2.2.2.2; omega, by have := HW1.out.2.2.2; omega⟩
  have HI2 : Hid (BhI w W2 b4 b6 b7 b8 gone a0 t0) := by
    have e := below_next HW1.out.2.1 hB2
    exact ⟨two_next HW0.out.1 e, two_next HW0.out.2.1 e, two_next HW1.out.1 hB2, x8, below_next HW0.out.2.2.1 e⟩
  clear x8 hB2 hb8 hle8 h2 C53' HW0 HW1 HC
  go_loopw [9, 11, 34] (fun _ _ _ wz => ∃ r t k, Hid (BhI w wz b4 b6 b7 b8 gone r t ∧ Bh near gone v RES r t k ∧ ∀ x, r.testBit x = true → x < N)) (fun _ _ _ wz => 128 - boxCount wz b8)
  case atStart => exact ⟨a0, t0, 129, ⟨HI2.out, HST.out, HA0.out⟩⟩
  case round =>
    obtain ⟨r, t, k, hJ⟩ := hrel
    clear HI2 HST HA0
    have hrl := hJ.out.2.1.rl
    have htl := hJ.out.2.1.tl
    obtain ⟨nx, hnx⟩ : ∃ nx, nx = sLess (r &&& gone) t := ⟨_, rfl⟩
    have hnl : nx < 2 ^ 128 := by rw [hnx]; exact less_lt (and_lt hrl)
    have C66 : Hid (∀ A, Calls Tryd.prog 66 #[sv r, sv gone] A fun e w' => e = .returned (sv (r &&& gone)) ∧ Below A.heap.size A w') := fun A => both_call hrl HH.out.2.2.2.2
    have C67 : Hid (∀ A, Calls Tryd.prog 67 #[sv (r &&& gone), sv t] A fun e w' => e = .returned (sv nx) ∧ Below A.heap.size A w') := fun A => by rw [hnx]; exact less_call (and_lt hrl) htl
    have HCELL : Hid (∀ A, Below wr.heap.size wr A → A.cell? ⟨b7, 0, none⟩ = some (.int .u64 (lo64 r : Int)) ∧ A.cell? ⟨b7, 1, none⟩ = some (.int .u64 (hi64 r : Int)) ∧ A.cell? ⟨b4, 0, none⟩ = some (.int .u64 (lo64 gone : Int)) ∧ A.cell? ⟨b4, 1, none⟩ = some (.int .u64 (hi64 gone : Int)) ∧ A.cell? ⟨b8, 0, none⟩ = some (.int .u64 (lo64 t : Int)) ∧ A.cell? ⟨b8, 1, none⟩ = some (.int .u64 (hi64 t : Int))) := fun A hA => by
      have h := hJ.out.1.under hA
      exact ⟨(cell_two h.r7).1, (cell_two h.r7).2, (cell_two h.l4).1, (cell_two h.l4).2, (cell_two h.t8).1, (cell_two h.t8).2⟩
    have HNX : Hid (nx = sLess (r &&& gone) t) := hnx
    have HBN : Hid (∀ x, x ∈ elems nx → x < N) := fun x hx => by
      have h1 := (mem_elems hnl).1 hx
      rw [hnx, bit_less, Nat.testBit_and] at h1
      simp only [Bool.and_eq_true] at h1
      exact hJ.out.2.2 x h1.1.1
    have HV4 : Hid (V49 r gone t 4 = sv nx) := by rw [hnx]; rfl
    clear hnx
    go_upto_region 3 with (fail)
    refine region_ext (J := SA wr 5 (V49 r gone t) nx) (by kernel_rfl) (by kernel_rfl) (by kernel_rfl) SA.start ?_ ?_
    · intro i o hi L xs a w1 hS hL hd hc hX
      match i, hi with
      | 0, hi =>
        cases hi
        obtain ⟨e1, e2, e3, e4, e5, e6⟩ := HCELL.out _ (hS.early hL (by omega))
        have s7 := hX.out (s := 7) rfl
        refine wpOp_value rfl rfl (v := V49 r gone t 0) (w' := w1) ?_ ⟨_, rfl, hS.put hL (by omega) (Below.refl _ _)⟩
        simp [go_sem, Act.eval, V49, s7, e1, e2]
      | 1, hi =>
        cases hi
        obtain ⟨e1, e2, e3, e4, e5, e6⟩ := HCELL.out _ (hS.early hL (by omega))
        have s4 := hX.out (s := 4) rfl
        refine wpOp_value rfl rfl (v := V49 r gone t 1) (w' := w1) ?_ ⟨_, rfl, hS.put hL (by omega) (Below.refl _ _)⟩
        simp [go_sem, Act.eval, V49, s4, e3, e4]
      | 2, hi =>
        cases hi
        have l0 := hd ⟨0, .data⟩ (by simp) rfl
        have l1 := hd ⟨1, .data⟩ (by simp) rfl
        have r0 := (hX.rd 0 _ 19 rfl rfl l0).trans (hS.told 0 (by omega) l0)
        have r1 := (hX.rd 1 _ 20 rfl rfl l1).trans (hS.told 1 (by omega) l1)
        refine wpOp_call (f := 66) (args := #[sv r, sv gone]) rfl rfl (w' := w1) ?_ ?_
        · simp [go_sem, Act.eval, V49, r0, r1]
        · refine (C66.out w1).mono ?_
          rintro e w3 ⟨rfl, hB3⟩
          exact ⟨_, rfl, _, rfl, hS.put hL (by omega) hB3⟩
      | 3, hi =>
        cases hi
        obtain ⟨e1, e2, e3, e4, e5, e6⟩ := HCELL.out _ (hS.early hL (by omega))
        have s8 := hX.out (s := 8) rfl
        refine wpOp_value rfl rfl (v := V49 r gone t 3) (w' := w1) ?_ ⟨_, rfl, hS.put hL (by omega) (Below.refl _ _)⟩
        simp [go_sem, Act.eval, V49, s8, e5, e6]
      | 4, hi =>
        cases hi
        have l2 := hd ⟨2, .data⟩ (by simp) rfl
        have l3 := hd ⟨3, .data⟩ (by simp) rfl
        have r2 := (hX.rd 2 _ 21 rfl rfl l2).trans (hS.told 2 (by omega) l2)
        have r3 := (hX.rd 3 _ 22 rfl rfl l3).trans (hS.told 3 (by omega) l3)
        refine wpOp_call (f := 67) (args := #[sv (r &&& gone), sv t]) rfl rfl (w' := w1) ?_ ?_
        · simp [go_sem, Act.eval, V49, r2, r3]
        · refine (C67.out w1).mono ?_
          rintro e w3 ⟨rfl, hB3⟩
          rw [← HV4.out]
          exact ⟨_, rfl, _, rfl, hS.put hL (by omega) hB3⟩
      | 5, hi =>
        cases hi
        refine wpOp_value rfl rfl (v := .pointer (some ⟨w1.heap.size, 0, none⟩)) (w' := w1.alloc (Obj.cells #[.int .u64 0, .int .u64 0] 76)) ?_ ⟨_, rfl, hS.alloc hL⟩
        simp [go_sem]
      | 6, hi =>
        cases hi
        have hall : ∀ j, j < 6 → L j = true := fun j hj => by
          have : j = 0 ∨ j = 1 ∨ j = 2 ∨ j = 3 ∨ j = 4 ∨ j = 5 := by omega
          rcases this with rfl | rfl | rfl | rfl | rfl | rfl <;> exact hd ⟨_, .phase⟩ (by simp) rfl
        have r4 := ((hX.rd 4 _ 23 rfl rfl (hall 4 (by omega))).trans (hS.told 4 (by omega) (hall 4 (by omega)))).trans HV4.out
        obtain ⟨b9, d5, h2, h3⟩ := hS.am (hall 5 (by omega)) hL
        have r5 := (hX.rd 5 _ 9 rfl rfl (hall 5 (by omega))).trans d5
        obtain ⟨q1, q2, q3, q4, _, _⟩ := store_two' h3 (.int .u64 (lo64 nx : Int)) (.int .u64 (hi64 nx : Int))
        refine wpOp_skip rfl rfl (w' := (w1.setCell ⟨b9, 0, none⟩ (.int .u64 (lo64 nx : Int))).setCell ⟨b9, 1, none⟩ (.int .u64 (hi64 nx : Int))) ?_ ⟨undef, rfl, hS.store hL hall d5 h2 h3 undef⟩
        simp [go_sem, Act.eval, r4, r5, q1, q2, q3, q4]
      | n + 7, hi => cases hi
    · intro L xs w1 hS hall
      obtain ⟨b9, e5, h9, x9, hB9⟩ := hS.done (hall 6 (by simp))
      have e0 := hS.told 0 (by omega) (hall 0 (by simp))
      have e1 := hS.told 1 (by omega) (hall 1 (by simp))
      have e2 := hS.told 2 (by omega) (hall 2 (by simp))
      have e3 := hS.told 3 (by omega) (hall 3 (by simp))
      have e4 := (hS.told 4 (by omega) (hall 4 (by simp))).trans HV4.out
      simp only [V49] at e0 e1 e2 e3
      simp only [puts, Act.put, e0, e1, e2, e3, e4, e5, List.setIfInBounds_toArray, List.set_cons_succ, List.set_cons_zero]
      have HI1 : Hid (BhI w w1 b4 b6 b7 b8 gone r t ∧ SBox w1 b9 nx ∧ b8 < b9) := ⟨hJ.out.1.under hB9, x9, by have := lt_of_block hJ.out.1.t8; omega⟩
      have HBJ : Hid (Bh near gone v RES r t k ∧ (∀ x, r.testBit x = true → x < N) ∧ boxCount wr b8 = countS t) := ⟨hJ.out.2.1, hJ.out.2.2, sbox_count hJ.out.1.t8⟩
      obtain ⟨p0, p1⟩ := cell_two x9
      have C68 : Hid (∀ A, Calls Tryd.prog 68 #[sv nx] A fun e w' => e = .returned (.bool (nx == 0)) ∧ Below A.heap.size A w') := fun A => isEmpty_call hnl
      clear e0 e1 e2 e3 e4 e5 hall hS hB9 h9 x9 hJ C66 C67 HCELL HV4
      by_cases hz : nx = 0
      · have HRE : Hid (RES = sDrop (sLess r gone) v) := HBJ.out.1.done (HNX.out.symm.trans hz)
        rw [show (nx == 0) = true by simpa using hz] at C68
        have C67b : Hid (∀ A, Calls Tryd.prog 67 #[sv r, sv gone] A fun e w' => e = .returned (sv (sLess r gone)) ∧ Below A.heap.size A w') := fun A => less_call hrl HH.out.2.2.2.2
        have hll : sLess r gone < 2 ^ 128 := less_lt hrl
        have C48 : Hid (∀ A, Calls Tryd.prog 48 #[sv (sLess r gone), .int .i64 (v : Int)] A fun e w' => e = .returned (sv RES) ∧ Below A.heap.size A w') := fun A => by rw [HRE.out]; exact without_call hll hbv
        clear hz hll
        go_upto_region 5 with (first | (go_at_call 68; refine Calls.mono (C68.out _) ?_; rintro e w3 ⟨rfl, h3⟩) | fail)
        have i3 := HI1.out.1.under h3
        obtain ⟨a0, a1⟩ := cell_two i3.r7
        obtain ⟨a2, a3⟩ := cell_two i3.l4
        have HI3 : Hid _ := i3
        clear i3
        go_upto_region 6 with (first | (go_at_call 67; refine Calls.mono (C67b.out _) ?_; rintro e w4 ⟨rfl, h4⟩) | (go_at_call 48; refine Calls.mono (C48.out _) ?_; rintro e w5 ⟨rfl, h5⟩; obtain ⟨q1, q2, q3, q4, q5, q6⟩ := store_two' (two_next HI3.out.z6 (below_next h4 h5)) (.int .u64 (lo64 RES : Int)) (.int .u64 (hi64 RES : Int))) | fail)
        go_wp2
        refine bodyPost_ret (v := sv RES) ?_ rfl ⟨rfl, ((below_next HI3.out.below (below_next h4 h5)).setCell (p := ⟨b6, 0, none⟩) (by have := HAP.out.1; have := HAP.out.2.1; simp only; omega) _).setCell (p := ⟨b6, 1, none⟩) (by have := HAP.out.1; have := HAP.out.2.1; simp only; omega) _⟩
        simp [results, Tryd.results49, go_sem, q5, q6]
      · rw [show (nx == 0) = false by simpa using hz] at C68
        have C43 : Hid (∀ A, T64 A → Calls Tryd.prog 43 #[sv nx] A fun e w' => RisA A w' e (elems nx)) := fun A hA => rising_call hnl hA
        have HNZ : Hid (nx ≠ 0) := hz
        have hEl : (elems nx).length ≤ 128 := count_le nx
        have HEN : Hid (elems nx = elems (sLess (r &&& gone) t)) := by rw [HNX.out]; exact rfl
        obtain ⟨E, hE⟩ : ∃ E, E = elems nx := ⟨_, rfl⟩
        rw [← hE] at C43 HBN hEl HEN
        clear hE hz
        have HCX : Hid (∀ A, Below w1.heap.size w1 A → A.cell? ⟨b9, 0, none⟩ = some (.int .u64 (lo64 nx : Int)) ∧ A.cell? ⟨b9, 1, none⟩ = some (.int .u64 (hi64 nx : Int))) := fun A hA => cell_two (two_next HI1.out.2.1 hA)
        go_upto_region 6 with (first | (go_at_call 68; refine Calls.mono (C68.out _) ?_; rintro e w3 ⟨rfl, h3⟩) | fail)
        obtain ⟨p2, p3⟩ := HCX.out _ h3
        have T3 : T64 w3 := HH.out.2.2.2.1.under (HI1.out.1.under h3).below
        clear p0 p1
        go_upto_region 7 with (first | (go_at_call 43; refine Calls.mono (C43.out _ T3) ?_; rintro e w4 ⟨lo, c, rfl, hR, h4⟩) | fail)
        have HI4 : Hid (BhI w w4 b4 b6 b7 b8 gone r t ∧ SBox w4 b9 nx) := ⟨HI1.out.1.under (below_next h3 h4), two_next HI1.out.2.1 (below_next h3 h4)⟩
        have HRO : Hid (w4.ownsRow w3.heap.size 3 1 (.slice lo E.length c) E.length (qv E) ∧ b7 < w3.heap.size) := ⟨hR, lt_of_block (HI1.out.1.under h3).r7⟩
        clear p2 p3 T3 hR h4 h3 HCX C68 C43
        go_loopw [11, 34] (fun _ s34 wz => ∃ i : Nat, i ≤ E.length ∧ s34 = .int .i64 (i : Int) ∧ Hid (BhI w wz b4 b6 b7 b8 gone (orL near (E.take i) r) t ∧ Turns (fun x => x = b7) w4 wz)) (fun _ s34 _ => E.length - (numOf s34).toNat)
        case atStart => exact ⟨0, Nat.zero_le _, rfl, ⟨HI4.out.1, Turns.refl _ _⟩⟩
        case round =>
          obtain ⟨i, hi, rfl, hI⟩ := hrel
          by_cases hlt2 : i < E.length
          · obtain ⟨u, hu⟩ : ∃ u, E[i]? = some u := ⟨_, List.getElem?_eq_getElem hlt2⟩
            obtain ⟨gq, rfl, cq⟩ := qcell HRO.out.1 hu
            have hgq : gq ≠ b7 := fun e => by
              have := (HRO.out.1.lt gq rfl).1
              have := HRO.out.2
              omega
            have cq' : wr.cell? ⟨gq, i, none⟩ = some (.int .i64 (u : Int)) := by
              rw [World.cell?_of_block (w := w4) (hI.out.2.block gq (World.block_lt_of_cell? w4 _ cq) hgq)]; exact cq
            have huN : u < N := HBN.out u (List.mem_of_getElem? hu)
            have hso : near[u]? = some (at' near u) := at_some (by rw [HH.out.2.1]; exact huN)
            obtain ⟨n0, n1⟩ := (HH.out.1.under hI.out.1.below).cell hso
            obtain ⟨m0, m1⟩ := cell_two hI.out.1.r7
            have hal := at_lt HH.out.1.lt u
            have hrr : orL near (E.take i) r < 2 ^ 128 := orL_lt HH.out.1.lt _ _ hrl
            have HSN : Hid (orL near (E.take (i + 1)) r = orL near (E.take i) r ||| at' near u) := by
              have e1 : E.take (i + 1) = E.take i ++ [u] := by
                rw [List.take_succ_eq_append_getElem hlt2]
                rw [List.getElem?_eq_getElem hlt2] at hu
                rw [Option.some.inj hu]
              show _ = _
              rw [e1, orL_snoc]
            have C69 : Hid (∀ A, Calls Tryd.prog 69 #[sv (orL near (E.take i) r), sv (at' near u)] A fun e w' => e = .returned (sv (orL near (E.take (i + 1)) r)) ∧ Below A.heap.size A w') := fun A => by rw [HSN.out]; exact either_call hrr hal
            have HII : Hid _ := hI.out
            have i3 : (0 : Int) ≤ (i : Int) := by omega
            have i4 : (i : Int) < (E.length : Int) := by omega
            have i5 : (0 : Int) ≤ (u : Int) := by omega
            have i6 : (u : Int) < (N : Int) := by omega
            clear hI cq hu hgq hso hal hrr HSN
            obtain ⟨r2, hr2⟩ : ∃ r2, r2 = orL near (E.take (i + 1)) r := ⟨_, rfl⟩
            have HR2 : Hid (orL near (E.take (i + 1)) r = r2) := hr2.symm
            rw [← hr2] at C69
            clear hr2
            generalize orL near (E.take i) r = r1 at *
            generalize at' near u = nu at *
            go_upto_region 9 with (fail)
            have g0 := cell_growD m0
            have g1 := cell_growD m1
            have g2 := cell_growD n0
            have g3 := cell_growD n1
            clear m0 m1 n0 n1 cq'
            refine wp_region_tailT 6 (by kernel_rfl) (by kernel_rfl) (by kernel_rfl) (by decide) ?_
            simp only [List.take_succ_cons, List.take_zero, List.drop_succ_cons, List.drop_zero]
            repeat (go_big_quiet_step (first | (go_at_call 69; exact Calls.belowQ (fun W hW => C69.out W))))
            refine wpQuiet_nil ?_
            rintro _ ⟨gp, rfl⟩
            have hB8 := growD_below wr gp
            have HI8 : Hid (BhI w (growD wr gp) b4 b6 b7 b8 gone r1 t ∧ Turns (fun x => x = b7) w4 (growD wr gp)) := ⟨HII.out.1.under hB8, HII.out.2.trans (Turns.of_below hB8 _)⟩
            clear g0 g1 g2 g3 hB8 C69 HII
            generalize growD wr gp = w8 at *
            obtain ⟨q1, q2, q3, q4, q5, q6⟩ := store_two' HI8.out.1.r7 (.int .u64 (lo64 r2 : Int)) (.int .u64 (hi64 r2 : Int))
            have HN8 : Hid (BhI w ((w8.setCell ⟨b7, 0, none⟩ (.int .u64 (lo64 r2 : Int))).setCell ⟨b7, 1, none⟩ (.int .u64 (hi64 r2 : Int))) b4 b6 b7 b8 gone r2 t ∧ Turns (fun x => x = b7) w4 ((w8.setCell ⟨b7, 0, none⟩ (.int .u64 (lo64 r2 : Int))).setCell ⟨b7, 1, none⟩ (.int .u64 (hi64 r2 : Int)))) := ⟨HI8.out.1.set7 HAP.out r2, (HI8.out.2.trans (setCell_turns _ _ _ _)).trans (setCell_turns _ _ _ _)⟩
            go_wp2
            go_roundw
            case rel => exact ⟨i + 1, by omega, by go_num, by rw [HR2.out]; exact HN8⟩
            case measure => simp [numOf]; omega
          · obtain rfl : i = E.length := by omega
            have HI9 : Hid (BhI w wr b4 b6 b7 b8 gone (orL near E r) t ∧ SBox wr b9 nx) := by
              have h1 := hI.out.1
              rw [List.take_length] at h1
              exact ⟨h1, two_turns HI4.out.2 hI.out.2 (by have := HI1.out.2.2; have := HAP.out.2.2.2; omega)⟩
            obtain ⟨a0', a1'⟩ := cell_two HI9.out.1.t8
            obtain ⟨a2', a3'⟩ := cell_two HI9.out.2
            have C69 : Hid (∀ A, Calls Tryd.prog 69 #[sv t, sv nx] A fun e w' => e = .returned (sv (t ||| nx)) ∧ Below A.heap.size A w') := fun A => either_call htl hnl
            have HNX2 : Hid (∃ k', Bh near gone v RES (orL near E r) (t ||| nx) k') := by
              obtain ⟨k', hk'⟩ := HBJ.out.1.next HH.out.1.lt (fun e => HNZ.out (HNX.out.trans e))
              refine ⟨k', ?_⟩
              rw [← HEN.out, ← HNX.out] at hk'
              exact hk'
            have HBT : Hid (∀ x, (orL near E r).testBit x = true → x < N) := orL_bits HH.out.2.2.1 E r HBJ.out.2.1
            have HCN : Hid (countS t + 1 ≤ countS (t ||| nx) ∧ countS (t ||| nx) ≤ 128) := ⟨count_or HNZ.out hnl (fun x hx => by
              rw [HNX.out, bit_less] at hx
              simpa using (Bool.and_eq_true_iff.1 hx).2), count_le _⟩
            clear hI
            generalize orL near E r = r3 at *
            generalize t ||| nx = t3 at *
            go_wp2_with (first | (go_at_call 69; refine Calls.mono (C69.out _) ?_; rintro e w5 ⟨rfl, h5⟩; obtain ⟨q1, q2, q3, q4, q5, q6⟩ := store_two' (HI9.out.1.under h5).t8 (.int .u64 (lo64 t3 : Int)) (.int .u64 (hi64 t3 : Int))) | go_in)
            have HN5 : Hid (BhI w ((w5.setCell ⟨b8, 0, none⟩ (.int .u64 (lo64 t3 : Int))).setCell ⟨b8, 1, none⟩ (.int .u64 (hi64 t3 : Int))) b4 b6 b7 b8 gone r3 t3) := (HI9.out.1.under h5).set8 HAP.out t3
            go_roundw
            case rel =>
              obtain ⟨k', hk'⟩ := HNX2.out
              exact ⟨r3, t3, k', ⟨HN5.out, hk', HBT.out⟩⟩
            case measure =>
              rw [sbox_count HN5.out.t8, HBJ.out.2.2]
              have := HCN.out
              omega
end Go.Proofs.YtdalconphfgepaaDoor
