/- Where ways lead from a node through gone ones: what width.behind reckons. -/
import Derived.Test.YtdalconphfgepaaDoorRegX
import Derived.Test.YtdalconphfgepaaDoorHangW
import Derived.Test.YtdalconphfgepaaDoorWithW
import Derived.Test.YtdalconphfgepaaDoorNearM
namespace Go.Proofs.YtdalconphfgepaaDoor
set_option maxRecDepth 8000
open Go.RowKit Go.Maps
def orL (near : List Nat) (l : List Nat) (r : Nat) : Nat := l.foldl (fun r u => r ||| at' near u) r
def behF (near : List Nat) (gone v : Nat) : Nat → Nat → Nat → Nat
  | 0, r, _ => sDrop (sLess r gone) v
  | k + 1, r, t => if sLess (r &&& gone) t = 0 then sDrop (sLess r gone) v else behF near gone v k (orL near (elems (sLess (r &&& gone) t)) r) (t ||| sLess (r &&& gone) t)
def behS (near : List Nat) (gone v : Nat) : Nat := behF near gone v 129 (at' near v) (sAdd 0 v)
theorem count_le (s : Nat) : countS s ≤ 128 := by
  unfold countS elems
  refine Nat.le_trans (List.length_filter_le _ _) (by simp)
theorem or_lt {s t : Nat} (hs : s < 2 ^ 128) (ht : t < 2 ^ 128) : s ||| t < 2 ^ 128 := Nat.or_lt_two_pow hs ht
theorem and_lt {s t : Nat} (hs : s < 2 ^ 128) : s &&& t < 2 ^ 128 := Nat.lt_of_le_of_lt Nat.and_le_left hs
theorem orL_lt {near : List Nat} (hn : ∀ s ∈ near, s < 2 ^ 128) : ∀ (l : List Nat) (r : Nat), r < 2 ^ 128 → orL near l r < 2 ^ 128
  | [], _, h => h
  | u :: l, _, h => orL_lt hn l _ (or_lt h (at_lt hn u))
theorem orL_snoc (near l : List Nat) (u r : Nat) : orL near (l ++ [u]) r = orL near l r ||| at' near u := by
  unfold orL
  rw [List.foldl_append]
  rfl
theorem orL_bits {near : List Nat} {N : Nat} (hn : ∀ u v, (at' near u).testBit v = true → v < N) : ∀ (l : List Nat) (r : Nat), (∀ v, r.testBit v = true → v < N) → ∀ v, (orL near l r).testBit v = true → v < N
  | [], r, h, v, hv => h v hv
  | u :: l, r, h, v, hv => orL_bits hn l _ (fun x hx => by
    rw [Nat.testBit_or] at hx
    rcases Bool.or_eq_true_iff.1 hx with h1 | h1
    · exact h x h1
    · exact hn u x h1) v hv
/-- A set and a part of nodes that are not in it: it grows. -/
theorem count_or {s t : Nat} (ht0 : t ≠ 0) (ht : t < 2 ^ 128) (hd : ∀ v, t.testBit v = true → s.testBit v = false) : countS s + 1 ≤ countS (s ||| t) := by
  unfold countS elems
  obtain ⟨v, hv⟩ : ∃ v, t.testBit v = true := by
    apply Classical.byContradiction
    intro hn
    refine ht0 (Nat.eq_of_testBit_eq fun i => ?_)
    rw [Nat.zero_testBit]
    cases h : t.testBit i with
    | false => rfl
    | true => exact absurd ⟨i, h⟩ hn
  have key : ∀ n, v < n → ((List.range n).filter s.testBit).length + 1 ≤ ((List.range n).filter (s ||| t).testBit).length ∧ True := fun n => by
    induction n with
    | zero => intro h; omega
    | succ n ih =>
      intro hvn
      rw [List.range_succ, List.filter_append, List.filter_append, List.length_append, List.length_append]
      have hle : ∀ m, ((List.range m).filter s.testBit).length ≤ ((List.range m).filter (s ||| t).testBit).length := fun m => by
        induction m with
        | zero => simp
        | succ m ihm =>
          rw [List.range_succ, List.filter_append, List.filter_append, List.length_append, List.length_append]
          have : ([m].filter s.testBit).length ≤ ([m].filter (s ||| t).testBit).length := by
            by_cases h : s.testBit m = true
            · simp [h, Nat.testBit_or]
            · simp [h]
          omega
      by_cases e : v = n
      · subst e
        have h1 := hd v hv
        have h2 := hle v
        simp [h1, hv, Nat.testBit_or]
        exact h2
      · have h1 := (ih (by omega)).1
        have h2 : ([n].filter s.testBit).length ≤ ([n].filter (s ||| t).testBit).length := by
          by_cases h : s.testBit n = true
          · simp [h, Nat.testBit_or]
          · simp [h]
        exact ⟨by omega, trivial⟩
  exact (key 128 (bit_lt ht hv)).1
/-- How far it has come. -/
structure Bh (near : List Nat) (gone v RES r t k : Nat) : Prop where
  rl : r < 2 ^ 128
  tl : t < 2 ^ 128
  fuel : 130 ≤ k + countS t
  res : behF near gone v k r t = RES
theorem Bh.next {near : List Nat} {gone v RES r t k : Nat} (h : Bh near gone v RES r t k) (hn : ∀ s ∈ near, s < 2 ^ 128) (h0 : sLess (r &&& gone) t ≠ 0) : ∃ k', Bh near gone v RES (orL near (elems (sLess (r &&& gone) t)) r) (t ||| sLess (r &&& gone) t) k' := by
  have hnl : sLess (r &&& gone) t < 2 ^ 128 := less_lt (and_lt h.rl)
  have hc := count_or (s := t) h0 hnl fun x hx => by
    rw [bit_less] at hx
    simpa using (Bool.and_eq_true_iff.1 hx).2
  have hcl := count_le t
  have hf := h.fuel
  obtain ⟨k', rfl⟩ : ∃ k', k = k' + 1 := ⟨k - 1, by omega⟩
  refine ⟨k', orL_lt hn _ _ h.rl, or_lt h.tl hnl, by omega, ?_⟩
  have := h.res
  rw [behF, if_neg h0] at this
  exact this
theorem Bh.done {near : List Nat} {gone v RES r t k : Nat} (h : Bh near gone v RES r t k) (h0 : sLess (r &&& gone) t = 0) : RES = sDrop (sLess r gone) v := by
  have := h.res
  cases k with
  | zero => rw [behF] at this; exact this.symm
  | succ k => rw [behF, if_pos h0] at this; exact this.symm
theorem Bh.start {near : List Nat} {gone v : Nat} (hn : ∀ s ∈ near, s < 2 ^ 128) (hv : v < 128) : Bh near gone v (behS near gone v) (at' near v) (sAdd 0 v) 129 := by
  refine ⟨at_lt hn v, add_lt (by decide) hv, ?_, rfl⟩
  have h := count_or (s := 0) (t := sAdd 0 v) (fun e => by
    have h1 := bit_add 0 v v
    rw [e] at h1
    simp at h1) (add_lt (by decide) hv) (fun x _ => by simp)
  have : (0 ||| sAdd 0 v) = sAdd 0 v := by simp
  rw [this] at h
  omega
def numAt (w : World) (b i : Nat) : Nat := match w.cell? ⟨b, i, none⟩ with | some (.int _ q) => q.toNat | _ => 0
/-- How many nodes the set in a box has. -/
def boxCount (w : World) (b : Nat) : Nat := cntB (numAt w b 0) 64 + cntB (numAt w b 1) 64
theorem sbox_count {w : World} {b s : Nat} (h : SBox w b s) : boxCount w b = countS s := by
  obtain ⟨h0, h1⟩ := cell_two h
  unfold boxCount numAt
  rw [h0, h1, count_two]
  simp
/-- What lies in memory. -/
structure BhI (w wz : World) (b4 b6 b7 b8 gone r t : Nat) : Prop where
  l4 : SBox wz b4 gone
  z6 : SBox wz b6 0
  r7 : SBox wz b7 r
  t8 : SBox wz b8 t
  below : Below w.heap.size w wz
def Apart4 (n b4 b6 b7 b8 : Nat) : Prop := n ≤ b4 ∧ b4 < b6 ∧ b6 < b7 ∧ b7 < b8
theorem BhI.under {w wz wz' : World} {b4 b6 b7 b8 gone r t : Nat} (h : BhI w wz b4 b6 b7 b8 gone r t) (hb : Below wz.heap.size wz wz') : BhI w wz' b4 b6 b7 b8 gone r t :=
  ⟨two_next h.l4 hb, two_next h.z6 hb, two_next h.r7 hb, two_next h.t8 hb, below_next h.below hb⟩
theorem BhI.set7 {w wz : World} {b4 b6 b7 b8 gone r t : Nat} (h : BhI w wz b4 b6 b7 b8 gone r t) (ha : Apart4 w.heap.size b4 b6 b7 b8) (r' : Nat) : BhI w ((wz.setCell ⟨b7, 0, none⟩ (.int .u64 (lo64 r' : Int))).setCell ⟨b7, 1, none⟩ (.int .u64 (hi64 r' : Int))) b4 b6 b7 b8 gone r' t := by
  obtain ⟨a1, a2, a3, a4⟩ := ha
  exact ⟨two_far (two_far h.l4 (by omega)) (by omega), two_far (two_far h.z6 (by omega)) (by omega), two_setN h.r7, two_far (two_far h.t8 (by omega)) (by omega), (h.below.setCell (p := ⟨b7, 0, none⟩) (by simp only; omega) _).setCell (p := ⟨b7, 1, none⟩) (by simp only; omega) _⟩
theorem BhI.set8 {w wz : World} {b4 b6 b7 b8 gone r t : Nat} (h : BhI w wz b4 b6 b7 b8 gone r t) (ha : Apart4 w.heap.size b4 b6 b7 b8) (t' : Nat) : BhI w ((wz.setCell ⟨b8, 0, none⟩ (.int .u64 (lo64 t' : Int))).setCell ⟨b8, 1, none⟩ (.int .u64 (hi64 t' : Int))) b4 b6 b7 b8 gone r t' := by
  obtain ⟨a1, a2, a3, a4⟩ := ha
  exact ⟨two_far (two_far h.l4 (by omega)) (by omega), two_far (two_far h.z6 (by omega)) (by omega), two_far (two_far h.r7 (by omega)) (by omega), two_setN h.t8, (h.below.setCell (p := ⟨b8, 0, none⟩) (by simp only; omega) _).setCell (p := ⟨b8, 1, none⟩) (by simp only; omega) _⟩
/-- V i is what operation i leaves, for i below m; operation m makes a set; operation m + 1 stores s there. -/
structure SA (W : World) (m : Nat) (V : Nat → Value) (s : Nat) (L : Nat → Bool) (f : Nat → Value) (w : World) : Prop where
  told : ∀ i, i < m → L i = true → f i = V i
  w0 : L (m + 1) = false → Below W.heap.size W w
  am : L m = true → L (m + 1) = false → ∃ b, f m = .pointer (some ⟨b, 0, none⟩) ∧ W.heap.size ≤ b ∧ Two w b (.int .u64 0) (.int .u64 0) 76
  wm : L (m + 1) = true → ∃ w1 b, f m = .pointer (some ⟨b, 0, none⟩) ∧ Below W.heap.size W w1 ∧ W.heap.size ≤ b ∧ Two w1 b (.int .u64 0) (.int .u64 0) 76 ∧ w = (w1.setCell ⟨b, 0, none⟩ (.int .u64 (lo64 s : Int))).setCell ⟨b, 1, none⟩ (.int .u64 (hi64 s : Int))
  cl : L (m + 1) = true → ∀ j, j < m + 1 → L j = true
section
variable {W : World} {m : Nat} {V : Nat → Value} {s : Nat} {L : Nat → Bool} {f : Nat → Value} {w w' : World}
theorem SA.open_ (h : SA W m V s L f w) {i : Nat} (hL : L i = false) (hi : i < m + 1) : L (m + 1) = false := by
  cases e : L (m + 1) with
  | false => rfl
  | true => have := h.cl e i hi; rw [hL] at this; cases this
theorem SA.early (h : SA W m V s L f w) {i : Nat} (hL : L i = false) (hi : i < m + 1) : Below W.heap.size W w := h.w0 (h.open_ hL hi)
theorem SA.put (h : SA W m V s L f w) {i : Nat} (hL : L i = false) (hi : i < m) (hb : Below w.heap.size w w') : SA W m V s (also L i) (updV f i (V i)) w' := by
  have h7 := h.open_ hL (by omega)
  have a7 : also L i (m + 1) = false := by rw [also_at (by omega)]; exact h7
  refine ⟨fun j hj hk => ?_, fun _ => below_next (h.w0 h7) hb, fun hk _ => ?_, fun hk => (by rw [a7] at hk; cases hk), fun hk => (by rw [a7] at hk; cases hk)⟩
  · by_cases e : j = i
    · subst e; exact updV_same _ _ _
    · rw [updV_ne _ _ e]; exact h.told j hj (by rwa [also_at e] at hk)
  · rw [also_at (by omega)] at hk
    obtain ⟨b, h1, h2, h3⟩ := h.am hk h7
    exact ⟨b, by rw [updV_ne _ _ (by omega)]; exact h1, h2, (hb.block _ (lt_of_block h3)).trans h3⟩
theorem SA.alloc (h : SA W m V s L f w) (hL : L m = false) : SA W m V s (also L m) (updV f m (.pointer (some ⟨w.heap.size, 0, none⟩))) (w.alloc (Obj.cells #[.int .u64 0, .int .u64 0] 76)) := by
  have h7 := h.open_ hL (by omega)
  have a7 : also L m (m + 1) = false := by rw [also_at (by omega)]; exact h7
  refine ⟨fun j hj hk => ?_, fun _ => below_alloc (h.w0 h7) _, fun _ _ => ⟨w.heap.size, updV_same _ _ _, (h.w0 h7).size, two_new _ _ _ 76⟩, fun hk => (by rw [a7] at hk; cases hk), fun hk => (by rw [a7] at hk; cases hk)⟩
  rw [updV_ne _ _ (by omega)]
  exact h.told j hj (by rwa [also_at (by omega)] at hk)
theorem SA.store (h : SA W m V s L f w) (hL : L (m + 1) = false) (hall : ∀ j, j < m + 1 → L j = true) {b : Nat} (hb : f m = .pointer (some ⟨b, 0, none⟩)) (h2 : W.heap.size ≤ b) (h3 : Two w b (.int .u64 0) (.int .u64 0) 76) (x : Value) :
    SA W m V s (also L (m + 1)) (updV f (m + 1) x) ((w.setCell ⟨b, 0, none⟩ (.int .u64 (lo64 s : Int))).setCell ⟨b, 1, none⟩ (.int .u64 (hi64 s : Int))) := by
  have a7 : also L (m + 1) (m + 1) = true := also_self _ _
  refine ⟨fun j hj hk => ?_, fun hk => (by rw [a7] at hk; cases hk), fun _ hk => (by rw [a7] at hk; cases hk), fun _ => ⟨w, b, ?_, h.w0 hL, h2, h3, rfl⟩, fun _ j hj => also_of (hall j hj) _⟩
  · rw [updV_ne _ _ (by omega)]; exact h.told j hj (hall j (by omega))
  · rw [updV_ne _ _ (by omega)]; exact hb
theorem SA.start : SA W m V s (fun _ => false) f W.drew :=
  ⟨fun _ _ h => (by cases h), fun _ => (Below.refl _ W).drew, fun h => (by cases h), fun h => (by cases h), fun h => (by cases h)⟩
theorem SA.done (h : SA W m V s L f w) (hall : L (m + 1) = true) : ∃ b, f m = .pointer (some ⟨b, 0, none⟩) ∧ W.heap.size ≤ b ∧ SBox w b s ∧ Below W.heap.size W w := by
  obtain ⟨w1, b, h1, h2, h3, h4, rfl⟩ := h.wm hall
  exact ⟨b, h1, h3, two_setN h4, (h2.setCell h3 _).setCell h3 _⟩
end
theorem store_two' {w : World} {b : Nat} {x y : Value} {t : TypeId} (h : Two w b x y t) (x' y' : Value) : w.cell? ⟨b, 0, none⟩ = some x ∧ w.frozen? ⟨b, 0, none⟩ = false ∧ (w.setCell ⟨b, 0, none⟩ x').cell? ⟨b, 1, none⟩ = some y ∧ (w.setCell ⟨b, 0, none⟩ x').frozen? ⟨b, 1, none⟩ = false ∧ ((w.setCell ⟨b, 0, none⟩ x').setCell ⟨b, 1, none⟩ y').cell? ⟨b, 0, none⟩ = some x' ∧ ((w.setCell ⟨b, 0, none⟩ x').setCell ⟨b, 1, none⟩ y').cell? ⟨b, 1, none⟩ = some y' :=
  ⟨(cell_two h).1, box_free h 0, box_cell (box_set h 0 x') (i := 1) rfl, box_free (box_set h 0 x') 1, (cell_two (two_setN h)).1, (cell_two (two_setN h)).2⟩
end Go.Proofs.YtdalconphfgepaaDoor
