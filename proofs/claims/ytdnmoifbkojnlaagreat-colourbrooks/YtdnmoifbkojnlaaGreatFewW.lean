/- fewColours: what its walks share. -/
import Derived.Test.YtdnmoifbkojnlaaGreatFrk
import Derived.Test.YtdnmoifbkojnlaaGreatFillW
import Derived.Test.YtdnmoifbkojnlaaGreatNby
import Derived.Test.YtdnmoifbkojnlaaGreatRepeat
import Derived.Test.YtdnmoifbkojnlaaGreatWhm
namespace Go.Proofs.YtdnmoifbkojnlaaGreat
open Go.RowKit Go.Maps
theorem NearL.z {w : World} {base g N : Nat} {vs : Nat → Value} {ls : Nat → List Nat} (h : NearL w base g N vs ls) : NearZ w g N ls := fun i hi => by
  have ho := h.own i hi
  have hc := h.row.cell hi
  rcases ho.2 with ⟨h1, h2⟩ | ⟨g', cap', cur, h1, _, h2, h3, _, h4, h5⟩
  · have h0 : (ls i).length = 0 := h2
    refine ⟨none, 0, by rw [hc, h1, h0], fun k u hu => ?_⟩
    have : ls i = [] := List.length_eq_zero_iff.1 h0
    rw [this] at hu; simp at hu
  · rw [h1] at ho
    refine ⟨some ⟨g', 0, none⟩, cap', by rw [hc, h1], ?_⟩
    exact numsAt_own ho
theorem NearL.cap {w : World} {base g N : Nat} {vs : Nat → Value} {ls : Nat → List Nat} (h : NearL w base g N vs ls) : ∀ x, x < N → ∀ xo xc, w.cell? ⟨g, x, none⟩ = some (.slice xo (ls x).length xc) → (ls x).length ≤ xc := fun x hx xo xc hc => by
  have ho := h.own x hx
  have hc' := h.row.cell hx
  rw [hc] at hc'
  have e : vs x = .slice xo (ls x).length xc := by injection hc' with e; exact e.symm
  rw [e] at ho
  cases xo with
  | none =>
    rcases ho.2 with ⟨h1, h2⟩ | ⟨g', cap', cur, h1, _⟩
    · have h0 : (ls x).length = 0 := h2
      omega
    · cases h1
  | some ad =>
    rcases ho.2 with ⟨h1, h2⟩ | ⟨g', cap', cur, h1, _⟩
    · cases h1
    · have : ad = ⟨g', 0, none⟩ := by injection h1 with e1 _ _; injection e1
      subst this
      exact ownCap ho
theorem NearZ.r {w w' : World} {g N q : Nat} {ls : Nat → List Nat} (h : NearZ w g N ls) (hg : g < w.heap.size) (hb : Below w.heap.size w w') (hq : w.heap.size ≤ q) : NearR w' q g N ls := by
  refine ⟨by omega, fun i hi => ?_⟩
  obtain ⟨xo, xc, h1, h2⟩ := h i hi
  refine ⟨xo, xc, (hb.cell (World.block_lt_of_cell? w _ h1)).trans h1, fun k u hu => ?_⟩
  obtain ⟨b, e, hc⟩ := h2 k u hu
  have hlt := World.block_lt_of_cell? w _ hc
  have hlt' : b < w.heap.size := hlt
  exact ⟨b, e, by omega, (hb.cell hlt).trans hc⟩
/-- What lies there when fewColours has begun. -/
structure Few0 (w W : World) (p q g N bm m : Nat) (ls : Nat → List Nat) : Prop where
  coat : Coat W p q g N ls (fun _ => -1)
  lop : w.heap.size ≤ p
  loq : w.heap.size ≤ q
  many : W.cell? ⟨bm, 0, none⟩ = some (.int .i64 (m : Int))
  below : Below w.heap.size w W
theorem few_begin {w w2 W : World} {g N q m : Nat} {ls : Nat → List Nat} (hz : NearZ w g N ls) (hg : g < w.heap.size) (hq : (w.alloc (Obj.cells #[.int .i64 (-1)] 3)).heap.size ≤ q) (hrow : RowV w2 q 3 N (fun _ => .int .i64 (-1))) (hB : Below (w.alloc (Obj.cells #[.int .i64 (-1)] 3)).heap.size (w.alloc (Obj.cells #[.int .i64 (-1)] 3)) w2)
    (hW : W = (w2.alloc (Obj.cells #[sl g N, sl q N] 74)).alloc (Obj.cells #[.int .i64 (m : Int)] 3)) : Few0 w W w2.heap.size q g N (w2.heap.size + 1) m ls := by
  have hB1 : Below w.heap.size w w2 := below_next (below_alloc (Below.refl _ w) _) hB
  have hqlt : q < w2.heap.size := hrow.lt
  have hq' : w.heap.size ≤ q := by rw [World.size_alloc] at hq; omega
  have hsz := hB1.size
  have t1 := two_new w2 (sl g N) (sl q N) 74
  have o1 := one_new (w2.alloc (Obj.cells #[sl g N, sl q N] 74)) (.int .i64 (m : Int)) 3
  have hs2 : (w2.alloc (Obj.cells #[sl g N, sl q N] 74)).heap.size = w2.heap.size + 1 := World.size_alloc _ _
  have hbA : Below w2.heap.size w2 W := by
    rw [hW]
    exact below_alloc (below_alloc (Below.refl _ w2) _) _
  have hbx : Box W w2.heap.size #[sl g N, sl q N] 74 := by
    rw [hW]
    exact (Below.heap_alloc _ _ _ (by rw [hs2]; omega)).trans t1
  have hmany : W.cell? ⟨w2.heap.size + 1, 0, none⟩ = some (.int .i64 (m : Int)) := by
    rw [hW]
    rw [hs2] at o1
    exact box_cell o1 rfl
  have hBW := below_next hB1 hbA
  exact ⟨⟨hbx, hz.r hg hBW hq', hrow.block (hbA.block _ hqlt)⟩, by omega, hq', hmany, hBW⟩
/-- A frame of which each operation's slot is told; c is what the call answers. -/
theorem fj_quietZ {P : Program} {ops : Array Oper} {Q : Exit → Act → World → Prop} {A : (Nat → Value) → Act} {V : Nat → Nat → Value} {f : Nat → Value} {S : Nat → (Nat → Bool) → World → Prop} {L : Nat → Bool} {w : World} {i c : Nat} {o : Oper}
    (hi : ops[i]? = some o) (hw : Region.wanted o (yielded ops (A f).tmps) = true) (hput : ∀ x, (A f).put o.dst x = A (updV f i x)) (hf : ∀ j, L j = true → f j = V c j)
    (hS : S c (also L i) w) (hr : (execOp (A f).eval o).run P w = .ok (.value (V c i)) w) : wpOp P ops Q i (FJc A V S (also L i)) (A f) w :=
  wpOp_value hi hw hr ⟨c, _, hput _, updV_told hf, hS⟩
theorem region_invZ {P : Program} {ops : Array Oper} {Q : Exit → Act → World → Prop} {id : Nat} {a : Act} {w : World} {J : Act → (Nat → Bool) → Act → World → Prop} (hm : P.follows .mixedOrders = true) (hlow : lowB ops = true)
    (h0 : J a (fun _ => false) a w.drew)
    (hstep : ∀ i o, ops[i]? = some o → ∀ L a' w, J a L a' w → L i = false → (∀ e ∈ o.after, Region.binds .any e = true → L e.on = true) → wpOp P ops Q i (J a (also L i)) a' w)
    (hend : ∀ L a' w, J a L a' w → (∀ i, i < ops.size → L i = true) → Q .normal a' w) : (Code.region id ops true).wp P Q a w := region_inv hm hlow h0 hstep hend
def A21 (h f : Nat → Value) : Act := { tmps := #[h 0, h 1, h 2, h 3, h 4, h 5, h 6, h 7, h 8, h 9, h 10, h 11, h 12, h 13, h 14, h 15, h 16, h 17, h 18, h 19, h 20, h 21, h 22, h 23, h 24, h 25, h 26, h 27, h 28, h 29, h 30, h 31, h 32, h 33, h 34, h 35, h 36, h 37, h 38, h 39, h 40, h 41, h 42, h 43, h 44, h 45, h 46, h 47, h 48, h 49, h 50, h 51, h 52, f 0, f 1, f 2, f 3, f 4, f 5, f 6, f 7, f 8, h 62, h 63], defers := [] }
def V21 (p q g N v : Nat) (xo : Option Addr) (m xc : Nat) (c : Nat) : Nat → Value
  | 0 => .pointer (some ⟨p, 1, none⟩)
  | 1 => sl q N
  | 2 => .int .i64 (v : Int)
  | 3 => sl g N
  | 4 => .int .i64 (v : Int)
  | 5 => .pointer (some ⟨g, v, none⟩)
  | 6 => .slice xo m xc
  | 7 => .int .i64 (c : Int)
  | 8 => .pointer (some ⟨q, v, none⟩)
  | _ => undef
theorem V21_ne {p q g N v : Nat} {xo : Option Addr} {m xc c c' j : Nat} (h : j ≠ 7) : V21 p q g N v xo m xc c j = V21 p q g N v xo m xc c' j := by
  unfold V21
  split <;> first | rfl | exact absurd rfl h
/-- Whether the call and the store have been done. -/
structure S21 (W0 : World) (R : Nat → Prop) (q v : Nat) (c : Nat) (L : Nat → Bool) (w : World) : Prop where
  a1 : L 9 = true → ∀ j, j < 9 → L j = true
  w0 : L 7 = false → w = W0
  w1 : L 7 = true → L 9 = false → Below W0.heap.size W0 w ∧ R c
  w2 : L 9 = true → ∃ w1, Below W0.heap.size W0 w1 ∧ R c ∧ w = w1.setCell ⟨q, v, none⟩ (.int .i64 (c : Int))
section
variable {W0 : World} {R : Nat → Prop} {q v c : Nat} {L : Nat → Bool} {w : World}
theorem S21.n9 (h : S21 W0 R q v c L w) {i : Nat} (hL : L i = false) (hi : i < 9) : L 9 = false := by
  cases e : L 9 with
  | false => rfl
  | true => have := h.a1 e i hi; rw [hL] at this; cases this
theorem S21.early (h : S21 W0 R q v c L w) {i : Nat} (hL : L i = false) (hi : i < 9) : Below W0.heap.size W0 w := by
  have h5 := h.n9 hL hi
  cases e : L 7 with
  | false => rw [h.w0 e]; exact Below.refl _ _
  | true => exact (h.w1 e h5).1
theorem S21.quiet (h : S21 W0 R q v c L w) {i : Nat} (h1 : 7 ≠ i) (h2 : 9 ≠ i) : S21 W0 R q v c (also L i) w := by
  refine ⟨fun h7 j hj => ?_, fun h7 => ?_, fun h7 h9 => ?_, fun h9 => ?_⟩
  · rw [also_atZ h2] at h7; exact also_of (h.a1 h7 j hj) i
  · rw [also_atZ h1] at h7; exact h.w0 h7
  · rw [also_atZ h1] at h7; rw [also_atZ h2] at h9; exact h.w1 h7 h9
  · rw [also_atZ h2] at h9; exact h.w2 h9
end
end Go.Proofs.YtdnmoifbkojnlaaGreat
