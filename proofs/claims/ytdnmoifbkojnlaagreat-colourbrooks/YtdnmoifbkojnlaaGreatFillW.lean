/- fill: the nodes without a colour get theirs, the farther ones first. -/
import Derived.Test.YtdnmoifbkojnlaaGreatBak
namespace Go.Proofs.YtdnmoifbkojnlaaGreat
open Go.RowKit Go.Maps Go.Shelf
attribute [local go_sem] Oper.semAt_some
section
variable {w : World} {p q g N : Nat} {ls : Nat → List Nat} {col : Nat → Int}
set_option maxHeartbeats 600000 in
/-- The literal: whether a node has no colour. -/
theorem fill1_call (h : Coat w p q g N ls col) {b2 x : Nat} (h2 : w.cell? ⟨b2, 0, none⟩ = some (ptr p)) (hx : x < N) :
    Calls Tryz.prog 60 #[.int .i64 (x : Int), ptr b2] w fun e w' => e = .returned (.bool (col x == -1)) ∧ Below w.heap.size w w' := by
  have c1 := h.cells.2
  have c2 : w.cell? ⟨q, x, none⟩ = some (.int .i64 (col x)) := h.row.cell hx
  have i1 : (0 : Int) ≤ (x : Int) := by omega
  have i2 : (x : Int) < (N : Int) := by omega
  clear h
  refine Calls.mono (R := fun e w' => e = .returned (.bool (col x == -1)) ∧ ∃ m, w' = w.drewN m) ?_ (fun e w' ⟨h1, m, h2⟩ => ⟨h1, by rw [h2]; exact drewN_below w m⟩)
  go_enter Tryz.func60, Tryz.ntmps60
  go_wp2
  go_ret
  exact ⟨rfl, 0, rfl⟩
theorem enter60 (args : Array Value) (w : World) : (callFunc 60 args).run Tryz.prog w = .ok (.enter 60 args) w := by
  simp [callFunc, Tryz.func60, go_sem]
  rw [if_neg (of_decide_eq_true (by kernel_rfl)), if_neg (by intro h; have : Tryz.f60.body.isSome = true := (by kernel_rfl); rw [h] at this; cases this)]
/- FJIN -/
def updV (f : Nat → Value) (i : Nat) (x : Value) : Nat → Value := fun j => if j = i then x else f j
/-- A frame of which each operation's slot is told; c is what the call answers. -/
def FJc (A : (Nat → Value) → Act) (V : Nat → Nat → Value) (S : Nat → (Nat → Bool) → World → Prop) (L : Nat → Bool) (a : Act) (w : World) : Prop := ∃ c f, a = A f ∧ (∀ i, L i = true → f i = V c i) ∧ S c L w
theorem updV_told {V f : Nat → Value} {L : Nat → Bool} {i : Nat} (hf : ∀ j, L j = true → f j = V j) : ∀ j, also L i j = true → updV f i (V i) j = V j := fun j hj => by
  unfold updV
  by_cases e : j = i
  · rw [if_pos e, e]
  · rw [if_neg e]; exact hf j (also_ne hj e)
theorem fjc_quiet {F : Fence} {n : Nat} {P : Program} {ops : Array Oper} {Q : Exit → Act → World → Prop} {A : (Nat → Value) → Act} {V : Nat → Nat → Value} {f : Nat → Value} {S : Nat → (Nat → Bool) → World → Prop} {L : Nat → Bool} {w : World} {i c : Nat} {o : Oper}
    (hp : plainO o) (hi : ops[i]? = some o) (hw : Region.wanted o (yielded ops (A f).tmps) = true) (hput : ∀ x, (A f).put o.dst x = A (updV f i x)) (hf : ∀ j, L j = true → f j = V c j)
    (hS : S c (also L i) w) (hr : (execOp (A f).eval o).run P w = .ok (.value (V c i)) w) : wpOpIn F n P ops Q i (FJc A V S (also L i)) (A f) w :=
  wpOpIn_value hp hi hw hr ⟨c, _, hput _, updV_told hf, hS⟩
def A39 (h f : Nat → Value) : Act := { tmps := #[h 0, h 1, h 2, h 3, h 4, h 5, h 6, h 7, h 8, h 9, h 10, h 11, h 12, h 13, h 14, h 15, h 16, h 17, h 18, f 0, f 1, f 2, f 3, f 4, f 5, f 6, f 7, f 8, f 9, f 10, f 11, f 12, f 13, f 14], defers := [] }
def V39 (p q g N v : Nat) (xo : Option Addr) (m xc : Nat) (c : Nat) : Nat → Value
  | 0 => ptr p
  | 1 => ptr p
  | 2 => .pointer (some ⟨p, 1, none⟩)
  | 3 => sl q N
  | 4 => .int .i64 (v : Int)
  | 5 => ptr p
  | 6 => ptr p
  | 7 => ptr p
  | 8 => .pointer (some ⟨p, 0, none⟩)
  | 9 => sl g N
  | 10 => .int .i64 (v : Int)
  | 11 => .pointer (some ⟨g, v, none⟩)
  | 12 => .slice xo m xc
  | 13 => .int .i64 (c : Int)
  | 14 => .pointer (some ⟨q, v, none⟩)
  | _ => undef
theorem V39_ne {p q g N v : Nat} {xo : Option Addr} {m xc c c' j : Nat} (h : j ≠ 13) : V39 p q g N v xo m xc c j = V39 p q g N v xo m xc c' j := by
  unfold V39
  split <;> first | rfl | exact absurd rfl h
/-- Whether the call and the store have been done. -/
structure S39 (W0 : World) (R : Nat → Prop) (q v : Nat) (c : Nat) (L : Nat → Bool) (w : World) : Prop where
  a1 : L 15 = true → ∀ j, j < 15 → L j = true
  w0 : L 13 = false → w = W0
  w1 : L 13 = true → L 15 = false → Below W0.heap.size W0 w ∧ R c
  w2 : L 15 = true → ∃ w1, Below W0.heap.size W0 w1 ∧ R c ∧ w = w1.setCell ⟨q, v, none⟩ (.int .i64 (c : Int))
theorem also_atZ {L : Nat → Bool} {i j : Nat} (h : j ≠ i) : also L i j = L j := by simp [also, h]
theorem S39.n15 {W0 : World} {R : Nat → Prop} {q v c : Nat} {L : Nat → Bool} {w : World} (h : S39 W0 R q v c L w) {i : Nat} (hL : L i = false) (hi : i < 15) : L 15 = false := by
  cases e : L 15 with
  | false => rfl
  | true => have := h.a1 e i hi; rw [hL] at this; cases this
theorem S39.early {W0 : World} {R : Nat → Prop} {q v c : Nat} {L : Nat → Bool} {w : World} (h : S39 W0 R q v c L w) {i : Nat} (hL : L i = false) (hi : i < 15) : Below W0.heap.size W0 w := by
  have h5 := h.n15 hL hi
  cases e : L 13 with
  | false => rw [h.w0 e]; exact Below.refl _ _
  | true => exact (h.w1 e h5).1
theorem S39.quiet {W0 : World} {R : Nat → Prop} {q v c : Nat} {L : Nat → Bool} {w : World} (h : S39 W0 R q v c L w) {i : Nat} (h1 : 13 ≠ i) (h2 : 15 ≠ i) : S39 W0 R q v c (also L i) w := by
  refine ⟨fun h7 j hj => ?_, fun h7 => ?_, fun h7 h9 => ?_, fun h9 => ?_⟩
  · rw [also_atZ h2] at h7; exact also_of (h.a1 h7 j hj) i
  · rw [also_atZ h1] at h7; exact h.w0 h7
  · rw [also_atZ h1] at h7; rw [also_atZ h2] at h9; exact h.w1 h7 h9
  · rw [also_atZ h2] at h9; exact h.w2 h9
theorem ownCap {w : World} {base gl n cap : Nat} {xs : List Value} (h : w.ownsRow base 3 1 (.slice (some ⟨gl, 0, none⟩) n cap) n xs) : n ≤ cap := by
  rcases h.2 with ⟨e, _⟩ | ⟨g, c, cur, e, _, _, h1, _⟩
  · cases e
  · cases e; exact h1
theorem RowV.grownZ {w w' : World} {b n : Nat} {t : TypeId} {f : Nat → Value} {row : Option Nat} (h : RowV w b t n f) (hg : w.grownBy w' row) (hr : row ≠ some b) : RowV w' b t n f := h.block (hg.block b h.lt (fun e => hr e.symm))
set_option maxRecDepth 100000 in
set_option maxHeartbeats 6000000 in
theorem fill_call {adj : Nat → Nat → Bool} {last : Nat} (h : Coat w p q g N ls col) (hn : N ≤ 100) (hls : ∀ x y, x < N → (y ∈ ls x ↔ y < N ∧ adj x y = true)) (hll : ∀ x, x < N → (ls x).length ≤ 1000) (hlast : last < N) :
    Calls Tryz.prog 39 #[ptr p, .int .i64 (last : Int)] w fun e w' => (∃ v, e = .returned v) ∧ ∃ L col', Bfo N adj (fun x => col x == -1) last L ∧ RowV w' q 3 N (iv col') ∧ Turns (fun k => k = q) w w' ∧
      ∀ m, Pc N m adj col → col last = -1 → (∀ x, x < N → (ls x).length ≤ m) → (∀ x y, adj x y = adj y x) → (∀ x, adj x x = false) → FillI N m adj L col (L.length - 1) col' := by
  have HC0 : Hid (Coat w p q g N ls col) := h
  have HLS : Hid (∀ x y, x < N → (y ∈ ls x ↔ y < N ∧ adj x y = true)) := hls
  have HLL : Hid (∀ x, x < N → (ls x).length ≤ 1000) := hll
  obtain ⟨w1, hw1⟩ : ∃ w1, w1 = w.alloc (Obj.cells #[ptr p] 102) := ⟨_, rfl⟩
  obtain ⟨b2, hb2⟩ : ∃ b2, b2 = w.heap.size := ⟨_, rfl⟩
  have hB1 : Below w.heap.size w w1 := by rw [hw1]; exact below_alloc (Below.refl _ w) _
  have o2 : One w1 b2 (ptr p) 102 := by rw [hw1, hb2]; exact one_new w (ptr p) 102
  have hsz1 : w1.heap.size = b2 + 1 := by rw [hw1, hb2, World.size_alloc]
  have HC1 : Hid (Coat w1 p q g N ls col) := h.below hB1
  have c2 : w1.cell? ⟨b2, 0, none⟩ = some (ptr p) := by rw [hw1, hb2]; exact box_cell (one_new w (ptr p) 102) rfl
  have H59 : Hid (Calls Tryz.prog 59 #[sl g N, .int .i64 (last : Int), .func (.func 60) #[] #[ptr b2]] w1 fun e w' => ∃ gl pc L, e = .returned (.slice (some ⟨gl, 0, none⟩) L.length pc) ∧ (1 : Int) ≤ (L.length : Int) ∧ Hid (w'.ownsRow w1.heap.size 3 1 (.slice (some ⟨gl, 0, none⟩) L.length pc) L.length (qv L)) ∧ Hid (Bfo N adj (fun x => col x == -1) last L) ∧ Hid (Below w1.heap.size w1 w')) := by
    refine Calls.mono (reachZ_call hn HC1.out.near.z hls hll hlast enter60 (opn := fun x => col x == -1) (fun W hW x hx => fill1_call (HC1.out.below hW) ((hW.cell (p := ⟨b2, 0, none⟩) (by show b2 < _; omega)).trans c2) hx)) ?_
    rintro e w' ⟨po, pc, L, rfl, ho, hb, hB⟩
    obtain ⟨gl, el, _⟩ := qcell ho (k := 0) (u := L.getD 0 0) (by rw [getD_lt hb.pos, List.getElem?_eq_getElem hb.pos])
    subst el
    have := hb.pos
    exact ⟨gl, pc, L, rfl, by omega, ho, hb, hB⟩
  have hp1 := HC1.out.cells.1
  have T59 : Fence.wide.fn 59 := trivial
  have T61 : Fence.wide.fn 61 := trivial
  clear h hls hll
  refine (callsIn_wide (n := 8)).1 ?_
  refine callsIn_of_wp_marks Tryz.func39 rfl trivial ?_ rfl
  simp only [Tryz.ntmps39, List.size_toArray, List.length_cons, List.length_nil, Nat.reduceAdd, Nat.reduceSub, Array.replicate_succ, Array.replicate_zero, List.push_toArray, List.append_toArray, List.nil_append, List.cons_append]
  subst hw1 hb2
  gi_wp2_with (first
    | (gi_at_call 59; refine (callsIn_wide.2 H59.out).mono ?_; rintro e w2 ⟨gl, pc, L, rfl, hL1, hown, hbf, hB2⟩)
    | (gi_at_call 61; refine (back_in Fence.wide _ trivial rfl _ _ _ _).mono ?_; rintro e w' ⟨rfl, rfl⟩))
  rotate_left
  · -- the row goes on
    obtain ⟨b2, hb2⟩ : ∃ b2, b2 = w.heap.size := ⟨_, rfl⟩
    have hB02 : Below w.heap.size w w2 := below_next (below_alloc (Below.refl _ w) _) hB2.out
    obtain ⟨WL, hWL⟩ : ∃ WL, WL = w2.alloc (Obj.cells #[Value.slice (some ⟨gl, 1, none⟩) (L.length - 1) (pc - 1)] 29) := ⟨_, rfl⟩
    obtain ⟨Bs, hBs⟩ : ∃ Bs, Bs = w2.heap.size := ⟨_, rfl⟩
    have hB2L : Below w2.heap.size w2 WL := by rw [hWL]; exact below_alloc (Below.refl _ w2) _
    have hBL : Below w.heap.size w WL := below_next hB02 hB2L
    have HTL : Hid (Turns (fun k => k = q) w WL) := Turns.of_below hBL _
    have hqs : q < w.heap.size := HC0.out.row.lt
    have hb2q : ¬ b2 = q := by omega
    have HC2 : Hid (WL.cell? ⟨b2, 0, none⟩ = some (ptr p)) := by
      have h1 := (hB2.out.cell (p := ⟨w.heap.size, 0, none⟩) (by show w.heap.size < _; rw [World.size_alloc]; omega)).trans c2
      rw [hb2]
      exact (hB2L.cell (p := ⟨w.heap.size, 0, none⟩) (World.block_lt_of_cell? _ _ h1)).trans h1
    have oBs : One WL Bs (.slice (some ⟨gl, 1, none⟩) (L.length - 1) (pc - 1)) 29 := by rw [hWL, hBs]; exact one_new w2 _ 29
    have hLN := hbf.out
    obtain ⟨f, hf⟩ : ∃ f : Nat → PlN N, ∀ j, (f j).1 = (L.length - 1 - 1 - j, L.getD (L.length - 1 - j) 0) := ⟨fun j => ⟨(L.length - 1 - 1 - j, L.getD (L.length - 1 - j) 0), hbf.out.lt _ (getD_mem' (by have := hbf.out.pos; omega))⟩, fun _ => rfl⟩
    have hglt : gl < w2.heap.size := (hown.out.lt gl rfl).2
    have hsL : WL.heap.size = w2.heap.size + 1 := by rw [hWL, World.size_alloc]
    have hlen0 : L.length - 1 ≤ 1000 := by
      have := nodup_lenZ L (List.range N) hbf.out.nodup (fun x hx => List.mem_range.2 (hbf.out.lt x hx))
      rw [List.length_range] at this
      omega
    have HSEQ := back_stops (N := N) Fence.wide 7 trivial rfl (by omega) Bs gl 1 (L.length - 1) (pc - 1) f hlen0 WL (by omega) (by omega) (box_cell oBs rfl) (fun j hj => ⟨by rw [hf], by
      rw [hf]
      have e : 1 + (L.length - 1 - 1 - j) = L.length - 1 - j := by omega
      rw [e]
      have hk : L[L.length - 1 - j]? = some (L.getD (L.length - 1 - j) 0) := by rw [getD_lt (by omega), List.getElem?_eq_getElem (by omega)]
      obtain ⟨g', e', hc'⟩ := qcell hown.out hk
      cases e'
      exact (hB2L.cell (p := ⟨gl, _, none⟩) hglt).trans hc'⟩)
    have hBsL : Bs < WL.heap.size := by omega
    have hglL : gl < WL.heap.size := by omega
    have hwL : w.heap.size ≤ WL.heap.size := hBL.size
    have hqgl : gl ≠ q := by have := (hown.out.lt gl rfl).1; rw [World.size_alloc] at this; omega
    have hqBs : Bs ≠ q := by have := hB02.size; omega
    have hrowL := HC0.out.row.block (hBL.block q hqs)
    rw [← hBs, ← hWL, ← hb2]
    clear hBs hWL hb2 hsz1 hsL c2 o2 hp1 H59 oBs
    refine wpIn_rangeFunc_ownG rfl (by omega) (gf := 81) (lb := #[.pointer (some ⟨Bs, 0, none⟩)]) rfl trivial (enters_of Tryz.func81 (by kernel_rfl) rfl)
      HSEQ KpZ.trans ?kb (Below.refl _ _) (fun _ => rfl)
      (fun pre W => ∃ col', RowV W q 3 N (iv col') ∧ Turns (fun k => k = q) WL W ∧ (pre = uptoZ f pre.length → ∀ m, Pc N m adj col → col last = -1 → (∀ x, x < N → (ls x).length ≤ m) → (∀ x y, adj x y = adj y x) → (∀ x, adj x x = false) → FillI N m adj L col pre.length col'))
      (fun _ _ _ => False) ?own (fun _ _ _ _ _ h => h.elim) ?start
      (fun x => { tmps := #[ptr p, .int .i64 (last : Int), .pointer (some ⟨b2, 0, none⟩), undef, .slice (some ⟨gl, 0, none⟩) L.length pc, undef, .int .i64 (x.1.2 : Int), ptr p, .pointer (some ⟨p, 0, none⟩), .pointer (some ⟨p, 0, none⟩), sl g N, .int .i64 (last : Int), .func (.func 60) #[] #[.pointer (some ⟨b2, 0, none⟩)], .slice (some ⟨gl, 0, none⟩) L.length pc, .slice (some ⟨gl, 0, none⟩) L.length pc, .slice (some ⟨gl, 1, none⟩) (L.length - 1) (pc - 1), .func (.func 81) #[] #[.pointer (some ⟨Bs, 0, none⟩)], .int .i64 (x.1.1 : Int), .int .i64 (x.1.2 : Int), undef, undef, undef, undef, undef, undef, undef, undef, undef, undef, undef, undef, undef, undef, undef], defers := [] }) ?assign ?body ?done ?stop
    case kb =>
      intro W l o o' hl hW _ _
      have hlt := (Array.getElem?_eq_some_iff.1 hW).1
      exact ⟨(grownBy_putObj' W l o').block Bs (by omega) (fun e => by cases e; omega), (grownBy_putObj' W l o').block gl (by omega) (fun e => by cases e; omega)⟩
    case own =>
      rintro pre W W' row ⟨col', hrow, hT, hfi⟩ hg hr
      exact ⟨col', hrow.grownZ hg (fun e => by have := (hr _ e).1; omega), hT.after (Turns.of_grown hg) (fun k hk => Or.inr ((hr k hk.symm).1)), hfi⟩
    case start => exact ⟨col, hrowL, Turns.refl _ _, fun _ m hp hl _ _ _ => FillI.start hp hbf.out hl⟩
    case assign =>
      intro l x W K hK
      gi_wp2
      exact hK
    case stop =>
      rintro D c pre W _ _ h _
      exact h.elim
    case done =>
      rintro D ys W hD hys ⟨col', hrow, hT, hfi⟩ hK
      gi_wp2
      refine ⟨by simp, .inl ⟨_, _, rfl, run_takeDeferred hK, ?_⟩⟩
      have hTW : Turns (fun k => k = q) w W := HTL.out.after hT (fun k hk => Or.inl hk)
      refine ⟨_, results_none rfl _ _ _, ⟨_, rfl⟩, L, col', hbf.out, hrow.grownZ (grownBy_putObj' W D _) (fun e => by cases e; omega), hTW.after (Turns.of_grown (grownBy_putObj' W D _)) (fun k hk => Or.inr (by cases hk; omega)), ?_⟩
      have hl : ys.length = L.length - 1 := by rw [hys, uptoZ_length]
      rw [hl] at hfi
      exact hfi hys
    case body =>
      rintro l pre x W ⟨col', hrow, hT, hfi⟩ hlen
      obtain ⟨⟨px, v⟩, hvN⟩ := x
      simp only at hvN
      have hTW : Turns (fun k => k = q) w W := HTL.out.after hT (fun k hk => Or.inl hk)
      have hCW : Coat W p q g N ls col' := ⟨box_turns HC0.out.box hTW (fun e => HC0.out.pq e), HC0.out.near.turns hTW (fun _ _ e => e), hrow⟩
      have c2W : W.cell? ⟨b2, 0, none⟩ = some (ptr p) := cell_turns HC2.out hT hb2q
      have cp0W := hCW.cells.1
      have cp1W := hCW.cells.2
      obtain ⟨xo, xc, cgW, hnum⟩ := hCW.near.z v hvN
      have i1 : (0 : Int) ≤ (v : Int) := by omega
      have i2 : (v : Int) < (N : Int) := by omega
      have he42 := enters_of Tryz.func42 (by kernel_rfl) rfl
      refine wpIn_block ?_
      refine region_invIn (J := fun a0 => FJc (A39 (fun s => a0.tmps.getD s undef)) (V39 p q g N v xo (ls v).length xc) (S39 W.drew (fun c => Lst (ls v) col' c) q v)) (by kernel_rfl) (by kernel_rfl) ?_ ?_ ?_
      · exact ⟨0, fun _ => undef, rfl, fun j hj => Bool.noConfusion hj, fun h => Bool.noConfusion h, fun _ => rfl, fun h => Bool.noConfusion h, fun h => Bool.noConfusion h⟩
      · intro i o hi M a' w1 hJ hLi hd
        obtain ⟨cc, f, rfl, hf, hws⟩ := hJ
        match i, hi with
        | 0, hi =>
          cases hi
          have hb := hws.early hLi (by omega)
          have e2 := (hb.cell (p := ⟨b2, 0, none⟩) (World.block_lt_of_cell? _ _ c2W)).trans c2W
          refine fjc_quiet ⟨(by intro _ h; cases h), (by intro _ h; cases h)⟩ rfl rfl (fun x => rfl) hf (hws.quiet (by omega) (by omega)) ?_
          simp [go_sem, A39, V39, Act.eval, e2]
        | 1, hi =>
          cases hi
          have d0 : f 0 = V39 p q g N v xo (ls v).length xc cc 0 := hf 0 (hd ⟨0, .data⟩ (by simp) rfl)
          refine fjc_quiet ⟨(by intro _ h; cases h), (by intro _ h; cases h)⟩ rfl rfl (fun x => rfl) hf (hws.quiet (by omega) (by omega)) ?_
          simp [go_sem, A39, V39, Act.eval, d0]
        | 2, hi =>
          cases hi
          have d1 : f 1 = V39 p q g N v xo (ls v).length xc cc 1 := hf 1 (hd ⟨1, .data⟩ (by simp) rfl)
          refine fjc_quiet ⟨(by intro _ h; cases h), (by intro _ h; cases h)⟩ rfl rfl (fun x => rfl) hf (hws.quiet (by omega) (by omega)) ?_
          simp [go_sem, A39, V39, Act.eval, d1]
        | 3, hi =>
          cases hi
          have d2 : f 2 = V39 p q g N v xo (ls v).length xc cc 2 := hf 2 (hd ⟨2, .data⟩ (by simp) rfl)
          have hb := hws.early hLi (by omega)
          have ep1 := (hb.cell (p := ⟨p, 1, none⟩) (World.block_lt_of_cell? _ _ cp1W)).trans cp1W
          refine fjc_quiet ⟨(by intro _ h; cases h), (by intro _ h; cases h)⟩ rfl rfl (fun x => rfl) hf (hws.quiet (by omega) (by omega)) ?_
          simp [go_sem, A39, V39, Act.eval, ep1, d2]
        | 4, hi =>
          cases hi
          refine fjc_quiet ⟨(by intro _ h; cases h), (by intro _ h; cases h)⟩ rfl rfl (fun x => rfl) hf (hws.quiet (by omega) (by omega)) ?_
          simp [go_sem, A39, V39, Act.eval]
        | 5, hi =>
          cases hi
          have hb := hws.early hLi (by omega)
          have e2 := (hb.cell (p := ⟨b2, 0, none⟩) (World.block_lt_of_cell? _ _ c2W)).trans c2W
          refine fjc_quiet ⟨(by intro _ h; cases h), (by intro _ h; cases h)⟩ rfl rfl (fun x => rfl) hf (hws.quiet (by omega) (by omega)) ?_
          simp [go_sem, A39, V39, Act.eval, e2]
        | 6, hi =>
          cases hi
          have hb := hws.early hLi (by omega)
          have e2 := (hb.cell (p := ⟨b2, 0, none⟩) (World.block_lt_of_cell? _ _ c2W)).trans c2W
          refine fjc_quiet ⟨(by intro _ h; cases h), (by intro _ h; cases h)⟩ rfl rfl (fun x => rfl) hf (hws.quiet (by omega) (by omega)) ?_
          simp [go_sem, A39, V39, Act.eval, e2]
        | 7, hi =>
          cases hi
          have d6 : f 6 = V39 p q g N v xo (ls v).length xc cc 6 := hf 6 (hd ⟨6, .data⟩ (by simp) rfl)
          refine fjc_quiet ⟨(by intro _ h; cases h), (by intro _ h; cases h)⟩ rfl rfl (fun x => rfl) hf (hws.quiet (by omega) (by omega)) ?_
          simp [go_sem, A39, V39, Act.eval, d6]
        | 8, hi =>
          cases hi
          have d7 : f 7 = V39 p q g N v xo (ls v).length xc cc 7 := hf 7 (hd ⟨7, .data⟩ (by simp) rfl)
          refine fjc_quiet ⟨(by intro _ h; cases h), (by intro _ h; cases h)⟩ rfl rfl (fun x => rfl) hf (hws.quiet (by omega) (by omega)) ?_
          simp [go_sem, A39, V39, Act.eval, d7]
        | 9, hi =>
          cases hi
          have d8 : f 8 = V39 p q g N v xo (ls v).length xc cc 8 := hf 8 (hd ⟨8, .data⟩ (by simp) rfl)
          have hb := hws.early hLi (by omega)
          have ep0 := (hb.cell (p := ⟨p, 0, none⟩) (World.block_lt_of_cell? _ _ cp0W)).trans cp0W
          refine fjc_quiet ⟨(by intro _ h; cases h), (by intro _ h; cases h)⟩ rfl rfl (fun x => rfl) hf (hws.quiet (by omega) (by omega)) ?_
          simp [go_sem, A39, V39, Act.eval, ep0, d8]
        | 10, hi =>
          cases hi
          refine fjc_quiet ⟨(by intro _ h; cases h), (by intro _ h; cases h)⟩ rfl rfl (fun x => rfl) hf (hws.quiet (by omega) (by omega)) ?_
          simp [go_sem, A39, V39, Act.eval]
        | 11, hi =>
          cases hi
          have d9 : f 9 = V39 p q g N v xo (ls v).length xc cc 9 := hf 9 (hd ⟨9, .data⟩ (by simp) rfl)
          have d10 : f 10 = V39 p q g N v xo (ls v).length xc cc 10 := hf 10 (hd ⟨10, .data⟩ (by simp) rfl)
          refine fjc_quiet ⟨(by intro _ h; cases h), (by intro _ h; cases h)⟩ rfl rfl (fun x => rfl) hf (hws.quiet (by omega) (by omega)) ?_
          simp [go_sem, A39, V39, Act.eval, i1, i2, d9, d10]
        | 12, hi =>
          cases hi
          have d11 : f 11 = V39 p q g N v xo (ls v).length xc cc 11 := hf 11 (hd ⟨11, .data⟩ (by simp) rfl)
          have hb := hws.early hLi (by omega)
          have eg := (hb.cell (p := ⟨g, v, none⟩) (World.block_lt_of_cell? _ _ cgW)).trans cgW
          refine fjc_quiet ⟨(by intro _ h; cases h), (by intro _ h; cases h)⟩ rfl rfl (fun x => rfl) hf (hws.quiet (by omega) (by omega)) ?_
          simp [go_sem, A39, V39, Act.eval, eg, d11]
        | 13, hi =>
          cases hi
          have d5 : f 5 = V39 p q g N v xo (ls v).length xc cc 5 := hf 5 (hd ⟨5, .data⟩ (by simp) rfl)
          have d12 : f 12 = V39 p q g N v xo (ls v).length xc cc 12 := hf 12 (hd ⟨12, .data⟩ (by simp) rfl)
          have hb := hws.early hLi (by omega)
          have hw1 := hws.w0 hLi
          refine wpOpIn_call (f := 42) (args := #[ptr p, .slice xo (ls v).length xc]) (fun _ => trivial) rfl (by intro _ h; cases h) rfl rfl (w' := w1) ?_ ?_
          · simp [go_sem, A39, V39, Act.eval, d5, d12]
          · refine (CallsIn.inRound l (callsIn_wide.2 (unused_call (hCW.below (by rw [hw1]; exact drewN_below W 1)) (by rw [hw1]; exact hnum.below (drewN_below W 1)) (HLL.out v hvN) (fun y hy => ((HLS.out v y hvN).1 hy).1)))).mono ?_
            rintro e w3 ⟨⟨c, rfl, hc⟩, hB3⟩
            refine ⟨_, rfl, c, updV f 13 (.int .i64 (c : Int)), rfl, fun j hj => ?_, ⟨fun h => ?_, fun h => ?_, fun _ _ => ⟨by rw [← hw1]; exact hB3, hc⟩, fun h => ?_⟩⟩
            · by_cases ej : j = 13
              · subst ej; rfl
              · have e1 : updV f 13 (.int .i64 (c : Int)) j = f j := if_neg ej
                rw [e1, hf j (also_ne hj ej)]
                exact V39_ne ej
            · rw [also_atZ (by omega), hws.n15 hLi (by omega)] at h; cases h
            · rw [also_self] at h; cases h
            · rw [also_atZ (by omega), hws.n15 hLi (by omega)] at h; cases h
        | 14, hi =>
          cases hi
          have d3 : f 3 = V39 p q g N v xo (ls v).length xc cc 3 := hf 3 (hd ⟨3, .data⟩ (by simp) rfl)
          have d4 : f 4 = V39 p q g N v xo (ls v).length xc cc 4 := hf 4 (hd ⟨4, .data⟩ (by simp) rfl)
          refine fjc_quiet ⟨(by intro _ h; cases h), (by intro _ h; cases h)⟩ rfl rfl (fun x => rfl) hf (hws.quiet (by omega) (by omega)) ?_
          simp [go_sem, A39, V39, Act.eval, i1, i2, d3, d4]
        | 15, hi =>
          cases hi
          have d13 : f 13 = V39 p q g N v xo (ls v).length xc cc 13 := hf 13 (hd ⟨13, .data⟩ (by simp) rfl)
          have d14 : f 14 = V39 p q g N v xo (ls v).length xc cc 14 := hf 14 (hd ⟨14, .data⟩ (by simp) rfl)
          have hall : ∀ j, j < 15 → M j = true := fun j hj => by
            match j, hj with
            | 0, _ => exact hd ⟨0, .phase⟩ (by simp) rfl
            | 1, _ => exact hd ⟨1, .phase⟩ (by simp) rfl
            | 2, _ => exact hd ⟨2, .phase⟩ (by simp) rfl
            | 3, _ => exact hd ⟨3, .phase⟩ (by simp) rfl
            | 4, _ => exact hd ⟨4, .phase⟩ (by simp) rfl
            | 5, _ => exact hd ⟨5, .phase⟩ (by simp) rfl
            | 6, _ => exact hd ⟨6, .phase⟩ (by simp) rfl
            | 7, _ => exact hd ⟨7, .phase⟩ (by simp) rfl
            | 8, _ => exact hd ⟨8, .phase⟩ (by simp) rfl
            | 9, _ => exact hd ⟨9, .phase⟩ (by simp) rfl
            | 10, _ => exact hd ⟨10, .phase⟩ (by simp) rfl
            | 11, _ => exact hd ⟨11, .phase⟩ (by simp) rfl
            | 12, _ => exact hd ⟨12, .phase⟩ (by simp) rfl
            | 13, _ => exact hd ⟨13, .phase⟩ (by simp) rfl
            | 14, _ => exact hd ⟨14, .data⟩ (by simp) rfl
            | k + 15, h => omega
          obtain ⟨hb, hR⟩ := hws.w1 (hd ⟨13, .data⟩ (by simp) rfl) hLi
          have cqW : W.drew.cell? ⟨q, v, none⟩ = some (.int .i64 (col' v)) := hrow.cell hvN
          have eq1 := (hb.cell (p := ⟨q, v, none⟩) (World.block_lt_of_cell? _ _ cqW)).trans cqW
          have fq1 : w1.frozen? ⟨q, v, none⟩ = false := (hrow.block (hb.block _ hrow.lt)).free v
          refine wpOpIn_skip ⟨(by intro _ h; cases h), (by intro _ h; cases h)⟩ rfl rfl (w' := w1.setCell ⟨q, v, none⟩ (.int .i64 (cc : Int))) ?_ ?_
          · simp [go_sem, A39, V39, Act.eval, d13, d14, eq1, fq1]
          · refine ⟨cc, updV f 15 undef, rfl, fun j hj => ?_, ⟨fun _ j hj => ?_, fun h => ?_, fun _ h => ?_, fun _ => ⟨w1, hb, hR, rfl⟩⟩⟩
            · exact (updV_told (V := V39 p q g N v xo (ls v).length xc cc) (i := 15) hf) j hj
            · exact also_of (hall j hj) 15
            · rw [also_atZ (by omega), hd ⟨13, .data⟩ (by simp) rfl] at h; cases h
            · rw [also_self] at h; cases h
        | k + 16, hi => cases hi
      · intro M a' w1 hJ hall
        obtain ⟨cc, f9, rfl, hf9, hws⟩ := hJ
        clear hf9
        obtain ⟨w3, hb, hR, rfl⟩ := hws.w2 (hall 15 (by simp))
        have hsz := hT.size
        have hb' : Below W.heap.size W w3 := (drewN_below W 1).trans hb
        refine ⟨⟨?_, fun k o hBk hk ho => ?_⟩, ⟨?_, ?_⟩, updC col' v cc, ((hCW.below hb').set v cc).row, (hT.after (Turns.of_below hb' (fun _ => False)) (fun _ h => h.elim)).after (setCell_turns w3 q v _) (fun k hk => Or.inl hk), ?_⟩
        · rw [World.size_setCell]; exact hb'.size
        · exact (Below.heap_setCell _ _ _ _ (show k ≠ q from fun e => by omega)).trans ((hb'.block k (Array.getElem?_eq_some_iff.1 hk).1).trans hk)
        · exact (Below.heap_setCell _ _ _ _ hqBs).trans (hb'.block Bs (by omega))
        · exact (Below.heap_setCell _ _ _ _ hqgl).trans (hb'.block gl (by omega))
        · intro hpre m hPc hl hdeg hsym hirr
          rw [List.length_append, List.length_singleton, uptoZ_succ] at hpre
          obtain ⟨e1, e2⟩ := List.append_inj' hpre rfl
          have ev : v = L.getD (L.length - 1 - pre.length) 0 := by
            have := congrArg (fun z : PlN N => z.1.2) (List.singleton_inj.1 e2)
            simp only [hf] at this
            exact this
          have h9 := (hfi e1 m hPc hl hdeg hsym hirr).next (nb := ls v) hbf.out hsym hirr (by omega) (fun y hy ha => (HLS.out v y hvN).2 ⟨hy, by rw [ev]; exact ha⟩) (hdeg v hvN) hR
          rw [List.length_append, List.length_singleton]
          rw [← ev] at h9
          exact h9.2

  · -- the row is at its end
    have hpc : pc = 1 := by assumption
    subst hpc
    obtain ⟨b2, hb2⟩ : ∃ b2, b2 = w.heap.size := ⟨_, rfl⟩
    have hB02 : Below w.heap.size w w2 := below_next (below_alloc (Below.refl _ w) _) hB2.out
    obtain ⟨WL, hWL⟩ : ∃ WL, WL = w2.alloc (Obj.cells #[Value.slice (some ⟨gl, 0, none⟩) (L.length - 1) 0] 29) := ⟨_, rfl⟩
    obtain ⟨Bs, hBs⟩ : ∃ Bs, Bs = w2.heap.size := ⟨_, rfl⟩
    have hB2L : Below w2.heap.size w2 WL := by rw [hWL]; exact below_alloc (Below.refl _ w2) _
    have hBL : Below w.heap.size w WL := below_next hB02 hB2L
    have HTL : Hid (Turns (fun k => k = q) w WL) := Turns.of_below hBL _
    have hqs : q < w.heap.size := HC0.out.row.lt
    have hb2q : ¬ b2 = q := by omega
    have HC2 : Hid (WL.cell? ⟨b2, 0, none⟩ = some (ptr p)) := by
      have h1 := (hB2.out.cell (p := ⟨w.heap.size, 0, none⟩) (by show w.heap.size < _; rw [World.size_alloc]; omega)).trans c2
      rw [hb2]
      exact (hB2L.cell (p := ⟨w.heap.size, 0, none⟩) (World.block_lt_of_cell? _ _ h1)).trans h1
    have oBs : One WL Bs (.slice (some ⟨gl, 0, none⟩) (L.length - 1) 0) 29 := by rw [hWL, hBs]; exact one_new w2 _ 29
    have hLN := hbf.out
    obtain ⟨f, hf⟩ : ∃ f : Nat → PlN N, ∀ j, (f j).1 = (L.length - 1 - 1 - j, L.getD (L.length - 1 - j) 0) := ⟨fun j => ⟨(L.length - 1 - 1 - j, L.getD (L.length - 1 - j) 0), hbf.out.lt _ (getD_mem' (by have := hbf.out.pos; omega))⟩, fun _ => rfl⟩
    have hglt : gl < w2.heap.size := (hown.out.lt gl rfl).2
    have hsL : WL.heap.size = w2.heap.size + 1 := by rw [hWL, World.size_alloc]
    have hlen0 : L.length - 1 ≤ 1000 := by
      have := nodup_lenZ L (List.range N) hbf.out.nodup (fun x hx => List.mem_range.2 (hbf.out.lt x hx))
      rw [List.length_range] at this
      omega
    have HSEQ := back_stops (N := N) Fence.wide 7 trivial rfl (by omega) Bs gl 0 (L.length - 1) 0 f hlen0 WL (by omega) (by omega) (box_cell oBs rfl) (fun j hj => ⟨by rw [hf], by
      rw [hf]
      exact absurd hj (by have := ownCap hown.out; omega)⟩)
    have hBsL : Bs < WL.heap.size := by omega
    have hglL : gl < WL.heap.size := by omega
    have hwL : w.heap.size ≤ WL.heap.size := hBL.size
    have hqgl : gl ≠ q := by have := (hown.out.lt gl rfl).1; rw [World.size_alloc] at this; omega
    have hqBs : Bs ≠ q := by have := hB02.size; omega
    have hrowL := HC0.out.row.block (hBL.block q hqs)
    rw [← hBs, ← hWL, ← hb2]
    clear hBs hWL hb2 hsz1 hsL c2 o2 hp1 H59 oBs
    refine wpIn_rangeFunc_ownG rfl (by omega) (gf := 81) (lb := #[.pointer (some ⟨Bs, 0, none⟩)]) rfl trivial (enters_of Tryz.func81 (by kernel_rfl) rfl)
      HSEQ KpZ.trans ?kb (Below.refl _ _) (fun _ => rfl)
      (fun pre W => ∃ col', RowV W q 3 N (iv col') ∧ Turns (fun k => k = q) WL W ∧ (pre = uptoZ f pre.length → ∀ m, Pc N m adj col → col last = -1 → (∀ x, x < N → (ls x).length ≤ m) → (∀ x y, adj x y = adj y x) → (∀ x, adj x x = false) → FillI N m adj L col pre.length col'))
      (fun _ _ _ => False) ?own (fun _ _ _ _ _ h => h.elim) ?start
      (fun x => { tmps := #[ptr p, .int .i64 (last : Int), .pointer (some ⟨b2, 0, none⟩), undef, .slice (some ⟨gl, 0, none⟩) L.length 1, undef, .int .i64 (x.1.2 : Int), ptr p, .pointer (some ⟨p, 0, none⟩), .pointer (some ⟨p, 0, none⟩), sl g N, .int .i64 (last : Int), .func (.func 60) #[] #[.pointer (some ⟨b2, 0, none⟩)], .slice (some ⟨gl, 0, none⟩) L.length 1, .slice (some ⟨gl, 0, none⟩) L.length 1, .slice (some ⟨gl, 0, none⟩) (L.length - 1) 0, .func (.func 81) #[] #[.pointer (some ⟨Bs, 0, none⟩)], .int .i64 (x.1.1 : Int), .int .i64 (x.1.2 : Int), undef, undef, undef, undef, undef, undef, undef, undef, undef, undef, undef, undef, undef, undef, undef], defers := [] }) ?assign ?body ?done ?stop
    case kb =>
      intro W l o o' hl hW _ _
      have hlt := (Array.getElem?_eq_some_iff.1 hW).1
      exact ⟨(grownBy_putObj' W l o').block Bs (by omega) (fun e => by cases e; omega), (grownBy_putObj' W l o').block gl (by omega) (fun e => by cases e; omega)⟩
    case own =>
      rintro pre W W' row ⟨col', hrow, hT, hfi⟩ hg hr
      exact ⟨col', hrow.grownZ hg (fun e => by have := (hr _ e).1; omega), hT.after (Turns.of_grown hg) (fun k hk => Or.inr ((hr k hk.symm).1)), hfi⟩
    case start => exact ⟨col, hrowL, Turns.refl _ _, fun _ m hp hl _ _ _ => FillI.start hp hbf.out hl⟩
    case assign =>
      intro l x W K hK
      gi_wp2
      exact hK
    case stop =>
      rintro D c pre W _ _ h _
      exact h.elim
    case done =>
      rintro D ys W hD hys ⟨col', hrow, hT, hfi⟩ hK
      gi_wp2
      refine ⟨by simp, .inl ⟨_, _, rfl, run_takeDeferred hK, ?_⟩⟩
      have hTW : Turns (fun k => k = q) w W := HTL.out.after hT (fun k hk => Or.inl hk)
      refine ⟨_, results_none rfl _ _ _, ⟨_, rfl⟩, L, hbf.out, col', hrow.grownZ (grownBy_putObj' W D _) (fun e => by cases e; omega), hTW.after (Turns.of_grown (grownBy_putObj' W D _)) (fun k hk => Or.inr (by cases hk; omega)), ?_⟩
      have hl : ys.length = L.length - 1 := by rw [hys, uptoZ_length]
      rw [hl] at hfi
      exact hfi hys
    case body =>
      rintro l pre x W ⟨col', hrow, hT, hfi⟩ hlen
      obtain ⟨⟨px, v⟩, hvN⟩ := x
      simp only at hvN
      have hTW : Turns (fun k => k = q) w W := HTL.out.after hT (fun k hk => Or.inl hk)
      have hCW : Coat W p q g N ls col' := ⟨box_turns HC0.out.box hTW (fun e => HC0.out.pq e), HC0.out.near.turns hTW (fun _ _ e => e), hrow⟩
      have c2W : W.cell? ⟨b2, 0, none⟩ = some (ptr p) := cell_turns HC2.out hT hb2q
      have cp0W := hCW.cells.1
      have cp1W := hCW.cells.2
      obtain ⟨xo, xc, cgW, hnum⟩ := hCW.near.z v hvN
      have i1 : (0 : Int) ≤ (v : Int) := by omega
      have i2 : (v : Int) < (N : Int) := by omega
      have he42 := enters_of Tryz.func42 (by kernel_rfl) rfl
      refine wpIn_block ?_
      refine region_invIn (J := fun a0 => FJc (A39 (fun s => a0.tmps.getD s undef)) (V39 p q g N v xo (ls v).length xc) (S39 W.drew (fun c => Lst (ls v) col' c) q v)) (by kernel_rfl) (by kernel_rfl) ?_ ?_ ?_
      · exact ⟨0, fun _ => undef, rfl, fun j hj => Bool.noConfusion hj, fun h => Bool.noConfusion h, fun _ => rfl, fun h => Bool.noConfusion h, fun h => Bool.noConfusion h⟩
      · intro i o hi M a' w1 hJ hLi hd
        obtain ⟨cc, f, rfl, hf, hws⟩ := hJ
        match i, hi with
        | 0, hi =>
          cases hi
          have hb := hws.early hLi (by omega)
          have e2 := (hb.cell (p := ⟨b2, 0, none⟩) (World.block_lt_of_cell? _ _ c2W)).trans c2W
          refine fjc_quiet ⟨(by intro _ h; cases h), (by intro _ h; cases h)⟩ rfl rfl (fun x => rfl) hf (hws.quiet (by omega) (by omega)) ?_
          simp [go_sem, A39, V39, Act.eval, e2]
        | 1, hi =>
          cases hi
          have d0 : f 0 = V39 p q g N v xo (ls v).length xc cc 0 := hf 0 (hd ⟨0, .data⟩ (by simp) rfl)
          refine fjc_quiet ⟨(by intro _ h; cases h), (by intro _ h; cases h)⟩ rfl rfl (fun x => rfl) hf (hws.quiet (by omega) (by omega)) ?_
          simp [go_sem, A39, V39, Act.eval, d0]
        | 2, hi =>
          cases hi
          have d1 : f 1 = V39 p q g N v xo (ls v).length xc cc 1 := hf 1 (hd ⟨1, .data⟩ (by simp) rfl)
          refine fjc_quiet ⟨(by intro _ h; cases h), (by intro _ h; cases h)⟩ rfl rfl (fun x => rfl) hf (hws.quiet (by omega) (by omega)) ?_
          simp [go_sem, A39, V39, Act.eval, d1]
        | 3, hi =>
          cases hi
          have d2 : f 2 = V39 p q g N v xo (ls v).length xc cc 2 := hf 2 (hd ⟨2, .data⟩ (by simp) rfl)
          have hb := hws.early hLi (by omega)
          have ep1 := (hb.cell (p := ⟨p, 1, none⟩) (World.block_lt_of_cell? _ _ cp1W)).trans cp1W
          refine fjc_quiet ⟨(by intro _ h; cases h), (by intro _ h; cases h)⟩ rfl rfl (fun x => rfl) hf (hws.quiet (by omega) (by omega)) ?_
          simp [go_sem, A39, V39, Act.eval, ep1, d2]
        | 4, hi =>
          cases hi
          refine fjc_quiet ⟨(by intro _ h; cases h), (by intro _ h; cases h)⟩ rfl rfl (fun x => rfl) hf (hws.quiet (by omega) (by omega)) ?_
          simp [go_sem, A39, V39, Act.eval]
        | 5, hi =>
          cases hi
          have hb := hws.early hLi (by omega)
          have e2 := (hb.cell (p := ⟨b2, 0, none⟩) (World.block_lt_of_cell? _ _ c2W)).trans c2W
          refine fjc_quiet ⟨(by intro _ h; cases h), (by intro _ h; cases h)⟩ rfl rfl (fun x => rfl) hf (hws.quiet (by omega) (by omega)) ?_
          simp [go_sem, A39, V39, Act.eval, e2]
        | 6, hi =>
          cases hi
          have hb := hws.early hLi (by omega)
          have e2 := (hb.cell (p := ⟨b2, 0, none⟩) (World.block_lt_of_cell? _ _ c2W)).trans c2W
          refine fjc_quiet ⟨(by intro _ h; cases h), (by intro _ h; cases h)⟩ rfl rfl (fun x => rfl) hf (hws.quiet (by omega) (by omega)) ?_
          simp [go_sem, A39, V39, Act.eval, e2]
        | 7, hi =>
          cases hi
          have d6 : f 6 = V39 p q g N v xo (ls v).length xc cc 6 := hf 6 (hd ⟨6, .data⟩ (by simp) rfl)
          refine fjc_quiet ⟨(by intro _ h; cases h), (by intro _ h; cases h)⟩ rfl rfl (fun x => rfl) hf (hws.quiet (by omega) (by omega)) ?_
          simp [go_sem, A39, V39, Act.eval, d6]
        | 8, hi =>
          cases hi
          have d7 : f 7 = V39 p q g N v xo (ls v).length xc cc 7 := hf 7 (hd ⟨7, .data⟩ (by simp) rfl)
          refine fjc_quiet ⟨(by intro _ h; cases h), (by intro _ h; cases h)⟩ rfl rfl (fun x => rfl) hf (hws.quiet (by omega) (by omega)) ?_
          simp [go_sem, A39, V39, Act.eval, d7]
        | 9, hi =>
          cases hi
          have d8 : f 8 = V39 p q g N v xo (ls v).length xc cc 8 := hf 8 (hd ⟨8, .data⟩ (by simp) rfl)
          have hb := hws.early hLi (by omega)
          have ep0 := (hb.cell (p := ⟨p, 0, none⟩) (World.block_lt_of_cell? _ _ cp0W)).trans cp0W
          refine fjc_quiet ⟨(by intro _ h; cases h), (by intro _ h; cases h)⟩ rfl rfl (fun x => rfl) hf (hws.quiet (by omega) (by omega)) ?_
          simp [go_sem, A39, V39, Act.eval, ep0, d8]
        | 10, hi =>
          cases hi
          refine fjc_quiet ⟨(by intro _ h; cases h), (by intro _ h; cases h)⟩ rfl rfl (fun x => rfl) hf (hws.quiet (by omega) (by omega)) ?_
          simp [go_sem, A39, V39, Act.eval]
        | 11, hi =>
          cases hi
          have d9 : f 9 = V39 p q g N v xo (ls v).length xc cc 9 := hf 9 (hd ⟨9, .data⟩ (by simp) rfl)
          have d10 : f 10 = V39 p q g N v xo (ls v).length xc cc 10 := hf 10 (hd ⟨10, .data⟩ (by simp) rfl)
          refine fjc_quiet ⟨(by intro _ h; cases h), (by intro _ h; cases h)⟩ rfl rfl (fun x => rfl) hf (hws.quiet (by omega) (by omega)) ?_
          simp [go_sem, A39, V39, Act.eval, i1, i2, d9, d10]
        | 12, hi =>
          cases hi
          have d11 : f 11 = V39 p q g N v xo (ls v).length xc cc 11 := hf 11 (hd ⟨11, .data⟩ (by simp) rfl)
          have hb := hws.early hLi (by omega)
          have eg := (hb.cell (p := ⟨g, v, none⟩) (World.block_lt_of_cell? _ _ cgW)).trans cgW
          refine fjc_quiet ⟨(by intro _ h; cases h), (by intro _ h; cases h)⟩ rfl rfl (fun x => rfl) hf (hws.quiet (by omega) (by omega)) ?_
          simp [go_sem, A39, V39, Act.eval, eg, d11]
        | 13, hi =>
          cases hi
          have d5 : f 5 = V39 p q g N v xo (ls v).length xc cc 5 := hf 5 (hd ⟨5, .data⟩ (by simp) rfl)
          have d12 : f 12 = V39 p q g N v xo (ls v).length xc cc 12 := hf 12 (hd ⟨12, .data⟩ (by simp) rfl)
          have hb := hws.early hLi (by omega)
          have hw1 := hws.w0 hLi
          refine wpOpIn_call (f := 42) (args := #[ptr p, .slice xo (ls v).length xc]) (fun _ => trivial) rfl (by intro _ h; cases h) rfl rfl (w' := w1) ?_ ?_
          · simp [go_sem, A39, V39, Act.eval, d5, d12]
          · refine (CallsIn.inRound l (callsIn_wide.2 (unused_call (hCW.below (by rw [hw1]; exact drewN_below W 1)) (by rw [hw1]; exact hnum.below (drewN_below W 1)) (HLL.out v hvN) (fun y hy => ((HLS.out v y hvN).1 hy).1)))).mono ?_
            rintro e w3 ⟨⟨c, rfl, hc⟩, hB3⟩
            refine ⟨_, rfl, c, updV f 13 (.int .i64 (c : Int)), rfl, fun j hj => ?_, ⟨fun h => ?_, fun h => ?_, fun _ _ => ⟨by rw [← hw1]; exact hB3, hc⟩, fun h => ?_⟩⟩
            · by_cases ej : j = 13
              · subst ej; rfl
              · have e1 : updV f 13 (.int .i64 (c : Int)) j = f j := if_neg ej
                rw [e1, hf j (also_ne hj ej)]
                exact V39_ne ej
            · rw [also_atZ (by omega), hws.n15 hLi (by omega)] at h; cases h
            · rw [also_self] at h; cases h
            · rw [also_atZ (by omega), hws.n15 hLi (by omega)] at h; cases h
        | 14, hi =>
          cases hi
          have d3 : f 3 = V39 p q g N v xo (ls v).length xc cc 3 := hf 3 (hd ⟨3, .data⟩ (by simp) rfl)
          have d4 : f 4 = V39 p q g N v xo (ls v).length xc cc 4 := hf 4 (hd ⟨4, .data⟩ (by simp) rfl)
          refine fjc_quiet ⟨(by intro _ h; cases h), (by intro _ h; cases h)⟩ rfl rfl (fun x => rfl) hf (hws.quiet (by omega) (by omega)) ?_
          simp [go_sem, A39, V39, Act.eval, i1, i2, d3, d4]
        | 15, hi =>
          cases hi
          have d13 : f 13 = V39 p q g N v xo (ls v).length xc cc 13 := hf 13 (hd ⟨13, .data⟩ (by simp) rfl)
          have d14 : f 14 = V39 p q g N v xo (ls v).length xc cc 14 := hf 14 (hd ⟨14, .data⟩ (by simp) rfl)
          have hall : ∀ j, j < 15 → M j = true := fun j hj => by
            match j, hj with
            | 0, _ => exact hd ⟨0, .phase⟩ (by simp) rfl
            | 1, _ => exact hd ⟨1, .phase⟩ (by simp) rfl
            | 2, _ => exact hd ⟨2, .phase⟩ (by simp) rfl
            | 3, _ => exact hd ⟨3, .phase⟩ (by simp) rfl
            | 4, _ => exact hd ⟨4, .phase⟩ (by simp) rfl
            | 5, _ => exact hd ⟨5, .phase⟩ (by simp) rfl
            | 6, _ => exact hd ⟨6, .phase⟩ (by simp) rfl
            | 7, _ => exact hd ⟨7, .phase⟩ (by simp) rfl
            | 8, _ => exact hd ⟨8, .phase⟩ (by simp) rfl
            | 9, _ => exact hd ⟨9, .phase⟩ (by simp) rfl
            | 10, _ => exact hd ⟨10, .phase⟩ (by simp) rfl
            | 11, _ => exact hd ⟨11, .phase⟩ (by simp) rfl
            | 12, _ => exact hd ⟨12, .phase⟩ (by simp) rfl
            | 13, _ => exact hd ⟨13, .phase⟩ (by simp) rfl
            | 14, _ => exact hd ⟨14, .data⟩ (by simp) rfl
            | k + 15, h => omega
          obtain ⟨hb, hR⟩ := hws.w1 (hd ⟨13, .data⟩ (by simp) rfl) hLi
          have cqW : W.drew.cell? ⟨q, v, none⟩ = some (.int .i64 (col' v)) := hrow.cell hvN
          have eq1 := (hb.cell (p := ⟨q, v, none⟩) (World.block_lt_of_cell? _ _ cqW)).trans cqW
          have fq1 : w1.frozen? ⟨q, v, none⟩ = false := (hrow.block (hb.block _ hrow.lt)).free v
          refine wpOpIn_skip ⟨(by intro _ h; cases h), (by intro _ h; cases h)⟩ rfl rfl (w' := w1.setCell ⟨q, v, none⟩ (.int .i64 (cc : Int))) ?_ ?_
          · simp [go_sem, A39, V39, Act.eval, d13, d14, eq1, fq1]
          · refine ⟨cc, updV f 15 undef, rfl, fun j hj => ?_, ⟨fun _ j hj => ?_, fun h => ?_, fun _ h => ?_, fun _ => ⟨w1, hb, hR, rfl⟩⟩⟩
            · exact (updV_told (V := V39 p q g N v xo (ls v).length xc cc) (i := 15) hf) j hj
            · exact also_of (hall j hj) 15
            · rw [also_atZ (by omega), hd ⟨13, .data⟩ (by simp) rfl] at h; cases h
            · rw [also_self] at h; cases h
        | k + 16, hi => cases hi
      · intro M a' w1 hJ hall
        obtain ⟨cc, f9, rfl, hf9, hws⟩ := hJ
        clear hf9
        obtain ⟨w3, hb, hR, rfl⟩ := hws.w2 (hall 15 (by simp))
        have hsz := hT.size
        have hb' : Below W.heap.size W w3 := (drewN_below W 1).trans hb
        refine ⟨⟨?_, fun k o hBk hk ho => ?_⟩, ⟨?_, ?_⟩, updC col' v cc, ((hCW.below hb').set v cc).row, (hT.after (Turns.of_below hb' (fun _ => False)) (fun _ h => h.elim)).after (setCell_turns w3 q v _) (fun k hk => Or.inl hk), ?_⟩
        · rw [World.size_setCell]; exact hb'.size
        · exact (Below.heap_setCell _ _ _ _ (show k ≠ q from fun e => by omega)).trans ((hb'.block k (Array.getElem?_eq_some_iff.1 hk).1).trans hk)
        · exact (Below.heap_setCell _ _ _ _ hqBs).trans (hb'.block Bs (by omega))
        · exact (Below.heap_setCell _ _ _ _ hqgl).trans (hb'.block gl (by omega))
        · intro hpre m hPc hl hdeg hsym hirr
          rw [List.length_append, List.length_singleton, uptoZ_succ] at hpre
          obtain ⟨e1, e2⟩ := List.append_inj' hpre rfl
          have ev : v = L.getD (L.length - 1 - pre.length) 0 := by
            have := congrArg (fun z : PlN N => z.1.2) (List.singleton_inj.1 e2)
            simp only [hf] at this
            exact this
          have h9 := (hfi e1 m hPc hl hdeg hsym hirr).next (nb := ls v) hbf.out hsym hirr (by omega) (fun y hy ha => (HLS.out v y hvN).2 ⟨hy, by rw [ev]; exact ha⟩) (hdeg v hvN) hR
          rw [List.length_append, List.length_singleton]
          rw [← ev] at h9
          exact h9.2

end
end Go.Proofs.YtdnmoifbkojnlaaGreat
