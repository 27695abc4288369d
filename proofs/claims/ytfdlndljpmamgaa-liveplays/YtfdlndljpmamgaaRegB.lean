/- The law's regions that keep a deed, or keep the last no more. -/
import Derived.Test.YtfdlndljpmamgaaRegA
import Derived.Test.YtfdlndljpmamgaaLawN
namespace Go.Proofs.Ytfdlndljpmamgaa
set_option maxRecDepth 8000
open Go.RowKit Go.Maps
theorem wpOp_append {P : Program} {ops : Array Oper} {Q : Exit → Act → World → Prop} {i : Nat} {o : Oper} {a : Act} {w : World} {K : Act → World → Prop} (hi : ops[i]? = some o) (hw : Region.wanted o (yielded ops a.tmps) = true) (s x : Operand) (t : TypeId)
    (ho : o.op = .call { callee := .builtin .append, args := #[s, x], argTypes := #[t, t] }) {v y z : Value} {w' : World} (hs : a.eval s = v) (hx : a.eval x = y) (hr : (Builtin.append_ #[t, t] o.type #[v, y]).run P w = .ok z w') (h : K (a.put o.dst z) w') : wpOp P ops Q i K a w := by
  refine wpOp_value hi hw (v := z) (w' := w') ?_ h
  simp only [execOp, ho, resolve, invoke, builtin, Sem.run_bind, Sem.run_pure, Result.andThen_ok, List.map_toArray, List.map_cons, List.map_nil, hs, hx, hr]
theorem Try.info33 : (Try.prog.info? 33).map (fun i => (i.zero, i.size, i.bytes)) = some (some (.agg #[.int .i64 0, .string ByteArray.empty, .string ByteArray.empty]), 3, 40) := by kernel_rfl
/-- What an append leaves. -/
def App (W0 : World) (base n : Nat) (xs news : List Value) (v : Value) (g c : Nat) (w2 : World) : Prop :=
  w2.ownsRow base 33 3 (.slice (some ⟨g, 0, none⟩) (n + 1) c) (n + 1) (xs ++ news) ∧ ((W0.drew).alloc (Obj.cells news.toArray 33)).grownBy w2 v.ownBlock ∧ (v.ownBlock = some g ∨ W0.heap.size ≤ g)
structure JP (W0 : World) (bd i base n : Nat) (ys news : List Value) (v : Value) (V : Nat → Value) (L : Nat → Bool) (xs : Nat → Value) (W : World) : Prop where
  told : ∀ j, L j = true → j < 10 → j ≠ 8 → xs j = V j
  m0 : L 7 = false → W = W0.drew
  m1 : L 7 = true → L 8 = false → W = (W0.drew).alloc (Obj.cells news.toArray 33)
  m2 : L 8 = true → ∃ g c w2, xs 8 = .slice (some ⟨g, 0, none⟩) (n + 1) c ∧ App W0 base n ys news v g c w2 ∧ (L 10 = false → W = w2) ∧ (L 10 = true → W = w2.setCell ⟨bd, i, none⟩ (.slice (some ⟨g, 0, none⟩) (n + 1) c))
section
variable {W0 W : World} {bd i base n : Nat} {ys news : List Value} {v : Value} {V : Nat → Value} {L : Nat → Bool} {xs : Nat → Value}
theorem JP.start : JP W0 bd i base n ys news v V (fun _ => false) (fun _ => undef) W0.drew := ⟨fun _ h => (by cases h), fun _ => rfl, fun h => (by cases h), fun h => (by cases h)⟩
theorem JP.put (h : JP W0 bd i base n ys news v V L xs W) {j : Nat} (hj : j < 10) (h7 : j ≠ 7) (h8 : j ≠ 8) {x : Value} (hx : x = V j) : JP W0 bd i base n ys news v V (also L j) (updV xs j x) W := by
  refine ⟨fun k hk hl hk8 => ?_, fun e => h.m0 (by rwa [also_at (fun e => h7 e.symm)] at e), fun e e2 => h.m1 (by rwa [also_at (fun e => h7 e.symm)] at e) (by rwa [also_at (fun e => h8 e.symm)] at e2), fun e => ?_⟩
  · by_cases e : k = j
    · subst e; rw [updV_same]; exact hx
    · rw [updV_ne _ _ e]; exact h.told k (by rwa [also_at e] at hk) hl hk8
  · rw [also_at (fun e => h8 e.symm)] at e
    obtain ⟨g, c, w2, h1, h2, h3, h4⟩ := h.m2 e
    refine ⟨g, c, w2, by rw [updV_ne _ _ (fun e => h8 e.symm)]; exact h1, h2, fun e => h3 (by rwa [also_at (by omega)] at e), fun e => h4 (by rwa [also_at (by omega)] at e)⟩
theorem JP.made (h : JP W0 bd i base n ys news v V L xs W) (l8 : L 8 = false) {x : Value} (hx : x = V 7) : JP W0 bd i base n ys news v V (also L 7) (updV xs 7 x) ((W0.drew).alloc (Obj.cells news.toArray 33)) := by
  refine ⟨fun k hk hl hk8 => ?_, fun e => (by rw [also_self] at e; cases e), fun _ _ => rfl, fun e => (by rw [also_at (by omega), l8] at e; cases e)⟩
  by_cases e : k = 7
  · subst e; rw [updV_same]; exact hx
  · rw [updV_ne _ _ e]; exact h.told k (by rwa [also_at e] at hk) hl hk8
theorem JP.app (h : JP W0 bd i base n ys news v V L xs W) (l7 : L 7 = true) (l10 : L 10 = false) {g c : Nat} {w2 : World} (hA : App W0 base n ys news v g c w2) : JP W0 bd i base n ys news v V (also L 8) (updV xs 8 (.slice (some ⟨g, 0, none⟩) (n + 1) c)) w2 := by
  refine ⟨fun k hk hl hk8 => ?_, fun e => (by rw [also_of l7] at e; cases e), fun _ e => (by rw [also_self] at e; cases e), fun _ => ⟨g, c, w2, updV_same _ _ _, hA, fun _ => rfl, fun e => (by rw [also_at (by omega), l10] at e; cases e)⟩⟩
  rw [updV_ne _ _ hk8]; exact h.told k (by rwa [also_at hk8] at hk) hl hk8
theorem JP.store (h : JP W0 bd i base n ys news v V L xs W) (l7 : L 7 = true) (l8 : L 8 = true) {g c : Nat} {w2 : World} (h1 : xs 8 = .slice (some ⟨g, 0, none⟩) (n + 1) c) (hA : App W0 base n ys news v g c w2) : JP W0 bd i base n ys news v V (also L 10) (updV xs 10 undef) (w2.setCell ⟨bd, i, none⟩ (.slice (some ⟨g, 0, none⟩) (n + 1) c)) := by
  refine ⟨fun k hk hl hk8 => ?_, fun e => (by rw [also_of l7] at e; cases e), fun _ e => (by rw [also_of l8] at e; cases e), fun _ => ⟨g, c, w2, by rw [updV_ne _ _ (by omega)]; exact h1, hA, fun e => (by rw [also_self] at e; cases e), fun _ => rfl⟩⟩
  rw [updV_ne _ _ (by omega)]; exact h.told k (by rwa [also_at (by omega)] at hk) hl hk8
end
structure JQ (W0 : World) (bd i s : Nat) (V : Nat → Value) (L : Nat → Bool) (xs : Nat → Value) (W : World) : Prop where
  told : ∀ j, L j = true → j < s → xs j = V j
  m0 : L s = false → W = W0.drew
  m1 : L s = true → W = (W0.drew).setCell ⟨bd, i, none⟩ (V (s - 2))
section
variable {W0 W : World} {bd i s : Nat} {V : Nat → Value} {L : Nat → Bool} {xs : Nat → Value}
theorem JQ.start : JQ W0 bd i s V (fun _ => false) (fun _ => undef) W0.drew := ⟨fun _ h => (by cases h), fun _ => rfl, fun h => (by cases h)⟩
theorem JQ.put (h : JQ W0 bd i s V L xs W) {j : Nat} (hj : j ≠ s) {x : Value} (hx : x = V j) : JQ W0 bd i s V (also L j) (updV xs j x) W := by
  refine ⟨fun k hk hl => ?_, fun e => h.m0 (by rwa [also_at (fun e => hj e.symm)] at e), fun e => h.m1 (by rwa [also_at (fun e => hj e.symm)] at e)⟩
  by_cases e : k = j
  · subst e; rw [updV_same]; exact hx
  · rw [updV_ne _ _ e]; exact h.told k (by rwa [also_at e] at hk) hl
theorem JQ.store (h : JQ W0 bd i s V L xs W) : JQ W0 bd i s V (also L s) (updV xs s undef) ((W0.drew).setCell ⟨bd, i, none⟩ (V (s - 2))) := by
  refine ⟨fun k hk hl => ?_, fun e => (by rw [also_self] at e; cases e), fun _ => rfl⟩
  rw [updV_ne _ _ (by omega)]; exact h.told k (by rwa [also_at (by omega)] at hk) hl
end
def V31 (bd i hz : Nat) (v : Value) (d : Int × ByteArray × ByteArray) : Nat → Value
  | 0 => .slice (some ⟨bd, 0, none⟩) 2 2
  | 1 => .int .i64 (i : Int)
  | 2 => .slice (some ⟨bd, 0, none⟩) 2 2
  | 3 => .int .i64 (i : Int)
  | 4 => .pointer (some ⟨bd, i, none⟩)
  | 5 => v
  | 6 => .agg #[.int .i64 d.1, .string d.2.1, .string d.2.2]
  | 7 => .slice (some ⟨hz, 0, none⟩) 1 1
  | 9 => .pointer (some ⟨bd, i, none⟩)
  | _ => undef
abbrev ops31 : Array Oper := #[{ dst := some 124, op := Op.move (Operand.tmp 4), type := 27, pos := "law19.go:59", after := #[], guard := none }, { dst := some 125, op := Op.move (Operand.tmp 7), type := 3, pos := "law19.go:59", after := #[], guard := none }, { dst := some 126, op := Op.move (Operand.tmp 4), type := 27, pos := "law19.go:59", after := #[], guard := none }, { dst := some 127, op := Op.move (Operand.tmp 7), type := 3, pos := "law19.go:59", after := #[], guard := none }, { dst := some 128, op := Op.indexAddr 27 (Operand.tmp 126) (Operand.tmp 127), type := 0, pos := "law19.go:59", after := #[{ on := 2, ground := Ground.data }, { on := 3, ground := Ground.data }], guard := none }, { dst := some 129, op := Op.load 36 (Operand.tmp 128), type := 36, pos := "law19.go:59", after := #[{ on := 4, ground := Ground.data }], guard := none }, { dst := some 130, op := Op.load 33 (Operand.tmp 11), type := 33, pos := "law19.go:59", after := #[], guard := none }, { dst := some 131, op := Op.buildSlice 36 1 #[(0, Operand.tmp 130)], type := 36, pos := "law19.go:59", after := #[{ on := 6, ground := Ground.data }], guard := none }, { dst := some 132, op := Op.call { callee := Callee.builtin Builtin.append, args := #[Operand.tmp 129, Operand.tmp 131], argTypes := #[36, 36] }, type := 36, pos := "law19.go:59", after := #[{ on := 5, ground := Ground.data }, { on := 7, ground := Ground.data }], guard := none }, { dst := some 133, op := Op.indexAddr 27 (Operand.tmp 124) (Operand.tmp 125), type := 0, pos := "law19.go:59", after := #[{ on := 0, ground := Ground.data }, { on := 1, ground := Ground.data }, { on := 0, ground := Ground.phase }, { on := 1, ground := Ground.phase }, { on := 2, ground := Ground.phase }, { on := 3, ground := Ground.phase }, { on := 4, ground := Ground.phase }, { on := 5, ground := Ground.phase }, { on := 6, ground := Ground.phase }, { on := 7, ground := Ground.phase }, { on := 8, ground := Ground.phase }], guard := none }, { dst := none, op := Op.store 36 (Operand.tmp 133) (Operand.tmp 132), type := 0, pos := "law19.go:59", after := #[{ on := 9, ground := Ground.data }, { on := 8, ground := Ground.data }, { on := 8, ground := Ground.chain }, { on := 0, ground := Ground.phase }, { on := 1, ground := Ground.phase }, { on := 2, ground := Ground.phase }, { on := 3, ground := Ground.phase }, { on := 4, ground := Ground.phase }, { on := 5, ground := Ground.phase }, { on := 6, ground := Ground.phase }, { on := 7, ground := Ground.phase }, { on := 8, ground := Ground.phase }], guard := none }]
abbrev put31 (bd i hz : Nat) (v : Value) (d : Int × ByteArray × ByteArray) (g n c : Nat) (t : Array Value) : Array Value := ((((((((((t.setIfInBounds 124 (V31 bd i hz v d 0)).setIfInBounds 125 (V31 bd i hz v d 1)).setIfInBounds 126 (V31 bd i hz v d 2)).setIfInBounds 127 (V31 bd i hz v d 3)).setIfInBounds 128 (V31 bd i hz v d 4)).setIfInBounds 129 (V31 bd i hz v d 5)).setIfInBounds 130 (V31 bd i hz v d 6)).setIfInBounds 131 (V31 bd i hz v d 7)).setIfInBounds 132 (.slice (some ⟨g, 0, none⟩) (n + 1) c)).setIfInBounds 133 (V31 bd i hz v d 9))
set_option maxHeartbeats 4000000 in
theorem reg31 {Q : Exit → Act → World → Prop} {a0 : Act} {W0 : World} {bd i b11 base n : Nat} {ys : List Value} {cs : Array Value} {v : Value} {d : Int × ByteArray × ByteArray}
    (hsz : a0.tmps.size = 288) (h4 : a0.tmps.getD 4 undef = .slice (some ⟨bd, 0, none⟩) 2 2) (h7 : a0.tmps.getD 7 undef = .int .i64 (i : Int)) (h11 : a0.tmps.getD 11 undef = ptr b11)
    (hi2 : i < 2) (hbd : Box W0 bd cs 36) (hv : cs[i]? = some v) (hd : Box W0 b11 #[.int .i64 d.1, .string d.2.1, .string d.2.2] 33) (hrow : W0.ownsRow base 33 3 v n ys) (hbase : base ≤ W0.heap.size) (hn : n ≤ 1000)
    (hend : ∀ g c w2, App W0 base n ys [.int .i64 d.1, .string d.2.1, .string d.2.2] v g c w2 → Q .normal { a0 with tmps := put31 bd i W0.heap.size v d g n c a0.tmps } (w2.setCell ⟨bd, i, none⟩ (.slice (some ⟨g, 0, none⟩) (n + 1) c))) :
    (Code.region 31 ops31 true).wp Try.prog Q a0 W0 := by
  unfold ops31
  have hvc : W0.drew.cell? ⟨bd, i, none⟩ = some v := box_cell (w := W0) hbd hv
  have hvl : v.ownBlock ≠ some bd := fun e => by
    obtain ⟨cs', h'⟩ := own_cells hrow e
    rw [show W0.heap[bd]? = _ from hbd] at h'; cases h'
  obtain ⟨hm0, hm1, hm2⟩ : W0.drew.cell? ⟨b11, 0, none⟩ = some (.int .i64 d.1) ∧ W0.drew.cell? ⟨b11, 1, none⟩ = some (.string d.2.1) ∧ W0.drew.cell? ⟨b11, 2, none⟩ = some (.string d.2.2) := ⟨box_cell (w := W0) hd rfl, box_cell (w := W0) hd rfl, box_cell (w := W0) hd rfl⟩
  have hsz0 : W0.drew.heap.size = W0.heap.size := rfl
  refine region_ext (J := JP W0 bd i base n ys [.int .i64 d.1, .string d.2.1, .string d.2.2] v (V31 bd i W0.heap.size v d)) (by kernel_rfl) (by kernel_rfl) (by rw [hsz]; kernel_rfl) JP.start ?_ ?_
  · intro j o hi L xs a w1 hJ hL hdo hc hX
    match j, hi with
    | 0, hi =>
      cases hi
      have s := (hX.out (s := 4) rfl).trans h4
      refine wpOp_value rfl rfl (v := V31 bd i W0.heap.size v d 0) (w' := w1) ?_ ⟨_, rfl, hJ.put (by decide) (by decide) (by decide) rfl⟩
      simp [go_sem, Act.eval, V31, s]
    | 1, hi =>
      cases hi
      have s := (hX.out (s := 7) rfl).trans h7
      refine wpOp_value rfl rfl (v := V31 bd i W0.heap.size v d 1) (w' := w1) ?_ ⟨_, rfl, hJ.put (by decide) (by decide) (by decide) rfl⟩
      simp [go_sem, Act.eval, V31, s]
    | 2, hi =>
      cases hi
      have s := (hX.out (s := 4) rfl).trans h4
      refine wpOp_value rfl rfl (v := V31 bd i W0.heap.size v d 2) (w' := w1) ?_ ⟨_, rfl, hJ.put (by decide) (by decide) (by decide) rfl⟩
      simp [go_sem, Act.eval, V31, s]
    | 3, hi =>
      cases hi
      have s := (hX.out (s := 7) rfl).trans h7
      refine wpOp_value rfl rfl (v := V31 bd i W0.heap.size v d 3) (w' := w1) ?_ ⟨_, rfl, hJ.put (by decide) (by decide) (by decide) rfl⟩
      simp [go_sem, Act.eval, V31, s]
    | 4, hi =>
      cases hi
      have l2 := hdo ⟨2, .data⟩ (by simp) rfl
      have r2 := (hX.rd 2 _ 126 rfl rfl l2).trans (hJ.told 2 l2 (by omega) (by omega))
      have l3 := hdo ⟨3, .data⟩ (by simp) rfl
      have r3 := (hX.rd 3 _ 127 rfl rfl l3).trans (hJ.told 3 l3 (by omega) (by omega))
      have n1 : (0 : Int) ≤ (i : Int) := by omega
      have n2 : (i : Int) < 2 := by omega
      refine wpOp_value rfl rfl (v := V31 bd i W0.heap.size v d 4) (w' := w1) ?_ ⟨_, rfl, hJ.put (by decide) (by decide) (by decide) rfl⟩
      simp [go_sem, Act.eval, V31, r2, r3, n1, n2]
    | 5, hi =>
      cases hi
      have l4 := hdo ⟨4, .data⟩ (by simp) rfl
      have r4 := (hX.rd 4 _ 128 rfl rfl l4).trans (hJ.told 4 l4 (by omega) (by omega))
      have n8 : L 8 = false := by
        cases e1 : L 8 with
        | false => rfl
        | true => exact absurd (hc 8 _ rfl e1 ⟨5, .data⟩ (by simp) rfl) (by rw [hL]; decide)
      have m : w1.cell? ⟨bd, i, none⟩ = some v := by
        cases e7 : L 7 with
        | false => rw [hJ.m0 e7]; exact hvc
        | true => rw [hJ.m1 e7 n8]; exact all_alloc hvc _
      refine wpOp_value rfl rfl (v := V31 bd i W0.heap.size v d 5) (w' := w1) ?_ ⟨_, rfl, hJ.put (by decide) (by decide) (by decide) rfl⟩
      simp [go_sem, Act.eval, V31, r4, m]
    | 6, hi =>
      cases hi
      have s := (hX.out (s := 11) rfl).trans h11
      have n7 : L 7 = false := by
        cases e1 : L 7 with
        | false => rfl
        | true => exact absurd (hc 7 _ rfl e1 ⟨6, .data⟩ (by simp) rfl) (by rw [hL]; decide)
      have e := hJ.m0 n7
      subst e
      refine wpOp_value rfl rfl (v := V31 bd i W0.heap.size v d 6) (w' := W0.drew) ?_ ⟨_, rfl, hJ.put (by decide) (by decide) (by decide) rfl⟩
      simp [go_sem, Act.eval, V31, s, hm0, hm1, hm2]
    | 7, hi =>
      cases hi
      have l6 := hdo ⟨6, .data⟩ (by simp) rfl
      have r6 := (hX.rd 6 _ 130 rfl rfl l6).trans (hJ.told 6 l6 (by omega) (by omega))
      have n8 : L 8 = false := by
        cases e1 : L 8 with
        | false => rfl
        | true => exact absurd (hc 8 _ rfl e1 ⟨7, .data⟩ (by simp) rfl) (by rw [hL]; decide)
      have e := hJ.m0 hL
      subst e
      refine wpOp_value rfl rfl (v := V31 bd i W0.heap.size v d 7) (w' := (W0.drew).alloc (Obj.cells (List.toArray [.int .i64 d.1, .string d.2.1, .string d.2.2]) 33)) ?_ ⟨_, rfl, hJ.made n8 rfl⟩
      have r6b := r6
      rw [Array.getD_eq_getD_getElem?] at r6b
      simp [go_sem, Act.eval, V31, r6b]
    | 8, hi =>
      cases hi
      have l5 := hdo ⟨5, .data⟩ (by simp) rfl
      have r5 := (hX.rd 5 _ 129 rfl rfl l5).trans (hJ.told 5 l5 (by omega) (by omega))
      have l7 := hdo ⟨7, .data⟩ (by simp) rfl
      have r7 := (hX.rd 7 _ 131 rfl rfl l7).trans (hJ.told 7 l7 (by omega) (by omega))
      have n10 : L 10 = false := by
        cases e1 : L 10 with
        | false => rfl
        | true => exact absurd (hc 10 _ rfl e1 ⟨8, .data⟩ (by simp) rfl) (by rw [hL]; decide)
      have e := hJ.m1 l7 hL
      subst e
      obtain ⟨i3, hi3, hy0, hy1, hy2⟩ := info_parts Try.info33
      have hrow1 : (W0.drew).ownsRow base 33 3 v n ys := ownsRow_blocks hrow (fun _ _ => rfl)
      obtain ⟨g, c, w2, hr, h2, h3, h4', h5⟩ := run_append_lies (P := Try.prog) ((W0.drew).alloc (Obj.cells (List.toArray [.int .i64 d.1, .string d.2.1, .string d.2.2]) 33)) 36 36 base 33 i3 (.agg #[.int .i64 0, .string ByteArray.empty, .string ByteArray.empty]) 3 40 Try.underlying36 hi3 hy0 hy1 hy2 rfl (by decide) v n ys (hrow1.alloc _) ⟨W0.heap.size, 0, none⟩ 1 1 [.int .i64 d.1, .string d.2.1, .string d.2.2] rfl (World.news_of_block (w := (W0.drew).alloc (Obj.cells (List.toArray [.int .i64 d.1, .string d.2.1, .string d.2.2]) 33)) (heap_alloc_new _ _)) (by intro z hz; simp at hz; rcases hz with rfl | rfl | rfl <;> rfl) (by omega) (by unfold maxLen; omega) (by omega) (by simp; omega) _ rfl
      refine wpOp_append rfl rfl _ _ 36 rfl (v := v) (y := .slice (some ⟨W0.heap.size, 0, none⟩) 1 1) (z := .slice (some ⟨g, 0, none⟩) (n + 1) c) (w' := w2) ?_ ?_ hr ⟨_, rfl, hJ.app l7 n10 ⟨h2, h3, ?_⟩⟩
      · simp [Act.eval, V31, r5]
      · simp [Act.eval, V31, r7]
      · rcases h4' with h | h
        · exact Or.inl h
        · right; rw [h]; simp
    | 9, hi =>
      cases hi
      have l0 := hdo ⟨0, .data⟩ (by simp) rfl
      have r0 := (hX.rd 0 _ 124 rfl rfl l0).trans (hJ.told 0 l0 (by omega) (by omega))
      have l1 := hdo ⟨1, .data⟩ (by simp) rfl
      have r1 := (hX.rd 1 _ 125 rfl rfl l1).trans (hJ.told 1 l1 (by omega) (by omega))
      have n1 : (0 : Int) ≤ (i : Int) := by omega
      have n2 : (i : Int) < 2 := by omega
      refine wpOp_value rfl rfl (v := V31 bd i W0.heap.size v d 9) (w' := w1) ?_ ⟨_, rfl, hJ.put (by decide) (by decide) (by decide) rfl⟩
      simp [go_sem, Act.eval, V31, r0, r1, n1, n2]
    | 10, hi =>
      cases hi
      have l9 := hdo ⟨9, .data⟩ (by simp) rfl
      have r9 := (hX.rd 9 _ 133 rfl rfl l9).trans (hJ.told 9 l9 (by omega) (by omega))
      have l8 := hdo ⟨8, .data⟩ (by simp) rfl
      have l7 := hdo ⟨7, .phase⟩ (by simp) rfl
      obtain ⟨g, c, w2, e8, hA, hW, _⟩ := hJ.m2 l8
      have e := hW hL
      subst e
      have r8 := (hX.rd 8 _ 132 rfl rfl l8).trans e8
      have hT := grown_turns hA.2.1
      have hbx : Box w1 bd cs 36 := (hT.block _ (lt_of_block hbd) hvl).trans hbd
      have q1 : w1.cell? ⟨bd, i, none⟩ = some v := box_cell hbx hv
      have q2 := box_free hbx i
      refine wpOp_skip rfl rfl (w' := w1.setCell ⟨bd, i, none⟩ (.slice (some ⟨g, 0, none⟩) (n + 1) c)) ?_ ⟨undef, rfl, hJ.store l7 l8 e8 hA⟩
      simp [go_sem, Act.eval, V31, r9, r8, q1, q2]
    | n + 11, hi => cases hi
  · intro L xs w1 hJ hall
    have e0 := hJ.told 0 (hall 0 (by simp)) (by omega) (by omega)
    have e1 := hJ.told 1 (hall 1 (by simp)) (by omega) (by omega)
    have e2 := hJ.told 2 (hall 2 (by simp)) (by omega) (by omega)
    have e3 := hJ.told 3 (hall 3 (by simp)) (by omega) (by omega)
    have e4 := hJ.told 4 (hall 4 (by simp)) (by omega) (by omega)
    have e5 := hJ.told 5 (hall 5 (by simp)) (by omega) (by omega)
    have e6 := hJ.told 6 (hall 6 (by simp)) (by omega) (by omega)
    have e7 := hJ.told 7 (hall 7 (by simp)) (by omega) (by omega)
    have e9 := hJ.told 9 (hall 9 (by simp)) (by omega) (by omega)
    obtain ⟨g, c, w2, e8, hA, _, hW⟩ := hJ.m2 (hall 8 (by simp))
    rw [hW (hall 10 (by simp))]
    simp only [puts, Act.put, e0, e1, e2, e3, e4, e5, e6, e7, e8, e9]
    exact hend g c w2 hA
def V36 (bd i hz : Nat) (v : Value) (d : Int × ByteArray × ByteArray) : Nat → Value
  | 0 => .slice (some ⟨bd, 0, none⟩) 2 2
  | 1 => .int .i64 (i : Int)
  | 2 => .slice (some ⟨bd, 0, none⟩) 2 2
  | 3 => .int .i64 (i : Int)
  | 4 => .pointer (some ⟨bd, i, none⟩)
  | 5 => v
  | 6 => .agg #[.int .i64 d.1, .string d.2.1, .string d.2.2]
  | 7 => .slice (some ⟨hz, 0, none⟩) 1 1
  | 9 => .pointer (some ⟨bd, i, none⟩)
  | _ => undef
abbrev ops36 : Array Oper := #[{ dst := some 156, op := Op.move (Operand.tmp 4), type := 27, pos := "law19.go:65", after := #[], guard := none }, { dst := some 157, op := Op.move (Operand.tmp 7), type := 3, pos := "law19.go:65", after := #[], guard := none }, { dst := some 158, op := Op.move (Operand.tmp 4), type := 27, pos := "law19.go:65", after := #[], guard := none }, { dst := some 159, op := Op.move (Operand.tmp 7), type := 3, pos := "law19.go:65", after := #[], guard := none }, { dst := some 160, op := Op.indexAddr 27 (Operand.tmp 158) (Operand.tmp 159), type := 0, pos := "law19.go:65", after := #[{ on := 2, ground := Ground.data }, { on := 3, ground := Ground.data }], guard := none }, { dst := some 161, op := Op.load 36 (Operand.tmp 160), type := 36, pos := "law19.go:65", after := #[{ on := 4, ground := Ground.data }], guard := none }, { dst := some 162, op := Op.load 33 (Operand.tmp 12), type := 33, pos := "law19.go:65", after := #[], guard := none }, { dst := some 163, op := Op.buildSlice 36 1 #[(0, Operand.tmp 162)], type := 36, pos := "law19.go:65", after := #[{ on := 6, ground := Ground.data }], guard := none }, { dst := some 164, op := Op.call { callee := Callee.builtin Builtin.append, args := #[Operand.tmp 161, Operand.tmp 163], argTypes := #[36, 36] }, type := 36, pos := "law19.go:65", after := #[{ on := 5, ground := Ground.data }, { on := 7, ground := Ground.data }], guard := none }, { dst := some 165, op := Op.indexAddr 27 (Operand.tmp 156) (Operand.tmp 157), type := 0, pos := "law19.go:65", after := #[{ on := 0, ground := Ground.data }, { on := 1, ground := Ground.data }, { on := 0, ground := Ground.phase }, { on := 1, ground := Ground.phase }, { on := 2, ground := Ground.phase }, { on := 3, ground := Ground.phase }, { on := 4, ground := Ground.phase }, { on := 5, ground := Ground.phase }, { on := 6, ground := Ground.phase }, { on := 7, ground := Ground.phase }, { on := 8, ground := Ground.phase }], guard := none }, { dst := none, op := Op.store 36 (Operand.tmp 165) (Operand.tmp 164), type := 0, pos := "law19.go:65", after := #[{ on := 9, ground := Ground.data }, { on := 8, ground := Ground.data }, { on := 8, ground := Ground.chain }, { on := 0, ground := Ground.phase }, { on := 1, ground := Ground.phase }, { on := 2, ground := Ground.phase }, { on := 3, ground := Ground.phase }, { on := 4, ground := Ground.phase }, { on := 5, ground := Ground.phase }, { on := 6, ground := Ground.phase }, { on := 7, ground := Ground.phase }, { on := 8, ground := Ground.phase }], guard := none }]
abbrev put36 (bd i hz : Nat) (v : Value) (d : Int × ByteArray × ByteArray) (g n c : Nat) (t : Array Value) : Array Value := ((((((((((t.setIfInBounds 156 (V36 bd i hz v d 0)).setIfInBounds 157 (V36 bd i hz v d 1)).setIfInBounds 158 (V36 bd i hz v d 2)).setIfInBounds 159 (V36 bd i hz v d 3)).setIfInBounds 160 (V36 bd i hz v d 4)).setIfInBounds 161 (V36 bd i hz v d 5)).setIfInBounds 162 (V36 bd i hz v d 6)).setIfInBounds 163 (V36 bd i hz v d 7)).setIfInBounds 164 (.slice (some ⟨g, 0, none⟩) (n + 1) c)).setIfInBounds 165 (V36 bd i hz v d 9))
set_option maxHeartbeats 4000000 in
theorem reg36 {Q : Exit → Act → World → Prop} {a0 : Act} {W0 : World} {bd i b11 base n : Nat} {ys : List Value} {cs : Array Value} {v : Value} {d : Int × ByteArray × ByteArray}
    (hsz : a0.tmps.size = 288) (h4 : a0.tmps.getD 4 undef = .slice (some ⟨bd, 0, none⟩) 2 2) (h7 : a0.tmps.getD 7 undef = .int .i64 (i : Int)) (h11 : a0.tmps.getD 12 undef = ptr b11)
    (hi2 : i < 2) (hbd : Box W0 bd cs 36) (hv : cs[i]? = some v) (hd : Box W0 b11 #[.int .i64 d.1, .string d.2.1, .string d.2.2] 33) (hrow : W0.ownsRow base 33 3 v n ys) (hbase : base ≤ W0.heap.size) (hn : n ≤ 1000)
    (hend : ∀ g c w2, App W0 base n ys [.int .i64 d.1, .string d.2.1, .string d.2.2] v g c w2 → Q .normal { a0 with tmps := put36 bd i W0.heap.size v d g n c a0.tmps } (w2.setCell ⟨bd, i, none⟩ (.slice (some ⟨g, 0, none⟩) (n + 1) c))) :
    (Code.region 36 ops36 true).wp Try.prog Q a0 W0 := by
  unfold ops36
  have hvc : W0.drew.cell? ⟨bd, i, none⟩ = some v := box_cell (w := W0) hbd hv
  have hvl : v.ownBlock ≠ some bd := fun e => by
    obtain ⟨cs', h'⟩ := own_cells hrow e
    rw [show W0.heap[bd]? = _ from hbd] at h'; cases h'
  obtain ⟨hm0, hm1, hm2⟩ : W0.drew.cell? ⟨b11, 0, none⟩ = some (.int .i64 d.1) ∧ W0.drew.cell? ⟨b11, 1, none⟩ = some (.string d.2.1) ∧ W0.drew.cell? ⟨b11, 2, none⟩ = some (.string d.2.2) := ⟨box_cell (w := W0) hd rfl, box_cell (w := W0) hd rfl, box_cell (w := W0) hd rfl⟩
  have hsz0 : W0.drew.heap.size = W0.heap.size := rfl
  refine region_ext (J := JP W0 bd i base n ys [.int .i64 d.1, .string d.2.1, .string d.2.2] v (V36 bd i W0.heap.size v d)) (by kernel_rfl) (by kernel_rfl) (by rw [hsz]; kernel_rfl) JP.start ?_ ?_
  · intro j o hi L xs a w1 hJ hL hdo hc hX
    match j, hi with
    | 0, hi =>
      cases hi
      have s := (hX.out (s := 4) rfl).trans h4
      refine wpOp_value rfl rfl (v := V36 bd i W0.heap.size v d 0) (w' := w1) ?_ ⟨_, rfl, hJ.put (by decide) (by decide) (by decide) rfl⟩
      simp [go_sem, Act.eval, V36, s]
    | 1, hi =>
      cases hi
      have s := (hX.out (s := 7) rfl).trans h7
      refine wpOp_value rfl rfl (v := V36 bd i W0.heap.size v d 1) (w' := w1) ?_ ⟨_, rfl, hJ.put (by decide) (by decide) (by decide) rfl⟩
      simp [go_sem, Act.eval, V36, s]
    | 2, hi =>
      cases hi
      have s := (hX.out (s := 4) rfl).trans h4
      refine wpOp_value rfl rfl (v := V36 bd i W0.heap.size v d 2) (w' := w1) ?_ ⟨_, rfl, hJ.put (by decide) (by decide) (by decide) rfl⟩
      simp [go_sem, Act.eval, V36, s]
    | 3, hi =>
      cases hi
      have s := (hX.out (s := 7) rfl).trans h7
      refine wpOp_value rfl rfl (v := V36 bd i W0.heap.size v d 3) (w' := w1) ?_ ⟨_, rfl, hJ.put (by decide) (by decide) (by decide) rfl⟩
      simp [go_sem, Act.eval, V36, s]
    | 4, hi =>
      cases hi
      have l2 := hdo ⟨2, .data⟩ (by simp) rfl
      have r2 := (hX.rd 2 _ 158 rfl rfl l2).trans (hJ.told 2 l2 (by omega) (by omega))
      have l3 := hdo ⟨3, .data⟩ (by simp) rfl
      have r3 := (hX.rd 3 _ 159 rfl rfl l3).trans (hJ.told 3 l3 (by omega) (by omega))
      have n1 : (0 : Int) ≤ (i : Int) := by omega
      have n2 : (i : Int) < 2 := by omega
      refine wpOp_value rfl rfl (v := V36 bd i W0.heap.size v d 4) (w' := w1) ?_ ⟨_, rfl, hJ.put (by decide) (by decide) (by decide) rfl⟩
      simp [go_sem, Act.eval, V36, r2, r3, n1, n2]
    | 5, hi =>
      cases hi
      have l4 := hdo ⟨4, .data⟩ (by simp) rfl
      have r4 := (hX.rd 4 _ 160 rfl rfl l4).trans (hJ.told 4 l4 (by omega) (by omega))
      have n8 : L 8 = false := by
        cases e1 : L 8 with
        | false => rfl
        | true => exact absurd (hc 8 _ rfl e1 ⟨5, .data⟩ (by simp) rfl) (by rw [hL]; decide)
      have m : w1.cell? ⟨bd, i, none⟩ = some v := by
        cases e7 : L 7 with
        | false => rw [hJ.m0 e7]; exact hvc
        | true => rw [hJ.m1 e7 n8]; exact all_alloc hvc _
      refine wpOp_value rfl rfl (v := V36 bd i W0.heap.size v d 5) (w' := w1) ?_ ⟨_, rfl, hJ.put (by decide) (by decide) (by decide) rfl⟩
      simp [go_sem, Act.eval, V36, r4, m]
    | 6, hi =>
      cases hi
      have s := (hX.out (s := 12) rfl).trans h11
      have n7 : L 7 = false := by
        cases e1 : L 7 with
        | false => rfl
        | true => exact absurd (hc 7 _ rfl e1 ⟨6, .data⟩ (by simp) rfl) (by rw [hL]; decide)
      have e := hJ.m0 n7
      subst e
      refine wpOp_value rfl rfl (v := V36 bd i W0.heap.size v d 6) (w' := W0.drew) ?_ ⟨_, rfl, hJ.put (by decide) (by decide) (by decide) rfl⟩
      simp [go_sem, Act.eval, V36, s, hm0, hm1, hm2]
    | 7, hi =>
      cases hi
      have l6 := hdo ⟨6, .data⟩ (by simp) rfl
      have r6 := (hX.rd 6 _ 162 rfl rfl l6).trans (hJ.told 6 l6 (by omega) (by omega))
      have n8 : L 8 = false := by
        cases e1 : L 8 with
        | false => rfl
        | true => exact absurd (hc 8 _ rfl e1 ⟨7, .data⟩ (by simp) rfl) (by rw [hL]; decide)
      have e := hJ.m0 hL
      subst e
      refine wpOp_value rfl rfl (v := V36 bd i W0.heap.size v d 7) (w' := (W0.drew).alloc (Obj.cells (List.toArray [.int .i64 d.1, .string d.2.1, .string d.2.2]) 33)) ?_ ⟨_, rfl, hJ.made n8 rfl⟩
      have r6b := r6
      rw [Array.getD_eq_getD_getElem?] at r6b
      simp [go_sem, Act.eval, V36, r6b]
    | 8, hi =>
      cases hi
      have l5 := hdo ⟨5, .data⟩ (by simp) rfl
      have r5 := (hX.rd 5 _ 161 rfl rfl l5).trans (hJ.told 5 l5 (by omega) (by omega))
      have l7 := hdo ⟨7, .data⟩ (by simp) rfl
      have r7 := (hX.rd 7 _ 163 rfl rfl l7).trans (hJ.told 7 l7 (by omega) (by omega))
      have n10 : L 10 = false := by
        cases e1 : L 10 with
        | false => rfl
        | true => exact absurd (hc 10 _ rfl e1 ⟨8, .data⟩ (by simp) rfl) (by rw [hL]; decide)
      have e := hJ.m1 l7 hL
      subst e
      obtain ⟨i3, hi3, hy0, hy1, hy2⟩ := info_parts Try.info33
      have hrow1 : (W0.drew).ownsRow base 33 3 v n ys := ownsRow_blocks hrow (fun _ _ => rfl)
      obtain ⟨g, c, w2, hr, h2, h3, h4', h5⟩ := run_append_lies (P := Try.prog) ((W0.drew).alloc (Obj.cells (List.toArray [.int .i64 d.1, .string d.2.1, .string d.2.2]) 33)) 36 36 base 33 i3 (.agg #[.int .i64 0, .string ByteArray.empty, .string ByteArray.empty]) 3 40 Try.underlying36 hi3 hy0 hy1 hy2 rfl (by decide) v n ys (hrow1.alloc _) ⟨W0.heap.size, 0, none⟩ 1 1 [.int .i64 d.1, .string d.2.1, .string d.2.2] rfl (World.news_of_block (w := (W0.drew).alloc (Obj.cells (List.toArray [.int .i64 d.1, .string d.2.1, .string d.2.2]) 33)) (heap_alloc_new _ _)) (by intro z hz; simp at hz; rcases hz with rfl | rfl | rfl <;> rfl) (by omega) (by unfold maxLen; omega) (by omega) (by simp; omega) _ rfl
      refine wpOp_append rfl rfl _ _ 36 rfl (v := v) (y := .slice (some ⟨W0.heap.size, 0, none⟩) 1 1) (z := .slice (some ⟨g, 0, none⟩) (n + 1) c) (w' := w2) ?_ ?_ hr ⟨_, rfl, hJ.app l7 n10 ⟨h2, h3, ?_⟩⟩
      · simp [Act.eval, V36, r5]
      · simp [Act.eval, V36, r7]
      · rcases h4' with h | h
        · exact Or.inl h
        · right; rw [h]; simp
    | 9, hi =>
      cases hi
      have l0 := hdo ⟨0, .data⟩ (by simp) rfl
      have r0 := (hX.rd 0 _ 156 rfl rfl l0).trans (hJ.told 0 l0 (by omega) (by omega))
      have l1 := hdo ⟨1, .data⟩ (by simp) rfl
      have r1 := (hX.rd 1 _ 157 rfl rfl l1).trans (hJ.told 1 l1 (by omega) (by omega))
      have n1 : (0 : Int) ≤ (i : Int) := by omega
      have n2 : (i : Int) < 2 := by omega
      refine wpOp_value rfl rfl (v := V36 bd i W0.heap.size v d 9) (w' := w1) ?_ ⟨_, rfl, hJ.put (by decide) (by decide) (by decide) rfl⟩
      simp [go_sem, Act.eval, V36, r0, r1, n1, n2]
    | 10, hi =>
      cases hi
      have l9 := hdo ⟨9, .data⟩ (by simp) rfl
      have r9 := (hX.rd 9 _ 165 rfl rfl l9).trans (hJ.told 9 l9 (by omega) (by omega))
      have l8 := hdo ⟨8, .data⟩ (by simp) rfl
      have l7 := hdo ⟨7, .phase⟩ (by simp) rfl
      obtain ⟨g, c, w2, e8, hA, hW, _⟩ := hJ.m2 l8
      have e := hW hL
      subst e
      have r8 := (hX.rd 8 _ 164 rfl rfl l8).trans e8
      have hT := grown_turns hA.2.1
      have hbx : Box w1 bd cs 36 := (hT.block _ (lt_of_block hbd) hvl).trans hbd
      have q1 : w1.cell? ⟨bd, i, none⟩ = some v := box_cell hbx hv
      have q2 := box_free hbx i
      refine wpOp_skip rfl rfl (w' := w1.setCell ⟨bd, i, none⟩ (.slice (some ⟨g, 0, none⟩) (n + 1) c)) ?_ ⟨undef, rfl, hJ.store l7 l8 e8 hA⟩
      simp [go_sem, Act.eval, V36, r9, r8, q1, q2]
    | n + 11, hi => cases hi
  · intro L xs w1 hJ hall
    have e0 := hJ.told 0 (hall 0 (by simp)) (by omega) (by omega)
    have e1 := hJ.told 1 (hall 1 (by simp)) (by omega) (by omega)
    have e2 := hJ.told 2 (hall 2 (by simp)) (by omega) (by omega)
    have e3 := hJ.told 3 (hall 3 (by simp)) (by omega) (by omega)
    have e4 := hJ.told 4 (hall 4 (by simp)) (by omega) (by omega)
    have e5 := hJ.told 5 (hall 5 (by simp)) (by omega) (by omega)
    have e6 := hJ.told 6 (hall 6 (by simp)) (by omega) (by omega)
    have e7 := hJ.told 7 (hall 7 (by simp)) (by omega) (by omega)
    have e9 := hJ.told 9 (hall 9 (by simp)) (by omega) (by omega)
    obtain ⟨g, c, w2, e8, hA, _, hW⟩ := hJ.m2 (hall 8 (by simp))
    rw [hW (hall 10 (by simp))]
    simp only [puts, Act.put, e0, e1, e2, e3, e4, e5, e6, e7, e8, e9]
    exact hend g c w2 hA
def V41 (bd i hz : Nat) (v : Value) (d : Int × ByteArray × ByteArray) : Nat → Value
  | 0 => .slice (some ⟨bd, 0, none⟩) 2 2
  | 1 => .int .i64 (i : Int)
  | 2 => .slice (some ⟨bd, 0, none⟩) 2 2
  | 3 => .int .i64 (i : Int)
  | 4 => .pointer (some ⟨bd, i, none⟩)
  | 5 => v
  | 6 => .agg #[.int .i64 d.1, .string d.2.1, .string d.2.2]
  | 7 => .slice (some ⟨hz, 0, none⟩) 1 1
  | 9 => .pointer (some ⟨bd, i, none⟩)
  | _ => undef
abbrev ops41 : Array Oper := #[{ dst := some 188, op := Op.move (Operand.tmp 4), type := 27, pos := "law19.go:71", after := #[], guard := none }, { dst := some 189, op := Op.move (Operand.tmp 7), type := 3, pos := "law19.go:71", after := #[], guard := none }, { dst := some 190, op := Op.move (Operand.tmp 4), type := 27, pos := "law19.go:71", after := #[], guard := none }, { dst := some 191, op := Op.move (Operand.tmp 7), type := 3, pos := "law19.go:71", after := #[], guard := none }, { dst := some 192, op := Op.indexAddr 27 (Operand.tmp 190) (Operand.tmp 191), type := 0, pos := "law19.go:71", after := #[{ on := 2, ground := Ground.data }, { on := 3, ground := Ground.data }], guard := none }, { dst := some 193, op := Op.load 36 (Operand.tmp 192), type := 36, pos := "law19.go:71", after := #[{ on := 4, ground := Ground.data }], guard := none }, { dst := some 194, op := Op.load 33 (Operand.tmp 13), type := 33, pos := "law19.go:71", after := #[], guard := none }, { dst := some 195, op := Op.buildSlice 36 1 #[(0, Operand.tmp 194)], type := 36, pos := "law19.go:71", after := #[{ on := 6, ground := Ground.data }], guard := none }, { dst := some 196, op := Op.call { callee := Callee.builtin Builtin.append, args := #[Operand.tmp 193, Operand.tmp 195], argTypes := #[36, 36] }, type := 36, pos := "law19.go:71", after := #[{ on := 5, ground := Ground.data }, { on := 7, ground := Ground.data }], guard := none }, { dst := some 197, op := Op.indexAddr 27 (Operand.tmp 188) (Operand.tmp 189), type := 0, pos := "law19.go:71", after := #[{ on := 0, ground := Ground.data }, { on := 1, ground := Ground.data }, { on := 0, ground := Ground.phase }, { on := 1, ground := Ground.phase }, { on := 2, ground := Ground.phase }, { on := 3, ground := Ground.phase }, { on := 4, ground := Ground.phase }, { on := 5, ground := Ground.phase }, { on := 6, ground := Ground.phase }, { on := 7, ground := Ground.phase }, { on := 8, ground := Ground.phase }], guard := none }, { dst := none, op := Op.store 36 (Operand.tmp 197) (Operand.tmp 196), type := 0, pos := "law19.go:71", after := #[{ on := 9, ground := Ground.data }, { on := 8, ground := Ground.data }, { on := 8, ground := Ground.chain }, { on := 0, ground := Ground.phase }, { on := 1, ground := Ground.phase }, { on := 2, ground := Ground.phase }, { on := 3, ground := Ground.phase }, { on := 4, ground := Ground.phase }, { on := 5, ground := Ground.phase }, { on := 6, ground := Ground.phase }, { on := 7, ground := Ground.phase }, { on := 8, ground := Ground.phase }], guard := none }]
abbrev put41 (bd i hz : Nat) (v : Value) (d : Int × ByteArray × ByteArray) (g n c : Nat) (t : Array Value) : Array Value := ((((((((((t.setIfInBounds 188 (V41 bd i hz v d 0)).setIfInBounds 189 (V41 bd i hz v d 1)).setIfInBounds 190 (V41 bd i hz v d 2)).setIfInBounds 191 (V41 bd i hz v d 3)).setIfInBounds 192 (V41 bd i hz v d 4)).setIfInBounds 193 (V41 bd i hz v d 5)).setIfInBounds 194 (V41 bd i hz v d 6)).setIfInBounds 195 (V41 bd i hz v d 7)).setIfInBounds 196 (.slice (some ⟨g, 0, none⟩) (n + 1) c)).setIfInBounds 197 (V41 bd i hz v d 9))
set_option maxHeartbeats 4000000 in
theorem reg41 {Q : Exit → Act → World → Prop} {a0 : Act} {W0 : World} {bd i b11 base n : Nat} {ys : List Value} {cs : Array Value} {v : Value} {d : Int × ByteArray × ByteArray}
    (hsz : a0.tmps.size = 288) (h4 : a0.tmps.getD 4 undef = .slice (some ⟨bd, 0, none⟩) 2 2) (h7 : a0.tmps.getD 7 undef = .int .i64 (i : Int)) (h11 : a0.tmps.getD 13 undef = ptr b11)
    (hi2 : i < 2) (hbd : Box W0 bd cs 36) (hv : cs[i]? = some v) (hd : Box W0 b11 #[.int .i64 d.1, .string d.2.1, .string d.2.2] 33) (hrow : W0.ownsRow base 33 3 v n ys) (hbase : base ≤ W0.heap.size) (hn : n ≤ 1000)
    (hend : ∀ g c w2, App W0 base n ys [.int .i64 d.1, .string d.2.1, .string d.2.2] v g c w2 → Q .normal { a0 with tmps := put41 bd i W0.heap.size v d g n c a0.tmps } (w2.setCell ⟨bd, i, none⟩ (.slice (some ⟨g, 0, none⟩) (n + 1) c))) :
    (Code.region 41 ops41 true).wp Try.prog Q a0 W0 := by
  unfold ops41
  have hvc : W0.drew.cell? ⟨bd, i, none⟩ = some v := box_cell (w := W0) hbd hv
  have hvl : v.ownBlock ≠ some bd := fun e => by
    obtain ⟨cs', h'⟩ := own_cells hrow e
    rw [show W0.heap[bd]? = _ from hbd] at h'; cases h'
  obtain ⟨hm0, hm1, hm2⟩ : W0.drew.cell? ⟨b11, 0, none⟩ = some (.int .i64 d.1) ∧ W0.drew.cell? ⟨b11, 1, none⟩ = some (.string d.2.1) ∧ W0.drew.cell? ⟨b11, 2, none⟩ = some (.string d.2.2) := ⟨box_cell (w := W0) hd rfl, box_cell (w := W0) hd rfl, box_cell (w := W0) hd rfl⟩
  have hsz0 : W0.drew.heap.size = W0.heap.size := rfl
  refine region_ext (J := JP W0 bd i base n ys [.int .i64 d.1, .string d.2.1, .string d.2.2] v (V41 bd i W0.heap.size v d)) (by kernel_rfl) (by kernel_rfl) (by rw [hsz]; kernel_rfl) JP.start ?_ ?_
  · intro j o hi L xs a w1 hJ hL hdo hc hX
    match j, hi with
    | 0, hi =>
      cases hi
      have s := (hX.out (s := 4) rfl).trans h4
      refine wpOp_value rfl rfl (v := V41 bd i W0.heap.size v d 0) (w' := w1) ?_ ⟨_, rfl, hJ.put (by decide) (by decide) (by decide) rfl⟩
      simp [go_sem, Act.eval, V41, s]
    | 1, hi =>
      cases hi
      have s := (hX.out (s := 7) rfl).trans h7
      refine wpOp_value rfl rfl (v := V41 bd i W0.heap.size v d 1) (w' := w1) ?_ ⟨_, rfl, hJ.put (by decide) (by decide) (by decide) rfl⟩
      simp [go_sem, Act.eval, V41, s]
    | 2, hi =>
      cases hi
      have s := (hX.out (s := 4) rfl).trans h4
      refine wpOp_value rfl rfl (v := V41 bd i W0.heap.size v d 2) (w' := w1) ?_ ⟨_, rfl, hJ.put (by decide) (by decide) (by decide) rfl⟩
      simp [go_sem, Act.eval, V41, s]
    | 3, hi =>
      cases hi
      have s := (hX.out (s := 7) rfl).trans h7
      refine wpOp_value rfl rfl (v := V41 bd i W0.heap.size v d 3) (w' := w1) ?_ ⟨_, rfl, hJ.put (by decide) (by decide) (by decide) rfl⟩
      simp [go_sem, Act.eval, V41, s]
    | 4, hi =>
      cases hi
      have l2 := hdo ⟨2, .data⟩ (by simp) rfl
      have r2 := (hX.rd 2 _ 190 rfl rfl l2).trans (hJ.told 2 l2 (by omega) (by omega))
      have l3 := hdo ⟨3, .data⟩ (by simp) rfl
      have r3 := (hX.rd 3 _ 191 rfl rfl l3).trans (hJ.told 3 l3 (by omega) (by omega))
      have n1 : (0 : Int) ≤ (i : Int) := by omega
      have n2 : (i : Int) < 2 := by omega
      refine wpOp_value rfl rfl (v := V41 bd i W0.heap.size v d 4) (w' := w1) ?_ ⟨_, rfl, hJ.put (by decide) (by decide) (by decide) rfl⟩
      simp [go_sem, Act.eval, V41, r2, r3, n1, n2]
    | 5, hi =>
      cases hi
      have l4 := hdo ⟨4, .data⟩ (by simp) rfl
      have r4 := (hX.rd 4 _ 192 rfl rfl l4).trans (hJ.told 4 l4 (by omega) (by omega))
      have n8 : L 8 = false := by
        cases e1 : L 8 with
        | false => rfl
        | true => exact absurd (hc 8 _ rfl e1 ⟨5, .data⟩ (by simp) rfl) (by rw [hL]; decide)
      have m : w1.cell? ⟨bd, i, none⟩ = some v := by
        cases e7 : L 7 with
        | false => rw [hJ.m0 e7]; exact hvc
        | true => rw [hJ.m1 e7 n8]; exact all_alloc hvc _
      refine wpOp_value rfl rfl (v := V41 bd i W0.heap.size v d 5) (w' := w1) ?_ ⟨_, rfl, hJ.put (by decide) (by decide) (by decide) rfl⟩
      simp [go_sem, Act.eval, V41, r4, m]
    | 6, hi =>
      cases hi
      have s := (hX.out (s := 13) rfl).trans h11
      have n7 : L 7 = false := by
        cases e1 : L 7 with
        | false => rfl
        | true => exact absurd (hc 7 _ rfl e1 ⟨6, .data⟩ (by simp) rfl) (by rw [hL]; decide)
      have e := hJ.m0 n7
      subst e
      refine wpOp_value rfl rfl (v := V41 bd i W0.heap.size v d 6) (w' := W0.drew) ?_ ⟨_, rfl, hJ.put (by decide) (by decide) (by decide) rfl⟩
      simp [go_sem, Act.eval, V41, s, hm0, hm1, hm2]
    | 7, hi =>
      cases hi
      have l6 := hdo ⟨6, .data⟩ (by simp) rfl
      have r6 := (hX.rd 6 _ 194 rfl rfl l6).trans (hJ.told 6 l6 (by omega) (by omega))
      have n8 : L 8 = false := by
        cases e1 : L 8 with
        | false => rfl
        | true => exact absurd (hc 8 _ rfl e1 ⟨7, .data⟩ (by simp) rfl) (by rw [hL]; decide)
      have e := hJ.m0 hL
      subst e
      refine wpOp_value rfl rfl (v := V41 bd i W0.heap.size v d 7) (w' := (W0.drew).alloc (Obj.cells (List.toArray [.int .i64 d.1, .string d.2.1, .string d.2.2]) 33)) ?_ ⟨_, rfl, hJ.made n8 rfl⟩
      have r6b := r6
      rw [Array.getD_eq_getD_getElem?] at r6b
      simp [go_sem, Act.eval, V41, r6b]
    | 8, hi =>
      cases hi
      have l5 := hdo ⟨5, .data⟩ (by simp) rfl
      have r5 := (hX.rd 5 _ 193 rfl rfl l5).trans (hJ.told 5 l5 (by omega) (by omega))
      have l7 := hdo ⟨7, .data⟩ (by simp) rfl
      have r7 := (hX.rd 7 _ 195 rfl rfl l7).trans (hJ.told 7 l7 (by omega) (by omega))
      have n10 : L 10 = false := by
        cases e1 : L 10 with
        | false => rfl
        | true => exact absurd (hc 10 _ rfl e1 ⟨8, .data⟩ (by simp) rfl) (by rw [hL]; decide)
      have e := hJ.m1 l7 hL
      subst e
      obtain ⟨i3, hi3, hy0, hy1, hy2⟩ := info_parts Try.info33
      have hrow1 : (W0.drew).ownsRow base 33 3 v n ys := ownsRow_blocks hrow (fun _ _ => rfl)
      obtain ⟨g, c, w2, hr, h2, h3, h4', h5⟩ := run_append_lies (P := Try.prog) ((W0.drew).alloc (Obj.cells (List.toArray [.int .i64 d.1, .string d.2.1, .string d.2.2]) 33)) 36 36 base 33 i3 (.agg #[.int .i64 0, .string ByteArray.empty, .string ByteArray.empty]) 3 40 Try.underlying36 hi3 hy0 hy1 hy2 rfl (by decide) v n ys (hrow1.alloc _) ⟨W0.heap.size, 0, none⟩ 1 1 [.int .i64 d.1, .string d.2.1, .string d.2.2] rfl (World.news_of_block (w := (W0.drew).alloc (Obj.cells (List.toArray [.int .i64 d.1, .string d.2.1, .string d.2.2]) 33)) (heap_alloc_new _ _)) (by intro z hz; simp at hz; rcases hz with rfl | rfl | rfl <;> rfl) (by omega) (by unfold maxLen; omega) (by omega) (by simp; omega) _ rfl
      refine wpOp_append rfl rfl _ _ 36 rfl (v := v) (y := .slice (some ⟨W0.heap.size, 0, none⟩) 1 1) (z := .slice (some ⟨g, 0, none⟩) (n + 1) c) (w' := w2) ?_ ?_ hr ⟨_, rfl, hJ.app l7 n10 ⟨h2, h3, ?_⟩⟩
      · simp [Act.eval, V41, r5]
      · simp [Act.eval, V41, r7]
      · rcases h4' with h | h
        · exact Or.inl h
        · right; rw [h]; simp
    | 9, hi =>
      cases hi
      have l0 := hdo ⟨0, .data⟩ (by simp) rfl
      have r0 := (hX.rd 0 _ 188 rfl rfl l0).trans (hJ.told 0 l0 (by omega) (by omega))
      have l1 := hdo ⟨1, .data⟩ (by simp) rfl
      have r1 := (hX.rd 1 _ 189 rfl rfl l1).trans (hJ.told 1 l1 (by omega) (by omega))
      have n1 : (0 : Int) ≤ (i : Int) := by omega
      have n2 : (i : Int) < 2 := by omega
      refine wpOp_value rfl rfl (v := V41 bd i W0.heap.size v d 9) (w' := w1) ?_ ⟨_, rfl, hJ.put (by decide) (by decide) (by decide) rfl⟩
      simp [go_sem, Act.eval, V41, r0, r1, n1, n2]
    | 10, hi =>
      cases hi
      have l9 := hdo ⟨9, .data⟩ (by simp) rfl
      have r9 := (hX.rd 9 _ 197 rfl rfl l9).trans (hJ.told 9 l9 (by omega) (by omega))
      have l8 := hdo ⟨8, .data⟩ (by simp) rfl
      have l7 := hdo ⟨7, .phase⟩ (by simp) rfl
      obtain ⟨g, c, w2, e8, hA, hW, _⟩ := hJ.m2 l8
      have e := hW hL
      subst e
      have r8 := (hX.rd 8 _ 196 rfl rfl l8).trans e8
      have hT := grown_turns hA.2.1
      have hbx : Box w1 bd cs 36 := (hT.block _ (lt_of_block hbd) hvl).trans hbd
      have q1 : w1.cell? ⟨bd, i, none⟩ = some v := box_cell hbx hv
      have q2 := box_free hbx i
      refine wpOp_skip rfl rfl (w' := w1.setCell ⟨bd, i, none⟩ (.slice (some ⟨g, 0, none⟩) (n + 1) c)) ?_ ⟨undef, rfl, hJ.store l7 l8 e8 hA⟩
      simp [go_sem, Act.eval, V41, r9, r8, q1, q2]
    | n + 11, hi => cases hi
  · intro L xs w1 hJ hall
    have e0 := hJ.told 0 (hall 0 (by simp)) (by omega) (by omega)
    have e1 := hJ.told 1 (hall 1 (by simp)) (by omega) (by omega)
    have e2 := hJ.told 2 (hall 2 (by simp)) (by omega) (by omega)
    have e3 := hJ.told 3 (hall 3 (by simp)) (by omega) (by omega)
    have e4 := hJ.told 4 (hall 4 (by simp)) (by omega) (by omega)
    have e5 := hJ.told 5 (hall 5 (by simp)) (by omega) (by omega)
    have e6 := hJ.told 6 (hall 6 (by simp)) (by omega) (by omega)
    have e7 := hJ.told 7 (hall 7 (by simp)) (by omega) (by omega)
    have e9 := hJ.told 9 (hall 9 (by simp)) (by omega) (by omega)
    obtain ⟨g, c, w2, e8, hA, _, hW⟩ := hJ.m2 (hall 8 (by simp))
    rw [hW (hall 10 (by simp))]
    simp only [puts, Act.put, e0, e1, e2, e3, e4, e5, e6, e7, e8, e9]
    exact hend g c w2 hA
def V46 (bd i g n c : Nat) : Nat → Value
  | 0 => .slice (some ⟨bd, 0, none⟩) 2 2
  | 1 => .int .i64 (i : Int)
  | 2 => .slice (some ⟨bd, 0, none⟩) 2 2
  | 3 => .int .i64 (i : Int)
  | 4 => .pointer (some ⟨bd, i, none⟩)
  | 5 => .slice (some ⟨g, 0, none⟩) (n + 1) c
  | 6 => .slice (some ⟨bd, 0, none⟩) 2 2
  | 7 => .int .i64 (i : Int)
  | 8 => .pointer (some ⟨bd, i, none⟩)
  | 9 => .slice (some ⟨g, 0, none⟩) (n + 1) c
  | 10 => .int .i64 ((n : Int) + 1)
  | 11 => .int .i64 (n : Int)
  | 12 => .slice (some ⟨g, 0, none⟩) n c
  | 13 => .pointer (some ⟨bd, i, none⟩)
  | _ => undef
abbrev ops46 : Array Oper := #[{ dst := some 209, op := Op.move (Operand.tmp 4), type := 27, pos := "law19.go:78", after := #[], guard := none }, { dst := some 210, op := Op.move (Operand.tmp 7), type := 3, pos := "law19.go:78", after := #[], guard := none }, { dst := some 211, op := Op.move (Operand.tmp 4), type := 27, pos := "law19.go:78", after := #[], guard := none }, { dst := some 212, op := Op.move (Operand.tmp 7), type := 3, pos := "law19.go:78", after := #[], guard := none }, { dst := some 213, op := Op.indexAddr 27 (Operand.tmp 211) (Operand.tmp 212), type := 0, pos := "law19.go:78", after := #[{ on := 2, ground := Ground.data }, { on := 3, ground := Ground.data }], guard := none }, { dst := some 214, op := Op.load 36 (Operand.tmp 213), type := 36, pos := "law19.go:78", after := #[{ on := 4, ground := Ground.data }], guard := none }, { dst := some 215, op := Op.move (Operand.tmp 4), type := 27, pos := "law19.go:78", after := #[], guard := none }, { dst := some 216, op := Op.move (Operand.tmp 7), type := 3, pos := "law19.go:78", after := #[], guard := none }, { dst := some 217, op := Op.indexAddr 27 (Operand.tmp 215) (Operand.tmp 216), type := 0, pos := "law19.go:78", after := #[{ on := 6, ground := Ground.data }, { on := 7, ground := Ground.data }], guard := none }, { dst := some 218, op := Op.load 36 (Operand.tmp 217), type := 36, pos := "law19.go:78", after := #[{ on := 8, ground := Ground.data }], guard := none }, { dst := some 219, op := Op.call { callee := Callee.builtin Builtin.len, args := #[Operand.tmp 218], argTypes := #[36] }, type := 3, pos := "law19.go:78", after := #[{ on := 9, ground := Ground.data }], guard := none }, { dst := some 220, op := Op.binOp BinOp.sub 3 (Operand.tmp 219) (Operand.const (Value.int IntKind.i64 1)) 3, type := 3, pos := "law19.go:78", after := #[{ on := 10, ground := Ground.data }], guard := none }, { dst := some 221, op := Op.slice 36 (Operand.tmp 214) none (some (Operand.tmp 220)) none, type := 36, pos := "law19.go:78", after := #[{ on := 5, ground := Ground.data }, { on := 11, ground := Ground.data }], guard := none }, { dst := some 222, op := Op.indexAddr 27 (Operand.tmp 209) (Operand.tmp 210), type := 0, pos := "law19.go:78", after := #[{ on := 0, ground := Ground.data }, { on := 1, ground := Ground.data }, { on := 0, ground := Ground.phase }, { on := 1, ground := Ground.phase }, { on := 2, ground := Ground.phase }, { on := 3, ground := Ground.phase }, { on := 4, ground := Ground.phase }, { on := 5, ground := Ground.phase }, { on := 6, ground := Ground.phase }, { on := 7, ground := Ground.phase }, { on := 8, ground := Ground.phase }, { on := 9, ground := Ground.phase }, { on := 10, ground := Ground.phase }, { on := 11, ground := Ground.phase }, { on := 12, ground := Ground.phase }], guard := none }, { dst := none, op := Op.store 36 (Operand.tmp 222) (Operand.tmp 221), type := 0, pos := "law19.go:78", after := #[{ on := 13, ground := Ground.data }, { on := 12, ground := Ground.data }, { on := 0, ground := Ground.phase }, { on := 1, ground := Ground.phase }, { on := 2, ground := Ground.phase }, { on := 3, ground := Ground.phase }, { on := 4, ground := Ground.phase }, { on := 5, ground := Ground.phase }, { on := 6, ground := Ground.phase }, { on := 7, ground := Ground.phase }, { on := 8, ground := Ground.phase }, { on := 9, ground := Ground.phase }, { on := 10, ground := Ground.phase }, { on := 11, ground := Ground.phase }, { on := 12, ground := Ground.phase }], guard := none }]
abbrev put46 (bd i g n c : Nat) (t : Array Value) : Array Value := ((((((((((((((t.setIfInBounds 209 (V46 bd i g n c 0)).setIfInBounds 210 (V46 bd i g n c 1)).setIfInBounds 211 (V46 bd i g n c 2)).setIfInBounds 212 (V46 bd i g n c 3)).setIfInBounds 213 (V46 bd i g n c 4)).setIfInBounds 214 (V46 bd i g n c 5)).setIfInBounds 215 (V46 bd i g n c 6)).setIfInBounds 216 (V46 bd i g n c 7)).setIfInBounds 217 (V46 bd i g n c 8)).setIfInBounds 218 (V46 bd i g n c 9)).setIfInBounds 219 (V46 bd i g n c 10)).setIfInBounds 220 (V46 bd i g n c 11)).setIfInBounds 221 (V46 bd i g n c 12)).setIfInBounds 222 (V46 bd i g n c 13))
set_option maxHeartbeats 4000000 in
theorem reg46 {Q : Exit → Act → World → Prop} {a0 : Act} {W0 : World} {bd i g n c : Nat} {cs : Array Value}
    (hsz : a0.tmps.size = 288) (h4 : a0.tmps.getD 4 undef = .slice (some ⟨bd, 0, none⟩) 2 2) (h7 : a0.tmps.getD 7 undef = .int .i64 (i : Int))
    (hi2 : i < 2) (hbd : Box W0 bd cs 36) (hv : cs[i]? = some (.slice (some ⟨g, 0, none⟩) (n + 1) c)) (hn : n ≤ 1000) (hnc : n ≤ c)
    (hend : Q .normal { a0 with tmps := put46 bd i g n c a0.tmps } ((W0.drew).setCell ⟨bd, i, none⟩ (.slice (some ⟨g, 0, none⟩) n c))) :
    (Code.region 46 ops46 true).wp Try.prog Q a0 W0 := by
  unfold ops46
  have hvc : W0.drew.cell? ⟨bd, i, none⟩ = some (.slice (some ⟨g, 0, none⟩) (n + 1) c) := box_cell (w := W0) hbd hv
  have hfr : W0.drew.frozen? ⟨bd, i, none⟩ = false := box_free (w := W0) hbd i
  have n1 : (0 : Int) ≤ (i : Int) := by omega
  have n2 : (i : Int) < 2 := by omega
  refine region_ext (J := JQ W0 bd i 14 (V46 bd i g n c)) (by kernel_rfl) (by kernel_rfl) (by rw [hsz]; kernel_rfl) JQ.start ?_ ?_
  · intro j o hi L xs a w1 hJ hL hdo hc hX
    match j, hi with
    | 0, hi =>
      cases hi
      have s := (hX.out (s := 4) rfl).trans h4
      refine wpOp_value rfl rfl (v := V46 bd i g n c 0) (w' := w1) ?_ ⟨_, rfl, hJ.put (by decide) rfl⟩
      simp [go_sem, Act.eval, V46, s]
    | 1, hi =>
      cases hi
      have s := (hX.out (s := 7) rfl).trans h7
      refine wpOp_value rfl rfl (v := V46 bd i g n c 1) (w' := w1) ?_ ⟨_, rfl, hJ.put (by decide) rfl⟩
      simp [go_sem, Act.eval, V46, s]
    | 2, hi =>
      cases hi
      have s := (hX.out (s := 4) rfl).trans h4
      refine wpOp_value rfl rfl (v := V46 bd i g n c 2) (w' := w1) ?_ ⟨_, rfl, hJ.put (by decide) rfl⟩
      simp [go_sem, Act.eval, V46, s]
    | 3, hi =>
      cases hi
      have s := (hX.out (s := 7) rfl).trans h7
      refine wpOp_value rfl rfl (v := V46 bd i g n c 3) (w' := w1) ?_ ⟨_, rfl, hJ.put (by decide) rfl⟩
      simp [go_sem, Act.eval, V46, s]
    | 4, hi =>
      cases hi
      have l2 := hdo ⟨2, .data⟩ (by simp) rfl
      have r2 := (hX.rd 2 _ 211 rfl rfl l2).trans (hJ.told 2 l2 (by omega))
      have l3 := hdo ⟨3, .data⟩ (by simp) rfl
      have r3 := (hX.rd 3 _ 212 rfl rfl l3).trans (hJ.told 3 l3 (by omega))
      refine wpOp_value rfl rfl (v := V46 bd i g n c 4) (w' := w1) ?_ ⟨_, rfl, hJ.put (by decide) rfl⟩
      simp [go_sem, Act.eval, V46, r2, r3, n1, n2]
    | 5, hi =>
      cases hi
      have l4 := hdo ⟨4, .data⟩ (by simp) rfl
      have r4 := (hX.rd 4 _ 213 rfl rfl l4).trans (hJ.told 4 l4 (by omega))
      have n14 : L 14 = false := by
        cases e1 : L 14 with
        | false => rfl
        | true => exact absurd (hc 14 _ rfl e1 ⟨5, .phase⟩ (by simp) rfl) (by rw [hL]; decide)
      have e := hJ.m0 n14
      subst e
      refine wpOp_value rfl rfl (v := V46 bd i g n c 5) (w' := W0.drew) ?_ ⟨_, rfl, hJ.put (by decide) rfl⟩
      simp [go_sem, Act.eval, V46, r4, hvc]
    | 6, hi =>
      cases hi
      have s := (hX.out (s := 4) rfl).trans h4
      refine wpOp_value rfl rfl (v := V46 bd i g n c 6) (w' := w1) ?_ ⟨_, rfl, hJ.put (by decide) rfl⟩
      simp [go_sem, Act.eval, V46, s]
    | 7, hi =>
      cases hi
      have s := (hX.out (s := 7) rfl).trans h7
      refine wpOp_value rfl rfl (v := V46 bd i g n c 7) (w' := w1) ?_ ⟨_, rfl, hJ.put (by decide) rfl⟩
      simp [go_sem, Act.eval, V46, s]
    | 8, hi =>
      cases hi
      have l6 := hdo ⟨6, .data⟩ (by simp) rfl
      have r6 := (hX.rd 6 _ 215 rfl rfl l6).trans (hJ.told 6 l6 (by omega))
      have l7 := hdo ⟨7, .data⟩ (by simp) rfl
      have r7 := (hX.rd 7 _ 216 rfl rfl l7).trans (hJ.told 7 l7 (by omega))
      refine wpOp_value rfl rfl (v := V46 bd i g n c 8) (w' := w1) ?_ ⟨_, rfl, hJ.put (by decide) rfl⟩
      simp [go_sem, Act.eval, V46, r6, r7, n1, n2]
    | 9, hi =>
      cases hi
      have l8 := hdo ⟨8, .data⟩ (by simp) rfl
      have r8 := (hX.rd 8 _ 217 rfl rfl l8).trans (hJ.told 8 l8 (by omega))
      have n14 : L 14 = false := by
        cases e1 : L 14 with
        | false => rfl
        | true => exact absurd (hc 14 _ rfl e1 ⟨9, .phase⟩ (by simp) rfl) (by rw [hL]; decide)
      have e := hJ.m0 n14
      subst e
      refine wpOp_value rfl rfl (v := V46 bd i g n c 9) (w' := W0.drew) ?_ ⟨_, rfl, hJ.put (by decide) rfl⟩
      simp [go_sem, Act.eval, V46, r8, hvc]
    | 10, hi =>
      cases hi
      have l9 := hdo ⟨9, .data⟩ (by simp) rfl
      have r9 := (hX.rd 9 _ 218 rfl rfl l9).trans (hJ.told 9 l9 (by omega))
      refine wpOp_value rfl rfl (v := V46 bd i g n c 10) (w' := w1) ?_ ⟨_, rfl, hJ.put (by decide) rfl⟩
      simp [go_sem, Act.eval, V46, r9]
    | 11, hi =>
      cases hi
      have l10 := hdo ⟨10, .data⟩ (by simp) rfl
      have r10 := (hX.rd 10 _ 219 rfl rfl l10).trans (hJ.told 10 l10 (by omega))
      refine wpOp_value rfl rfl (v := V46 bd i g n c 11) (w' := w1) ?_ ⟨_, rfl, hJ.put (by decide) rfl⟩
      simp [go_sem, Act.eval, V46, r10]
      simp [IntKind.wrap, IntKind.signed, IntKind.bits]
      omega
    | 12, hi =>
      cases hi
      have l5 := hdo ⟨5, .data⟩ (by simp) rfl
      have r5 := (hX.rd 5 _ 214 rfl rfl l5).trans (hJ.told 5 l5 (by omega))
      have l11 := hdo ⟨11, .data⟩ (by simp) rfl
      have r11 := (hX.rd 11 _ 220 rfl rfl l11).trans (hJ.told 11 l11 (by omega))
      have n3 : (0 : Int) ≤ (n : Int) := by omega
      have n4 : (n : Int) ≤ (c : Int) := by omega
      refine wpOp_value rfl rfl (v := V46 bd i g n c 12) (w' := w1) ?_ ⟨_, rfl, hJ.put (by decide) rfl⟩
      simp [go_sem, Act.eval, V46, r5, r11, n3, n4]
    | 13, hi =>
      cases hi
      have l0 := hdo ⟨0, .data⟩ (by simp) rfl
      have r0 := (hX.rd 0 _ 209 rfl rfl l0).trans (hJ.told 0 l0 (by omega))
      have l1 := hdo ⟨1, .data⟩ (by simp) rfl
      have r1 := (hX.rd 1 _ 210 rfl rfl l1).trans (hJ.told 1 l1 (by omega))
      refine wpOp_value rfl rfl (v := V46 bd i g n c 13) (w' := w1) ?_ ⟨_, rfl, hJ.put (by decide) rfl⟩
      simp [go_sem, Act.eval, V46, r0, r1, n1, n2]
    | 14, hi =>
      cases hi
      have l13 := hdo ⟨13, .data⟩ (by simp) rfl
      have r13 := (hX.rd 13 _ 222 rfl rfl l13).trans (hJ.told 13 l13 (by omega))
      have l12 := hdo ⟨12, .data⟩ (by simp) rfl
      have r12 := (hX.rd 12 _ 221 rfl rfl l12).trans (hJ.told 12 l12 (by omega))
      have e := hJ.m0 hL
      subst e
      refine wpOp_skip rfl rfl (w' := (W0.drew).setCell ⟨bd, i, none⟩ (V46 bd i g n c (14 - 2))) ?_ ⟨undef, rfl, hJ.store⟩
      simp [go_sem, Act.eval, V46, r13, r12, hvc, hfr]
    | n + 15, hi => cases hi
  · intro L xs w1 hJ hall
    have e0 := hJ.told 0 (hall 0 (by simp)) (by omega)
    have e1 := hJ.told 1 (hall 1 (by simp)) (by omega)
    have e2 := hJ.told 2 (hall 2 (by simp)) (by omega)
    have e3 := hJ.told 3 (hall 3 (by simp)) (by omega)
    have e4 := hJ.told 4 (hall 4 (by simp)) (by omega)
    have e5 := hJ.told 5 (hall 5 (by simp)) (by omega)
    have e6 := hJ.told 6 (hall 6 (by simp)) (by omega)
    have e7 := hJ.told 7 (hall 7 (by simp)) (by omega)
    have e8 := hJ.told 8 (hall 8 (by simp)) (by omega)
    have e9 := hJ.told 9 (hall 9 (by simp)) (by omega)
    have e10 := hJ.told 10 (hall 10 (by simp)) (by omega)
    have e11 := hJ.told 11 (hall 11 (by simp)) (by omega)
    have e12 := hJ.told 12 (hall 12 (by simp)) (by omega)
    have e13 := hJ.told 13 (hall 13 (by simp)) (by omega)
    rw [hJ.m1 (hall 14 (by simp))]
    simp only [puts, Act.put, e0, e1, e2, e3, e4, e5, e6, e7, e8, e9, e10, e11, e12, e13]
    exact hend
end Go.Proofs.Ytfdlndljpmamgaa
