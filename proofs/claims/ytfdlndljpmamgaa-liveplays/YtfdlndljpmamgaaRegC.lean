/- The law's region that holds a house against the document's graph. -/
import Derived.Test.YtfdlndljpmamgaaRegA
import Derived.Test.YtfdlndljpmamgaaReachR
namespace Go.Proofs.Ytfdlndljpmamgaa
set_option maxRecDepth 8000
open Go.RowKit Go.Maps
theorem get_of_getD {t : Array Value} {s : Nat} {b : Bool} (h : t.getD s undef = .bool b) : t[s]? = some (.bool b) := by
  rw [Array.getD_eq_getD_getElem?] at h
  cases e : t[s]? with
  | none => rw [e] at h; cases h
  | some x => rw [e] at h; exact congrArg some h
theorem wanted_false {o : Oper} {ops : Array Oper} {t : Array Value} {g s : Nat} (hg : o.guard = some (g, false)) (hd : (ops[g]?).bind (·.dst) = some s) (ht : t.getD s undef = .bool false) : Region.wanted o (yielded ops t) = true := by
  simp [Region.wanted, hg, yielded, hd, get_of_getD ht]
/-- What the operations read. -/
structure Rd54 (b20 b22 bh j hb : Nat) (N : Int) (ev ev2 nv nv2 : Value) (es : List Pair) (L : List ByteArray) (W : World) : Prop where
  x0 : W.cell? ⟨b20, 0, none⟩ = some (.int .i64 N)
  x1 : W.cell? ⟨b20, 1, none⟩ = some ev
  y0 : W.cell? ⟨b22, 0, none⟩ = some (.int .i64 N)
  y1 : W.cell? ⟨b22, 1, none⟩ = some ev2
  h : W.cell? ⟨bh, j, none⟩ = some (ptr hb)
  e1 : EdgesAt W ev es
  e2 : EdgesAt W ev2 es
  s1 : StrsAt W nv L
  s2 : StrsAt W nv2 L
structure J54 (W0 : World) (tb : Nat) (Kn : World → Prop) (V : Nat → Value) (N : Nat) (p : Int → Int → Bool) (L : Nat → Bool) (xs : Nat → Value) (W : World) : Prop where
  told : ∀ i, L i = true → i ≠ 17 → xs i = V i
  grid : L 17 = true → ∃ go gc, xs 17 = .slice go N gc ∧ GridAt W (.slice go N gc) N p
  turns : Turns (fun x => x = tb) W0 W
  m0 : L 15 = false → Below W0.heap.size W0 W
  m1 : L 15 = true → Kn W
section
variable {W0 W W' : World} {tb : Nat} {Kn : World → Prop} {V : Nat → Value} {N : Nat} {p : Int → Int → Bool} {L : Nat → Bool} {xs : Nat → Value}
theorem J54.start : J54 W0 tb Kn V N p (fun _ => false) (fun _ => undef) W0.drew :=
  ⟨fun _ h => (by cases h), fun h => (by cases h), Turns.of_below (Below.refl _ _).drew _, fun _ => (Below.refl _ _).drew, fun h => (by cases h)⟩
theorem J54.put (hK : ∀ W W', Kn W → Below W.heap.size W W' → Kn W') (h : J54 W0 tb Kn V N p L xs W) {i : Nat} (h15 : i ≠ 15) (h17 : i ≠ 17) {x : Value} (hx : x = V i) (hb : Below W.heap.size W W') : J54 W0 tb Kn V N p (also L i) (updV xs i x) W' := by
  refine ⟨fun k hk hl => ?_, fun e => ?_, h.turns.trans (Turns.of_below hb _), fun e => below_next (h.m0 (by rwa [also_at (fun e => h15 e.symm)] at e)) hb, fun e => hK _ _ (h.m1 (by rwa [also_at (fun e => h15 e.symm)] at e)) hb⟩
  · by_cases e : k = i
    · subst e; rw [updV_same]; exact hx
    · rw [updV_ne _ _ e]; exact h.told k (by rwa [also_at e] at hk) hl
  · rw [also_at (fun e => h17 e.symm)] at e
    obtain ⟨go, gc, h1, h2⟩ := h.grid e
    exact ⟨go, gc, by rw [updV_ne _ _ (fun e => h17 e.symm)]; exact h1, h2.below hb⟩
theorem J54.ask (h : J54 W0 tb Kn V N p L xs W) (l17 : L 17 = false) {x : Value} (hx : x = V 15) (hT : Turns (fun x => x = tb) W W') (hk : Kn W') : J54 W0 tb Kn V N p (also L 15) (updV xs 15 x) W' := by
  refine ⟨fun k hk hl => ?_, fun e => ?_, h.turns.trans hT, fun e => (by rw [also_self] at e; cases e), fun _ => hk⟩
  · by_cases e : k = 15
    · subst e; rw [updV_same]; exact hx
    · rw [updV_ne _ _ e]; exact h.told k (by rwa [also_at e] at hk) hl
  · rw [also_at (by decide), l17] at e; cases e
theorem J54.table (hK : ∀ W W', Kn W → Below W.heap.size W W' → Kn W') (h : J54 W0 tb Kn V N p L xs W) (l15 : L 15 = true) {go : Option Addr} {gc : Nat} (hb : Below W.heap.size W W') (hg : GridAt W' (.slice go N gc) N p) : J54 W0 tb Kn V N p (also L 17) (updV xs 17 (.slice go N gc)) W' := by
  refine ⟨fun k hk hl => ?_, fun _ => ⟨go, gc, updV_same _ _ _, hg⟩, h.turns.trans (Turns.of_below hb _), fun e => (by rw [also_of l15] at e; cases e), fun _ => hK _ _ (h.m1 l15) hb⟩
  rw [updV_ne _ _ hl]; exact h.told k (by rwa [also_at hl] at hk) hl
end
def V54 (bh j hb N : Nat) (ev ev2 nv nv2 : Value) (C : Int) : Nat → Value
  | 0 => .agg #[.int .i64 (N : Int), ev]
  | 1 => .agg #[.int .i64 (N : Int), ev2]
  | 2 => .bool true
  | 3 => .bool false
  | 4 => .bool false
  | 5 => nv
  | 6 => nv2
  | 7 => .bool true
  | 8 => .bool false
  | 9 => .bool false
  | 10 => .bool false
  | 11 => .slice (some ⟨bh, 0, none⟩) 2 2
  | 12 => .int .i64 (j : Int)
  | 13 => .pointer (some ⟨bh, j, none⟩)
  | 14 => ptr hb
  | 15 => .int .i64 C
  | 16 => .agg #[.int .i64 (N : Int), ev2]
  | 18 => .int .i64 C
  | 19 => .bool false
  | 20 => .bool false
  | _ => undef
abbrev ops54 : Array Oper := #[{ dst := some 246, op := Op.load 42 (Operand.tmp 20), type := 42, pos := "law19.go:105", after := #[], guard := none }, { dst := some 247, op := Op.load 42 (Operand.tmp 22), type := 42, pos := "law19.go:105", after := #[], guard := none }, { dst := some 248, op := Op.call { callee := Callee.value (Operand.func 18), args := #[Operand.tmp 246, Operand.tmp 247], argTypes := #[42, 42] }, type := 4, pos := "law19.go:105", after := #[{ on := 0, ground := Ground.data }, { on := 1, ground := Ground.data }], guard := none }, { dst := some 249, op := Op.unOp UnOp.not 4 (Operand.tmp 248), type := 4, pos := "law19.go:105", after := #[{ on := 2, ground := Ground.data }], guard := none }, { dst := some 250, op := Op.move (Operand.tmp 249), type := 4, pos := "law19.go:105", after := #[{ on := 3, ground := Ground.data }, { on := 2, ground := Ground.chain }], guard := none }, { dst := some 251, op := Op.move (Operand.tmp 21), type := 43, pos := "law19.go:105", after := #[{ on := 4, ground := Ground.guard }], guard := some (4, false) }, { dst := some 252, op := Op.move (Operand.tmp 23), type := 43, pos := "law19.go:105", after := #[{ on := 4, ground := Ground.guard }], guard := some (4, false) }, { dst := some 253, op := Op.call { callee := Callee.value (Operand.func 19), args := #[Operand.tmp 251, Operand.tmp 252], argTypes := #[43, 43] }, type := 4, pos := "law19.go:105", after := #[{ on := 5, ground := Ground.data }, { on := 6, ground := Ground.data }, { on := 4, ground := Ground.chain }, { on := 4, ground := Ground.guard }], guard := some (4, false) }, { dst := some 254, op := Op.unOp UnOp.not 4 (Operand.tmp 253), type := 4, pos := "law19.go:105", after := #[{ on := 7, ground := Ground.data }, { on := 4, ground := Ground.guard }], guard := some (4, false) }, { dst := some 255, op := Op.pick (Operand.tmp 250) (Operand.const (Value.bool true)) (Operand.tmp 254), type := 4, pos := "law19.go:105", after := #[{ on := 4, ground := Ground.data }, { on := 8, ground := Ground.data }], guard := none }, { dst := some 256, op := Op.move (Operand.tmp 255), type := 4, pos := "law19.go:105", after := #[{ on := 9, ground := Ground.data }, { on := 7, ground := Ground.chain }], guard := none }, { dst := some 257, op := Op.move (Operand.tmp 3), type := 26, pos := "law19.go:105", after := #[{ on := 10, ground := Ground.guard }], guard := some (10, false) }, { dst := some 258, op := Op.move (Operand.tmp 19), type := 3, pos := "law19.go:105", after := #[{ on := 10, ground := Ground.guard }], guard := some (10, false) }, { dst := some 259, op := Op.indexAddr 26 (Operand.tmp 257) (Operand.tmp 258), type := 0, pos := "law19.go:105", after := #[{ on := 11, ground := Ground.data }, { on := 12, ground := Ground.data }, { on := 10, ground := Ground.guard }], guard := some (10, false) }, { dst := some 260, op := Op.load 24 (Operand.tmp 259), type := 24, pos := "law19.go:105", after := #[{ on := 13, ground := Ground.data }, { on := 10, ground := Ground.guard }], guard := some (10, false) }, { dst := some 261, op := Op.call { callee := Callee.value (Operand.func 20), args := #[Operand.tmp 260], argTypes := #[24] }, type := 3, pos := "law19.go:105", after := #[{ on := 14, ground := Ground.data }, { on := 10, ground := Ground.chain }, { on := 10, ground := Ground.guard }], guard := some (10, false) }, { dst := some 262, op := Op.load 42 (Operand.tmp 22), type := 42, pos := "law19.go:105", after := #[{ on := 10, ground := Ground.guard }], guard := some (10, false) }, { dst := some 263, op := Op.call { callee := Callee.value (Operand.func 16), args := #[Operand.tmp 262], argTypes := #[42] }, type := 52, pos := "law19.go:105", after := #[{ on := 16, ground := Ground.data }, { on := 15, ground := Ground.chain }, { on := 10, ground := Ground.guard }], guard := some (10, false) }, { dst := some 264, op := Op.call { callee := Callee.value (Operand.func 21), args := #[Operand.tmp 263, Operand.const (Value.slice none 0 0)], argTypes := #[52, 49] }, type := 3, pos := "law19.go:105", after := #[{ on := 17, ground := Ground.data }, { on := 17, ground := Ground.chain }, { on := 10, ground := Ground.guard }], guard := some (10, false) }, { dst := some 265, op := Op.binOp BinOp.neq 3 (Operand.tmp 261) (Operand.tmp 264) 3, type := 4, pos := "law19.go:105", after := #[{ on := 15, ground := Ground.data }, { on := 18, ground := Ground.data }, { on := 10, ground := Ground.guard }], guard := some (10, false) }, { dst := some 266, op := Op.pick (Operand.tmp 256) (Operand.const (Value.bool true)) (Operand.tmp 265), type := 4, pos := "law19.go:105", after := #[{ on := 10, ground := Ground.data }, { on := 19, ground := Ground.data }], guard := none }]
abbrev put54 (bh j hb N : Nat) (ev ev2 nv nv2 : Value) (C : Int) (go : Option Addr) (gc : Nat) (t : Array Value) : Array Value := (((((((((((((((((((((t.setIfInBounds 246 (V54 bh j hb N ev ev2 nv nv2 C 0)).setIfInBounds 247 (V54 bh j hb N ev ev2 nv nv2 C 1)).setIfInBounds 248 (V54 bh j hb N ev ev2 nv nv2 C 2)).setIfInBounds 249 (V54 bh j hb N ev ev2 nv nv2 C 3)).setIfInBounds 250 (V54 bh j hb N ev ev2 nv nv2 C 4)).setIfInBounds 251 (V54 bh j hb N ev ev2 nv nv2 C 5)).setIfInBounds 252 (V54 bh j hb N ev ev2 nv nv2 C 6)).setIfInBounds 253 (V54 bh j hb N ev ev2 nv nv2 C 7)).setIfInBounds 254 (V54 bh j hb N ev ev2 nv nv2 C 8)).setIfInBounds 255 (V54 bh j hb N ev ev2 nv nv2 C 9)).setIfInBounds 256 (V54 bh j hb N ev ev2 nv nv2 C 10)).setIfInBounds 257 (V54 bh j hb N ev ev2 nv nv2 C 11)).setIfInBounds 258 (V54 bh j hb N ev ev2 nv nv2 C 12)).setIfInBounds 259 (V54 bh j hb N ev ev2 nv nv2 C 13)).setIfInBounds 260 (V54 bh j hb N ev ev2 nv nv2 C 14)).setIfInBounds 261 (V54 bh j hb N ev ev2 nv nv2 C 15)).setIfInBounds 262 (V54 bh j hb N ev ev2 nv nv2 C 16)).setIfInBounds 263 (.slice go N gc)).setIfInBounds 264 (V54 bh j hb N ev ev2 nv nv2 C 18)).setIfInBounds 265 (V54 bh j hb N ev ev2 nv nv2 C 19)).setIfInBounds 266 (V54 bh j hb N ev ev2 nv nv2 C 20))
set_option maxHeartbeats 8000000 in
theorem reg54 {Q : Exit → Act → World → Prop} {a0 : Act} {W0 : World} {tb b20 b22 bh j hb N : Nat} {no no2 : Option Addr} {nc nc2 : Nat} {es : List Pair} {L : List ByteArray} {C : Int} {Kn : World → Prop} {p : Int → Int → Bool} {eo eo2 : Option Addr} {ec ec2 el el2 : Nat}
    (hsz : a0.tmps.size = 288) (h20 : a0.tmps.getD 20 undef = ptr b20) (h22 : a0.tmps.getD 22 undef = ptr b22) (h21 : a0.tmps.getD 21 undef = .slice no L.length nc) (h23 : a0.tmps.getD 23 undef = .slice no2 L.length nc2) (h3 : a0.tmps.getD 3 undef = .slice (some ⟨bh, 0, none⟩) 2 2) (h19 : a0.tmps.getD 19 undef = .int .i64 (j : Int))
    (hj2 : j < 2) (hL : L.length ≤ 100)
    (hrd : ∀ W, Turns (fun x => x = tb) W0 W → Rd54 b20 b22 bh j hb (N : Int) (.slice eo el ec) (.slice eo2 el2 ec2) (.slice no L.length nc) (.slice no2 L.length nc2) es L W)
    (hKn : ∀ W W', Kn W → Below W.heap.size W W' → Kn W')
    (hC20 : ∀ W, Below W0.heap.size W0 W → Calls Try.prog 20 #[ptr hb] W fun e w' => e = .returned (.int .i64 C) ∧ Turns (fun x => x = tb) W w' ∧ Kn w')
    (hC16 : ∀ W, EdgesAt W (.slice eo2 el2 ec2) es → Calls Try.prog 16 #[.agg #[.int .i64 (N : Int), (.slice eo2 el2 ec2)]] W fun e w' => (∃ ao cap, e = .returned (.slice ao N cap) ∧ GridAt w' (.slice ao N cap) N p) ∧ Below W.heap.size W w')
    (hC21 : ∀ W go gc, GridAt W (.slice go N gc) N p → Calls Try.prog 21 #[.slice go N gc, .slice none 0 0] W fun e w' => e = .returned (.int .i64 C) ∧ Below W.heap.size W w')
    (hend : ∀ w' go gc, Turns (fun x => x = tb) W0 w' → Kn w' → Q .normal { a0 with tmps := put54 bh j hb N (.slice eo el ec) (.slice eo2 el2 ec2) (.slice no L.length nc) (.slice no2 L.length nc2) C go gc a0.tmps } w') :
    (Code.region 54 ops54 true).wp Try.prog Q a0 W0 := by
  unfold ops54
  have n1 : (0 : Int) ≤ (j : Int) := by omega
  have n2 : (j : Int) < 2 := by omega
  refine region_ext (J := J54 W0 tb Kn (V54 bh j hb N (.slice eo el ec) (.slice eo2 el2 ec2) (.slice no L.length nc) (.slice no2 L.length nc2) C) N p) (by kernel_rfl) (by kernel_rfl) (by rw [hsz]; kernel_rfl) J54.start ?_ ?_
  · intro i o hi Ls xs a w1 hJ hL' hdo hc hX
    match i, hi with
    | 0, hi =>
      cases hi
      have s := (hX.out (s := 20) rfl).trans h20
      have m := hrd w1 hJ.turns
      have m0 := m.x0
      have m1 := m.x1
      refine wpOp_value rfl rfl (v := V54 bh j hb N (.slice eo el ec) (.slice eo2 el2 ec2) (.slice no L.length nc) (.slice no2 L.length nc2) C 0) (w' := w1) ?_ ⟨_, rfl, hJ.put hKn (by decide) (by decide) rfl (Below.refl _ _)⟩
      simp [go_sem, Act.eval, V54, s, m0, m1]
    | 1, hi =>
      cases hi
      have s := (hX.out (s := 22) rfl).trans h22
      have m := hrd w1 hJ.turns
      have m0 := m.y0
      have m1 := m.y1
      refine wpOp_value rfl rfl (v := V54 bh j hb N (.slice eo el ec) (.slice eo2 el2 ec2) (.slice no L.length nc) (.slice no2 L.length nc2) C 1) (w' := w1) ?_ ⟨_, rfl, hJ.put hKn (by decide) (by decide) rfl (Below.refl _ _)⟩
      simp [go_sem, Act.eval, V54, s, m0, m1]
    | 2, hi =>
      cases hi
      have l0 := hdo ⟨0, .data⟩ (by simp) rfl
      have r0 := (hX.rd 0 _ 246 rfl rfl l0).trans (hJ.told 0 l0 (by omega))
      have l1 := hdo ⟨1, .data⟩ (by simp) rfl
      have r1 := (hX.rd 1 _ 247 rfl rfl l1).trans (hJ.told 1 l1 (by omega))
      refine wpOp_call (f := 18) (args := #[.agg #[.int .i64 (N : Int), (.slice eo el ec)], .agg #[.int .i64 (N : Int), (.slice eo2 el2 ec2)]]) rfl rfl (w' := w1) ?_ ?_
      · simp [go_sem, Act.eval, V54, r0, r1]
      · refine (same_true (N : Int) (.slice eo el ec) (.slice eo2 el2 ec2) es w1 (hrd w1 hJ.turns).e1 (hrd w1 hJ.turns).e2).mono ?_
        rintro e w3 ⟨rfl, hB3⟩
        exact ⟨_, rfl, _, rfl, hJ.put hKn (by decide) (by decide) rfl hB3⟩
    | 3, hi =>
      cases hi
      have l2 := hdo ⟨2, .data⟩ (by simp) rfl
      have r2 := (hX.rd 2 _ 248 rfl rfl l2).trans (hJ.told 2 l2 (by omega))
      refine wpOp_value rfl rfl (v := V54 bh j hb N (.slice eo el ec) (.slice eo2 el2 ec2) (.slice no L.length nc) (.slice no2 L.length nc2) C 3) (w' := w1) ?_ ⟨_, rfl, hJ.put hKn (by decide) (by decide) rfl (Below.refl _ _)⟩
      simp [go_sem, Act.eval, V54, r2]
    | 4, hi =>
      cases hi
      have l3 := hdo ⟨3, .data⟩ (by simp) rfl
      have r3 := (hX.rd 3 _ 249 rfl rfl l3).trans (hJ.told 3 l3 (by omega))
      refine wpOp_value rfl rfl (v := V54 bh j hb N (.slice eo el ec) (.slice eo2 el2 ec2) (.slice no L.length nc) (.slice no2 L.length nc2) C 4) (w' := w1) ?_ ⟨_, rfl, hJ.put hKn (by decide) (by decide) rfl (Below.refl _ _)⟩
      simp [go_sem, Act.eval, V54, r3]
    | 5, hi =>
      cases hi
      have l4 := hdo ⟨4, .guard⟩ (by simp) rfl
      have r4 := (hX.rd 4 _ 250 rfl rfl l4).trans (hJ.told 4 l4 (by omega))
      have s := (hX.out (s := 21) rfl).trans h21
      refine wpOp_value rfl (wanted_false (g := 4) (s := 250) rfl rfl r4) (v := V54 bh j hb N (.slice eo el ec) (.slice eo2 el2 ec2) (.slice no L.length nc) (.slice no2 L.length nc2) C 5) (w' := w1) ?_ ⟨_, rfl, hJ.put hKn (by decide) (by decide) rfl (Below.refl _ _)⟩
      simp [go_sem, Act.eval, V54, s]
    | 6, hi =>
      cases hi
      have l4 := hdo ⟨4, .guard⟩ (by simp) rfl
      have r4 := (hX.rd 4 _ 250 rfl rfl l4).trans (hJ.told 4 l4 (by omega))
      have s := (hX.out (s := 23) rfl).trans h23
      refine wpOp_value rfl (wanted_false (g := 4) (s := 250) rfl rfl r4) (v := V54 bh j hb N (.slice eo el ec) (.slice eo2 el2 ec2) (.slice no L.length nc) (.slice no2 L.length nc2) C 6) (w' := w1) ?_ ⟨_, rfl, hJ.put hKn (by decide) (by decide) rfl (Below.refl _ _)⟩
      simp [go_sem, Act.eval, V54, s]
    | 7, hi =>
      cases hi
      have l4 := hdo ⟨4, .guard⟩ (by simp) rfl
      have r4 := (hX.rd 4 _ 250 rfl rfl l4).trans (hJ.told 4 l4 (by omega))
      have l5 := hdo ⟨5, .data⟩ (by simp) rfl
      have r5 := (hX.rd 5 _ 251 rfl rfl l5).trans (hJ.told 5 l5 (by omega))
      have l6 := hdo ⟨6, .data⟩ (by simp) rfl
      have r6 := (hX.rd 6 _ 252 rfl rfl l6).trans (hJ.told 6 l6 (by omega))
      refine wpOp_call (f := 19) (args := #[.slice no L.length nc, .slice no2 L.length nc2]) rfl (wanted_false (g := 4) (s := 250) rfl rfl r4) (w' := w1) ?_ ?_
      · simp [go_sem, Act.eval, V54, r5, r6]
      · refine (names_same (hrd w1 hJ.turns).s1 (hrd w1 hJ.turns).s2 (by omega)).mono ?_
        rintro e w3 ⟨rfl, hB3⟩
        exact ⟨_, rfl, _, rfl, hJ.put hKn (by decide) (by decide) rfl hB3⟩
    | 8, hi =>
      cases hi
      have l4 := hdo ⟨4, .guard⟩ (by simp) rfl
      have r4 := (hX.rd 4 _ 250 rfl rfl l4).trans (hJ.told 4 l4 (by omega))
      have l7 := hdo ⟨7, .data⟩ (by simp) rfl
      have r7 := (hX.rd 7 _ 253 rfl rfl l7).trans (hJ.told 7 l7 (by omega))
      refine wpOp_value rfl (wanted_false (g := 4) (s := 250) rfl rfl r4) (v := V54 bh j hb N (.slice eo el ec) (.slice eo2 el2 ec2) (.slice no L.length nc) (.slice no2 L.length nc2) C 8) (w' := w1) ?_ ⟨_, rfl, hJ.put hKn (by decide) (by decide) rfl (Below.refl _ _)⟩
      simp [go_sem, Act.eval, V54, r7]
    | 9, hi =>
      cases hi
      have l4 := hdo ⟨4, .data⟩ (by simp) rfl
      have r4 := (hX.rd 4 _ 250 rfl rfl l4).trans (hJ.told 4 l4 (by omega))
      have l8 := hdo ⟨8, .data⟩ (by simp) rfl
      have r8 := (hX.rd 8 _ 254 rfl rfl l8).trans (hJ.told 8 l8 (by omega))
      refine wpOp_value rfl rfl (v := V54 bh j hb N (.slice eo el ec) (.slice eo2 el2 ec2) (.slice no L.length nc) (.slice no2 L.length nc2) C 9) (w' := w1) ?_ ⟨_, rfl, hJ.put hKn (by decide) (by decide) rfl (Below.refl _ _)⟩
      simp [go_sem, Act.eval, V54, r4, r8]
    | 10, hi =>
      cases hi
      have l9 := hdo ⟨9, .data⟩ (by simp) rfl
      have r9 := (hX.rd 9 _ 255 rfl rfl l9).trans (hJ.told 9 l9 (by omega))
      refine wpOp_value rfl rfl (v := V54 bh j hb N (.slice eo el ec) (.slice eo2 el2 ec2) (.slice no L.length nc) (.slice no2 L.length nc2) C 10) (w' := w1) ?_ ⟨_, rfl, hJ.put hKn (by decide) (by decide) rfl (Below.refl _ _)⟩
      simp [go_sem, Act.eval, V54, r9]
    | 11, hi =>
      cases hi
      have l10 := hdo ⟨10, .guard⟩ (by simp) rfl
      have r10 := (hX.rd 10 _ 256 rfl rfl l10).trans (hJ.told 10 l10 (by omega))
      have s := (hX.out (s := 3) rfl).trans h3
      refine wpOp_value rfl (wanted_false (g := 10) (s := 256) rfl rfl r10) (v := V54 bh j hb N (.slice eo el ec) (.slice eo2 el2 ec2) (.slice no L.length nc) (.slice no2 L.length nc2) C 11) (w' := w1) ?_ ⟨_, rfl, hJ.put hKn (by decide) (by decide) rfl (Below.refl _ _)⟩
      simp [go_sem, Act.eval, V54, s]
    | 12, hi =>
      cases hi
      have l10 := hdo ⟨10, .guard⟩ (by simp) rfl
      have r10 := (hX.rd 10 _ 256 rfl rfl l10).trans (hJ.told 10 l10 (by omega))
      have s := (hX.out (s := 19) rfl).trans h19
      refine wpOp_value rfl (wanted_false (g := 10) (s := 256) rfl rfl r10) (v := V54 bh j hb N (.slice eo el ec) (.slice eo2 el2 ec2) (.slice no L.length nc) (.slice no2 L.length nc2) C 12) (w' := w1) ?_ ⟨_, rfl, hJ.put hKn (by decide) (by decide) rfl (Below.refl _ _)⟩
      simp [go_sem, Act.eval, V54, s]
    | 13, hi =>
      cases hi
      have l10 := hdo ⟨10, .guard⟩ (by simp) rfl
      have r10 := (hX.rd 10 _ 256 rfl rfl l10).trans (hJ.told 10 l10 (by omega))
      have l11 := hdo ⟨11, .data⟩ (by simp) rfl
      have r11 := (hX.rd 11 _ 257 rfl rfl l11).trans (hJ.told 11 l11 (by omega))
      have l12 := hdo ⟨12, .data⟩ (by simp) rfl
      have r12 := (hX.rd 12 _ 258 rfl rfl l12).trans (hJ.told 12 l12 (by omega))
      refine wpOp_value rfl (wanted_false (g := 10) (s := 256) rfl rfl r10) (v := V54 bh j hb N (.slice eo el ec) (.slice eo2 el2 ec2) (.slice no L.length nc) (.slice no2 L.length nc2) C 13) (w' := w1) ?_ ⟨_, rfl, hJ.put hKn (by decide) (by decide) rfl (Below.refl _ _)⟩
      simp [go_sem, Act.eval, V54, r11, r12, n1, n2]
    | 14, hi =>
      cases hi
      have l10 := hdo ⟨10, .guard⟩ (by simp) rfl
      have r10 := (hX.rd 10 _ 256 rfl rfl l10).trans (hJ.told 10 l10 (by omega))
      have l13 := hdo ⟨13, .data⟩ (by simp) rfl
      have r13 := (hX.rd 13 _ 259 rfl rfl l13).trans (hJ.told 13 l13 (by omega))
      have m := (hrd w1 hJ.turns).h
      refine wpOp_value rfl (wanted_false (g := 10) (s := 256) rfl rfl r10) (v := V54 bh j hb N (.slice eo el ec) (.slice eo2 el2 ec2) (.slice no L.length nc) (.slice no2 L.length nc2) C 14) (w' := w1) ?_ ⟨_, rfl, hJ.put hKn (by decide) (by decide) rfl (Below.refl _ _)⟩
      simp [go_sem, Act.eval, V54, r13, m]
    | 15, hi =>
      cases hi
      have l10 := hdo ⟨10, .guard⟩ (by simp) rfl
      have r10 := (hX.rd 10 _ 256 rfl rfl l10).trans (hJ.told 10 l10 (by omega))
      have l14 := hdo ⟨14, .data⟩ (by simp) rfl
      have r14 := (hX.rd 14 _ 260 rfl rfl l14).trans (hJ.told 14 l14 (by omega))
      have n17 : Ls 17 = false := by
        cases e1 : Ls 17 with
        | false => rfl
        | true => exact absurd (hc 17 _ rfl e1 ⟨15, .chain⟩ (by simp) rfl) (by rw [hL']; decide)
      refine wpOp_call (f := 20) (args := #[ptr hb]) rfl (wanted_false (g := 10) (s := 256) rfl rfl r10) (w' := w1) ?_ ?_
      · simp [go_sem, Act.eval, V54, r14]
      · refine (hC20 w1 (hJ.m0 hL')).mono ?_
        rintro e w3 ⟨rfl, hT3, hk3⟩
        exact ⟨_, rfl, _, rfl, hJ.ask n17 rfl hT3 hk3⟩
    | 16, hi =>
      cases hi
      have l10 := hdo ⟨10, .guard⟩ (by simp) rfl
      have r10 := (hX.rd 10 _ 256 rfl rfl l10).trans (hJ.told 10 l10 (by omega))
      have s := (hX.out (s := 22) rfl).trans h22
      have m := hrd w1 hJ.turns
      have m0 := m.y0
      have m1 := m.y1
      refine wpOp_value rfl (wanted_false (g := 10) (s := 256) rfl rfl r10) (v := V54 bh j hb N (.slice eo el ec) (.slice eo2 el2 ec2) (.slice no L.length nc) (.slice no2 L.length nc2) C 16) (w' := w1) ?_ ⟨_, rfl, hJ.put hKn (by decide) (by decide) rfl (Below.refl _ _)⟩
      simp [go_sem, Act.eval, V54, s, m0, m1]
    | 17, hi =>
      cases hi
      have l10 := hdo ⟨10, .guard⟩ (by simp) rfl
      have r10 := (hX.rd 10 _ 256 rfl rfl l10).trans (hJ.told 10 l10 (by omega))
      have l16 := hdo ⟨16, .data⟩ (by simp) rfl
      have r16 := (hX.rd 16 _ 262 rfl rfl l16).trans (hJ.told 16 l16 (by omega))
      have l15 := hdo ⟨15, .chain⟩ (by simp) rfl
      refine wpOp_call (f := 16) (args := #[.agg #[.int .i64 (N : Int), (.slice eo2 el2 ec2)]]) rfl (wanted_false (g := 10) (s := 256) rfl rfl r10) (w' := w1) ?_ ?_
      · simp [go_sem, Act.eval, V54, r16]
      · refine (hC16 w1 (hrd w1 hJ.turns).e2).mono ?_
        rintro e w3 ⟨⟨go, gc, rfl, hG⟩, hB3⟩
        exact ⟨_, rfl, _, rfl, hJ.table hKn l15 hB3 hG⟩
    | 18, hi =>
      cases hi
      have l10 := hdo ⟨10, .guard⟩ (by simp) rfl
      have r10 := (hX.rd 10 _ 256 rfl rfl l10).trans (hJ.told 10 l10 (by omega))
      have l17 := hdo ⟨17, .data⟩ (by simp) rfl
      obtain ⟨go, gc, e17, hG⟩ := hJ.grid l17
      have r17 := (hX.rd 17 _ 263 rfl rfl l17).trans e17
      refine wpOp_call (f := 21) (args := #[.slice go N gc, .slice none 0 0]) rfl (wanted_false (g := 10) (s := 256) rfl rfl r10) (w' := w1) ?_ ?_
      · simp [go_sem, Act.eval, r17]
      · refine (hC21 w1 go gc hG).mono ?_
        rintro e w3 ⟨rfl, hB3⟩
        exact ⟨_, rfl, _, rfl, hJ.put hKn (by decide) (by decide) rfl hB3⟩
    | 19, hi =>
      cases hi
      have l10 := hdo ⟨10, .guard⟩ (by simp) rfl
      have r10 := (hX.rd 10 _ 256 rfl rfl l10).trans (hJ.told 10 l10 (by omega))
      have l15 := hdo ⟨15, .data⟩ (by simp) rfl
      have r15 := (hX.rd 15 _ 261 rfl rfl l15).trans (hJ.told 15 l15 (by omega))
      have l18 := hdo ⟨18, .data⟩ (by simp) rfl
      have r18 := (hX.rd 18 _ 264 rfl rfl l18).trans (hJ.told 18 l18 (by omega))
      refine wpOp_value rfl (wanted_false (g := 10) (s := 256) rfl rfl r10) (v := V54 bh j hb N (.slice eo el ec) (.slice eo2 el2 ec2) (.slice no L.length nc) (.slice no2 L.length nc2) C 19) (w' := w1) ?_ ⟨_, rfl, hJ.put hKn (by decide) (by decide) rfl (Below.refl _ _)⟩
      simp [go_sem, Act.eval, V54, r15, r18]
    | 20, hi =>
      cases hi
      have l10 := hdo ⟨10, .data⟩ (by simp) rfl
      have r10 := (hX.rd 10 _ 256 rfl rfl l10).trans (hJ.told 10 l10 (by omega))
      have l19 := hdo ⟨19, .data⟩ (by simp) rfl
      have r19 := (hX.rd 19 _ 265 rfl rfl l19).trans (hJ.told 19 l19 (by omega))
      refine wpOp_value rfl rfl (v := V54 bh j hb N (.slice eo el ec) (.slice eo2 el2 ec2) (.slice no L.length nc) (.slice no2 L.length nc2) C 20) (w' := w1) ?_ ⟨_, rfl, hJ.put hKn (by decide) (by decide) rfl (Below.refl _ _)⟩
      simp [go_sem, Act.eval, V54, r10, r19]
    | n + 21, hi => cases hi
  · intro Ls xs w1 hJ hall
    have e0 := hJ.told 0 (hall 0 (by simp)) (by omega)
    have e1 := hJ.told 1 (hall 1 (by simp)) (by omega)
    have e2 := hJ.told 2 (hall 2 (by simp)) (by omega)
    have e3 := hJ.told 3 (hall 3 (by simp)) (by omega)
    have e4 := hJ.told 4 (hall 4 (by simp)) (by omega)
    have e5 := hJ.told 5 (hall 5 (by simp)) (by omega)
    have e6 := hJ.told 6 (hall 6 (by simp)) (by omega)
    have e7 := hJ.told 7 (hall 7 (by simp)) (by omega)
    have e8 := hJ.told 8 (hall 8 (by simp)) (by omega)
    have e9 := hJ.told 9 (hall 9 (by simp)) (by omega)
    have e10 := hJ.told 10 (hall 10 (by simp)) (by omega)
    have e11 := hJ.told 11 (hall 11 (by simp)) (by omega)
    have e12 := hJ.told 12 (hall 12 (by simp)) (by omega)
    have e13 := hJ.told 13 (hall 13 (by simp)) (by omega)
    have e14 := hJ.told 14 (hall 14 (by simp)) (by omega)
    have e15 := hJ.told 15 (hall 15 (by simp)) (by omega)
    have e16 := hJ.told 16 (hall 16 (by simp)) (by omega)
    have e18 := hJ.told 18 (hall 18 (by simp)) (by omega)
    have e19 := hJ.told 19 (hall 19 (by simp)) (by omega)
    have e20 := hJ.told 20 (hall 20 (by simp)) (by omega)
    obtain ⟨go, gc, e17, hG⟩ := hJ.grid (hall 17 (by simp))
    simp only [puts, Act.put, e0, e1, e2, e3, e4, e5, e6, e7, e8, e9, e10, e11, e12, e13, e14, e15, e16, e17, e18, e19, e20]
    exact hend w1 go gc hJ.turns (hJ.m1 (hall 15 (by simp)))
end Go.Proofs.Ytfdlndljpmamgaa
