/- The law's regions with both calls about a deed. -/
import Derived.Test.YtfdlndljpmamgaaRegX
import Derived.Test.YtfdlndljpmamgaaRefW
namespace Go.Proofs.Ytfdlndljpmamgaa
set_option maxRecDepth 8000
open Go.RowKit Go.Maps
theorem store_two' {w : World} {b : Nat} {x y : Value} {t : TypeId} (h : Two w b x y t) (x' : Value) : w.cell? ⟨b, 0, none⟩ = some x ∧ w.frozen? ⟨b, 0, none⟩ = false ∧ (w.setCell ⟨b, 0, none⟩ x').cell? ⟨b, 1, none⟩ = some y ∧ (w.setCell ⟨b, 0, none⟩ x').frozen? ⟨b, 1, none⟩ = false :=
  ⟨(cell_two h).1, free_two h 0, box_cell (box_set h 0 x') (i := 1) rfl, by
    have h2 : Box (w.setCell ⟨b, 0, none⟩ x') b #[x', y] t := box_set h 0 x'
    exact free_two h2 1⟩
abbrev stored2 (w : World) (b : Nat) (F : Int × Int) : World := (w.setCell ⟨b, 0, none⟩ (.int .i64 F.1)).setCell ⟨b, 1, none⟩ (.int .i64 F.2)
/-- What the memory between a region's operations keeps: A tells what the two boxes of faults hold. -/
structure RA (A : Int × Int → Int × Int → World → Prop) (b9 b10 : Nat) : Prop where
  t9 : ∀ y9 y10 W, A y9 y10 W → Two W b9 (.int .i64 y9.1) (.int .i64 y9.2) 31
  t10 : ∀ y9 y10 W, A y9 y10 W → Two W b10 (.int .i64 y10.1) (.int .i64 y10.2) 31
  s9 : ∀ y9 y10 W F, A y9 y10 W → A F y10 (stored2 W b9 F)
  s10 : ∀ y9 y10 W F, A y9 y10 W → A y9 F (stored2 W b10 F)
/-- What is read. -/
structure Rd (b6 bd i b11 : Nat) (d : Int × ByteArray × ByteArray) (sa sb : ByteArray) (v : Value) (W : World) : Prop where
  a : W.cell? ⟨b6, 2, none⟩ = some (.string sa)
  b : W.cell? ⟨b6, 3, none⟩ = some (.string sb)
  v : W.cell? ⟨bd, i, none⟩ = some v
  d0 : W.cell? ⟨b11, 0, none⟩ = some (.int .i64 d.1)
  d1 : W.cell? ⟨b11, 1, none⟩ = some (.string d.2.1)
  d2 : W.cell? ⟨b11, 2, none⟩ = some (.string d.2.2)
structure JA (W0 : World) (A : Int × Int → Int × Int → World → Prop) (F : Int × Int) (V : Nat → Value) (c s1 s2 : Nat) (L : Nat → Bool) (xs : Nat → Value) (W : World) : Prop where
  told : ∀ i, L i = true → i < s1 → xs i = V i
  pre : L c = false → W = W0.drew
  post : L c = true → A (if L s1 = true then F else (0, 0)) (if L s2 = true then F else (0, 0)) W
section
variable {W0 W : World} {A : Int × Int → Int × Int → World → Prop} {F : Int × Int} {V : Nat → Value} {c s1 s2 : Nat} {L : Nat → Bool} {xs : Nat → Value}
theorem JA.start : JA W0 A F V c s1 s2 (fun _ => false) (fun _ => undef) W0.drew := ⟨fun _ h => (by cases h), fun _ => rfl, fun h => (by cases h)⟩
theorem JA.some (h : JA W0 A F V c s1 s2 L xs W) : W = W0.drew ∨ ∃ y9 y10, A y9 y10 W := by
  cases e : L c with
  | false => exact Or.inl (h.pre e)
  | true => exact Or.inr ⟨_, _, h.post e⟩
theorem JA.put (h : JA W0 A F V c s1 s2 L xs W) {i : Nat} (hc : i ≠ c) (h1 : i ≠ s1) (h2 : i ≠ s2) {x : Value} (hx : x = V i) : JA W0 A F V c s1 s2 (also L i) (updV xs i x) W := by
  refine ⟨fun j hj hl => ?_, fun e => h.pre (by rwa [also_at (fun e => hc e.symm)] at e), fun e => ?_⟩
  · by_cases e : j = i
    · subst e; rw [updV_same]; exact hx
    · rw [updV_ne _ _ e]; exact h.told j (by rwa [also_at e] at hj) hl
  · rw [also_at (fun e => hc e.symm)] at e
    rw [also_at (fun e => h1 e.symm), also_at (fun e => h2 e.symm)]
    exact h.post e
theorem JA.call (h : JA W0 A F V c s1 s2 L xs W) (h1 : c < s1) (h2 : c < s2) (l1 : L s1 = false) (l2 : L s2 = false) {x : Value} (hx : x = V c) {W' : World} (hA : A (0, 0) (0, 0) W') : JA W0 A F V c s1 s2 (also L c) (updV xs c x) W' := by
  refine ⟨fun j hj hl => ?_, fun e => (by rw [also_self] at e; cases e), fun _ => ?_⟩
  · by_cases e : j = c
    · subst e; rw [updV_same]; exact hx
    · rw [updV_ne _ _ e]; exact h.told j (by rwa [also_at e] at hj) hl
  · rw [also_at (by omega), also_at (by omega), l1, l2]
    exact hA
theorem JA.again (h : JA W0 A F V c s1 s2 L xs W) {i : Nat} (hc : L c = true) (h1 : i < s1) (h2 : i < s2) (l1 : L s1 = false) (l2 : L s2 = false) {x : Value} (hx : x = V i) {W' : World} (hA : A (0, 0) (0, 0) W') : JA W0 A F V c s1 s2 (also L i) (updV xs i x) W' := by
  refine ⟨fun j hj hl => ?_, fun e => (by rw [also_of hc] at e; cases e), fun _ => ?_⟩
  · by_cases e : j = i
    · subst e; rw [updV_same]; exact hx
    · rw [updV_ne _ _ e]; exact h.told j (by rwa [also_at e] at hj) hl
  · rw [also_at (by omega), also_at (by omega), l1, l2]
    exact hA
theorem JA.at0 (h : JA W0 A F V c s1 s2 L xs W) (hc : L c = true) (l1 : L s1 = false) (l2 : L s2 = false) : A (0, 0) (0, 0) W := by
  have := h.post hc
  rw [l1, l2] at this
  exact this
theorem JA.store1 {b9 b10 : Nat} (hR : RA A b9 b10) (h : JA W0 A F V c s1 s2 L xs W) (hss : s1 < s2) (hc : L c = true) (l2 : L s2 = false) (x : Value) : JA W0 A F V c s1 s2 (also L s1) (updV xs s1 x) (stored2 W b9 F) := by
  refine ⟨fun j hj hl => ?_, fun e => (by rw [also_of hc] at e; cases e), fun _ => ?_⟩
  · rw [updV_ne _ _ (by omega)]; exact h.told j (by rwa [also_at (by omega)] at hj) hl
  · rw [also_self, also_at (by omega), l2]
    have := hR.s9 _ _ _ F (h.post hc)
    rw [l2] at this
    exact this
theorem JA.store2 {b9 b10 : Nat} (hR : RA A b9 b10) (h : JA W0 A F V c s1 s2 L xs W) (hss : s1 < s2) (hc : L c = true) (l1 : L s1 = true) (x : Value) : JA W0 A F V c s1 s2 (also L s2) (updV xs s2 x) (stored2 W b10 F) := by
  refine ⟨fun j hj hl => ?_, fun e => (by rw [also_of hc] at e; cases e), fun _ => ?_⟩
  · rw [updV_ne _ _ (by omega)]; exact h.told j (by rwa [also_at (by omega)] at hj) hl
  · rw [also_self, also_at (by omega), l1]
    have := hR.s10 _ _ _ F (h.post hc)
    rw [l1] at this
    exact this
end
def V29 (hb b6 bd i : Nat) (sa _sb : ByteArray) (v : Value) (d : Int × ByteArray × ByteArray) (F : Int × Int) : Nat → Value
  | 0 => ptr hb
  | 1 => .pointer (some ⟨b6, 2, none⟩)
  | 2 => .string sa
  | 3 => .agg #[.int .i64 F.1, .int .i64 F.2]
  | 4 => .slice (some ⟨bd, 0, none⟩) 2 2
  | 5 => .int .i64 (i : Int)
  | 6 => .pointer (some ⟨bd, i, none⟩)
  | 7 => v
  | 8 => .agg #[.int .i64 d.1, .string d.2.1, .string d.2.2]
  | 9 => .agg #[.int .i64 F.1, .int .i64 F.2]
  | _ => undef
abbrev ops29 : Array Oper := #[{ dst := some 111, op := Op.move (Operand.tmp 8), type := 24, pos := "law19.go:57", after := #[], guard := none }, { dst := some 112, op := Op.fieldAddr 29 (Operand.tmp 6) 2, type := 0, pos := "law19.go:57", after := #[], guard := none }, { dst := some 113, op := Op.load 9 (Operand.tmp 112), type := 9, pos := "law19.go:57", after := #[{ on := 1, ground := Ground.data }], guard := none }, { dst := some 114, op := Op.call { callee := Callee.value (Operand.func 6), args := #[Operand.tmp 111, Operand.tmp 113], argTypes := #[24, 9] }, type := 31, pos := "law19.go:57", after := #[{ on := 0, ground := Ground.data }, { on := 2, ground := Ground.data }], guard := none }, { dst := some 115, op := Op.move (Operand.tmp 4), type := 27, pos := "law19.go:57", after := #[], guard := none }, { dst := some 116, op := Op.move (Operand.tmp 7), type := 3, pos := "law19.go:57", after := #[], guard := none }, { dst := some 117, op := Op.indexAddr 27 (Operand.tmp 115) (Operand.tmp 116), type := 0, pos := "law19.go:57", after := #[{ on := 4, ground := Ground.data }, { on := 5, ground := Ground.data }], guard := none }, { dst := some 118, op := Op.load 36 (Operand.tmp 117), type := 36, pos := "law19.go:57", after := #[{ on := 6, ground := Ground.data }], guard := none }, { dst := some 119, op := Op.load 33 (Operand.tmp 11), type := 33, pos := "law19.go:57", after := #[], guard := none }, { dst := some 120, op := Op.call { callee := Callee.value (Operand.func 7), args := #[Operand.tmp 118, Operand.tmp 119], argTypes := #[36, 33] }, type := 31, pos := "law19.go:57", after := #[{ on := 7, ground := Ground.data }, { on := 8, ground := Ground.data }, { on := 3, ground := Ground.chain }], guard := none }, { dst := none, op := Op.store 31 (Operand.tmp 9) (Operand.tmp 114), type := 0, pos := "law19.go:57", after := #[{ on := 3, ground := Ground.data }, { on := 9, ground := Ground.chain }, { on := 0, ground := Ground.phase }, { on := 1, ground := Ground.phase }, { on := 2, ground := Ground.phase }, { on := 3, ground := Ground.phase }, { on := 4, ground := Ground.textOnly Departure.lateStores }, { on := 5, ground := Ground.textOnly Departure.lateStores }, { on := 6, ground := Ground.textOnly Departure.lateStores }, { on := 7, ground := Ground.textOnly Departure.lateStores }, { on := 8, ground := Ground.textOnly Departure.lateStores }, { on := 9, ground := Ground.textOnly Departure.lateStoresUnsure }], guard := none }, { dst := none, op := Op.store 31 (Operand.tmp 10) (Operand.tmp 120), type := 0, pos := "law19.go:57", after := #[{ on := 9, ground := Ground.data }, { on := 10, ground := Ground.chain }, { on := 0, ground := Ground.phase }, { on := 1, ground := Ground.phase }, { on := 2, ground := Ground.phase }, { on := 3, ground := Ground.phase }, { on := 4, ground := Ground.phase }, { on := 5, ground := Ground.phase }, { on := 6, ground := Ground.phase }, { on := 7, ground := Ground.phase }, { on := 8, ground := Ground.phase }, { on := 9, ground := Ground.phase }, { on := 10, ground := Ground.phase }], guard := none }]
abbrev put29 (hb b6 bd i : Nat) (sa sb : ByteArray) (v : Value) (d : Int × ByteArray × ByteArray) (F : Int × Int) (t : Array Value) : Array Value := ((((((((((t.setIfInBounds 111 (V29 hb b6 bd i sa sb v d F 0)).setIfInBounds 112 (V29 hb b6 bd i sa sb v d F 1)).setIfInBounds 113 (V29 hb b6 bd i sa sb v d F 2)).setIfInBounds 114 (V29 hb b6 bd i sa sb v d F 3)).setIfInBounds 115 (V29 hb b6 bd i sa sb v d F 4)).setIfInBounds 116 (V29 hb b6 bd i sa sb v d F 5)).setIfInBounds 117 (V29 hb b6 bd i sa sb v d F 6)).setIfInBounds 118 (V29 hb b6 bd i sa sb v d F 7)).setIfInBounds 119 (V29 hb b6 bd i sa sb v d F 8)).setIfInBounds 120 (V29 hb b6 bd i sa sb v d F 9))
set_option maxHeartbeats 4000000 in
theorem reg29 {Q : Exit → Act → World → Prop} {a0 : Act} {W0 : World} {A : Int × Int → Int × Int → World → Prop} {F : Int × Int} {hb b6 bd i b9 b10 b11 : Nat} {sa sb : ByteArray} {v : Value} {d : Int × ByteArray × ByteArray}
    (hsz : a0.tmps.size = 288) (h8 : a0.tmps.getD 8 undef = ptr hb) (h6 : a0.tmps.getD 6 undef = ptr b6) (h4 : a0.tmps.getD 4 undef = .slice (some ⟨bd, 0, none⟩) 2 2) (h7 : a0.tmps.getD 7 undef = .int .i64 (i : Int)) (h9 : a0.tmps.getD 9 undef = ptr b9) (h10 : a0.tmps.getD 10 undef = ptr b10) (h11 : a0.tmps.getD 11 undef = ptr b11)
    (hi2 : i < 2) (hR : RA A b9 b10) (hrd : ∀ W, (W = W0.drew ∨ ∃ y9 y10, A y9 y10 W) → Rd b6 bd i b11 d sa sb v W)
    (hC : Calls Try.prog 6 #[ptr hb, .string sa] W0.drew fun e w' => e = .returned (.agg #[.int .i64 F.1, .int .i64 F.2]) ∧ A (0, 0) (0, 0) w')
    (hC7 : ∀ W', A (0, 0) (0, 0) W' → Calls Try.prog 7 #[v, .agg #[.int .i64 d.1, .string d.2.1, .string d.2.2]] W' fun e w' => e = .returned (.agg #[.int .i64 F.1, .int .i64 F.2]) ∧ A (0, 0) (0, 0) w')
    (hend : ∀ w', A F F w' → Q .normal { a0 with tmps := put29 hb b6 bd i sa sb v d F a0.tmps } w') :
    (Code.region 29 ops29 true).wp Try.prog Q a0 W0 := by
  unfold ops29
  refine region_ext (J := JA W0 A F (V29 hb b6 bd i sa sb v d F) 3 10 11) (by kernel_rfl) (by kernel_rfl) (by rw [hsz]; kernel_rfl) JA.start ?_ ?_
  · intro j o hi L xs a w1 hJ hL hd hc hX
    match j, hi with
    | 0, hi =>
      cases hi
      have s := (hX.out (s := 8) rfl).trans h8
      refine wpOp_value rfl rfl (v := V29 hb b6 bd i sa sb v d F 0) (w' := w1) ?_ ⟨_, rfl, hJ.put (by decide) (by decide) (by decide) rfl⟩
      simp [go_sem, Act.eval, V29, s]
    | 1, hi =>
      cases hi
      have s := (hX.out (s := 6) rfl).trans h6
      refine wpOp_value rfl rfl (v := V29 hb b6 bd i sa sb v d F 1) (w' := w1) ?_ ⟨_, rfl, hJ.put (by decide) (by decide) (by decide) rfl⟩
      simp [go_sem, Act.eval, V29, s]
    | 2, hi =>
      cases hi
      have l1 := hd ⟨1, .data⟩ (by simp) rfl
      have r1 := (hX.rd 1 _ 112 rfl rfl l1).trans (hJ.told 1 l1 (by omega))
      have m := (hrd w1 hJ.some).a
      refine wpOp_value rfl rfl (v := V29 hb b6 bd i sa sb v d F 2) (w' := w1) ?_ ⟨_, rfl, hJ.put (by decide) (by decide) (by decide) rfl⟩
      simp [go_sem, Act.eval, V29, r1, m]
    | 3, hi =>
      cases hi
      have l0 := hd ⟨0, .data⟩ (by simp) rfl
      have r0 := (hX.rd 0 _ 111 rfl rfl l0).trans (hJ.told 0 l0 (by omega))
      have l2 := hd ⟨2, .data⟩ (by simp) rfl
      have r2 := (hX.rd 2 _ 113 rfl rfl l2).trans (hJ.told 2 l2 (by omega))
      have e : w1 = W0.drew := hJ.pre hL
      have l1 : L 10 = false := by
        cases e1 : L 10 with
        | false => rfl
        | true => exact absurd (hc 10 _ rfl e1 ⟨3, .phase⟩ (by simp) rfl) (by rw [hL]; decide)
      have l2 : L 11 = false := by
        cases e1 : L 11 with
        | false => rfl
        | true => exact absurd (hc 11 _ rfl e1 ⟨3, .phase⟩ (by simp) rfl) (by rw [hL]; decide)
      subst e
      refine wpOp_call (f := 6) (args := #[ptr hb, .string sa]) rfl rfl (w' := W0.drew) ?_ ?_
      · simp [go_sem, Act.eval, V29, r0, r2]
      · refine hC.mono ?_
        rintro e w3 ⟨rfl, hA⟩
        exact ⟨_, rfl, _, rfl, hJ.call (by decide) (by decide) l1 l2 rfl hA⟩
    | 4, hi =>
      cases hi
      have s := (hX.out (s := 4) rfl).trans h4
      refine wpOp_value rfl rfl (v := V29 hb b6 bd i sa sb v d F 4) (w' := w1) ?_ ⟨_, rfl, hJ.put (by decide) (by decide) (by decide) rfl⟩
      simp [go_sem, Act.eval, V29, s]
    | 5, hi =>
      cases hi
      have s := (hX.out (s := 7) rfl).trans h7
      refine wpOp_value rfl rfl (v := V29 hb b6 bd i sa sb v d F 5) (w' := w1) ?_ ⟨_, rfl, hJ.put (by decide) (by decide) (by decide) rfl⟩
      simp [go_sem, Act.eval, V29, s]
    | 6, hi =>
      cases hi
      have l4 := hd ⟨4, .data⟩ (by simp) rfl
      have l5 := hd ⟨5, .data⟩ (by simp) rfl
      have r4 := (hX.rd 4 _ 115 rfl rfl l4).trans (hJ.told 4 l4 (by omega))
      have r5 := (hX.rd 5 _ 116 rfl rfl l5).trans (hJ.told 5 l5 (by omega))
      have n1 : (0 : Int) ≤ (i : Int) := by omega
      have n2 : (i : Int) < 2 := by omega
      refine wpOp_value rfl rfl (v := V29 hb b6 bd i sa sb v d F 6) (w' := w1) ?_ ⟨_, rfl, hJ.put (by decide) (by decide) (by decide) rfl⟩
      simp [go_sem, Act.eval, V29, r4, r5, n1, n2]
    | 7, hi =>
      cases hi
      have l6 := hd ⟨6, .data⟩ (by simp) rfl
      have r6 := (hX.rd 6 _ 117 rfl rfl l6).trans (hJ.told 6 l6 (by omega))
      have m := (hrd w1 hJ.some).v
      refine wpOp_value rfl rfl (v := V29 hb b6 bd i sa sb v d F 7) (w' := w1) ?_ ⟨_, rfl, hJ.put (by decide) (by decide) (by decide) rfl⟩
      simp [go_sem, Act.eval, V29, r6, m]
    | 8, hi =>
      cases hi
      have s := (hX.out (s := 11) rfl).trans h11
      have m := hrd w1 hJ.some
      have m0 := m.d0
      have m1 := m.d1
      have m2 := m.d2
      refine wpOp_value rfl rfl (v := V29 hb b6 bd i sa sb v d F 8) (w' := w1) ?_ ⟨_, rfl, hJ.put (by decide) (by decide) (by decide) rfl⟩
      simp [go_sem, Act.eval, V29, s, m0, m1, m2]
    | 9, hi =>
      cases hi
      have l7 := hd ⟨7, .data⟩ (by simp) rfl
      have l8 := hd ⟨8, .data⟩ (by simp) rfl
      have r7 := (hX.rd 7 _ 118 rfl rfl l7).trans (hJ.told 7 l7 (by omega))
      have r8 := (hX.rd 8 _ 119 rfl rfl l8).trans (hJ.told 8 l8 (by omega))
      have lc := hd ⟨3, .chain⟩ (by simp) rfl
      have l1 : L 10 = false := by
        cases e1 : L 10 with
        | false => rfl
        | true => exact absurd (hc 10 _ rfl e1 ⟨9, .chain⟩ (by simp) rfl) (by rw [hL]; decide)
      have l2 : L 11 = false := by
        cases e1 : L 11 with
        | false => rfl
        | true => exact absurd (hc 11 _ rfl e1 ⟨9, .phase⟩ (by simp) rfl) (by rw [hL]; decide)
      refine wpOp_call (f := 7) (args := #[v, .agg #[.int .i64 d.1, .string d.2.1, .string d.2.2]]) rfl rfl (w' := w1) ?_ ?_
      · simp [go_sem, Act.eval, V29, r7, r8]
      · refine (hC7 w1 (hJ.at0 lc l1 l2)).mono ?_
        rintro e w3 ⟨rfl, hA⟩
        exact ⟨_, rfl, _, rfl, hJ.again lc (by decide) (by decide) l1 l2 rfl hA⟩
    | 10, hi =>
      cases hi
      have l3 := hd ⟨3, .data⟩ (by simp) rfl
      have r3 := (hX.rd 3 _ 114 rfl rfl l3).trans (hJ.told 3 l3 (by omega))
      have s := (hX.out (s := 9) rfl).trans h9
      have l2 : L 11 = false := by
        cases e1 : L 11 with
        | false => rfl
        | true => exact absurd (hc 11 _ rfl e1 ⟨10, .phase⟩ (by simp) rfl) (by rw [hL]; decide)
      obtain ⟨q1, q2, q3, q4⟩ := store_two' (hR.t9 _ _ _ (hJ.post l3)) (.int .i64 F.1)
      refine wpOp_skip rfl rfl (w' := stored2 w1 b9 F) ?_ ⟨undef, rfl, hJ.store1 hR (by decide) l3 l2 undef⟩
      simp [go_sem, Act.eval, V29, s, r3, q1, q2, q3, q4]
    | 11, hi =>
      cases hi
      have l9 := hd ⟨9, .data⟩ (by simp) rfl
      have r9 := (hX.rd 9 _ 120 rfl rfl l9).trans (hJ.told 9 l9 (by omega))
      have lc := hd ⟨3, .phase⟩ (by simp) rfl
      have ls := hd ⟨10, .phase⟩ (by simp) rfl
      have s := (hX.out (s := 10) rfl).trans h10
      obtain ⟨q1, q2, q3, q4⟩ := store_two' (hR.t10 _ _ _ (hJ.post lc)) (.int .i64 F.1)
      refine wpOp_skip rfl rfl (w' := stored2 w1 b10 F) ?_ ⟨undef, rfl, hJ.store2 hR (by decide) lc ls undef⟩
      simp [go_sem, Act.eval, V29, s, r9, q1, q2, q3, q4]
    | n + 12, hi => cases hi
  · intro L xs w1 hJ hall
    have e0 := hJ.told 0 (hall 0 (by simp)) (by omega)
    have e1 := hJ.told 1 (hall 1 (by simp)) (by omega)
    have e2 := hJ.told 2 (hall 2 (by simp)) (by omega)
    have e3 := hJ.told 3 (hall 3 (by simp)) (by omega)
    have e4 := hJ.told 4 (hall 4 (by simp)) (by omega)
    have e5 := hJ.told 5 (hall 5 (by simp)) (by omega)
    have e6 := hJ.told 6 (hall 6 (by simp)) (by omega)
    have e7 := hJ.told 7 (hall 7 (by simp)) (by omega)
    have e8 := hJ.told 8 (hall 8 (by simp)) (by omega)
    have e9 := hJ.told 9 (hall 9 (by simp)) (by omega)
    have hA := hJ.post (hall 3 (by simp))
    rw [hall 10 (by simp), hall 11 (by simp)] at hA
    simp only [puts, Act.put, e0, e1, e2, e3, e4, e5, e6, e7, e8, e9]
    exact hend w1 hA
def V34 (hb b6 bd i : Nat) (sa sb : ByteArray) (v : Value) (d : Int × ByteArray × ByteArray) (F : Int × Int) : Nat → Value
  | 0 => ptr hb
  | 1 => .pointer (some ⟨b6, 2, none⟩)
  | 2 => .string sa
  | 3 => .pointer (some ⟨b6, 3, none⟩)
  | 4 => .string sb
  | 5 => .agg #[.int .i64 F.1, .int .i64 F.2]
  | 6 => .slice (some ⟨bd, 0, none⟩) 2 2
  | 7 => .int .i64 (i : Int)
  | 8 => .pointer (some ⟨bd, i, none⟩)
  | 9 => v
  | 10 => .agg #[.int .i64 d.1, .string d.2.1, .string d.2.2]
  | 11 => .agg #[.int .i64 F.1, .int .i64 F.2]
  | _ => undef
abbrev ops34 : Array Oper := #[{ dst := some 141, op := Op.move (Operand.tmp 8), type := 24, pos := "law19.go:63", after := #[], guard := none }, { dst := some 142, op := Op.fieldAddr 29 (Operand.tmp 6) 2, type := 0, pos := "law19.go:63", after := #[], guard := none }, { dst := some 143, op := Op.load 9 (Operand.tmp 142), type := 9, pos := "law19.go:63", after := #[{ on := 1, ground := Ground.data }], guard := none }, { dst := some 144, op := Op.fieldAddr 29 (Operand.tmp 6) 3, type := 0, pos := "law19.go:63", after := #[], guard := none }, { dst := some 145, op := Op.load 9 (Operand.tmp 144), type := 9, pos := "law19.go:63", after := #[{ on := 3, ground := Ground.data }], guard := none }, { dst := some 146, op := Op.call { callee := Callee.value (Operand.func 8), args := #[Operand.tmp 141, Operand.tmp 143, Operand.tmp 145], argTypes := #[24, 9, 9] }, type := 31, pos := "law19.go:63", after := #[{ on := 0, ground := Ground.data }, { on := 2, ground := Ground.data }, { on := 4, ground := Ground.data }], guard := none }, { dst := some 147, op := Op.move (Operand.tmp 4), type := 27, pos := "law19.go:63", after := #[], guard := none }, { dst := some 148, op := Op.move (Operand.tmp 7), type := 3, pos := "law19.go:63", after := #[], guard := none }, { dst := some 149, op := Op.indexAddr 27 (Operand.tmp 147) (Operand.tmp 148), type := 0, pos := "law19.go:63", after := #[{ on := 6, ground := Ground.data }, { on := 7, ground := Ground.data }], guard := none }, { dst := some 150, op := Op.load 36 (Operand.tmp 149), type := 36, pos := "law19.go:63", after := #[{ on := 8, ground := Ground.data }], guard := none }, { dst := some 151, op := Op.load 33 (Operand.tmp 12), type := 33, pos := "law19.go:63", after := #[], guard := none }, { dst := some 152, op := Op.call { callee := Callee.value (Operand.func 7), args := #[Operand.tmp 150, Operand.tmp 151], argTypes := #[36, 33] }, type := 31, pos := "law19.go:63", after := #[{ on := 9, ground := Ground.data }, { on := 10, ground := Ground.data }, { on := 5, ground := Ground.chain }], guard := none }, { dst := none, op := Op.store 31 (Operand.tmp 9) (Operand.tmp 146), type := 0, pos := "law19.go:63", after := #[{ on := 5, ground := Ground.data }, { on := 11, ground := Ground.chain }, { on := 0, ground := Ground.phase }, { on := 1, ground := Ground.phase }, { on := 2, ground := Ground.phase }, { on := 3, ground := Ground.phase }, { on := 4, ground := Ground.phase }, { on := 5, ground := Ground.phase }, { on := 6, ground := Ground.textOnly Departure.lateStores }, { on := 7, ground := Ground.textOnly Departure.lateStores }, { on := 8, ground := Ground.textOnly Departure.lateStores }, { on := 9, ground := Ground.textOnly Departure.lateStores }, { on := 10, ground := Ground.textOnly Departure.lateStores }, { on := 11, ground := Ground.textOnly Departure.lateStoresUnsure }], guard := none }, { dst := none, op := Op.store 31 (Operand.tmp 10) (Operand.tmp 152), type := 0, pos := "law19.go:63", after := #[{ on := 11, ground := Ground.data }, { on := 12, ground := Ground.chain }, { on := 0, ground := Ground.phase }, { on := 1, ground := Ground.phase }, { on := 2, ground := Ground.phase }, { on := 3, ground := Ground.phase }, { on := 4, ground := Ground.phase }, { on := 5, ground := Ground.phase }, { on := 6, ground := Ground.phase }, { on := 7, ground := Ground.phase }, { on := 8, ground := Ground.phase }, { on := 9, ground := Ground.phase }, { on := 10, ground := Ground.phase }, { on := 11, ground := Ground.phase }, { on := 12, ground := Ground.phase }], guard := none }]
abbrev put34 (hb b6 bd i : Nat) (sa sb : ByteArray) (v : Value) (d : Int × ByteArray × ByteArray) (F : Int × Int) (t : Array Value) : Array Value := ((((((((((((t.setIfInBounds 141 (V34 hb b6 bd i sa sb v d F 0)).setIfInBounds 142 (V34 hb b6 bd i sa sb v d F 1)).setIfInBounds 143 (V34 hb b6 bd i sa sb v d F 2)).setIfInBounds 144 (V34 hb b6 bd i sa sb v d F 3)).setIfInBounds 145 (V34 hb b6 bd i sa sb v d F 4)).setIfInBounds 146 (V34 hb b6 bd i sa sb v d F 5)).setIfInBounds 147 (V34 hb b6 bd i sa sb v d F 6)).setIfInBounds 148 (V34 hb b6 bd i sa sb v d F 7)).setIfInBounds 149 (V34 hb b6 bd i sa sb v d F 8)).setIfInBounds 150 (V34 hb b6 bd i sa sb v d F 9)).setIfInBounds 151 (V34 hb b6 bd i sa sb v d F 10)).setIfInBounds 152 (V34 hb b6 bd i sa sb v d F 11))
set_option maxHeartbeats 4000000 in
theorem reg34 {Q : Exit → Act → World → Prop} {a0 : Act} {W0 : World} {A : Int × Int → Int × Int → World → Prop} {F : Int × Int} {hb b6 bd i b9 b10 b11 : Nat} {sa sb : ByteArray} {v : Value} {d : Int × ByteArray × ByteArray}
    (hsz : a0.tmps.size = 288) (h8 : a0.tmps.getD 8 undef = ptr hb) (h6 : a0.tmps.getD 6 undef = ptr b6) (h4 : a0.tmps.getD 4 undef = .slice (some ⟨bd, 0, none⟩) 2 2) (h7 : a0.tmps.getD 7 undef = .int .i64 (i : Int)) (h9 : a0.tmps.getD 9 undef = ptr b9) (h10 : a0.tmps.getD 10 undef = ptr b10) (h11 : a0.tmps.getD 12 undef = ptr b11)
    (hi2 : i < 2) (hR : RA A b9 b10) (hrd : ∀ W, (W = W0.drew ∨ ∃ y9 y10, A y9 y10 W) → Rd b6 bd i b11 d sa sb v W)
    (hC : Calls Try.prog 8 #[ptr hb, .string sa, .string sb] W0.drew fun e w' => e = .returned (.agg #[.int .i64 F.1, .int .i64 F.2]) ∧ A (0, 0) (0, 0) w')
    (hC7 : ∀ W', A (0, 0) (0, 0) W' → Calls Try.prog 7 #[v, .agg #[.int .i64 d.1, .string d.2.1, .string d.2.2]] W' fun e w' => e = .returned (.agg #[.int .i64 F.1, .int .i64 F.2]) ∧ A (0, 0) (0, 0) w')
    (hend : ∀ w', A F F w' → Q .normal { a0 with tmps := put34 hb b6 bd i sa sb v d F a0.tmps } w') :
    (Code.region 34 ops34 true).wp Try.prog Q a0 W0 := by
  unfold ops34
  refine region_ext (J := JA W0 A F (V34 hb b6 bd i sa sb v d F) 5 12 13) (by kernel_rfl) (by kernel_rfl) (by rw [hsz]; kernel_rfl) JA.start ?_ ?_
  · intro j o hi L xs a w1 hJ hL hd hc hX
    match j, hi with
    | 0, hi =>
      cases hi
      have s := (hX.out (s := 8) rfl).trans h8
      refine wpOp_value rfl rfl (v := V34 hb b6 bd i sa sb v d F 0) (w' := w1) ?_ ⟨_, rfl, hJ.put (by decide) (by decide) (by decide) rfl⟩
      simp [go_sem, Act.eval, V34, s]
    | 1, hi =>
      cases hi
      have s := (hX.out (s := 6) rfl).trans h6
      refine wpOp_value rfl rfl (v := V34 hb b6 bd i sa sb v d F 1) (w' := w1) ?_ ⟨_, rfl, hJ.put (by decide) (by decide) (by decide) rfl⟩
      simp [go_sem, Act.eval, V34, s]
    | 2, hi =>
      cases hi
      have l1 := hd ⟨1, .data⟩ (by simp) rfl
      have r1 := (hX.rd 1 _ 142 rfl rfl l1).trans (hJ.told 1 l1 (by omega))
      have m := (hrd w1 hJ.some).a
      refine wpOp_value rfl rfl (v := V34 hb b6 bd i sa sb v d F 2) (w' := w1) ?_ ⟨_, rfl, hJ.put (by decide) (by decide) (by decide) rfl⟩
      simp [go_sem, Act.eval, V34, r1, m]
    | 3, hi =>
      cases hi
      have s := (hX.out (s := 6) rfl).trans h6
      refine wpOp_value rfl rfl (v := V34 hb b6 bd i sa sb v d F 3) (w' := w1) ?_ ⟨_, rfl, hJ.put (by decide) (by decide) (by decide) rfl⟩
      simp [go_sem, Act.eval, V34, s]
    | 4, hi =>
      cases hi
      have l3 := hd ⟨3, .data⟩ (by simp) rfl
      have r3 := (hX.rd 3 _ 144 rfl rfl l3).trans (hJ.told 3 l3 (by omega))
      have m := (hrd w1 hJ.some).b
      refine wpOp_value rfl rfl (v := V34 hb b6 bd i sa sb v d F 4) (w' := w1) ?_ ⟨_, rfl, hJ.put (by decide) (by decide) (by decide) rfl⟩
      simp [go_sem, Act.eval, V34, r3, m]
    | 5, hi =>
      cases hi
      have l0 := hd ⟨0, .data⟩ (by simp) rfl
      have r0 := (hX.rd 0 _ 141 rfl rfl l0).trans (hJ.told 0 l0 (by omega))
      have l2 := hd ⟨2, .data⟩ (by simp) rfl
      have r2 := (hX.rd 2 _ 143 rfl rfl l2).trans (hJ.told 2 l2 (by omega))
      have l4 := hd ⟨4, .data⟩ (by simp) rfl
      have r4 := (hX.rd 4 _ 145 rfl rfl l4).trans (hJ.told 4 l4 (by omega))
      have e : w1 = W0.drew := hJ.pre hL
      have l1 : L 12 = false := by
        cases e1 : L 12 with
        | false => rfl
        | true => exact absurd (hc 12 _ rfl e1 ⟨5, .phase⟩ (by simp) rfl) (by rw [hL]; decide)
      have l2 : L 13 = false := by
        cases e1 : L 13 with
        | false => rfl
        | true => exact absurd (hc 13 _ rfl e1 ⟨5, .phase⟩ (by simp) rfl) (by rw [hL]; decide)
      subst e
      refine wpOp_call (f := 8) (args := #[ptr hb, .string sa, .string sb]) rfl rfl (w' := W0.drew) ?_ ?_
      · simp [go_sem, Act.eval, V34, r0, r2, r4]
      · refine hC.mono ?_
        rintro e w3 ⟨rfl, hA⟩
        exact ⟨_, rfl, _, rfl, hJ.call (by decide) (by decide) l1 l2 rfl hA⟩
    | 6, hi =>
      cases hi
      have s := (hX.out (s := 4) rfl).trans h4
      refine wpOp_value rfl rfl (v := V34 hb b6 bd i sa sb v d F 6) (w' := w1) ?_ ⟨_, rfl, hJ.put (by decide) (by decide) (by decide) rfl⟩
      simp [go_sem, Act.eval, V34, s]
    | 7, hi =>
      cases hi
      have s := (hX.out (s := 7) rfl).trans h7
      refine wpOp_value rfl rfl (v := V34 hb b6 bd i sa sb v d F 7) (w' := w1) ?_ ⟨_, rfl, hJ.put (by decide) (by decide) (by decide) rfl⟩
      simp [go_sem, Act.eval, V34, s]
    | 8, hi =>
      cases hi
      have l6 := hd ⟨6, .data⟩ (by simp) rfl
      have l7 := hd ⟨7, .data⟩ (by simp) rfl
      have r6 := (hX.rd 6 _ 147 rfl rfl l6).trans (hJ.told 6 l6 (by omega))
      have r7 := (hX.rd 7 _ 148 rfl rfl l7).trans (hJ.told 7 l7 (by omega))
      have n1 : (0 : Int) ≤ (i : Int) := by omega
      have n2 : (i : Int) < 2 := by omega
      refine wpOp_value rfl rfl (v := V34 hb b6 bd i sa sb v d F 8) (w' := w1) ?_ ⟨_, rfl, hJ.put (by decide) (by decide) (by decide) rfl⟩
      simp [go_sem, Act.eval, V34, r6, r7, n1, n2]
    | 9, hi =>
      cases hi
      have l8 := hd ⟨8, .data⟩ (by simp) rfl
      have r8 := (hX.rd 8 _ 149 rfl rfl l8).trans (hJ.told 8 l8 (by omega))
      have m := (hrd w1 hJ.some).v
      refine wpOp_value rfl rfl (v := V34 hb b6 bd i sa sb v d F 9) (w' := w1) ?_ ⟨_, rfl, hJ.put (by decide) (by decide) (by decide) rfl⟩
      simp [go_sem, Act.eval, V34, r8, m]
    | 10, hi =>
      cases hi
      have s := (hX.out (s := 12) rfl).trans h11
      have m := hrd w1 hJ.some
      have m0 := m.d0
      have m1 := m.d1
      have m2 := m.d2
      refine wpOp_value rfl rfl (v := V34 hb b6 bd i sa sb v d F 10) (w' := w1) ?_ ⟨_, rfl, hJ.put (by decide) (by decide) (by decide) rfl⟩
      simp [go_sem, Act.eval, V34, s, m0, m1, m2]
    | 11, hi =>
      cases hi
      have l9 := hd ⟨9, .data⟩ (by simp) rfl
      have l10 := hd ⟨10, .data⟩ (by simp) rfl
      have r9 := (hX.rd 9 _ 150 rfl rfl l9).trans (hJ.told 9 l9 (by omega))
      have r10 := (hX.rd 10 _ 151 rfl rfl l10).trans (hJ.told 10 l10 (by omega))
      have lc := hd ⟨5, .chain⟩ (by simp) rfl
      have l1 : L 12 = false := by
        cases e1 : L 12 with
        | false => rfl
        | true => exact absurd (hc 12 _ rfl e1 ⟨11, .chain⟩ (by simp) rfl) (by rw [hL]; decide)
      have l2 : L 13 = false := by
        cases e1 : L 13 with
        | false => rfl
        | true => exact absurd (hc 13 _ rfl e1 ⟨11, .phase⟩ (by simp) rfl) (by rw [hL]; decide)
      refine wpOp_call (f := 7) (args := #[v, .agg #[.int .i64 d.1, .string d.2.1, .string d.2.2]]) rfl rfl (w' := w1) ?_ ?_
      · simp [go_sem, Act.eval, V34, r9, r10]
      · refine (hC7 w1 (hJ.at0 lc l1 l2)).mono ?_
        rintro e w3 ⟨rfl, hA⟩
        exact ⟨_, rfl, _, rfl, hJ.again lc (by decide) (by decide) l1 l2 rfl hA⟩
    | 12, hi =>
      cases hi
      have l5 := hd ⟨5, .data⟩ (by simp) rfl
      have r5 := (hX.rd 5 _ 146 rfl rfl l5).trans (hJ.told 5 l5 (by omega))
      have s := (hX.out (s := 9) rfl).trans h9
      have l2 : L 13 = false := by
        cases e1 : L 13 with
        | false => rfl
        | true => exact absurd (hc 13 _ rfl e1 ⟨12, .phase⟩ (by simp) rfl) (by rw [hL]; decide)
      obtain ⟨q1, q2, q3, q4⟩ := store_two' (hR.t9 _ _ _ (hJ.post l5)) (.int .i64 F.1)
      refine wpOp_skip rfl rfl (w' := stored2 w1 b9 F) ?_ ⟨undef, rfl, hJ.store1 hR (by decide) l5 l2 undef⟩
      simp [go_sem, Act.eval, V34, s, r5, q1, q2, q3, q4]
    | 13, hi =>
      cases hi
      have l11 := hd ⟨11, .data⟩ (by simp) rfl
      have r11 := (hX.rd 11 _ 152 rfl rfl l11).trans (hJ.told 11 l11 (by omega))
      have lc := hd ⟨5, .phase⟩ (by simp) rfl
      have ls := hd ⟨12, .phase⟩ (by simp) rfl
      have s := (hX.out (s := 10) rfl).trans h10
      obtain ⟨q1, q2, q3, q4⟩ := store_two' (hR.t10 _ _ _ (hJ.post lc)) (.int .i64 F.1)
      refine wpOp_skip rfl rfl (w' := stored2 w1 b10 F) ?_ ⟨undef, rfl, hJ.store2 hR (by decide) lc ls undef⟩
      simp [go_sem, Act.eval, V34, s, r11, q1, q2, q3, q4]
    | n + 14, hi => cases hi
  · intro L xs w1 hJ hall
    have e0 := hJ.told 0 (hall 0 (by simp)) (by omega)
    have e1 := hJ.told 1 (hall 1 (by simp)) (by omega)
    have e2 := hJ.told 2 (hall 2 (by simp)) (by omega)
    have e3 := hJ.told 3 (hall 3 (by simp)) (by omega)
    have e4 := hJ.told 4 (hall 4 (by simp)) (by omega)
    have e5 := hJ.told 5 (hall 5 (by simp)) (by omega)
    have e6 := hJ.told 6 (hall 6 (by simp)) (by omega)
    have e7 := hJ.told 7 (hall 7 (by simp)) (by omega)
    have e8 := hJ.told 8 (hall 8 (by simp)) (by omega)
    have e9 := hJ.told 9 (hall 9 (by simp)) (by omega)
    have e10 := hJ.told 10 (hall 10 (by simp)) (by omega)
    have e11 := hJ.told 11 (hall 11 (by simp)) (by omega)
    have hA := hJ.post (hall 5 (by simp))
    rw [hall 12 (by simp), hall 13 (by simp)] at hA
    simp only [puts, Act.put, e0, e1, e2, e3, e4, e5, e6, e7, e8, e9, e10, e11]
    exact hend w1 hA
def V39 (hb b6 bd i : Nat) (sa sb : ByteArray) (v : Value) (d : Int × ByteArray × ByteArray) (F : Int × Int) : Nat → Value
  | 0 => ptr hb
  | 1 => .pointer (some ⟨b6, 2, none⟩)
  | 2 => .string sa
  | 3 => .pointer (some ⟨b6, 3, none⟩)
  | 4 => .string sb
  | 5 => .agg #[.int .i64 F.1, .int .i64 F.2]
  | 6 => .slice (some ⟨bd, 0, none⟩) 2 2
  | 7 => .int .i64 (i : Int)
  | 8 => .pointer (some ⟨bd, i, none⟩)
  | 9 => v
  | 10 => .agg #[.int .i64 d.1, .string d.2.1, .string d.2.2]
  | 11 => .agg #[.int .i64 F.1, .int .i64 F.2]
  | _ => undef
abbrev ops39 : Array Oper := #[{ dst := some 173, op := Op.move (Operand.tmp 8), type := 24, pos := "law19.go:69", after := #[], guard := none }, { dst := some 174, op := Op.fieldAddr 29 (Operand.tmp 6) 2, type := 0, pos := "law19.go:69", after := #[], guard := none }, { dst := some 175, op := Op.load 9 (Operand.tmp 174), type := 9, pos := "law19.go:69", after := #[{ on := 1, ground := Ground.data }], guard := none }, { dst := some 176, op := Op.fieldAddr 29 (Operand.tmp 6) 3, type := 0, pos := "law19.go:69", after := #[], guard := none }, { dst := some 177, op := Op.load 9 (Operand.tmp 176), type := 9, pos := "law19.go:69", after := #[{ on := 3, ground := Ground.data }], guard := none }, { dst := some 178, op := Op.call { callee := Callee.value (Operand.func 9), args := #[Operand.tmp 173, Operand.tmp 175, Operand.tmp 177], argTypes := #[24, 9, 9] }, type := 31, pos := "law19.go:69", after := #[{ on := 0, ground := Ground.data }, { on := 2, ground := Ground.data }, { on := 4, ground := Ground.data }], guard := none }, { dst := some 179, op := Op.move (Operand.tmp 4), type := 27, pos := "law19.go:69", after := #[], guard := none }, { dst := some 180, op := Op.move (Operand.tmp 7), type := 3, pos := "law19.go:69", after := #[], guard := none }, { dst := some 181, op := Op.indexAddr 27 (Operand.tmp 179) (Operand.tmp 180), type := 0, pos := "law19.go:69", after := #[{ on := 6, ground := Ground.data }, { on := 7, ground := Ground.data }], guard := none }, { dst := some 182, op := Op.load 36 (Operand.tmp 181), type := 36, pos := "law19.go:69", after := #[{ on := 8, ground := Ground.data }], guard := none }, { dst := some 183, op := Op.load 33 (Operand.tmp 13), type := 33, pos := "law19.go:69", after := #[], guard := none }, { dst := some 184, op := Op.call { callee := Callee.value (Operand.func 7), args := #[Operand.tmp 182, Operand.tmp 183], argTypes := #[36, 33] }, type := 31, pos := "law19.go:69", after := #[{ on := 9, ground := Ground.data }, { on := 10, ground := Ground.data }, { on := 5, ground := Ground.chain }], guard := none }, { dst := none, op := Op.store 31 (Operand.tmp 9) (Operand.tmp 178), type := 0, pos := "law19.go:69", after := #[{ on := 5, ground := Ground.data }, { on := 11, ground := Ground.chain }, { on := 0, ground := Ground.phase }, { on := 1, ground := Ground.phase }, { on := 2, ground := Ground.phase }, { on := 3, ground := Ground.phase }, { on := 4, ground := Ground.phase }, { on := 5, ground := Ground.phase }, { on := 6, ground := Ground.textOnly Departure.lateStores }, { on := 7, ground := Ground.textOnly Departure.lateStores }, { on := 8, ground := Ground.textOnly Departure.lateStores }, { on := 9, ground := Ground.textOnly Departure.lateStores }, { on := 10, ground := Ground.textOnly Departure.lateStores }, { on := 11, ground := Ground.textOnly Departure.lateStoresUnsure }], guard := none }, { dst := none, op := Op.store 31 (Operand.tmp 10) (Operand.tmp 184), type := 0, pos := "law19.go:69", after := #[{ on := 11, ground := Ground.data }, { on := 12, ground := Ground.chain }, { on := 0, ground := Ground.phase }, { on := 1, ground := Ground.phase }, { on := 2, ground := Ground.phase }, { on := 3, ground := Ground.phase }, { on := 4, ground := Ground.phase }, { on := 5, ground := Ground.phase }, { on := 6, ground := Ground.phase }, { on := 7, ground := Ground.phase }, { on := 8, ground := Ground.phase }, { on := 9, ground := Ground.phase }, { on := 10, ground := Ground.phase }, { on := 11, ground := Ground.phase }, { on := 12, ground := Ground.phase }], guard := none }]
abbrev put39 (hb b6 bd i : Nat) (sa sb : ByteArray) (v : Value) (d : Int × ByteArray × ByteArray) (F : Int × Int) (t : Array Value) : Array Value := ((((((((((((t.setIfInBounds 173 (V39 hb b6 bd i sa sb v d F 0)).setIfInBounds 174 (V39 hb b6 bd i sa sb v d F 1)).setIfInBounds 175 (V39 hb b6 bd i sa sb v d F 2)).setIfInBounds 176 (V39 hb b6 bd i sa sb v d F 3)).setIfInBounds 177 (V39 hb b6 bd i sa sb v d F 4)).setIfInBounds 178 (V39 hb b6 bd i sa sb v d F 5)).setIfInBounds 179 (V39 hb b6 bd i sa sb v d F 6)).setIfInBounds 180 (V39 hb b6 bd i sa sb v d F 7)).setIfInBounds 181 (V39 hb b6 bd i sa sb v d F 8)).setIfInBounds 182 (V39 hb b6 bd i sa sb v d F 9)).setIfInBounds 183 (V39 hb b6 bd i sa sb v d F 10)).setIfInBounds 184 (V39 hb b6 bd i sa sb v d F 11))
set_option maxHeartbeats 4000000 in
theorem reg39 {Q : Exit → Act → World → Prop} {a0 : Act} {W0 : World} {A : Int × Int → Int × Int → World → Prop} {F : Int × Int} {hb b6 bd i b9 b10 b11 : Nat} {sa sb : ByteArray} {v : Value} {d : Int × ByteArray × ByteArray}
    (hsz : a0.tmps.size = 288) (h8 : a0.tmps.getD 8 undef = ptr hb) (h6 : a0.tmps.getD 6 undef = ptr b6) (h4 : a0.tmps.getD 4 undef = .slice (some ⟨bd, 0, none⟩) 2 2) (h7 : a0.tmps.getD 7 undef = .int .i64 (i : Int)) (h9 : a0.tmps.getD 9 undef = ptr b9) (h10 : a0.tmps.getD 10 undef = ptr b10) (h11 : a0.tmps.getD 13 undef = ptr b11)
    (hi2 : i < 2) (hR : RA A b9 b10) (hrd : ∀ W, (W = W0.drew ∨ ∃ y9 y10, A y9 y10 W) → Rd b6 bd i b11 d sa sb v W)
    (hC : Calls Try.prog 9 #[ptr hb, .string sa, .string sb] W0.drew fun e w' => e = .returned (.agg #[.int .i64 F.1, .int .i64 F.2]) ∧ A (0, 0) (0, 0) w')
    (hC7 : ∀ W', A (0, 0) (0, 0) W' → Calls Try.prog 7 #[v, .agg #[.int .i64 d.1, .string d.2.1, .string d.2.2]] W' fun e w' => e = .returned (.agg #[.int .i64 F.1, .int .i64 F.2]) ∧ A (0, 0) (0, 0) w')
    (hend : ∀ w', A F F w' → Q .normal { a0 with tmps := put39 hb b6 bd i sa sb v d F a0.tmps } w') :
    (Code.region 39 ops39 true).wp Try.prog Q a0 W0 := by
  unfold ops39
  refine region_ext (J := JA W0 A F (V39 hb b6 bd i sa sb v d F) 5 12 13) (by kernel_rfl) (by kernel_rfl) (by rw [hsz]; kernel_rfl) JA.start ?_ ?_
  · intro j o hi L xs a w1 hJ hL hd hc hX
    match j, hi with
    | 0, hi =>
      cases hi
      have s := (hX.out (s := 8) rfl).trans h8
      refine wpOp_value rfl rfl (v := V39 hb b6 bd i sa sb v d F 0) (w' := w1) ?_ ⟨_, rfl, hJ.put (by decide) (by decide) (by decide) rfl⟩
      simp [go_sem, Act.eval, V39, s]
    | 1, hi =>
      cases hi
      have s := (hX.out (s := 6) rfl).trans h6
      refine wpOp_value rfl rfl (v := V39 hb b6 bd i sa sb v d F 1) (w' := w1) ?_ ⟨_, rfl, hJ.put (by decide) (by decide) (by decide) rfl⟩
      simp [go_sem, Act.eval, V39, s]
    | 2, hi =>
      cases hi
      have l1 := hd ⟨1, .data⟩ (by simp) rfl
      have r1 := (hX.rd 1 _ 174 rfl rfl l1).trans (hJ.told 1 l1 (by omega))
      have m := (hrd w1 hJ.some).a
      refine wpOp_value rfl rfl (v := V39 hb b6 bd i sa sb v d F 2) (w' := w1) ?_ ⟨_, rfl, hJ.put (by decide) (by decide) (by decide) rfl⟩
      simp [go_sem, Act.eval, V39, r1, m]
    | 3, hi =>
      cases hi
      have s := (hX.out (s := 6) rfl).trans h6
      refine wpOp_value rfl rfl (v := V39 hb b6 bd i sa sb v d F 3) (w' := w1) ?_ ⟨_, rfl, hJ.put (by decide) (by decide) (by decide) rfl⟩
      simp [go_sem, Act.eval, V39, s]
    | 4, hi =>
      cases hi
      have l3 := hd ⟨3, .data⟩ (by simp) rfl
      have r3 := (hX.rd 3 _ 176 rfl rfl l3).trans (hJ.told 3 l3 (by omega))
      have m := (hrd w1 hJ.some).b
      refine wpOp_value rfl rfl (v := V39 hb b6 bd i sa sb v d F 4) (w' := w1) ?_ ⟨_, rfl, hJ.put (by decide) (by decide) (by decide) rfl⟩
      simp [go_sem, Act.eval, V39, r3, m]
    | 5, hi =>
      cases hi
      have l0 := hd ⟨0, .data⟩ (by simp) rfl
      have r0 := (hX.rd 0 _ 173 rfl rfl l0).trans (hJ.told 0 l0 (by omega))
      have l2 := hd ⟨2, .data⟩ (by simp) rfl
      have r2 := (hX.rd 2 _ 175 rfl rfl l2).trans (hJ.told 2 l2 (by omega))
      have l4 := hd ⟨4, .data⟩ (by simp) rfl
      have r4 := (hX.rd 4 _ 177 rfl rfl l4).trans (hJ.told 4 l4 (by omega))
      have e : w1 = W0.drew := hJ.pre hL
      have l1 : L 12 = false := by
        cases e1 : L 12 with
        | false => rfl
        | true => exact absurd (hc 12 _ rfl e1 ⟨5, .phase⟩ (by simp) rfl) (by rw [hL]; decide)
      have l2 : L 13 = false := by
        cases e1 : L 13 with
        | false => rfl
        | true => exact absurd (hc 13 _ rfl e1 ⟨5, .phase⟩ (by simp) rfl) (by rw [hL]; decide)
      subst e
      refine wpOp_call (f := 9) (args := #[ptr hb, .string sa, .string sb]) rfl rfl (w' := W0.drew) ?_ ?_
      · simp [go_sem, Act.eval, V39, r0, r2, r4]
      · refine hC.mono ?_
        rintro e w3 ⟨rfl, hA⟩
        exact ⟨_, rfl, _, rfl, hJ.call (by decide) (by decide) l1 l2 rfl hA⟩
    | 6, hi =>
      cases hi
      have s := (hX.out (s := 4) rfl).trans h4
      refine wpOp_value rfl rfl (v := V39 hb b6 bd i sa sb v d F 6) (w' := w1) ?_ ⟨_, rfl, hJ.put (by decide) (by decide) (by decide) rfl⟩
      simp [go_sem, Act.eval, V39, s]
    | 7, hi =>
      cases hi
      have s := (hX.out (s := 7) rfl).trans h7
      refine wpOp_value rfl rfl (v := V39 hb b6 bd i sa sb v d F 7) (w' := w1) ?_ ⟨_, rfl, hJ.put (by decide) (by decide) (by decide) rfl⟩
      simp [go_sem, Act.eval, V39, s]
    | 8, hi =>
      cases hi
      have l6 := hd ⟨6, .data⟩ (by simp) rfl
      have l7 := hd ⟨7, .data⟩ (by simp) rfl
      have r6 := (hX.rd 6 _ 179 rfl rfl l6).trans (hJ.told 6 l6 (by omega))
      have r7 := (hX.rd 7 _ 180 rfl rfl l7).trans (hJ.told 7 l7 (by omega))
      have n1 : (0 : Int) ≤ (i : Int) := by omega
      have n2 : (i : Int) < 2 := by omega
      refine wpOp_value rfl rfl (v := V39 hb b6 bd i sa sb v d F 8) (w' := w1) ?_ ⟨_, rfl, hJ.put (by decide) (by decide) (by decide) rfl⟩
      simp [go_sem, Act.eval, V39, r6, r7, n1, n2]
    | 9, hi =>
      cases hi
      have l8 := hd ⟨8, .data⟩ (by simp) rfl
      have r8 := (hX.rd 8 _ 181 rfl rfl l8).trans (hJ.told 8 l8 (by omega))
      have m := (hrd w1 hJ.some).v
      refine wpOp_value rfl rfl (v := V39 hb b6 bd i sa sb v d F 9) (w' := w1) ?_ ⟨_, rfl, hJ.put (by decide) (by decide) (by decide) rfl⟩
      simp [go_sem, Act.eval, V39, r8, m]
    | 10, hi =>
      cases hi
      have s := (hX.out (s := 13) rfl).trans h11
      have m := hrd w1 hJ.some
      have m0 := m.d0
      have m1 := m.d1
      have m2 := m.d2
      refine wpOp_value rfl rfl (v := V39 hb b6 bd i sa sb v d F 10) (w' := w1) ?_ ⟨_, rfl, hJ.put (by decide) (by decide) (by decide) rfl⟩
      simp [go_sem, Act.eval, V39, s, m0, m1, m2]
    | 11, hi =>
      cases hi
      have l9 := hd ⟨9, .data⟩ (by simp) rfl
      have l10 := hd ⟨10, .data⟩ (by simp) rfl
      have r9 := (hX.rd 9 _ 182 rfl rfl l9).trans (hJ.told 9 l9 (by omega))
      have r10 := (hX.rd 10 _ 183 rfl rfl l10).trans (hJ.told 10 l10 (by omega))
      have lc := hd ⟨5, .chain⟩ (by simp) rfl
      have l1 : L 12 = false := by
        cases e1 : L 12 with
        | false => rfl
        | true => exact absurd (hc 12 _ rfl e1 ⟨11, .chain⟩ (by simp) rfl) (by rw [hL]; decide)
      have l2 : L 13 = false := by
        cases e1 : L 13 with
        | false => rfl
        | true => exact absurd (hc 13 _ rfl e1 ⟨11, .phase⟩ (by simp) rfl) (by rw [hL]; decide)
      refine wpOp_call (f := 7) (args := #[v, .agg #[.int .i64 d.1, .string d.2.1, .string d.2.2]]) rfl rfl (w' := w1) ?_ ?_
      · simp [go_sem, Act.eval, V39, r9, r10]
      · refine (hC7 w1 (hJ.at0 lc l1 l2)).mono ?_
        rintro e w3 ⟨rfl, hA⟩
        exact ⟨_, rfl, _, rfl, hJ.again lc (by decide) (by decide) l1 l2 rfl hA⟩
    | 12, hi =>
      cases hi
      have l5 := hd ⟨5, .data⟩ (by simp) rfl
      have r5 := (hX.rd 5 _ 178 rfl rfl l5).trans (hJ.told 5 l5 (by omega))
      have s := (hX.out (s := 9) rfl).trans h9
      have l2 : L 13 = false := by
        cases e1 : L 13 with
        | false => rfl
        | true => exact absurd (hc 13 _ rfl e1 ⟨12, .phase⟩ (by simp) rfl) (by rw [hL]; decide)
      obtain ⟨q1, q2, q3, q4⟩ := store_two' (hR.t9 _ _ _ (hJ.post l5)) (.int .i64 F.1)
      refine wpOp_skip rfl rfl (w' := stored2 w1 b9 F) ?_ ⟨undef, rfl, hJ.store1 hR (by decide) l5 l2 undef⟩
      simp [go_sem, Act.eval, V39, s, r5, q1, q2, q3, q4]
    | 13, hi =>
      cases hi
      have l11 := hd ⟨11, .data⟩ (by simp) rfl
      have r11 := (hX.rd 11 _ 184 rfl rfl l11).trans (hJ.told 11 l11 (by omega))
      have lc := hd ⟨5, .phase⟩ (by simp) rfl
      have ls := hd ⟨12, .phase⟩ (by simp) rfl
      have s := (hX.out (s := 10) rfl).trans h10
      obtain ⟨q1, q2, q3, q4⟩ := store_two' (hR.t10 _ _ _ (hJ.post lc)) (.int .i64 F.1)
      refine wpOp_skip rfl rfl (w' := stored2 w1 b10 F) ?_ ⟨undef, rfl, hJ.store2 hR (by decide) lc ls undef⟩
      simp [go_sem, Act.eval, V39, s, r11, q1, q2, q3, q4]
    | n + 14, hi => cases hi
  · intro L xs w1 hJ hall
    have e0 := hJ.told 0 (hall 0 (by simp)) (by omega)
    have e1 := hJ.told 1 (hall 1 (by simp)) (by omega)
    have e2 := hJ.told 2 (hall 2 (by simp)) (by omega)
    have e3 := hJ.told 3 (hall 3 (by simp)) (by omega)
    have e4 := hJ.told 4 (hall 4 (by simp)) (by omega)
    have e5 := hJ.told 5 (hall 5 (by simp)) (by omega)
    have e6 := hJ.told 6 (hall 6 (by simp)) (by omega)
    have e7 := hJ.told 7 (hall 7 (by simp)) (by omega)
    have e8 := hJ.told 8 (hall 8 (by simp)) (by omega)
    have e9 := hJ.told 9 (hall 9 (by simp)) (by omega)
    have e10 := hJ.told 10 (hall 10 (by simp)) (by omega)
    have e11 := hJ.told 11 (hall 11 (by simp)) (by omega)
    have hA := hJ.post (hall 5 (by simp))
    rw [hall 12 (by simp), hall 13 (by simp)] at hA
    simp only [puts, Act.put, e0, e1, e2, e3, e4, e5, e6, e7, e8, e9, e10, e11]
    exact hend w1 hA
end Go.Proofs.Ytfdlndljpmamgaa
