/- firstFit's literal: the least list. -/
import Derived.Test.YthjkjanibkpgiaaDoorRfF
import Derived.Test.YthjkjanibkpgiaaDoorTalW
import Derived.Test.YthjkjanibkpgiaaDoorNearP
import Derived.Test.YthjkjanibkpgiaaDoorMatK
import Derived.Test.YthjkjanibkpgiaaDoorRegX
namespace Go.Proofs.YthjkjanibkpgiaaDoor
set_option maxRecDepth 8000
open Go.RowKit Go.Maps
attribute [local go_sem ↓] Go.wp_at_zero Go.wp_at_succ
theorem bit_lt {N x z : Nat} (h : x < 2 ^ N) (hz : x.testBit z = true) : z < N := by
  apply Classical.byContradiction
  intro hc
  have h2 : x < 2 ^ z := Nat.lt_of_lt_of_le h (Nat.pow_le_pow_right (by decide) (by omega))
  rw [Nat.testBit_lt_two_pow h2] at hz
  cases hz
theorem TA.below {w w' : World} {base bt : Nat} {t : TypeId} {L : List Nat} (h : TA w base bt t L) (hb : Below w.heap.size w w') : TA w' base bt t L := by
  obtain ⟨vo, vc, h1, h2⟩ := h
  exact ⟨vo, vc, (hb.block _ (lt_of_block h1)).trans h1, ownsRow_blocks h2 fun b hv => hb.block b (h2.lt b hv).2⟩
theorem enter41 (args : Array Value) (w : World) : (callFunc 41 args).run Tryd.prog w = .ok (.enter 41 args) w := by
  simp [callFunc, Tryd.func41, go_sem]
  rw [if_neg (of_decide_eq_true (by kernel_rfl)), if_neg (by intro h; have : Tryd.f41.body.isSome = true := (by kernel_rfl); rw [h] at this; cases this)]
/-- What is fixed while a list is looked for. -/
structure FxF (Fx : World → Prop) (B bt bw bn bf wb nb N M : Nat) (near wanted : Nat → Nat) : Prop where
  keep : ∀ A A', Fx A → Turns (FrT B bt) A A' → Fx A'
  w : ∀ A, Fx A → One A bw (sl wb M) 47
  wr : ∀ A, Fx A → RowV A wb 53 M (nv wanted)
  n : ∀ A, Fx A → One A bn (sl nb N) 47
  nr : ∀ A, Fx A → RowV A nb 53 N (nv near)
  f : ∀ A, Fx A → One A bf (.func (.func 41) #[] #[ptr bt, ptr bw, ptr bn, ptr bf]) 65
  tab : ∀ A, Fx A → T32 A
  sz : ∀ A, Fx A → B ≤ A.heap.size
  nl : ∀ v, near v < 2 ^ N
  wl : ∀ v, wanted v < 2 ^ M
  hN : N ≤ 12
  hM : M ≤ 12
def gB (near : Nat → Nat) : Nat → Nat → Bool := fun v x => (near x).testBit v
def hB (wanted : Nat → Nat) : Nat → Nat → Bool := fun k i => (wanted k).testBit i
/-- What the literal answers. -/
def FitP (B bt : Nat) (r : Option (List Nat)) (l : List Nat) (e : Ending) (w' : World) : Prop := match r with
  | some l' => e = .returned (.bool true) ∧ TA w' B bt 39 l'
  | none => e = .returned (.bool false) ∧ TA w' B bt 39 l
/-- The nodes that are open so far. -/
def opn (near : Nat → Nat) (left W0 ah : Nat) (l : List Nat) (x : Nat) : Bool := left.testBit x && (List.range l.length).all fun i => !(W0.testBit i && !ah.testBit i) || (near (l.getD i 0)).testBit x
theorem opn_start (near : Nat → Nat) (left W0 : Nat) (l : List Nat) (x : Nat) : opn near left W0 W0 l x = left.testBit x := by
  unfold opn
  have : ((List.range l.length).all fun i => !(W0.testBit i && !W0.testBit i) || (near (l.getD i 0)).testBit x) = true := by
    rw [List.all_eq_true]
    intro i _
    cases W0.testBit i <;> rfl
  rw [this, Bool.and_true]
theorem opn_step {near : Nat → Nat} {left W0 ah ah' u : Nat} {l : List Nat} (hu : u < l.length) (hw : W0.testBit u = true) (h' : ah'.testBit = outB ah.testBit u) (hsub : ∀ i, ah.testBit i = true → W0.testBit i = true) (x : Nat) : opn near left W0 ah' l x = (opn near left W0 ah l x && (near (l.getD u 0)).testBit x) := by
  have _ := hsub
  unfold opn
  rw [Bool.and_assoc]
  congr 1
  rw [Bool.eq_iff_iff, Bool.and_eq_true, List.all_eq_true, List.all_eq_true]
  constructor
  · intro h
    refine ⟨fun i hi => ?_, ?_⟩
    · have := h i hi
      rw [h'] at this
      unfold outB at this
      revert this
      cases W0.testBit i <;> cases ah.testBit i <;> cases (i == u) <;> simp
    · have := h u (List.mem_range.2 hu)
      rw [h', hw] at this
      unfold outB at this
      simpa using this
  · rintro ⟨h1, h2⟩ i hi
    by_cases e : i = u
    · subst e
      rw [h2, Bool.or_true]
    · have := h1 i hi
      rw [h']
      unfold outB
      have e' : (i == u) = false := by simpa using e
      rw [e']
      simpa using this
theorem opn_end {near wanted : Nat → Nat} {left : Nat} {l : List Nat} {x : Nat} (hl : left.testBit x = !(l.contains x)) : opn near left (wanted l.length &&& (2 ^ l.length - 1)) 0 l x = fitsAt (gB near) (hB wanted) l x := by
  unfold opn fitsAt
  rw [hl]
  congr 1
  rw [Bool.eq_iff_iff, List.all_eq_true, List.all_eq_true]
  have key : ∀ i, i ∈ List.range l.length → ((!((wanted l.length &&& (2 ^ l.length - 1)).testBit i && !(0 : Nat).testBit i) || (near (l.getD i 0)).testBit x) = (!(hB wanted l.length i) || gB near x (l.getD i 0))) := fun i hi => by
    have hi' := List.mem_range.1 hi
    unfold hB gB
    rw [Nat.testBit_and, Nat.testBit_two_pow_sub_one, Nat.zero_testBit]
    simp [hi']
  exact ⟨fun q i hi => by rw [← key i hi]; exact q i hi, fun q i hi => by rw [key i hi]; exact q i hi⟩
/-- to = append(to, x): what is told, then the row, then the box. -/
structure S6 (W : World) (V : Nat → Value) (u : Nat) (C1 : Value → World → Prop) (C2 : World → Prop) (L : Nat → Bool) (f : Nat → Value) (w : World) : Prop where
  told : ∀ i, i < 3 → L i = true → f i = V i
  c0 : L 4 = false → Below W.heap.size W w
  t3 : L 4 = false → L 3 = true → ∃ bq, f 3 = .slice (some ⟨bq, 0, none⟩) 1 1 ∧ w.cell? ⟨bq, 0, none⟩ = some (.int .i64 (u : Int))
  c1 : L 4 = true → L 5 = false → C1 (f 4) w
  c2 : L 5 = true → C2 w
  cl5 : L 5 = true → L 4 = true
  cl4 : L 4 = true → ∀ i, i < 4 → L i = true
section
variable {W : World} {V : Nat → Value} {u : Nat} {C1 : Value → World → Prop} {C2 : World → Prop} {L : Nat → Bool} {f : Nat → Value} {w w' : World}
theorem S6.start : S6 W V u C1 C2 (fun _ => false) f W.drew := ⟨fun _ _ h => (by cases h), fun _ => (Below.refl _ W).drew, fun _ h => (by cases h), fun h => (by cases h), fun h => (by cases h), fun h => (by cases h), fun h => (by cases h)⟩
theorem S6.open_ (h : S6 W V u C1 C2 L f w) {i : Nat} (hL : L i = false) (hi : i < 4) : L 4 = false ∧ L 5 = false := by
  have h4 : L 4 = false := by
    cases e : L 4 with
    | false => rfl
    | true => have := h.cl4 e i hi; rw [hL] at this; cases this
  refine ⟨h4, ?_⟩
  cases e : L 5 with
  | false => rfl
  | true => have := h.cl5 e; rw [h4] at this; cases this
theorem S6.put (h : S6 W V u C1 C2 L f w) {i : Nat} (hL : L i = false) (hi : i < 3) {x : Value} (hx : x = V i) (hb : Below w.heap.size w w') : S6 W V u C1 C2 (also L i) (updV f i x) w' := by
  obtain ⟨h4, h5⟩ := h.open_ hL (by omega)
  have a : ∀ k, k ≠ i → also L i k = L k := fun k hk => also_at hk
  refine ⟨fun j hj hl => ?_, fun _ => below_next (h.c0 h4) hb, fun _ hl => ?_, fun hl => ?_, fun hl => ?_, fun hl => ?_, fun hl => ?_⟩
  · by_cases e : j = i
    · subst e; rw [updV_same]; exact hx
    · rw [updV_ne _ _ e]; exact h.told j hj (by rwa [a j e] at hl)
  · rw [a 3 (by omega)] at hl
    obtain ⟨bq, e1, e2⟩ := h.t3 h4 hl
    rw [updV_ne _ _ (by omega)]
    exact ⟨bq, e1, (hb.cell (World.block_lt_of_cell? w _ e2)).trans e2⟩
  · rw [a 4 (by omega), h4] at hl; cases hl
  · rw [a 5 (by omega), h5] at hl; cases hl
  · rw [a 5 (by omega), h5] at hl; cases hl
  · rw [a 4 (by omega), h4] at hl; cases hl
theorem S6.put3 (h : S6 W V u C1 C2 L f w) (hL : L 3 = false) : S6 W V u C1 C2 (also L 3) (updV f 3 (.slice (some ⟨w.heap.size, 0, none⟩) 1 1)) (w.alloc (Obj.cells #[.int .i64 (u : Int)] 3)) := by
  obtain ⟨h4, h5⟩ := h.open_ hL (by omega)
  have a : ∀ k, k ≠ 3 → also L 3 k = L k := fun k hk => also_at hk
  refine ⟨fun j hj hl => ?_, fun _ => below_alloc (h.c0 h4) _, fun _ hl => ⟨w.heap.size, updV_same _ _ _, one_cell w _ 3⟩, fun hl => ?_, fun hl => ?_, fun hl => ?_, fun hl => ?_⟩
  · rw [updV_ne _ _ (by omega)]; exact h.told j hj (by rwa [a j (by omega)] at hl)
  · rw [a 4 (by omega), h4] at hl; cases hl
  · rw [a 5 (by omega), h5] at hl; cases hl
  · rw [a 5 (by omega), h5] at hl; cases hl
  · rw [a 4 (by omega), h4] at hl; cases hl
theorem S6.put4 (h : S6 W V u C1 C2 L f w) (hL : L 4 = false) (hall : ∀ i, i < 4 → L i = true) {x : Value} (hx : C1 x w') : S6 W V u C1 C2 (also L 4) (updV f 4 x) w' := by
  have h5 : L 5 = false := by
    cases e : L 5 with
    | false => rfl
    | true => have := h.cl5 e; rw [hL] at this; cases this
  have a : ∀ k, k ≠ 4 → also L 4 k = L k := fun k hk => also_at hk
  refine ⟨fun j hj hl => ?_, fun hl => ?_, fun hl => ?_, fun _ _ => by rw [updV_same]; exact hx, fun hl => ?_, fun hl => also_self _ _, fun _ i hi => by rw [a i (by omega)]; exact hall i hi⟩
  · rw [updV_ne _ _ (by omega)]; exact h.told j hj (by rwa [a j (by omega)] at hl)
  · rw [also_self] at hl; cases hl
  · rw [also_self] at hl; cases hl
  · rw [a 5 (by omega), h5] at hl; cases hl
theorem S6.put5 (h : S6 W V u C1 C2 L f w) (h4 : L 4 = true) (x : Value) (hx : C2 w') : S6 W V u C1 C2 (also L 5) (updV f 5 x) w' := by
  have a : ∀ k, k ≠ 5 → also L 5 k = L k := fun k hk => also_at hk
  have a4 : also L 5 4 = true := by rw [a 4 (by omega)]; exact h4
  refine ⟨fun j hj hl => ?_, fun hl => ?_, fun hl => ?_, fun _ hl => ?_, fun _ => hx, fun _ => a4, fun _ i hi => by rw [a i (by omega)]; exact h.cl4 h4 i hi⟩
  · rw [updV_ne _ _ (by omega)]; exact h.told j hj (by rwa [a j (by omega)] at hl)
  · rw [a4] at hl; cases hl
  · rw [a4] at hl; cases hl
  · rw [also_self] at hl; cases hl
end
theorem exec_append {a : Act} {o : Oper} {w w' : World} {s x : Operand} {t : TypeId} {v y r : Value} (ho : o.op = .call { callee := .builtin .append, args := #[s, x], argTypes := #[t, t] }) (hs : a.eval s = v) (hx : a.eval x = y) (hr : (Builtin.append_ #[t, t] o.type #[v, y]).run Tryd.prog w = .ok r w') : (execOp a.eval o).run Tryd.prog w = .ok (.value r) w' := by
  unfold execOp
  simp only [ho, resolve, invoke, builtin, Sem.run_bind, Sem.run_pure, Result.andThen_ok, List.map_toArray, List.map_cons, List.map_nil, hs, hx, hr]
theorem run_pushQ {W : World} {ty : TypeId} {base bq pc x : Nat} {po : Option Addr} {l : List Nat} (hown : W.ownsRow base 3 1 (.slice po l.length pc) l.length (qv l)) (hc : W.cell? ⟨bq, 0, none⟩ = some (.int .i64 (x : Int))) (hl : l.length ≤ 1000) (hb : base ≤ W.heap.size) :
    ∃ g c w', (Builtin.append_ #[39, 39] ty #[.slice po l.length pc, .slice (some ⟨bq, 0, none⟩) 1 1]).run Tryd.prog W = .ok (.slice (some ⟨g, 0, none⟩) (l ++ [x]).length c) w' ∧ w'.ownsRow base 3 1 (.slice (some ⟨g, 0, none⟩) (l ++ [x]).length c) (l ++ [x]).length (qv (l ++ [x])) ∧ W.grownBy w' (Value.slice po l.length pc).ownBlock := by
  obtain ⟨i3, hi3, hy0, hy1, hy2⟩ := info_parts Tryd.info3
  obtain ⟨v', w', hr, h1, h2, _⟩ := run_append_own (P := Tryd.prog) W base 39 ty 3 i3 (.int .i64 0) 1 8 Tryd.underlying39 hi3 hy0 hy1 hy2 rfl (by decide) (.slice po l.length pc) l.length (qv l) hown ⟨bq, 0, none⟩ 1 1 [.int .i64 (x : Int)] rfl (fun j u hj => by
      have hj0 : j = 0 := by
        have := (List.getElem?_eq_some_iff.1 hj).1
        simp at this; exact this
      subst hj0
      simp at hj
      subst hj
      rw [add_none]
      exact hc) (fun y hy => by simp at hy; subst hy; rfl) (by unfold maxLen; omega) (by omega) hb
  have hll : (l ++ [x]).length = l.length + 1 := by simp
  have e : qv l ++ [.int .i64 (x : Int)] = qv (l ++ [x]) := by simp [qv]
  rw [e, ← hll] at h1
  rcases h1.2 with ⟨_, e0⟩ | ⟨g, cap, cur, rfl, _⟩
  · omega
  · exact ⟨g, cap, w', hr, h1, h2⟩
/-- A row that is made shorter. -/
theorem own_short {W : World} {base g c : Nat} {l : List Nat} {x : Nat} {n : Nat} (hn : n = (l ++ [x]).length) (h : W.ownsRow base 3 1 (.slice (some ⟨g, 0, none⟩) n c) n (qv (l ++ [x]))) : W.ownsRow base 3 1 (.slice (some ⟨g, 0, none⟩) l.length c) l.length (qv l) := by
  obtain ⟨h1, h2⟩ := h
  rcases h2 with ⟨h0, _⟩ | ⟨g', cap, cur, e1, h3, h4, h5, h6, h7, h8⟩
  · cases h0
  · cases e1
    have hl : (l ++ [x]).length = l.length + 1 := by simp
    refine ⟨by simp [qv], Or.inr ⟨g, c, cur, rfl, h3, h4, by omega, h6, h7, ?_⟩⟩
    have h9 : (cur.toList.take (n * 1)).take (l.length * 1) = (qv (l ++ [x])).take (l.length * 1) := by rw [h8]
    rw [List.take_take, Nat.min_eq_left (by omega)] at h9
    rw [h9]
    simp [qv]
end Go.Proofs.YthjkjanibkpgiaaDoor
