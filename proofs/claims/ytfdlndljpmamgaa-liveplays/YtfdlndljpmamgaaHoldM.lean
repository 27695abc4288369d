/- Each edge has both of its nodes in some bag: width.holdEach. -/
import Derived.Test.YtfdlndljpmamgaaRegX
import Derived.Maps.RangeWalk
namespace Go.Proofs.Ytfdlndljpmamgaa
set_option maxRecDepth 8000
open Go.RowKit Go.Maps
attribute [local go_sem ↓] Go.wp_at_zero Go.wp_at_succ
def inBag (s : Nat) (e : Pair) : Bool := s.testBit e.1.toNat && s.testBit e.2.toNat
def holdB (es : List Pair) (bags : List Nat) : Bool := es.all fun e => bags.any fun s => inBag s e
/-- What is left in the map: edges that none of the bags holds. -/
def Left (es : List Pair) (bags : List Nat) (l : Lit) : Prop := ∃ e ∈ es, l = kl e.1 e.2 ∧ bags.any (fun s => inBag s e) = false
def MapP (w : World) (b n : Nat) (T : Lit → Prop) : Prop := ∃ D : DataW Unit, w.ownsMap Try.prog 59 unitElem b n D ∧ ∀ l, Maps.has D l = true ↔ T l
theorem MapP.block {w w' : World} {b n : Nat} {T : Lit → Prop} (h : MapP w b n T) (hb : w'.heap[b]? = w.heap[b]?) : MapP w' b n T := by
  obtain ⟨D, ⟨es, clock, h1, h2⟩, h3⟩ := h
  exact ⟨D, ⟨es, clock, by rw [hb]; exact h1, h2⟩, h3⟩
theorem MapP.lt {w : World} {b n : Nat} {T : Lit → Prop} (h : MapP w b n T) : b < w.heap.size := by
  obtain ⟨D, h1, _⟩ := h; exact h1.lt
theorem MapP.congr {w : World} {b n : Nat} {T T' : Lit → Prop} (h : MapP w b n T) (e : ∀ l, T l ↔ T' l) : MapP w b n T' := by
  obtain ⟨D, h1, h2⟩ := h
  exact ⟨D, h1, fun l => (h2 l).trans (e l)⟩
theorem mapP_made (w : World) : MapP (w.alloc (.map #[] 0)) w.heap.size 0 (fun _ => False) := ⟨.map [], World.ownsMap_made _ _ _ _, fun l => by simp [Maps.has]⟩
theorem MapP.store {w : World} {b n : Nat} {T : Lit → Prop} (h : MapP w b n T) {u v : Int} (hu : I64 u) (hv : I64 v) (hn : n < 1000000000) :
    ∃ w', (Instr.mapUpdate 62 (.map (some b)) (.agg #[.int .i64 u, .int .i64 v]) (.agg #[])).run Try.prog w = .ok () w' ∧ MapP w' b (n + 1) (fun l => T l ∨ l = kl u v) ∧ w.mapTurned w' b := by
  obtain ⟨D, h1, h2⟩ := h
  obtain ⟨w', hrun, hown, hturn⟩ := h1.store Try.law59 Try.underlying62 (by unfold maxLen; omega) (key_mk hu hv) unitElem_mk
  refine ⟨w', hrun, ⟨_, hown, fun l => ?_⟩, hturn⟩
  by_cases e : l = kl u v
  · subst e
    rw [has_put_same h1.isMap (Try.law59.key (key_mk hu hv))]
    exact ⟨fun _ => Or.inr rfl, fun _ => rfl⟩
  · rw [has_put_other e, h2 l]
    exact ⟨Or.inl, fun h => h.elim id (fun h => absurd h e)⟩
theorem MapP.size {w : World} {b n : Nat} {T : Lit → Prop} (h : MapP w b n T) (p : Bool) (hp : p = true ↔ ∀ l, ¬ T l) (ty : TypeId) : ∃ m : Nat, (Builtin.len_ #[62] ty #[.map (some b)]).run Try.prog w = .ok (.int .i64 (m : Int)) w ∧ ((m : Int) == 0) = p := by
  obtain ⟨D, h1, h2⟩ := h
  refine ⟨Maps.size D, h1.len Try.underlying62 ty, ?_⟩
  obtain ⟨es, rfl, _, hk⟩ := h1.entries Try.law59
  rw [Maps.size_eq]
  cases es with
  | nil =>
    have : p = true := hp.2 fun l hl => by
      have := (h2 l).2 hl
      simp [Maps.has] at this
    rw [this]
    rfl
  | cons a l =>
    have : p = false := by
      cases hq : p with
      | false => rfl
      | true =>
        refine absurd ((h2 a.1).1 ?_) (hp.1 hq a.1)
        simp [Maps.has, WideAt.sameKey_self (hk a (by simp))]
    rw [this]
    simp
    omega
/-- A range over the map that is under way. -/
def RanP (w : World) (b r n : Nat) (T : Lit → Prop) (left : Lit → Bool) (cnt : Nat) : Prop := ∃ D : DataW Unit, w.ranges Try.prog 59 unitElem b r n D left cnt ∧ ∀ l, Maps.has D l = true ↔ T l
theorem RanP.map {w : World} {b r n cnt : Nat} {T : Lit → Prop} {left : Lit → Bool} (h : RanP w b r n T left cnt) : MapP w b n T := by
  obtain ⟨D, h1, h2⟩ := h
  exact ⟨D, h1.owns, h2⟩
theorem RanP.kept {w w' : World} {b r n cnt : Nat} {T : Lit → Prop} {left : Lit → Bool} {row : Option Nat} (h : RanP w b r n T left cnt) (hg : w.grownBy w' row) (h1 : some b ≠ row) (h2 : some r ≠ row) : RanP w' b r n T left cnt := by
  obtain ⟨D, h3, h4⟩ := h
  exact ⟨D, h3.kept hg h1 h2, h4⟩
theorem RanP.congr {w : World} {b r n cnt : Nat} {T T' : Lit → Prop} {left : Lit → Bool} (h : RanP w b r n T left cnt) (e : ∀ l, T l ↔ T' l) : RanP w b r n T' left cnt := by
  obtain ⟨D, h1, h2⟩ := h
  exact ⟨D, h1, fun l => (h2 l).trans (e l)⟩
theorem RanP.left_eq {w : World} {b r n cnt : Nat} {T : Lit → Prop} {left : Lit → Bool} (h : RanP w b r n T left cnt) : w.rangeLeft b r = cnt := by
  obtain ⟨D, h1, _⟩ := h
  exact h1.left_eq
/-- What the map reads as in the midst of the round of a bag. -/
def Mid (es : List Pair) (bags : List Nat) (s : Nat) (left : Lit → Bool) (l : Lit) : Prop := ∃ e ∈ es, l = kl e.1 e.2 ∧ bags.any (fun s => inBag s e) = false ∧ (left l = true ∨ inBag s e = false)
section
variable {w : World} {ops : Array Oper} {rest : List Oper} {o : Oper} {a : Act} {Q : Exit → Act → World → Prop}
theorem wpList_range_P (hg : o.guard = none) (m : Operand) (hop : o.op = Op.range 62 m) {b n : Nat} {T : Lit → Prop} (hm : a.eval m = .map (some b)) (h : MapP w b n T)
    (hK : ∀ w' left cnt, RanP w' b w.heap.size n T left cnt → (∀ l, T l → left l = true) → w.grownBy w' none → w'.heap.size = w.heap.size + 1 → wpList Try.prog ops Q rest (a.put o.dst (.pointer (some ⟨w.heap.size, 0, none⟩))) w') :
    wpList Try.prog ops Q (o :: rest) a w := by
  obtain ⟨D, h1, h2⟩ := h
  exact wpList_range_own w hg m 62 hop 59 64 Try.law59 Try.underlying62 unitElem b n D hm h1 fun w' r1 r2 r3 => hK w' _ _ ⟨D, r1, h2⟩ (fun l hl => (h2 l).2 hl) r2 r3
theorem wpList_next_P (hg : o.guard = none) (it : Operand) (hop : o.op = Op.next it false) {b r n cnt : Nat} {T : Lit → Prop} {left : Lit → Bool} (hT : ∀ l, T l → ∃ u v, I64 u ∧ I64 v ∧ l = kl u v) (hit : a.eval it = .pointer (some ⟨r, 0, none⟩)) (h : RanP w b r n T left cnt)
    (hDone : (∀ l, left l = false) → wpList Try.prog ops Q rest (a.put o.dst (.tuple #[.bool false])) w)
    (hMore : ∀ (u v : Int) (w' : World) (cnt' : Nat), I64 u → I64 v → T (kl u v) → RanP w' b r n T (fun z => left z && !z.sameKey (kl u v)) cnt' → cnt' < cnt → w.grownBy w' (some r) → w'.heap.size = w.heap.size →
      (Instr.entry (.pointer (some ⟨r, 0, none⟩))).run Try.prog w' = .ok (.tuple #[.agg #[.int .i64 u, .int .i64 v], .agg #[]]) w' → wpList Try.prog ops Q rest (a.put o.dst (.tuple #[.bool true, .agg #[.int .i64 u, .int .i64 v], .agg #[]])) w') :
    wpList Try.prog ops Q (o :: rest) a w := by
  obtain ⟨D, h1, h2⟩ := h
  refine wpList_next_ranges (α := Value) (β := Unit) w hg it hop 59 Try.law59 unitElem id (fun _ => .agg #[]) (fun key _ _ => ⟨key, rfl⟩) (fun v y hv => ⟨(), (unitElem_inv hv).1⟩) b r n D left cnt hit h1 (fun _ hl => hDone hl) ?_
  intro x c l y w' cnt' hkey hlk hv hat hrg hlt hgr hsz hen
  have hh := (h2 l).1 (has_true_of_atKey hat)
  obtain ⟨u, v, hu, hv', rfl⟩ := hT l hh
  have hx : id x = .agg #[.int .i64 u, .int .i64 v] := Try.law59.inj hkey (key_mk hu hv')
  simp only [id] at hx
  subst hx
  exact hMore u v w' cnt' hu hv' hh ⟨D, hrg, h2⟩ hlt hgr hsz hen
theorem wpList_delete_P (hg : o.guard = none) (m x : Operand) (hop : o.op = Op.call { callee := Callee.builtin Builtin.delete, args := #[m, x], argTypes := #[62, 59] }) {b r n cnt : Nat} {T : Lit → Prop} {left : Lit → Bool}
    (hm : a.eval m = .map (some b)) (h : RanP w b r n T left cnt) {u v : Int} (hx : a.eval x = .agg #[.int .i64 u, .int .i64 v]) (hu : I64 u) (hv : I64 v)
    (hK : ∀ w' cnt', RanP w' b r n (fun l => T l ∧ l ≠ kl u v) (fun z => left z && !z.sameKey (kl u v)) cnt' → cnt' ≤ cnt → w.grownBy w' (some b) → wpList Try.prog ops Q rest (a.put o.dst (.tuple #[])) w') :
    wpList Try.prog ops Q (o :: rest) a w := by
  obtain ⟨D, h1, h2⟩ := h
  refine wpList_delete_ranges w hg m x 62 59 hop 64 Try.law59 Try.underlying62 unitElem b r n D left cnt hm h1 _ _ hx (key_mk hu hv) fun w' cnt' r1 r2 r3 => hK w' cnt' ⟨_, r1, fun l => ?_⟩ r2 r3.grown
  by_cases e : l = kl u v
  · subst e
    rw [has_del_same]
    exact ⟨fun h => (by cases h), fun h => absurd rfl h.2⟩
  · rw [has_del_other e, h2 l]
    exact ⟨fun h => ⟨h, e⟩, fun h => h.1⟩
end
end Go.Proofs.Ytfdlndljpmamgaa
