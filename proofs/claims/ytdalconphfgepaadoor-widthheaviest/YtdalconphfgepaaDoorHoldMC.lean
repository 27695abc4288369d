/- Each edge has both of its nodes in some bag: width.holdEach. Each edge has both of its nodes in some bag: width.holdEach, the walk. -/
import Derived.Test.YtdalconphfgepaaDoorHangW
import Derived.Maps.RangeWalk
import Derived.Test.YtdalconphfgepaaDoorOpenWK
namespace Go.Proofs.YtdalconphfgepaaDoor
set_option maxRecDepth 8000
open Go.RowKit Go.Maps
attribute [local go_sem ↓] Go.wp_at_zero Go.wp_at_succ
def inBag (s : Nat) (e : Pair) : Bool := s.testBit e.1.toNat && s.testBit e.2.toNat
def holdB (es : List Pair) (bags : List Nat) : Bool := es.all fun e => bags.any fun s => inBag s e
/-- What is left in the map: edges that none of the bags holds. -/
def Left (es : List Pair) (bags : List Nat) (l : Lit) : Prop := ∃ e ∈ es, l = kl e.1 e.2 ∧ bags.any (fun s => inBag s e) = false
def MapP (w : World) (b n : Nat) (T : Lit → Prop) : Prop := ∃ D : DataW Unit, w.ownsMap Tryd.prog 64 unitElem b n D ∧ ∀ l, Maps.has D l = true ↔ T l
theorem MapP.block {w w' : World} {b n : Nat} {T : Lit → Prop} (h : MapP w b n T) (hb : w'.heap[b]? = w.heap[b]?) : MapP w' b n T := by
  obtain ⟨D, ⟨es, clock, h1, h2⟩, h3⟩ := h
  exact ⟨D, ⟨es, clock, by rw [hb]; exact h1, h2⟩, h3⟩
theorem MapP.lt {w : World} {b n : Nat} {T : Lit → Prop} (h : MapP w b n T) : b < w.heap.size := by
  obtain ⟨D, h1, _⟩ := h; exact h1.lt
theorem MapP.congr {w : World} {b n : Nat} {T T' : Lit → Prop} (h : MapP w b n T) (e : ∀ l, T l ↔ T' l) : MapP w b n T' := by
  obtain ⟨D, h1, h2⟩ := h
  exact ⟨D, h1, fun l => (h2 l).trans (e l)⟩
theorem mapP_made (w : World) : MapP (w.alloc (.map #[] 0)) w.heap.size 0 (fun _ => False) := ⟨.map [], World.ownsMap_made _ _ _ _, fun l => by simp [Maps.has]⟩
theorem MapP.store {w : World} {b n : Nat} {T : Lit → Prop} (h : MapP w b n T) {u v : Int} (hu : I64 u) (hv : I64 v) (hn : n < 1000000000) :
    ∃ w', (Instr.mapUpdate 109 (.map (some b)) (.agg #[.int .i64 u, .int .i64 v]) (.agg #[])).run Tryd.prog w = .ok () w' ∧ MapP w' b (n + 1) (fun l => T l ∨ l = kl u v) ∧ w.mapTurned w' b := by
  obtain ⟨D, h1, h2⟩ := h
  obtain ⟨w', hrun, hown, hturn⟩ := h1.store Tryd.law64 Tryd.underlying109 (by unfold maxLen; omega) (key_mk hu hv) unitElem_mk
  refine ⟨w', hrun, ⟨_, hown, fun l => ?_⟩, hturn⟩
  by_cases e : l = kl u v
  · subst e
    rw [has_put_same h1.isMap (Tryd.law64.key (key_mk hu hv))]
    exact ⟨fun _ => Or.inr rfl, fun _ => rfl⟩
  · rw [has_put_other e, h2 l]
    exact ⟨Or.inl, fun h => h.elim id (fun h => absurd h e)⟩
theorem MapP.size {w : World} {b n : Nat} {T : Lit → Prop} (h : MapP w b n T) (p : Bool) (hp : p = true ↔ ∀ l, ¬ T l) (ty : TypeId) : ∃ m : Nat, (Builtin.len_ #[109] ty #[.map (some b)]).run Tryd.prog w = .ok (.int .i64 (m : Int)) w ∧ ((m : Int) == 0) = p := by
  obtain ⟨D, h1, h2⟩ := h
  refine ⟨Maps.size D, h1.len Tryd.underlying109 ty, ?_⟩
  obtain ⟨es, rfl, _, hk⟩ := h1.entries Tryd.law64
  rw [Maps.size_eq]
  cases es with
  | nil =>
    have : p = true := hp.2 fun l hl => by
      have := (h2 l).2 hl
      simp [Maps.has] at this
    rw [this]
    rfl
  | cons a l =>
    have : p = false := by
      cases hq : p with
      | false => rfl
      | true =>
        refine absurd ((h2 a.1).1 ?_) (hp.1 hq a.1)
        simp [Maps.has, WideAt.sameKey_self (hk a (by simp))]
    rw [this]
    simp
    omega
/-- A range over the map that is under way. -/
def RanP (w : World) (b r n : Nat) (T : Lit → Prop) (left : Lit → Bool) (cnt : Nat) : Prop := ∃ D : DataW Unit, w.ranges Tryd.prog 64 unitElem b r n D left cnt ∧ ∀ l, Maps.has D l = true ↔ T l
theorem RanP.map {w : World} {b r n cnt : Nat} {T : Lit → Prop} {left : Lit → Bool} (h : RanP w b r n T left cnt) : MapP w b n T := by
  obtain ⟨D, h1, h2⟩ := h
  exact ⟨D, h1.owns, h2⟩
theorem RanP.kept {w w' : World} {b r n cnt : Nat} {T : Lit → Prop} {left : Lit → Bool} {row : Option Nat} (h : RanP w b r n T left cnt) (hg : w.grownBy w' row) (h1 : some b ≠ row) (h2 : some r ≠ row) : RanP w' b r n T left cnt := by
  obtain ⟨D, h3, h4⟩ := h
  exact ⟨D, h3.kept hg h1 h2, h4⟩
theorem RanP.congr {w : World} {b r n cnt : Nat} {T T' : Lit → Prop} {left : Lit → Bool} (h : RanP w b r n T left cnt) (e : ∀ l, T l ↔ T' l) : RanP w b r n T' left cnt := by
  obtain ⟨D, h1, h2⟩ := h
  exact ⟨D, h1, fun l => (h2 l).trans (e l)⟩
theorem RanP.left_eq {w : World} {b r n cnt : Nat} {T : Lit → Prop} {left : Lit → Bool} (h : RanP w b r n T left cnt) : w.rangeLeft b r = cnt := by
  obtain ⟨D, h1, _⟩ := h
  exact h1.left_eq
/-- What the map reads as in the midst of the round of a bag. -/
def Mid (es : List Pair) (bags : List Nat) (s : Nat) (left : Lit → Bool) (l : Lit) : Prop := ∃ e ∈ es, l = kl e.1 e.2 ∧ bags.any (fun s => inBag s e) = false ∧ (left l = true ∨ inBag s e = false)
section
variable {w : World} {ops : Array Oper} {rest : List Oper} {o : Oper} {a : Act} {Q : Exit → Act → World → Prop}
theorem wpList_range_P (hg : o.guard = none) (m : Operand) (hop : o.op = Op.range 109 m) {b n : Nat} {T : Lit → Prop} (hm : a.eval m = .map (some b)) (h : MapP w b n T)
    (hK : ∀ w' left cnt, RanP w' b w.heap.size n T left cnt → (∀ l, T l → left l = true) → w.grownBy w' none → w'.heap.size = w.heap.size + 1 → wpList Tryd.prog ops Q rest (a.put o.dst (.pointer (some ⟨w.heap.size, 0, none⟩))) w') :
    wpList Tryd.prog ops Q (o :: rest) a w := by
  obtain ⟨D, h1, h2⟩ := h
  exact wpList_range_own w hg m 109 hop 64 110 Tryd.law64 Tryd.underlying109 unitElem b n D hm h1 fun w' r1 r2 r3 => hK w' _ _ ⟨D, r1, h2⟩ (fun l hl => (h2 l).2 hl) r2 r3
theorem wpList_next_P (hg : o.guard = none) (it : Operand) (hop : o.op = Op.next it false) {b r n cnt : Nat} {T : Lit → Prop} {left : Lit → Bool} (hT : ∀ l, T l → ∃ u v, I64 u ∧ I64 v ∧ l = kl u v) (hit : a.eval it = .pointer (some ⟨r, 0, none⟩)) (h : RanP w b r n T left cnt)
    (hDone : (∀ l, left l = false) → wpList Tryd.prog ops Q rest (a.put o.dst (.tuple #[.bool false])) w)
    (hMore : ∀ (u v : Int) (w' : World) (cnt' : Nat), I64 u → I64 v → T (kl u v) → RanP w' b r n T (fun z => left z && !z.sameKey (kl u v)) cnt' → cnt' < cnt → w.grownBy w' (some r) → w'.heap.size = w.heap.size →
      (Instr.entry (.pointer (some ⟨r, 0, none⟩))).run Tryd.prog w' = .ok (.tuple #[.agg #[.int .i64 u, .int .i64 v], .agg #[]]) w' → wpList Tryd.prog ops Q rest (a.put o.dst (.tuple #[.bool true, .agg #[.int .i64 u, .int .i64 v], .agg #[]])) w') :
    wpList Tryd.prog ops Q (o :: rest) a w := by
  obtain ⟨D, h1, h2⟩ := h
  refine wpList_next_ranges (α := Value) (β := Unit) w hg it hop 64 Tryd.law64 unitElem id (fun _ => .agg #[]) (fun key _ _ => ⟨key, rfl⟩) (fun v y hv => ⟨(), (unitElem_inv hv).1⟩) b r n D left cnt hit h1 (fun _ hl => hDone hl) ?_
  intro x c l y w' cnt' hkey hlk hv hat hrg hlt hgr hsz hen
  have hh := (h2 l).1 (has_true_of_atKey hat)
  obtain ⟨u, v, hu, hv', rfl⟩ := hT l hh
  have hx : id x = .agg #[.int .i64 u, .int .i64 v] := Tryd.law64.inj hkey (key_mk hu hv')
  simp only [id] at hx
  subst hx
  exact hMore u v w' cnt' hu hv' hh ⟨D, hrg, h2⟩ hlt hgr hsz hen
theorem wpList_delete_P (hg : o.guard = none) (m x : Operand) (hop : o.op = Op.call { callee := Callee.builtin Builtin.delete, args := #[m, x], argTypes := #[109, 64] }) {b r n cnt : Nat} {T : Lit → Prop} {left : Lit → Bool}
    (hm : a.eval m = .map (some b)) (h : RanP w b r n T left cnt) {u v : Int} (hx : a.eval x = .agg #[.int .i64 u, .int .i64 v]) (hu : I64 u) (hv : I64 v)
    (hK : ∀ w' cnt', RanP w' b r n (fun l => T l ∧ l ≠ kl u v) (fun z => left z && !z.sameKey (kl u v)) cnt' → cnt' ≤ cnt → w.grownBy w' (some b) → wpList Tryd.prog ops Q rest (a.put o.dst (.tuple #[])) w') :
    wpList Tryd.prog ops Q (o :: rest) a w := by
  obtain ⟨D, h1, h2⟩ := h
  refine wpList_delete_ranges w hg m x 109 64 hop 110 Tryd.law64 Tryd.underlying109 unitElem b r n D left cnt hm h1 _ _ hx (key_mk hu hv) fun w' cnt' r1 r2 r3 => hK w' cnt' ⟨_, r1, fun l => ?_⟩ r2 r3.grown
  by_cases e : l = kl u v
  · subst e
    rw [has_del_same]
    exact ⟨fun h => (by cases h), fun h => absurd rfl h.2⟩
  · rw [has_del_other e, h2 l]
    exact ⟨fun h => ⟨h, e⟩, fun h => h.1⟩
end
end Go.Proofs.YtdalconphfgepaaDoor

namespace Go.Proofs.YtdalconphfgepaaDoor
set_option maxRecDepth 8000
open Go.RowKit Go.Maps
attribute [local go_sem ↓] Go.wp_at_zero Go.wp_at_succ
theorem grown_turns {w w' : World} {r : Nat} (h : w.grownBy w' (some r)) : Turns (fun k => k = r) w w' := ⟨h.os, h.tape, h.output, h.size, fun k hk hn => h.block k hk (fun e => hn (by cases e; rfl))⟩
theorem mid_start {es : List Pair} {bags : List Nat} {s : Nat} {left : Lit → Bool} (h : ∀ l, Left es bags l → left l = true) (l : Lit) : Left es bags l ↔ Mid es bags s left l := by
  constructor
  · intro hl
    obtain ⟨e, he, h1, h2⟩ := id hl
    exact ⟨e, he, h1, h2, Or.inl (h l hl)⟩
  · rintro ⟨e, he, h1, h2, _⟩
    exact ⟨e, he, h1, h2⟩
theorem mid_end {es : List Pair} {bags : List Nat} {s j : Nat} {left : Lit → Bool} (hj : bags[j]? = some s) (h : ∀ l, left l = false) (l : Lit) : Mid es (bags.take j) s left l ↔ Left es (bags.take (j + 1)) l := by
  have e1 : bags.take (j + 1) = bags.take j ++ [s] := by
    have hlt := (List.getElem?_eq_some_iff.1 hj).1
    rw [List.take_succ_eq_append_getElem hlt]
    rw [List.getElem?_eq_getElem hlt] at hj
    rw [Option.some.inj hj]
  unfold Mid Left
  rw [e1]
  constructor
  · rintro ⟨e, he, h1, h2, h3⟩
    refine ⟨e, he, h1, ?_⟩
    rcases h3 with h3 | h3
    · rw [h l] at h3; cases h3
    · rw [List.any_append, h2]; simp [h3]
  · rintro ⟨e, he, h1, h2⟩
    rw [List.any_append, Bool.or_eq_false_iff] at h2
    exact ⟨e, he, h1, h2.1, Or.inr (by simpa using h2.2)⟩
section
variable {es : List Pair} {bags : List Nat} {s : Nat} {left : Lit → Bool} {u v : Int}
theorem mid_is (hI : ∀ e ∈ es, I64 e.1 ∧ I64 e.2) (hu : I64 u) (hv : I64 v) {e : Pair} (he : e ∈ es) (h : kl u v = kl e.1 e.2) : e = (u, v) := by
  obtain ⟨h1, h2⟩ := key_inj hu hv (hI e he).1 (hI e he).2 h
  subst h1; subst h2; rfl
theorem mid_struck (hI : ∀ e ∈ es, I64 e.1 ∧ I64 e.2) (hu : I64 u) (hv : I64 v) (hb : inBag s (u, v) = true) (l : Lit) : (Mid es bags s left l ∧ l ≠ kl u v) ↔ Mid es bags s (fun z => left z && !z.sameKey (kl u v)) l := by
  constructor
  · rintro ⟨⟨e, he, h1, h2, h3⟩, hne⟩
    exact ⟨e, he, h1, h2, h3.imp (fun h => by simp [h, sameKey_ne hne]) id⟩
  · rintro ⟨e, he, h1, h2, h3⟩
    have hne : l ≠ kl u v := fun e2 => by
      subst e2
      have e3 := mid_is hI hu hv he h1
      subst e3
      rw [hb] at h3
      rcases h3 with h3 | h3
      · have hk : (kl u v).sameKey (kl u v) = true := WideAt.sameKey_self (Tryd.law64.key (key_mk hu hv))
        simp [hk] at h3
      · cases h3
    refine ⟨⟨e, he, h1, h2, h3.imp (fun h => ?_) id⟩, hne⟩
    simp only [Bool.and_eq_true] at h
    exact h.1
theorem mid_stays (hI : ∀ e ∈ es, I64 e.1 ∧ I64 e.2) (hu : I64 u) (hv : I64 v) (hb : inBag s (u, v) = false) (l : Lit) : Mid es bags s left l ↔ Mid es bags s (fun z => left z && !z.sameKey (kl u v)) l := by
  constructor
  · rintro ⟨e, he, h1, h2, h3⟩
    by_cases hne : l = kl u v
    · subst hne
      have e3 := mid_is hI hu hv he h1
      subst e3
      exact ⟨(u, v), he, rfl, h2, Or.inr hb⟩
    · exact ⟨e, he, h1, h2, h3.imp (fun h => by simp [h, sameKey_ne hne]) id⟩
  · rintro ⟨e, he, h1, h2, h3⟩
    refine ⟨e, he, h1, h2, h3.imp (fun h => ?_) id⟩
    simp only [Bool.and_eq_true] at h
    exact h.1
end
set_option maxHeartbeats 4000000 in
theorem hold_call {w : World} {b m N : Nat} {v : Value} {es : List Pair} {bags : List Nat} (hE : EdgesAt w v es) (hes : ∀ e ∈ es, 0 ≤ e.1 ∧ e.1 < N ∧ 0 ≤ e.2 ∧ e.2 < N) (hel : es.length ≤ 1000) (hN : N ≤ 100) (hS : SetsAt w b bags) (hl : bags.length = m) (hm : m ≤ 100) :
    Calls Tryd.prog 59 #[v, sl b m] w fun e w' => e = .returned (.bool (holdB es bags)) ∧ Below w.heap.size w w' := by
  have HE : Hid (EdgesAt w v es ∧ SetsAt w b bags ∧ bags.length = m ∧ (∀ e ∈ es, 0 ≤ e.1 ∧ e.1 < N ∧ 0 ≤ e.2 ∧ e.2 < N)) := ⟨hE, hS, hl, hes⟩
  obtain ⟨ao0, cap0, hv⟩ := hE.form'
  subst hv
  obtain ⟨el, hell⟩ : ∃ el, el = es.length := ⟨_, rfl⟩
  have HEL : Hid (el = es.length) := hell
  rw [← hell]
  rw [← hell] at hel
  clear hE hS hl hes hell
  have hmm := @run_makeMap Tryd.prog
  go_enter Tryd.func59, Tryd.ntmps59
  go_upto_region 3 with (fail)
  have m0 := mapP_made w
  have hB0 := below_alloc (Below.refl _ w) (Obj.map #[] 0)
  obtain ⟨bm, hbm⟩ : ∃ b, b = w.heap.size := ⟨_, rfl⟩
  have HBM : Hid (w.heap.size ≤ bm) := Nat.le_of_eq hbm.symm
  rw [← hbm] at m0 ⊢
  generalize w.alloc (Obj.map #[] 0) = W0 at *
  have HW0 : Hid (MapP W0 bm 0 (fun _ => False) ∧ Below w.heap.size w W0) := ⟨m0, hB0⟩
  clear m0 hB0 hbm hmm
  go_loopw [7, 14] (fun _ s14 wz => ∃ k : Nat, k ≤ el ∧ s14 = .int .i64 (k : Int) ∧ Hid (MapP wz bm k (fun l => ∃ e ∈ es.take k, l = kl e.1 e.2) ∧ Below w.heap.size w wz)) (fun _ s14 _ => el - (numOf s14).toNat)
  case atStart => exact ⟨0, Nat.zero_le _, rfl, ⟨HW0.out.1.congr fun l => by simp, HW0.out.2⟩⟩
  case round =>
    obtain ⟨k, hk, rfl, hJ⟩ := hrel
    by_cases hlt : k < el
    · have hkl : k < es.length := by rw [← HEL.out]; exact hlt
      obtain ⟨ao9, cap9, e', _, hI, hr⟩ := HE.out.1.below hJ.out.2
      simp only [Value.slice.injEq] at e'
      obtain ⟨e1, e2, e3⟩ := e'
      clear e2 e3
      subst e1
      obtain ⟨rb, roff, rfl, c0, c1⟩ := hr k hkl
      have hii := hI es[k] (List.getElem_mem hkl)
      have HTk : Hid (es.take (k + 1) = es.take k ++ [es[k]]) := List.take_succ_eq_append_getElem hkl
      clear hr
      generalize es[k] = p at *
      obtain ⟨x, y⟩ := p
      simp only at c0 c1 hii
      have i1 : (0 : Int) ≤ (k : Int) := by omega
      have i2 : (k : Int) < (el : Int) := by omega
      go_upto_region 5 with (fail)
      have t7 := two_new wr (.int .i64 x) (.int .i64 y) 64
      have hB1 := below_alloc (Below.refl _ wr) (Obj.cells #[.int .i64 x, .int .i64 y] 64)
      have m1 := hJ.out.1.block (hB1.block bm hJ.out.1.lt)
      have hBW := below_next hJ.out.2 hB1
      obtain ⟨d0, d1⟩ := cell_two t7
      generalize wr.heap.size = b7 at *
      generalize wr.alloc (Obj.cells #[.int .i64 x, .int .i64 y] 64) = W1 at *
      obtain ⟨w2, hrun, m2, ht2⟩ := m1.store hii.1 hii.2 (by omega)
      have HN : Hid (MapP w2 bm (k + 1) (fun l => ∃ e ∈ es.take (k + 1), l = kl e.1 e.2) ∧ Below w.heap.size w w2) := ⟨m2.congr fun l => by
        rw [HTk.out]
        constructor
        · rintro (⟨e, he, h2⟩ | rfl)
          · exact ⟨e, by simp [he], h2⟩
          · exact ⟨(x, y), by simp, rfl⟩
        · rintro ⟨e, he, h2⟩
          rcases List.mem_append.1 he with h3 | h3
          · exact Or.inl ⟨e, h3, h2⟩
          · simp at h3; subst h3; exact Or.inr h2, (grown_turns ht2.grown).below hBW hBW.size (fun z hz => by subst hz; exact HBM.out)⟩
      clear m1 m2 ht2 hB1 hBW t7 hJ hii hI c0 c1
      go_wp2
      go_roundw
      case rel => exact ⟨k + 1, by omega, by go_num, HN⟩
      case measure => simp [numOf]; omega
    · obtain rfl : k = el := by omega
      have HM : Hid (MapP wr bm k (Left es (bags.take 0)) ∧ Below w.heap.size w wr) := ⟨hJ.out.1.congr fun l => by
        rw [HEL.out, List.take_length]
        simp [Left], hJ.out.2⟩
      clear hJ
      go_upto_region 8 with (fail)
      go_loopw [9, 10, 24] (fun _ _ s24 wz => ∃ j : Nat, j ≤ m ∧ s24 = .int .i64 (j : Int) ∧ Hid (MapP wz bm k (Left es (bags.take j)) ∧ Below w.heap.size w wz)) (fun _ _ s24 _ => m - (numOf s24).toNat)
      case atStart => exact ⟨0, Nat.zero_le _, rfl, HM⟩
      case round =>
        clear HM
        obtain ⟨j, hj, rfl, hJ⟩ := hrel
        by_cases hlt2 : j < m
        · obtain ⟨sv0, hsj⟩ : ∃ s, bags[j]? = some s := ⟨_, List.getElem?_eq_getElem (show j < bags.length by rw [HE.out.2.2.1]; exact hlt2)⟩
          obtain ⟨c0, c1⟩ := (HE.out.2.1.under hJ.out.2).cell hsj
          have hs128 := HE.out.2.1.bound hsj
          have HSJ : Hid (bags[j]? = some sv0) := hsj
          have C71 : Hid (∀ (x : Nat) A, x < 128 → Calls Tryd.prog 71 #[.agg #[.int .u64 (lo64 sv0 : Int), .int .u64 (hi64 sv0 : Int)], .int .i64 (x : Int)] A fun e w' => e = .returned (.bool (sv0.testBit x)) ∧ Below A.heap.size A w') := fun x A hx => has_call hs128 hx
          have i1 : (0 : Int) ≤ (j : Int) := by omega
          have i2 : (j : Int) < (m : Int) := by omega
          clear hs128 hsj
          go_upto_region 10 with (fail)
          have t9 := two_new wr (.int .u64 (lo64 sv0 : Int)) (.int .u64 (hi64 sv0 : Int)) 76
          have hB1 := below_alloc (Below.refl _ wr) (Obj.cells #[.int .u64 (lo64 sv0 : Int), .int .u64 (hi64 sv0 : Int)] 76)
          have m1 := hJ.out.1.block (hB1.block bm hJ.out.1.lt)
          have hBW := below_next hJ.out.2 hB1
          obtain ⟨b9, hb9⟩ : ∃ b, b = wr.heap.size := ⟨_, rfl⟩
          have HN9 : Hid (b9 ≠ bm) := by have := hJ.out.1.lt; show _ ≠ _; omega
          rw [← hb9] at t9 ⊢
          generalize wr.alloc (Obj.cells #[.int .u64 (lo64 sv0 : Int), .int .u64 (hi64 sv0 : Int)] 76) = W1 at *
          have HW1 : Hid (Two W1 b9 (.int .u64 (lo64 sv0 : Int)) (.int .u64 (hi64 sv0 : Int)) 76 ∧ Below w.heap.size w W1) := ⟨t9, hBW⟩
          have HM1 : Hid (MapP W1 bm k (Left es (bags.take j))) := m1
          clear t9 hBW m1 hB1 hb9 hJ c0 c1
          go_wp2_with (first | (at_range; refine wpList_range_P rfl _ rfl rfl HM1.out ?_; intro w2 left0 cnt0 hR0 hL0 hg0 hs0) | go_in)
          go_frame
          have HR0 : Hid (RanP w2 bm W1.heap.size k (Mid es (bags.take j) sv0 left0) left0 cnt0 ∧ Below w.heap.size w w2 ∧ Two w2 b9 (.int .u64 (lo64 sv0 : Int)) (.int .u64 (hi64 sv0 : Int)) 76) := ⟨hR0.congr (mid_start hL0), (Turns.of_grown hg0).below HW1.out.2 HW1.out.2.size (fun z hz => by cases hz), (hg0.block b9 (lt_of_block HW1.out.1) (by simp)).trans HW1.out.1⟩
          have HR9 : Hid (b9 ≠ W1.heap.size ∧ w.heap.size ≤ W1.heap.size ∧ bm ≠ W1.heap.size) := ⟨by have := lt_of_block HW1.out.1; omega, HW1.out.2.size, by have := HM1.out.lt; omega⟩
          clear hR0 hL0 hg0 hs0 HM1
          generalize W1.heap.size = r at *
          go_loopw [10] (fun _ wz => ∃ left cnt, Hid (RanP wz bm r k (Mid es (bags.take j) sv0 left) left cnt ∧ Below w.heap.size w wz ∧ Two wz b9 (.int .u64 (lo64 sv0 : Int)) (.int .u64 (hi64 sv0 : Int)) 76)) (fun _ wz => wz.rangeLeft bm r)
          case atStart => exact ⟨left0, cnt0, HR0⟩
          case round =>
            clear HR0
            obtain ⟨left, cnt, hI⟩ := hrel
            have hT : ∀ l, Mid es (bags.take j) sv0 left l → ∃ u v, I64 u ∧ I64 v ∧ l = kl u v := fun l ⟨e, he, h1, _⟩ => by
              obtain ⟨_, _, _, _, hii, _⟩ := HE.out.1
              exact ⟨e.1, e.2, (hii e he).1, (hii e he).2, h1⟩
            have HT : Hid _ := hT
            clear hT
            go_wp2_with (first | (at_next; refine wpList_next_P rfl _ rfl HT.out rfl hI.out.1 ?_ ?_) | go_in)
            · intro hl0
              have HD : Hid (MapP wr bm k (Left es (bags.take (j + 1))) ∧ Below w.heap.size w wr) := ⟨hI.out.1.map.congr (mid_end HSJ.out hl0), hI.out.2.1⟩
              clear hI hl0
              go_wp2
              go_roundw
              case rel => exact ⟨j + 1, by omega, by go_num, HD⟩
              case measure => simp [numOf]; omega
            · intro x y w3 cnt3 hx hy hTx hR3 hlt3 hg3 hs3 hen
              obtain ⟨_, _, _, _, hii, _⟩ := HE.out.1
              obtain ⟨e, he, hke, _⟩ := hTx
              have exy := mid_is hii hx hy he hke
              subst exy
              have hbd := HE.out.2.2.2 _ he
              obtain ⟨xn, hxn⟩ := Int.eq_ofNat_of_zero_le hbd.1
              obtain ⟨yn, hyn⟩ := Int.eq_ofNat_of_zero_le hbd.2.2.1
              simp only at hxn hyn hbd
              subst hxn; subst hyn
              have hxl : xn < 128 := by omega
              have hyl : yn < 128 := by omega
              have HIN : Hid (inBag sv0 ((xn : Int), (yn : Int)) = (sv0.testBit xn && sv0.testBit yn)) := rfl
              have HII : Hid (I64 (xn : Int) ∧ I64 (yn : Int) ∧ ∀ e ∈ es, I64 e.1 ∧ I64 e.2) := ⟨hx, hy, hii⟩
              have h39 : Two w3 b9 (.int .u64 (lo64 sv0 : Int)) (.int .u64 (hi64 sv0 : Int)) 76 := (hg3.block b9 (lt_of_block hI.out.2.2) (fun e => by cases e; exact HR9.out.1 rfl)).trans hI.out.2.2
              have hB3 : Below w.heap.size w w3 := (grown_turns hg3).below hI.out.2.1 hI.out.2.1.size (fun z hz => by subst hz; exact HR9.out.2.1)
              have HLE : Hid (wr.rangeLeft bm r = cnt) := hI.out.1.left_eq
              clear hii hx hy hke he hbd hI hg3 hs3
              go_upto_region 13 with (fail)
              have t10 := two_new w3 (.int .i64 (xn : Int)) (.int .i64 (yn : Int)) 64
              have hB4 := below_alloc (Below.refl _ w3) (Obj.cells #[.int .i64 (xn : Int), .int .i64 (yn : Int)] 64)
              obtain ⟨b10, hb10⟩ : ∃ b, b = w3.heap.size := ⟨_, rfl⟩
              have HP : Hid (∀ A, Below w3.heap.size w3 A → RanP A bm r k (Mid es (bags.take j) sv0 left) (fun z => left z && !z.sameKey (kl (xn : Int) (yn : Int))) cnt3 ∧ Below w.heap.size w A ∧ Two A b9 (.int .u64 (lo64 sv0 : Int)) (.int .u64 (hi64 sv0 : Int)) 76) := fun A hA => ⟨hR3.kept (row := none) ⟨hA.os, hA.tape, hA.output, hA.size, fun k hk _ => hA.block k hk⟩ (by simp) (by simp), below_next hB3 hA, two_next h39 hA⟩
              rw [← hb10] at t10 ⊢
              have HT10 : Hid (∀ A, Below (w3.alloc (Obj.cells #[.int .i64 (xn : Int), .int .i64 (yn : Int)] 64)).heap.size (w3.alloc (Obj.cells #[.int .i64 (xn : Int), .int .i64 (yn : Int)] 64)) A → Below w3.heap.size w3 A ∧ Two A b10 (.int .i64 (xn : Int)) (.int .i64 (yn : Int)) 64) := fun A hA => ⟨below_next hB4 hA, two_next t10 hA⟩
              have z9 := two_next h39 hB4
              clear hB4 hb10 hR3 h39 hB3
              generalize w3.alloc (Obj.cells #[.int .i64 (xn : Int), .int .i64 (yn : Int)] 64) = W4 at *
              obtain ⟨q0, q1⟩ := cell_two z9
              obtain ⟨p0, p1⟩ := cell_two t10
              have C1 : Hid _ := C71.out xn W4 hxl
              clear z9 t10 hen
              obtain ⟨bx, hbx⟩ : ∃ bx, bx = sv0.testBit xn := ⟨_, rfl⟩
              rw [← hbx] at HIN C1
              have C2 : Hid (∀ A, Calls Tryd.prog 71 #[.agg #[.int .u64 (lo64 sv0 : Int), .int .u64 (hi64 sv0 : Int)], .int .i64 (yn : Int)] A fun e w' => e = .returned (.bool (sv0.testBit yn)) ∧ Below A.heap.size A w') := fun A => C71.out yn A hyl
              have HQ : Hid (cnt3 < cnt) := hlt3
              obtain ⟨by_, hby⟩ : ∃ bx, bx = sv0.testBit yn := ⟨_, rfl⟩
              rw [← hby] at HIN C2
              have HC1 : Hid (∀ A, Below W4.heap.size W4 A → A.cell? ⟨b9, 0, none⟩ = some (.int .u64 (lo64 sv0 : Int)) ∧ A.cell? ⟨b9, 1, none⟩ = some (.int .u64 (hi64 sv0 : Int)) ∧ A.cell? ⟨b10, 0, none⟩ = some (.int .i64 (xn : Int)) ∧ A.cell? ⟨b10, 1, none⟩ = some (.int .i64 (yn : Int))) := fun A hA => ⟨(cell_two (HP.out _ (HT10.out _ hA).1).2.2).1, (cell_two (HP.out _ (HT10.out _ hA).1).2.2).2, (cell_two (HT10.out _ hA).2).1, (cell_two (HT10.out _ hA).2).2⟩
              clear hbx hby hlt3 hxl hyl
              cases bx with
              | false =>
                have HB : Hid (inBag sv0 ((xn : Int), (yn : Int)) = false) := HIN.out.trans (by simp)
                clear HIN C71 C2
                go_upto_region 14 with (first | (go_at_call 71; refine Calls.mono C1.out ?_; rintro e w5 ⟨rfl, h5⟩) | fail)
                have h6 := HP.out _ (HT10.out _ h5).1
                have HN : Hid (RanP w5 bm r k (Mid es (bags.take j) sv0 (fun z => left z && !z.sameKey (kl (xn : Int) (yn : Int)))) (fun z => left z && !z.sameKey (kl (xn : Int) (yn : Int))) cnt3 ∧ Below w.heap.size w w5 ∧ Two w5 b9 (.int .u64 (lo64 sv0 : Int)) (.int .u64 (hi64 sv0 : Int)) 76) := ⟨h6.1.congr (mid_stays HII.out.2.2 HII.out.1 HII.out.2.1 HB.out), h6.2⟩
                exact ⟨⟨_, cnt3, HN⟩, by rw [HN.out.1.left_eq, HLE.out]; exact HQ.out⟩
              | true =>
                cases by_ with
                | false =>
                  have HB : Hid (inBag sv0 ((xn : Int), (yn : Int)) = false) := HIN.out.trans (by simp)
                  clear HIN C71
                  go_upto_region 14 with (first | (go_at_call 71; first | (refine Calls.mono C1.out ?_; rintro e w5 ⟨rfl, h5⟩; obtain ⟨y0, y1, y2, y3⟩ := HC1.out _ h5; clear C1) | (refine Calls.mono (C2.out _) ?_; rintro e w6 ⟨rfl, h6⟩)) | fail)
                  have h7 := HP.out _ (HT10.out _ (below_next h5 h6)).1
                  have HN : Hid (RanP w6 bm r k (Mid es (bags.take j) sv0 (fun z => left z && !z.sameKey (kl (xn : Int) (yn : Int)))) (fun z => left z && !z.sameKey (kl (xn : Int) (yn : Int))) cnt3 ∧ Below w.heap.size w w6 ∧ Two w6 b9 (.int .u64 (lo64 sv0 : Int)) (.int .u64 (hi64 sv0 : Int)) 76) := ⟨h7.1.congr (mid_stays HII.out.2.2 HII.out.1 HII.out.2.1 HB.out), h7.2⟩
                  exact ⟨⟨_, cnt3, HN⟩, by rw [HN.out.1.left_eq, HLE.out]; exact HQ.out⟩
                | true =>
                  have HB : Hid (inBag sv0 ((xn : Int), (yn : Int)) = true) := HIN.out.trans (by simp)
                  clear HIN C71
                  go_upto_region 14 with (first | (go_at_call 71; first | (refine Calls.mono C1.out ?_; rintro e w5 ⟨rfl, h5⟩; obtain ⟨y0, y1, y2, y3⟩ := HC1.out _ h5; clear C1) | (refine Calls.mono (C2.out _) ?_; rintro e w6 ⟨rfl, h6⟩; obtain ⟨v0, v1, v2, v3⟩ := HC1.out _ (below_next h5 h6))) | fail)
                  have h7 := HP.out _ (HT10.out _ (below_next h5 h6)).1
                  have HM7 : Hid _ := h7
                  clear h7 y0 y1 y2 y3 p0 p1 q0 q1 v0 v1 C2
                  go_wp2_with (first | (at_delete; refine wpList_delete_P rfl _ _ rfl rfl HM7.out.1 rfl HII.out.1 HII.out.2.1 ?_; intro w8 cnt8 hR8 hle8 hg8; go_frame) | go_in)
                  rw [strike_twice] at hR8
                  have HN : Hid (RanP w8 bm r k (Mid es (bags.take j) sv0 (fun z => left z && !z.sameKey (kl (xn : Int) (yn : Int)))) (fun z => left z && !z.sameKey (kl (xn : Int) (yn : Int))) cnt8 ∧ Below w.heap.size w w8 ∧ Two w8 b9 (.int .u64 (lo64 sv0 : Int)) (.int .u64 (hi64 sv0 : Int)) 76) := ⟨hR8.congr (mid_struck HII.out.2.2 HII.out.1 HII.out.2.1 HB.out), (grown_turns hg8).below HM7.out.2.1 HM7.out.2.1.size (fun z hz => by subst hz; exact HBM.out), (hg8.block b9 (lt_of_block HM7.out.2.2) (fun e => by cases e; exact HN9.out rfl)).trans HM7.out.2.2⟩
                  clear hR8 hg8
                  go_roundw
                  case rel => exact ⟨_, cnt8, HN⟩
                  case measure => rw [HN.out.1.left_eq, HLE.out]; have := HQ.out; omega
        · obtain rfl : j = m := by omega
          obtain ⟨n, hrun, hn⟩ := hJ.out.1.size (holdB es bags) (by
            rw [← HE.out.2.2.1, List.take_length]
            unfold holdB Left
            rw [List.all_eq_true]
            constructor
            · rintro h l ⟨e, he, _, h2⟩
              rw [h e he] at h2
              cases h2
            · intro h e he
              cases hq : bags.any fun s => inBag s e with
              | true => rfl
              | false => exact absurd ⟨e, he, rfl, hq⟩ (h (kl e.1 e.2))) 3
          have HN : Hid (((n : Int) == 0) = holdB es bags) := hn
          clear hn
          go_wp2
          go_ret
          exact ⟨by rw [← HN.out]; rfl, hJ.out.2⟩
end Go.Proofs.YtdalconphfgepaaDoor
