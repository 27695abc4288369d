/- Maps from pairs of numbers to how often they were told. A range over a map from pairs of numbers to how often they were told. -/
import Derived.Test.YtmeodnkmhakidaaDoorTake
import Derived.Test.YtmeodnkmhakidaaDoorTutMN
import Derived.WideKeyEntry
namespace Go.Proofs.YtmeodnkmhakidaaDoor
set_option maxRecDepth 8000
open Go.RowKit Go.Maps Go.WideElems Go.ChangeMaps
theorem natQ {u : Nat} (h : u < 1000000) : I64 (u : Int) := ⟨by omega, by omega⟩
abbrev kv (k : Nat × Nat) : Value := .agg #[.int .i64 (k.1 : Int), .int .i64 (k.2 : Int)]
def kq (k : Nat × Nat) : Lit := kl (k.1 : Int) (k.2 : Int)
def KOk (k : Nat × Nat) : Prop := k.1 < 1000 ∧ k.2 < 1000
theorem key_kv {k : Nat × Nat} (h : KOk k) : keyOf Tryd.prog 58 (kv k) = some (kq k) := key_mk (natQ (by have := h.1; omega)) (natQ (by have := h.2; omega))
theorem kq_inj {k k' : Nat × Nat} (h : KOk k) (h' : KOk k') (e : kq k = kq k') : k = k' := by
  have := key_inj (natQ (u := k.1) (by have := h.1; omega)) (natQ (u := k.2) (by have := h.2; omega)) (natQ (u := k'.1) (by have := h'.1; omega)) (natQ (u := k'.2) (by have := h'.2; omega)) e
  exact Prod.ext (by omega) (by omega)
abbrev Cts := Nat × Nat → Option Nat
def CntF (D : DataW Unit) (F : Cts) : Prop := (∀ k, KOk k → Maps.has D (kq k) = (F k).isSome ∧ D.atKey (kq k) (.lit (.int .i64 0)) = .lit (.int .i64 (((F k).getD 0 : Nat) : Int))) ∧ (∀ k, F k ≠ none → KOk k) ∧ ∀ l, Maps.has D l = true → ∃ k, F k ≠ none ∧ l = kq k
def CntM (w : World) (b n : Nat) (F : Cts) : Prop := ∃ D : DataW Unit, w.ownsMap Tryd.prog 58 (plainElem Tryd.prog 3) b n D ∧ CntF D F
theorem CntM.block {w w' : World} {b n : Nat} {F : Cts} (h : CntM w b n F) (hb : w'.heap[b]? = w.heap[b]?) : CntM w' b n F := by
  obtain ⟨D, ⟨es, clock, h1, h2⟩, h3⟩ := h
  exact ⟨D, ⟨es, clock, by rw [hb]; exact h1, h2⟩, h3⟩
theorem CntM.lt {w : World} {b n : Nat} {F : Cts} (h : CntM w b n F) : b < w.heap.size := by
  obtain ⟨D, h1, _⟩ := h; exact h1.lt
theorem CntM.under {w w' : World} {b n : Nat} {F : Cts} (h : CntM w b n F) (hb : Below w.heap.size w w') : CntM w' b n F := h.block (hb.block b h.lt)
theorem CntM.turns {w w' : World} {b n : Nat} {F : Cts} {S : Nat → Prop} (h : CntM w b n F) (ht : Turns S w w') (hm : ¬ S b) : CntM w' b n F := h.block (ht.block b h.lt hm)
theorem cntM_made (w : World) : CntM (w.alloc (.map #[] 0)) w.heap.size 0 (fun _ => none) := ⟨.map [], World.ownsMap_made _ _ _ _, fun _ _ => ⟨rfl, rfl⟩, fun _ h => absurd rfl h, fun l h => by simp [Maps.has] at h⟩
theorem CntM.get {w : World} {b n : Nat} {F : Cts} (h : CntM w b n F) {k : Nat × Nat} (hk : KOk k) :
    (Instr.lookup 69 (.map (some b)) (kv k) false).run Tryd.prog w = .ok (.int .i64 (((F k).getD 0 : Nat) : Int)) w := by
  obtain ⟨D, h1, h2⟩ := h
  obtain ⟨c, hrun, hat, _⟩ := h1.lookup_int Tryd.law58 Tryd.underlying69 Tryd.underlying3 (Tryd.zero3 w) (key_kv hk)
  rw [(h2.1 k hk).2] at hat
  simp at hat
  rw [hat]; exact hrun
def updC (F : Cts) (k : Nat × Nat) (c : Nat) : Cts := fun t => if t = k then some c else F t
theorem updC_same (F : Cts) (k : Nat × Nat) (c : Nat) : updC F k c k = some c := if_pos rfl
theorem CntM.store {w : World} {b n : Nat} {F : Cts} (h : CntM w b n F) {k : Nat × Nat} (hk : KOk k) {c : Nat} (hc : c < 1000000) (hn : n < 1000000000) :
    ∃ w', (Instr.mapUpdate 69 (.map (some b)) (kv k) (.int .i64 (c : Int))).run Tryd.prog w = .ok () w' ∧ CntM w' b (n + 1) (updC F k c) ∧ w.mapTurned w' b := by
  obtain ⟨D, h1, h2⟩ := h
  obtain ⟨w', hrun, hown, hturn⟩ := h1.store Tryd.law58 Tryd.underlying69 (by unfold maxLen; omega) (key_kv hk) (plainElem_int Tryd.underlying3 (a := (c : Int)) (natQ (u := c) hc).wf)
  refine ⟨w', hrun, ⟨_, hown, fun t ht => ?_, fun t ht => ?_, fun l hl => ?_⟩, hturn⟩
  · unfold updC
    by_cases e : t = k
    · subst e
      rw [if_pos rfl, has_put_same h1.isMap (Tryd.law58.key (key_kv hk)), atKey_put_same h1.isMap (Tryd.law58.key (key_kv hk))]
      exact ⟨rfl, rfl⟩
    · rw [if_neg e, has_put_other (fun hk' => e (kq_inj ht hk hk')), atKey_put_other (fun hk' => e (kq_inj ht hk hk'))]
      exact h2.1 t ht
  · unfold updC at ht
    by_cases e : t = k
    · rw [e]; exact hk
    · rw [if_neg e] at ht; exact h2.2.1 t ht
  · by_cases e : l = kq k
    · exact ⟨k, by rw [updC_same]; simp, e⟩
    · rw [has_put_other e] at hl
      obtain ⟨t, h3, h4⟩ := h2.2.2 l hl
      refine ⟨t, ?_, h4⟩
      unfold updC
      split
      · simp
      · exact h3
theorem Tryd.klaw38 : Go.WideMaps.KeyLaw Tryd.prog 58 := deep_law_laid Tryd.laidOut (m := Tryd.prog.types.size + 1) (of_decide_eq_true (by kernel_rfl)) (of_decide_eq_true (by kernel_rfl)) (by kernel_rfl) (by kernel_rfl)
/-- The entry of a key is looked up, or made with 0; then something is stored there. -/
theorem CntM.entry {w : World} {b n : Nat} {F : Cts} (h : CntM w b n F) {k : Nat × Nat} (hk : KOk k) (hF : (F k).getD 0 < 900000) (hn : n < 1000000000) :
    ∃ (st : Nat) (es1 : Array MapEntry) (clock1 : Nat), (Instr.mapEntry 69 (.map (some b)) (kv k)).run Tryd.prog w = .ok (.tuple #[.int .i64 (((F k).getD 0 : Nat) : Int), goInt st]) (setBlock w b (.map es1 clock1)) ∧ CntM (setBlock w b (.map es1 clock1)) b (n + 1) (updC F k ((F k).getD 0)) ∧
      ∀ (w2 : World) (c : Nat), c < 1000000 → w2.heap[b]? = some (.map es1 clock1) → ∃ es' clock', (Instr.entryStore 69 (.map (some b)) (goInt st) (.int .i64 (c : Int))).run Tryd.prog w2 = .ok () (setBlock w2 b (.map es' clock')) ∧ CntM (setBlock w b (.map es' clock')) b (n + 1) (updC F k c) := by
  obtain ⟨D, ⟨es, clock, hb, hfit, hsz, hD⟩, hC⟩ := id h
  obtain ⟨v0, st, es1, clock1, h1, h2, h3⟩ := entry_then_store Tryd.klaw38 Tryd.underlying69 (z := .int .i64 0) (fun u => Tryd.zero3 u) hb hfit (key_kv hk)
  have hv : v0 = .int .i64 (((F k).getD 0 : Nat) : Int) ∧ (Instr.mapUpdate 69 (.map (some b)) (kv k) v0).run Tryd.prog w = .ok () (setBlock w b (.map es1 clock1)) := by
    have hg := h.get hk
    rcases Tryd.klaw38.find w (key_kv hk) es.toList hfit.keys with ⟨f1, f2⟩ | ⟨j, e0, f1, f2, f3⟩
    · have e1 : (Instr.mapEntry 69 (.map (some b)) (kv k)).run Tryd.prog w = .ok (.tuple #[.int .i64 0, goInt clock]) (setBlock w b (.map (es.push ⟨kv k, .int .i64 0, clock⟩) (clock + 1))) := by
        simp [Instr.mapEntry, run_underlying Tryd.underlying69, MapKept.run_getObj_map hb, Tryd.klaw38.check w false (key_kv hk), f1, MapKept.run_setObj_map _ hb, Result.andThen, setBlock]
      have e2 : (Instr.mapUpdate 69 (.map (some b)) (kv k) (.int .i64 0)).run Tryd.prog w = .ok () (setBlock w b (.map (es.push ⟨kv k, .int .i64 0, clock⟩) (clock + 1))) := by
        simp [Instr.mapUpdate, run_underlying Tryd.underlying69, MapKept.run_getObj_map hb, Tryd.klaw38.check w false (key_kv hk), f1, MapKept.run_setObj_map _ hb, Result.andThen, setBlock]
      have e3 : (Instr.lookup 69 (.map (some b)) (kv k) false).run Tryd.prog w = .ok (.int .i64 0) w := by
        simp [Instr.lookup, run_underlying Tryd.underlying69, MapKept.run_getObj_map hb, Tryd.klaw38.check w _ (key_kv hk), f1, Result.andThen]
      rw [e3] at hg
      rw [e1] at h1
      simp only [Result.ok.injEq, Value.tuple.injEq, Array.mk.injEq, List.cons.injEq, and_true] at h1 hg
      obtain ⟨⟨rfl, _⟩, h5⟩ := h1
      rw [← h5]
      exact ⟨hg, e2⟩
    · have hj : es[j]? = some e0 := by simpa using f2
      have e1 : (Instr.mapEntry 69 (.map (some b)) (kv k)).run Tryd.prog w = .ok (.tuple #[e0.val, goInt e0.born]) (setBlock w b (.map (es.modify j fun e => { e with key := kv k }) clock)) := by
        simp [Instr.mapEntry, run_underlying Tryd.underlying69, MapKept.run_getObj_map hb, Tryd.klaw38.check w false (key_kv hk), f1, hj, f3, Tryd.klaw38.stays w (key_kv hk), MapKept.run_setObj_map _ hb, Result.andThen, setBlock]
      have e2 : (Instr.mapUpdate 69 (.map (some b)) (kv k) e0.val).run Tryd.prog w = .ok () (setBlock w b (.map (es.modify j fun e => { e with key := kv k, val := e0.val }) clock)) := by
        simp [Instr.mapUpdate, run_underlying Tryd.underlying69, MapKept.run_getObj_map hb, Tryd.klaw38.check w false (key_kv hk), f1, hj, f3, Tryd.klaw38.stays w (key_kv hk), MapKept.run_setObj_map _ hb, Result.andThen, setBlock]
      have e4 : (es.modify j fun e => { e with key := kv k, val := e0.val }) = es.modify j fun e => { e with key := kv k } := by
        refine Array.ext_getElem? fun i => ?_
        rw [Array.getElem?_modify, Array.getElem?_modify]
        by_cases e : j = i
        · subst e
          rw [if_pos rfl, if_pos rfl, hj]
          rfl
        · rw [if_neg e, if_neg e]
      have e3 : (Instr.lookup 69 (.map (some b)) (kv k) false).run Tryd.prog w = .ok e0.val w := by
        simp [Instr.lookup, run_underlying Tryd.underlying69, MapKept.run_getObj_map hb, Tryd.klaw38.check w _ (key_kv hk), f1, Result.andThen]
      rw [e3] at hg
      rw [e1] at h1
      simp only [Result.ok.injEq, Value.tuple.injEq, Array.mk.injEq, List.cons.injEq, and_true] at h1 hg
      obtain ⟨⟨rfl, _⟩, h5⟩ := h1
      rw [← h5, ← e4]
      exact ⟨hg, e2⟩
  obtain ⟨rfl, hu⟩ := hv
  refine ⟨st, es1, clock1, h1, ?_, fun w2 c hc hw2 => ?_⟩
  · obtain ⟨w', hr, hM, _⟩ := h.store hk (c := (F k).getD 0) (by omega) hn
    rw [hu] at hr
    simp only [Result.ok.injEq, true_and] at hr
    rw [hr]
    exact hM
  · obtain ⟨es', clock', hr, hr2⟩ := h3 w2 (.int .i64 (c : Int)) hw2
    refine ⟨es', clock', hr, ?_⟩
    obtain ⟨w', hr3, hM, _⟩ := h.store hk (c := c) hc hn
    rw [hr2] at hr3
    simp only [Result.ok.injEq, true_and] at hr3
    rw [hr3]
    exact hM
end Go.Proofs.YtmeodnkmhakidaaDoor

namespace Go.Proofs.YtmeodnkmhakidaaDoor
set_option maxRecDepth 8000
open Go.RowKit Go.Maps
/-- A range that is under way: V are the pairs that were met. -/
def RanC (w : World) (b r n : Nat) (F : Cts) (V : Nat × Nat → Prop) (cnt : Nat) : Prop := ∃ (D : DataW Unit) (left : Lit → Bool), w.ranges Tryd.prog 58 (plainElem Tryd.prog 3) b r n D left cnt ∧ CntF D F ∧ ∀ k, F k ≠ none → (left (kq k) = false ↔ V k)
theorem RanC.map {w : World} {b r n cnt : Nat} {F : Cts} {V : Nat × Nat → Prop} (h : RanC w b r n F V cnt) : CntM w b n F := by
  obtain ⟨D, left, h1, h2, _⟩ := h
  exact ⟨D, h1.owns, h2⟩
theorem RanC.kept {w w' : World} {b r n cnt : Nat} {F : Cts} {V : Nat × Nat → Prop} {row : Option Nat} (h : RanC w b r n F V cnt) (hg : w.grownBy w' row) (h1 : some b ≠ row) (h2 : some r ≠ row) : RanC w' b r n F V cnt := by
  obtain ⟨D, left, h3, h4⟩ := h
  exact ⟨D, left, h3.kept hg h1 h2, h4⟩
theorem RanC.left_eq {w : World} {b r n cnt : Nat} {F : Cts} {V : Nat × Nat → Prop} (h : RanC w b r n F V cnt) : w.rangeLeft b r = cnt := by
  obtain ⟨D, left, h1, _⟩ := h
  exact h1.left_eq
theorem RanC.congr {w : World} {b r n cnt : Nat} {F : Cts} {V V' : Nat × Nat → Prop} (h : RanC w b r n F V cnt) (e : ∀ k, V k ↔ V' k) : RanC w b r n F V' cnt := by
  obtain ⟨D, left, h1, h2, h3⟩ := h
  exact ⟨D, left, h1, h2, fun k hk => (h3 k hk).trans (e k)⟩
section
variable {w : World} {ops : Array Oper} {rest : List Oper} {o : Oper} {a : Act} {Q : Exit → Act → World → Prop}
theorem wpList_range_C (hg : o.guard = none) (m : Operand) (hop : o.op = Op.range 69 m) {b n : Nat} {F : Cts} (hm : a.eval m = .map (some b)) (h : CntM w b n F)
    (hK : ∀ w' cnt, cnt ≤ n → RanC w' b w.heap.size n F (fun _ => False) cnt → w.grownBy w' none → w'.heap.size = w.heap.size + 1 → wpList Tryd.prog ops Q rest (a.put o.dst (.pointer (some ⟨w.heap.size, 0, none⟩))) w') :
    wpList Tryd.prog ops Q (o :: rest) a w := by
  obtain ⟨D, h1, h2⟩ := h
  exact wpList_range_own w hg m 69 hop 58 3 Tryd.law58 Tryd.underlying69 (plainElem Tryd.prog 3) b n D hm h1 fun w' r1 r2 r3 => hK w' _ h1.size_le ⟨D, _, r1, h2, fun s hs => by
    rw [(h2.1 s (h2.2.1 s hs)).1]
    cases hF : F s with
    | none => exact absurd hF hs
    | some p => simp⟩ r2 r3
theorem wpList_next_C (hg : o.guard = none) (it : Operand) (hop : o.op = Op.next it false) {b r n cnt : Nat} {F : Cts} {V : Nat × Nat → Prop} (hit : a.eval it = .pointer (some ⟨r, 0, none⟩)) (h : RanC w b r n F V cnt)
    (hDone : (∀ s, F s ≠ none → V s) → wpList Tryd.prog ops Q rest (a.put o.dst (.tuple #[.bool false])) w)
    (hMore : ∀ (k : Nat × Nat) (c : Nat) (w' : World) (cnt' : Nat), KOk k → F k = some c → ¬ V k → RanC w' b r n F (fun t => V t ∨ t = k) cnt' → cnt' < cnt → w.grownBy w' (some r) → w'.heap.size = w.heap.size →
      (Instr.entry (.pointer (some ⟨r, 0, none⟩))).run Tryd.prog w' = .ok (.tuple #[kv k, .int .i64 (c : Int)]) w' → wpList Tryd.prog ops Q rest (a.put o.dst (.tuple #[.bool true, kv k, .int .i64 (c : Int)])) w') :
    wpList Tryd.prog ops Q (o :: rest) a w := by
  obtain ⟨D, left, h1, h2, h3⟩ := h
  refine wpList_next_ranges (α := Value) (β := Int) w hg it hop 58 Tryd.law58 (plainElem Tryd.prog 3) id (fun c => .int .i64 c) (fun key _ _ => ⟨key, rfl⟩) (fun v y hv => by
    obtain ⟨c, rfl, _⟩ := plainElem_int_inv Tryd.underlying3 hv
    exact ⟨c, rfl⟩) b r n D left cnt hit h1 (fun _ hl => hDone fun s hs => (h3 s hs).1 (hl _)) ?_
  intro x c l y w' cnt' hkey hlk hv hat hrg hlt hgr hsz hen
  obtain ⟨k, hF, rfl⟩ := h2.2.2 l (has_true_of_atKey hat)
  have hk := h2.2.1 k hF
  have hx : x = kv k := Tryd.law58.inj hkey (key_kv hk)
  subst hx
  obtain ⟨p, hp⟩ : ∃ p, F k = some p := by
    cases e : F k with
    | none => exact absurd e hF
    | some p => exact ⟨p, rfl⟩
  have hd := hat (.lit (.int .i64 0))
  rw [(h2.1 k hk).2, hp, Option.getD_some] at hd
  obtain ⟨c', e1, e2, _⟩ := plainElem_int_inv Tryd.underlying3 hv
  simp only [Value.int.injEq, true_and] at e1
  subst e1
  rw [e2] at hd
  simp only [DataW.lit.injEq, Lit.int.injEq, true_and] at hd
  subst hd
  simp only [id] at hkey hen ⊢
  refine hMore k p w' cnt' hk hp (fun hV => ?_) ⟨D, _, hrg, h2, fun t ht => ?_⟩ hlt hgr hsz hen
  · rw [(h3 k hF).2 hV] at hlk
    cases hlk
  · by_cases e : t = k
    · subst e
      have hk' : (kq t).sameKey (kq t) = true := WideAt.sameKey_self (Tryd.law58.key (key_kv hk))
      simp [hk']
    · have hne : kq t ≠ kq k := fun h => e (kq_inj (h2.2.1 t ht) hk h)
      rw [sameKey_ne hne]
      simp only [Bool.not_false, Bool.and_true]
      rw [h3 t ht]
      simp [e]
end
end Go.Proofs.YtmeodnkmhakidaaDoor
