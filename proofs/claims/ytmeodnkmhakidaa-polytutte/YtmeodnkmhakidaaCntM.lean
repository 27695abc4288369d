/- Maps from pairs of numbers to how often they were told. -/
import Derived.Test.YtmeodnkmhakidaaTake
import Derived.Test.YtmeodnkmhakidaaTutN
import Derived.WideKeyEntry
namespace Go.Proofs.Ytmeodnkmhakidaa
set_option maxRecDepth 8000
open Go.RowKit Go.Maps Go.WideElems Go.ChangeMaps
theorem natQ {u : Nat} (h : u < 1000000) : I64 (u : Int) := ⟨by omega, by omega⟩
abbrev kv (k : Nat × Nat) : Value := .agg #[.int .i64 (k.1 : Int), .int .i64 (k.2 : Int)]
def kq (k : Nat × Nat) : Lit := kl (k.1 : Int) (k.2 : Int)
def KOk (k : Nat × Nat) : Prop := k.1 < 1000 ∧ k.2 < 1000
theorem key_kv {k : Nat × Nat} (h : KOk k) : keyOf Try.prog 38 (kv k) = some (kq k) := key_mk (natQ (by have := h.1; omega)) (natQ (by have := h.2; omega))
theorem kq_inj {k k' : Nat × Nat} (h : KOk k) (h' : KOk k') (e : kq k = kq k') : k = k' := by
  have := key_inj (natQ (u := k.1) (by have := h.1; omega)) (natQ (u := k.2) (by have := h.2; omega)) (natQ (u := k'.1) (by have := h'.1; omega)) (natQ (u := k'.2) (by have := h'.2; omega)) e
  exact Prod.ext (by omega) (by omega)
abbrev Cts := Nat × Nat → Option Nat
def CntF (D : DataW Unit) (F : Cts) : Prop := (∀ k, KOk k → Maps.has D (kq k) = (F k).isSome ∧ D.atKey (kq k) (.lit (.int .i64 0)) = .lit (.int .i64 (((F k).getD 0 : Nat) : Int))) ∧ (∀ k, F k ≠ none → KOk k) ∧ ∀ l, Maps.has D l = true → ∃ k, F k ≠ none ∧ l = kq k
def CntM (w : World) (b n : Nat) (F : Cts) : Prop := ∃ D : DataW Unit, w.ownsMap Try.prog 38 (plainElem Try.prog 3) b n D ∧ CntF D F
theorem CntM.block {w w' : World} {b n : Nat} {F : Cts} (h : CntM w b n F) (hb : w'.heap[b]? = w.heap[b]?) : CntM w' b n F := by
  obtain ⟨D, ⟨es, clock, h1, h2⟩, h3⟩ := h
  exact ⟨D, ⟨es, clock, by rw [hb]; exact h1, h2⟩, h3⟩
theorem CntM.lt {w : World} {b n : Nat} {F : Cts} (h : CntM w b n F) : b < w.heap.size := by
  obtain ⟨D, h1, _⟩ := h; exact h1.lt
theorem CntM.under {w w' : World} {b n : Nat} {F : Cts} (h : CntM w b n F) (hb : Below w.heap.size w w') : CntM w' b n F := h.block (hb.block b h.lt)
theorem CntM.turns {w w' : World} {b n : Nat} {F : Cts} {S : Nat → Prop} (h : CntM w b n F) (ht : Turns S w w') (hm : ¬ S b) : CntM w' b n F := h.block (ht.block b h.lt hm)
theorem cntM_made (w : World) : CntM (w.alloc (.map #[] 0)) w.heap.size 0 (fun _ => none) := ⟨.map [], World.ownsMap_made _ _ _ _, fun _ _ => ⟨rfl, rfl⟩, fun _ h => absurd rfl h, fun l h => by simp [Maps.has] at h⟩
theorem CntM.get {w : World} {b n : Nat} {F : Cts} (h : CntM w b n F) {k : Nat × Nat} (hk : KOk k) :
    (Instr.lookup 42 (.map (some b)) (kv k) false).run Try.prog w = .ok (.int .i64 (((F k).getD 0 : Nat) : Int)) w := by
  obtain ⟨D, h1, h2⟩ := h
  obtain ⟨c, hrun, hat, _⟩ := h1.lookup_int Try.law38 Try.underlying42 Try.underlying3 (Try.zero3 w) (key_kv hk)
  rw [(h2.1 k hk).2] at hat
  simp at hat
  rw [hat]; exact hrun
def updC (F : Cts) (k : Nat × Nat) (c : Nat) : Cts := fun t => if t = k then some c else F t
theorem updC_same (F : Cts) (k : Nat × Nat) (c : Nat) : updC F k c k = some c := if_pos rfl
theorem CntM.store {w : World} {b n : Nat} {F : Cts} (h : CntM w b n F) {k : Nat × Nat} (hk : KOk k) {c : Nat} (hc : c < 1000000) (hn : n < 1000000000) :
    ∃ w', (Instr.mapUpdate 42 (.map (some b)) (kv k) (.int .i64 (c : Int))).run Try.prog w = .ok () w' ∧ CntM w' b (n + 1) (updC F k c) ∧ w.mapTurned w' b := by
  obtain ⟨D, h1, h2⟩ := h
  obtain ⟨w', hrun, hown, hturn⟩ := h1.store Try.law38 Try.underlying42 (by unfold maxLen; omega) (key_kv hk) (plainElem_int Try.underlying3 (a := (c : Int)) (natQ (u := c) hc).wf)
  refine ⟨w', hrun, ⟨_, hown, fun t ht => ?_, fun t ht => ?_, fun l hl => ?_⟩, hturn⟩
  · unfold updC
    by_cases e : t = k
    · subst e
      rw [if_pos rfl, has_put_same h1.isMap (Try.law38.key (key_kv hk)), atKey_put_same h1.isMap (Try.law38.key (key_kv hk))]
      exact ⟨rfl, rfl⟩
    · rw [if_neg e, has_put_other (fun hk' => e (kq_inj ht hk hk')), atKey_put_other (fun hk' => e (kq_inj ht hk hk'))]
      exact h2.1 t ht
  · unfold updC at ht
    by_cases e : t = k
    · rw [e]; exact hk
    · rw [if_neg e] at ht; exact h2.2.1 t ht
  · by_cases e : l = kq k
    · exact ⟨k, by rw [updC_same]; simp, e⟩
    · rw [has_put_other e] at hl
      obtain ⟨t, h3, h4⟩ := h2.2.2 l hl
      refine ⟨t, ?_, h4⟩
      unfold updC
      split
      · simp
      · exact h3
theorem Try.klaw38 : Go.WideMaps.KeyLaw Try.prog 38 := deep_law_laid Try.laidOut (m := Try.prog.types.size + 1) (of_decide_eq_true (by kernel_rfl)) (of_decide_eq_true (by kernel_rfl)) (by kernel_rfl) (by kernel_rfl)
/-- The entry of a key is looked up, or made with 0; then something is stored there. -/
theorem CntM.entry {w : World} {b n : Nat} {F : Cts} (h : CntM w b n F) {k : Nat × Nat} (hk : KOk k) (hF : (F k).getD 0 < 900000) (hn : n < 1000000000) :
    ∃ (st : Nat) (es1 : Array MapEntry) (clock1 : Nat), (Instr.mapEntry 42 (.map (some b)) (kv k)).run Try.prog w = .ok (.tuple #[.int .i64 (((F k).getD 0 : Nat) : Int), goInt st]) (setBlock w b (.map es1 clock1)) ∧ CntM (setBlock w b (.map es1 clock1)) b (n + 1) (updC F k ((F k).getD 0)) ∧
      ∀ (w2 : World) (c : Nat), c < 1000000 → w2.heap[b]? = some (.map es1 clock1) → ∃ es' clock', (Instr.entryStore 42 (.map (some b)) (goInt st) (.int .i64 (c : Int))).run Try.prog w2 = .ok () (setBlock w2 b (.map es' clock')) ∧ CntM (setBlock w b (.map es' clock')) b (n + 1) (updC F k c) := by
  obtain ⟨D, ⟨es, clock, hb, hfit, hsz, hD⟩, hC⟩ := id h
  obtain ⟨v0, st, es1, clock1, h1, h2, h3⟩ := entry_then_store Try.klaw38 Try.underlying42 (z := .int .i64 0) (fun u => Try.zero3 u) hb hfit (key_kv hk)
  have hv : v0 = .int .i64 (((F k).getD 0 : Nat) : Int) ∧ (Instr.mapUpdate 42 (.map (some b)) (kv k) v0).run Try.prog w = .ok () (setBlock w b (.map es1 clock1)) := by
    have hg := h.get hk
    rcases Try.klaw38.find w (key_kv hk) es.toList hfit.keys with ⟨f1, f2⟩ | ⟨j, e0, f1, f2, f3⟩
    · have e1 : (Instr.mapEntry 42 (.map (some b)) (kv k)).run Try.prog w = .ok (.tuple #[.int .i64 0, goInt clock]) (setBlock w b (.map (es.push ⟨kv k, .int .i64 0, clock⟩) (clock + 1))) := by
        simp [Instr.mapEntry, run_underlying Try.underlying42, MapKept.run_getObj_map hb, Try.klaw38.check w false (key_kv hk), f1, MapKept.run_setObj_map _ hb, Result.andThen, setBlock]
      have e2 : (Instr.mapUpdate 42 (.map (some b)) (kv k) (.int .i64 0)).run Try.prog w = .ok () (setBlock w b (.map (es.push ⟨kv k, .int .i64 0, clock⟩) (clock + 1))) := by
        simp [Instr.mapUpdate, run_underlying Try.underlying42, MapKept.run_getObj_map hb, Try.klaw38.check w false (key_kv hk), f1, MapKept.run_setObj_map _ hb, Result.andThen, setBlock]
      have e3 : (Instr.lookup 42 (.map (some b)) (kv k) false).run Try.prog w = .ok (.int .i64 0) w := by
        simp [Instr.lookup, run_underlying Try.underlying42, MapKept.run_getObj_map hb, Try.klaw38.check w _ (key_kv hk), f1, Result.andThen]
      rw [e3] at hg
      rw [e1] at h1
      simp only [Result.ok.injEq, Value.tuple.injEq, Array.mk.injEq, List.cons.injEq, and_true] at h1 hg
      obtain ⟨⟨rfl, _⟩, h5⟩ := h1
      rw [← h5]
      exact ⟨hg, e2⟩
    · have hj : es[j]? = some e0 := by simpa using f2
      have e1 : (Instr.mapEntry 42 (.map (some b)) (kv k)).run Try.prog w = .ok (.tuple #[e0.val, goInt e0.born]) (setBlock w b (.map (es.modify j fun e => { e with key := kv k }) clock)) := by
        simp [Instr.mapEntry, run_underlying Try.underlying42, MapKept.run_getObj_map hb, Try.klaw38.check w false (key_kv hk), f1, hj, f3, Try.klaw38.stays w (key_kv hk), MapKept.run_setObj_map _ hb, Result.andThen, setBlock]
      have e2 : (Instr.mapUpdate 42 (.map (some b)) (kv k) e0.val).run Try.prog w = .ok () (setBlock w b (.map (es.modify j fun e => { e with key := kv k, val := e0.val }) clock)) := by
        simp [Instr.mapUpdate, run_underlying Try.underlying42, MapKept.run_getObj_map hb, Try.klaw38.check w false (key_kv hk), f1, hj, f3, Try.klaw38.stays w (key_kv hk), MapKept.run_setObj_map _ hb, Result.andThen, setBlock]
      have e4 : (es.modify j fun e => { e with key := kv k, val := e0.val }) = es.modify j fun e => { e with key := kv k } := by
        refine Array.ext_getElem? fun i => ?_
        rw [Array.getElem?_modify, Array.getElem?_modify]
        by_cases e : j = i
        · subst e
          rw [if_pos rfl, if_pos rfl, hj]
          rfl
        · rw [if_neg e, if_neg e]
      have e3 : (Instr.lookup 42 (.map (some b)) (kv k) false).run Try.prog w = .ok e0.val w := by
        simp [Instr.lookup, run_underlying Try.underlying42, MapKept.run_getObj_map hb, Try.klaw38.check w _ (key_kv hk), f1, Result.andThen]
      rw [e3] at hg
      rw [e1] at h1
      simp only [Result.ok.injEq, Value.tuple.injEq, Array.mk.injEq, List.cons.injEq, and_true] at h1 hg
      obtain ⟨⟨rfl, _⟩, h5⟩ := h1
      rw [← h5, ← e4]
      exact ⟨hg, e2⟩
  obtain ⟨rfl, hu⟩ := hv
  refine ⟨st, es1, clock1, h1, ?_, fun w2 c hc hw2 => ?_⟩
  · obtain ⟨w', hr, hM, _⟩ := h.store hk (c := (F k).getD 0) (by omega) hn
    rw [hu] at hr
    simp only [Result.ok.injEq, true_and] at hr
    rw [hr]
    exact hM
  · obtain ⟨es', clock', hr, hr2⟩ := h3 w2 (.int .i64 (c : Int)) hw2
    refine ⟨es', clock', hr, ?_⟩
    obtain ⟨w', hr3, hM, _⟩ := h.store hk (c := c) hc hn
    rw [hr2] at hr3
    simp only [Result.ok.injEq, true_and] at hr3
    rw [hr3]
    exact hM
end Go.Proofs.Ytmeodnkmhakidaa
