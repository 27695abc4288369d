/- maps.Keys of a set of edges, as a range over a function goes through it. A range over maps.Keys whose rounds all go on. slices.Collect of maps.Keys of a set of edges. -/
import Derived.RangeFuncNested
import Derived.RangeFuncBound
import Derived.RangeFuncCalls
import Derived.RangeFuncLeaves
import Derived.Shelf.Abstract
import Derived.Shelf.RegionOpen
import Derived.Sort.MapsRangeIn
import Derived.WalkKit
import Derived.OwnWalkIn
import Derived.TacticsInMore
import Derived.RegionIn
import Derived.LoopNIn
import Derived.LoopIn
import Derived.Test.YtfdlndljpmamgaaNewW
import Derived.Maps.OwnIn
namespace Go.Proofs.Ytfdlndljpmamgaa
set_option maxRecDepth 8000
open Go.RowKit Go.Maps Go.Shelf
attribute [local go_sem] Oper.semAt_some
section
variable {F : Fence} {nF : Nat} {w : World} {ops : Array Oper} {rest : List Oper} {o : Oper} {a : Act} {Q : Exit → Act → World → Prop}
theorem wpListIn_range_P (hg : o.guard = none) (m : Operand) (hop : o.op = Op.range 62 m) {b n : Nat} {T : Lit → Prop} (hm : a.eval m = .map (some b)) (h : MapP w b n T)
    (hK : ∀ w' left cnt, RanP w' b w.heap.size n T left cnt → (∀ l, T l → left l = true) → w.grownBy w' none → w'.heap.size = w.heap.size + 1 → wpListIn F nF Try.prog ops Q rest (a.put o.dst (.pointer (some ⟨w.heap.size, 0, none⟩))) w') :
    wpListIn F nF Try.prog ops Q (o :: rest) a w := by
  obtain ⟨D, h1, h2⟩ := h
  exact wpListIn_range_own w hg m 62 hop 59 64 Try.law59 Try.underlying62 unitElem b n D hm h1 fun w' r1 r2 r3 => hK w' _ _ ⟨D, r1, h2⟩ (fun l hl => (h2 l).2 hl) r2 r3
theorem wpListIn_next_P (hg : o.guard = none) (it : Operand) (hop : o.op = Op.next it false) {b r n cnt : Nat} {T : Lit → Prop} {left : Lit → Bool} (hT : ∀ l, T l → ∃ u v, I64 u ∧ I64 v ∧ l = kl u v) (hit : a.eval it = .pointer (some ⟨r, 0, none⟩)) (h : RanP w b r n T left cnt)
    (hDone : (∀ l, left l = false) → wpListIn F nF Try.prog ops Q rest (a.put o.dst (.tuple #[.bool false])) w)
    (hMore : ∀ (u v : Int) (w' : World) (cnt' : Nat), I64 u → I64 v → T (kl u v) → left (kl u v) = true → RanP w' b r n T (fun z => left z && !z.sameKey (kl u v)) cnt' → cnt' < cnt → w.grownBy w' (some r) → w'.heap.size = w.heap.size →
      (Instr.entry (.pointer (some ⟨r, 0, none⟩))).run Try.prog w' = .ok (.tuple #[.agg #[.int .i64 u, .int .i64 v], .agg #[]]) w' → wpListIn F nF Try.prog ops Q rest (a.put o.dst (.tuple #[.bool true, .agg #[.int .i64 u, .int .i64 v], .agg #[]])) w') :
    wpListIn F nF Try.prog ops Q (o :: rest) a w := by
  obtain ⟨D, h1, h2⟩ := h
  refine wpListIn_next_ranges (α := Value) (β := Unit) w hg it hop 59 Try.law59 unitElem id (fun _ => .agg #[]) (fun key _ _ => ⟨key, rfl⟩) (fun v y hv => ⟨(), (unitElem_inv hv).1⟩) b r n D left cnt hit h1 (fun _ hl => hDone hl) ?_
  intro x c l y w' cnt' hkey hlk hv hat hrg hlt hgr hsz hen
  have hh := (h2 l).1 (has_true_of_atKey hat)
  obtain ⟨u, v, hu, hv', rfl⟩ := hT l hh
  have hx : id x = .agg #[.int .i64 u, .int .i64 v] := Try.law59.inj hkey (key_mk hu hv')
  simp only [id] at hx
  subst hx
  exact hMore u v w' cnt' hu hv' hh hlk ⟨D, hrg, h2⟩ hlt hgr hsz hen
end
theorem RanP.blocks {w w' : World} {b r n cnt : Nat} {T : Lit → Prop} {left : Lit → Bool} (h : RanP w b r n T left cnt) (h1 : w'.heap[b]? = w.heap[b]?) (h2 : w'.heap[r]? = w.heap[r]?) : RanP w' b r n T left cnt := by
  obtain ⟨D, h3, h4⟩ := h
  refine ⟨D, ?_, h4⟩
  obtain ⟨es, clock, since, seen, c0, hb, F, hs, hD, hr, rest⟩ := h3
  exact ⟨es, clock, since, seen, c0, h1.trans hb, F, hs, hD, h2.trans hr, rest⟩
/-- What was met of the edges, in some order. -/
structure Coll (E : Ed) (left : Lit → Bool) (ss : List Pair) : Prop where
  nodup : ss.Nodup
  mem : ∀ p, p ∈ ss ↔ ∃ u v : Nat, p = ((u : Int), (v : Int)) ∧ E u v = true ∧ left (kl (u : Int) (v : Int)) = false
theorem coll_start {E : Ed} {left : Lit → Bool} {N : Nat} (hE : EdOk N E) (hN : N ≤ 1000) (h : ∀ l, inE E l → left l = true) : Coll E left [] := by
  refine ⟨List.nodup_nil, fun p => ⟨fun h => (by cases h), ?_⟩⟩
  rintro ⟨u, v, _, h1, h2⟩
  have := hE u v h1
  rw [h _ ((inE_iff (by omega) (by omega)).2 h1)] at h2
  cases h2
theorem Coll.step {E : Ed} {left : Lit → Bool} {N : Nat} {ss : List Pair} (h : Coll E left ss) (hE : EdOk N E) (hN : N ≤ 1000) {u v : Nat} (huv : E u v = true) (hl : left (kl (u : Int) (v : Int)) = true) : Coll E (fun z => left z && !z.sameKey (kl (u : Int) (v : Int))) (ss ++ [((u : Int), (v : Int))]) := by
  have h0 := hE u v huv
  have hk : (kl (u : Int) (v : Int)).sameKey (kl (u : Int) (v : Int)) = true := WideAt.sameKey_self (Try.law59.key (key_mk (natI (by omega)) (natI (by omega))))
  constructor
  · rw [List.nodup_append]
    refine ⟨h.nodup, by simp, ?_⟩
    rintro a ha b hb
    rw [List.mem_singleton] at hb
    subst hb
    rintro rfl
    obtain ⟨u', v', he, _, h2⟩ := (h.mem _).1 ha
    simp only [Prod.mk.injEq] at he
    have e1 : u' = u := by omega
    have e2 : v' = v := by omega
    subst e1; subst e2
    rw [hl] at h2; cases h2
  · intro p
    rw [List.mem_append, List.mem_singleton, h.mem p]
    constructor
    · rintro (⟨a, b, rfl, h1, h2⟩ | rfl)
      · exact ⟨a, b, rfl, h1, by simp [h2]⟩
      · exact ⟨u, v, rfl, huv, by simp [hk]⟩
    · rintro ⟨a, b, rfl, h1, h2⟩
      by_cases e : a = u ∧ b = v
      · exact Or.inr (by rw [e.1, e.2])
      · have h3 := hE a b h1
        have hne : kl (a : Int) (b : Int) ≠ kl (u : Int) (v : Int) := fun h => e (kl_inj (by omega) (by omega) (by omega) (by omega) h)
        rw [sameKey_ne hne] at h2
        exact Or.inl ⟨a, b, rfl, h1, by simpa using h2⟩
theorem Coll.len {E : Ed} {left : Lit → Bool} {N : Nat} {ss : List Pair} (h : Coll E left ss) (hE : EdOk N E) (hN : N ≤ 100) : ss.length ≤ 10000 := by
  have h1 := nodup_len ss (allP N (fun _ _ => true)) h.nodup (fun p hp => by
    obtain ⟨u, v, rfl, h1, _⟩ := (h.mem p).1 hp
    have := hE u v h1
    exact allP_mem.2 ⟨u, v, by omega, by omega, rfl, rfl⟩)
  have h2 := rowsTo_le N (fun _ _ => true) N
  have h3 : N * N ≤ 100 * 100 := Nat.mul_le_mul hN hN
  have h4 : (allP N (fun _ _ => true)).length = (rowsTo N (fun _ _ => true) N).length := rfl
  omega
abbrev pv2 (p : Pair) : Value := .agg #[.int .i64 p.1, .int .i64 p.2]
theorem enter55 (args : Array Value) (w : World) : (callFunc 55 args).run Try.prog w = .ok (.enter 55 args) w := enters_of Try.func55 (by kernel_rfl) rfl args w
set_option maxRecDepth 100000 in
set_option maxHeartbeats 2000000 in
theorem keys_iter {E : Ed} {N em nn Bm : Nat} (hE : EdOk N E) (hN : N ≤ 100) (n l : Nat) (hn : 1 ≤ n) (J : List Pair → World → Prop) (W : World) (hm : W.cell? ⟨Bm, 0, none⟩ = some (.map (some em))) (hM : EdM W em nn E)
    (hJ : ∀ pre A B, J pre A → Turns (fun k => k = W.heap.size) A B → J pre B) (hJm : ∀ pre A, J pre A → A.heap[em]? = W.heap[em]?)
    (hY : ∀ (pre : List Pair) (x : Pair) (A : World), pre.length < 100000 → J pre A → W.heap.size < A.heap.size → YieldAt Fence.wide (n - 1) Try.prog l #[pv2 x] A fun e A' => e = .returned (.bool true) ∧ J (pre ++ [x]) A' ∧ A'.heap[W.heap.size]? = A.heap[W.heap.size]?)
    (h0 : J [] W) : CallsIn Fence.wide n Try.prog 55 #[.func (.yield l) #[] #[], .pointer (some ⟨Bm, 0, none⟩)] W fun e W' => (∃ v, e = .returned v) ∧ ∃ ss, Coll E (fun _ => false) ss ∧ J ss W' := by
  have HJ := hid hJ
  have HJM := hid hJm
  have HY := hid hY
  have HM := hid hM
  have HX : Hid (EdOk N E ∧ N ≤ 100 ∧ em < W.heap.size) := ⟨hE, hN, hM.lt⟩
  clear hJ hJm hY hM hE hN
  refine callsIn_of_wp Try.func55 rfl trivial ?_ rfl
  simp only [Try.ntmps55, List.size_toArray, List.length_cons, List.length_nil, Nat.reduceAdd, Nat.reduceSub, Array.replicate_succ, Array.replicate_zero, List.push_toArray, List.append_toArray, List.nil_append, List.cons_append]
  gi_wp2_with (first
    | (gi_at_range; refine wpListIn_range_P rfl _ rfl rfl HM.out ?_; intro w0 left0 cnt0 hR0 hL0 hg0 hs0)
    | gi_in)
  go_frame
  have hT0 : Turns (fun k => k = W.heap.size) W w0 := (Turns.of_grown hg0).mono fun _ _ e => by cases e
  have HR0 : Hid (RanP w0 em W.heap.size nn (inE E) left0 cnt0 ∧ Coll E left0 [] ∧ J [] w0) := ⟨hR0, coll_start HX.out.1 (by have := HX.out.2.1; omega) hL0, HJ.out _ _ _ h0 hT0⟩
  clear hR0 hL0 hg0 hs0 hT0 h0 hm
  obtain ⟨r, hr⟩ : ∃ r, r = W.heap.size := ⟨_, rfl⟩
  have HRE := hid hr
  rw [← hr] at HR0 HJ HY ⊢
  clear hr
  gi_loopw [6] (fun _ wz => ∃ left cnt ss, Hid (RanP wz em r nn (inE E) left cnt ∧ Coll E left ss ∧ J ss wz)) (fun _ wz => wz.rangeLeft em r)
  case atStart => exact ⟨left0, cnt0, [], HR0⟩
  case round =>
    clear HR0
    obtain ⟨left, cnt, ss, hI⟩ := hrel
    have HTT : Hid (∀ l, inE E l → ∃ u v, I64 u ∧ I64 v ∧ l = kl u v) := fun l ⟨u, v, hu, hv, _, h1⟩ => ⟨(u : Int), (v : Int), natI (by omega), natI (by omega), h1⟩
    gi_wp2_with (first
      | (gi_at_next; refine wpListIn_next_P rfl _ rfl HTT.out rfl hI.out.1 ?_ ?_)
      | gi_in)
    · intro hl0
      have HC : Hid (Coll E (fun _ => false) ss) := ⟨hI.out.2.1.nodup, fun p => by rw [hI.out.2.1.mem p]; simp [hl0]⟩
      clear hl0
      gi_wp2
      go_end0
      exact ⟨⟨_, rfl⟩, ss, HC.out, hI.out.2.2⟩
    · intro x y w3 cnt3 hx hyy hTx hlk hR3 hlt3 hg3 hs3 hen
      obtain ⟨u, v, hu, hv, huv, hke⟩ := hTx
      have huv2 := HX.out.1 u v huv
      obtain ⟨hxu, hyv⟩ := key_inj hx hyy (natI (u := u) (by omega)) (natI (u := v) (by omega)) hke
      subst hxu; subst hyv
      have hT3 : Turns (fun k => k = r) wr w3 := (Turns.of_grown hg3).mono fun _ _ e => by cases e; rfl
      have HLE : Hid (wr.rangeLeft em r = cnt) := hI.out.1.left_eq
      have HLT : Hid (cnt3 < cnt) := hlt3
      have hrl : r < wr.heap.size := hI.out.1.rlt
      have hT4 : Turns (fun k => k = r) w3 (w3.alloc (Obj.cells #[.int .i64 (u : Int), .int .i64 (v : Int)] 59)) := alloc_turns _ _ _
      have hj4 := HJ.out _ _ _ hI.out.2.2 (hT3.trans hT4)
      have R4 : Hid (RanP (w3.alloc (Obj.cells #[.int .i64 (u : Int), .int .i64 (v : Int)] 59)) em r nn (inE E) (fun z => left z && !z.sameKey (kl (u : Int) (v : Int))) cnt3) := hR3.turns (M := fun _ => False) (alloc_turns _ _ _) (fun h => h) (fun h => h)
      have hc4 := hI.out.2.1.step HX.out.1 (by have := HX.out.2.1; omega) huv hlk
      have HC4 := hid hc4
      have hlen := hI.out.2.1.len HX.out.1 HX.out.2.1
      have hsz4 : r < (w3.alloc (Obj.cells #[.int .i64 (u : Int), .int .i64 (v : Int)] 59)).heap.size := by have := (hT3.trans hT4).size; omega
      obtain ⟨fn, tmps, assign, body, hy, hR⟩ := HY.out ss ((u : Int), (v : Int)) _ (by omega) hj4 hsz4
      have HEM : Hid ((w3.alloc (Obj.cells #[.int .i64 (u : Int), .int .i64 (v : Int)] 59)).heap[em]? = W.heap[em]?) := HJM.out _ _ hj4
      have t3 := two_new w3 (.int .i64 (u : Int)) (.int .i64 (v : Int)) 59
      obtain ⟨c0, c1⟩ := cell_two t3
      simp only [pv2] at hy
      clear hx hyy hke hR3 hlt3 hg3 hs3 hT3 hT4 hj4 hc4 hlen hsz4 hrl hI t3 huv huv2 hu hv hlk
      gi_wp2
      refine hR.mono ?_
      rintro e w7 ⟨rfl, hj7, hk7⟩
      have HA : Hid (RanP w7 em r nn (inE E) (fun z => left z && !z.sameKey (kl (u : Int) (v : Int))) cnt3 ∧ Coll E (fun z => left z && !z.sameKey (kl (u : Int) (v : Int))) (ss ++ [((u : Int), (v : Int))]) ∧ J (ss ++ [((u : Int), (v : Int))]) w7) :=
        ⟨R4.out.blocks ((HJM.out _ _ hj7).trans HEM.out.symm) hk7, HC4.out, hj7⟩
      clear hj7 hk7 hR c0 c1 hy hen
      gi_wp2
      go_roundw
      case rel => exact ⟨_, cnt3, _, HA⟩
      case measure => rw [HA.out.1.left_eq, HLE.out]; exact HLT.out
end Go.Proofs.Ytfdlndljpmamgaa

namespace Go.Proofs.Ytfdlndljpmamgaa
set_option maxRecDepth 8000
open Go.RowKit Go.Maps Go.Shelf
attribute [local go_sem] Oper.semAt_some
/-- The three blocks that a range over maps.Keys makes for itself. -/
def Own3 (n : Nat) (k : Nat) : Prop := n ≤ k ∧ k < n + 3
/-- What a round leaves: the three blocks, and what holds behind it. -/
def roundEnd (n : Nat) (W : World) (R : World → Prop) : Exit → Act → World → Prop
  | .normal, _, W' => (∀ k, Own3 n k → W'.heap[k]? = W.heap[k]?) ∧ W.heap.size ≤ W'.heap.size ∧ R W'
  | _, _, _ => False
abbrev cell59 (x : Pair) : Obj := Obj.cells #[.int .i64 x.1, .int .i64 x.2] 59
set_option maxHeartbeats 1000000 in
/-- A range over the edges of a set, whose rounds all go on. -/
theorem range_keys {E : Ed} {N em nn Bm : Nat} {g : Operand} {p : Tmp} {assign body : Code} {Q : Exit → Act → World → Prop} {a : Act} {w : World} {n : Nat} (h1 : 1 ≤ n) (h2 : 1 ≤ n - 1) (hE : EdOk N E) (hN : N ≤ 100) (hg : a.eval g = .func (.func 55) #[] #[.pointer (some ⟨Bm, 0, none⟩)])
    (hm : w.cell? ⟨Bm, 0, none⟩ = some (.map (some em))) (hM : EdM w em nn E)
    (I : List Pair → World → Prop) (hI : ∀ pre A B, w.heap.size ≤ A.heap.size → I pre A → Turns (Own3 w.heap.size) A B → I pre B) (hIm : ∀ pre A, I pre A → A.heap[em]? = w.heap[em]?) (h0 : I [] w) (a₁ : Pair → Nat → Act)
    (hassign : ∀ (l : Nat) (x : Pair) (W : World) (K : Act → World → Prop), K (a₁ x W.heap.size) (W.alloc (cell59 x)) → assign.wpIn (Fence.wide.inRound l) (n - 1 - 1) Try.prog (Exit.then K (fun _ _ _ => False)) { tmps := a.tmps.setIfInBounds p (pv2 x), defers := [] } W)
    (hbody : ∀ (l : Nat) (pre : List Pair) (x : Pair) (b : Nat) (W : World), pre.length < 100000 → w.heap.size + 3 ≤ b → Two W b (.int .i64 x.1) (.int .i64 x.2) 59 → I pre W → body.wpIn (Fence.wide.inRound l) (n - 1 - 1) Try.prog (roundEnd w.heap.size W (I (pre ++ [x]))) (a₁ x b) W)
    (hdone : ∀ (D : Nat) (W : World) (ss : List Pair), D = w.heap.size → Coll E (fun _ => false) ss → I ss W → W.heap[D]? = some (.deferred (some [])) → Q .normal { a with defers := { target := .collected D, args := #[] } :: a.defers } W) :
    (Code.rangeFunc g #[p] assign body).wpIn Fence.wide n Try.prog Q a w := by
  refine wpIn_rangeFunc ?_
  intro fn hfn
  have hBl : Bm < w.heap.size := World.block_lt_of_cell? w _ hm
  have hel := hM.lt
  obtain ⟨lp, hlp⟩ : ∃ lp : LoopState → Loop, lp = fun st => { state := st, pending := none, fn, tmps := a.tmps, params := #[p], assign, body, defers := w.heap.size } := ⟨_, rfl⟩
  obtain ⟨W1, hW1⟩ : ∃ W1, (w.alloc (.deferred (some []))).alloc (.loop (lp .ready)) = W1 := ⟨_, rfl⟩
  have hz1 : W1.heap.size = w.heap.size + 2 := by rw [← hW1]; simp
  have hold : ∀ k, k < w.heap.size → W1.heap[k]? = w.heap[k]? := fun k hk => by
    rw [← hW1]; exact (Below.heap_alloc _ _ k (by simp; omega)).trans (Below.heap_alloc _ _ k hk)
  have hL1 : W1.heap[w.heap.size + 1]? = some (.loop (lp .ready)) := by
    rw [← hW1]
    have := World.alloc_heap_new (w.alloc (.deferred (some []))) (.loop (lp .ready))
    rwa [World.size_alloc] at this
  have hK1 : W1.heap[w.heap.size]? = some (.deferred (some [])) := by
    rw [← hW1]; exact (Below.heap_alloc _ _ _ (by simp)).trans (World.alloc_heap_new w _)
  have hI1 : I [] W1 := by
    rw [← hW1]
    exact hI _ _ _ (by simp) (hI _ _ _ (Nat.le_refl _) h0 (alloc_turns _ _ _)) (alloc_turns _ _ _)
  have putT : ∀ (A : World) (o : Obj), Turns (Own3 w.heap.size) A (A.putObj (w.heap.size + 1) o) := fun A o => by
    have hb := grownBy_putObj' A (w.heap.size + 1) o
    exact ⟨hb.os, hb.tape, hb.output, hb.size, fun k hk hm => hb.block k hk (fun e => hm (by cases e; exact ⟨by omega, by omega⟩))⟩
  have hm1 : W1.cell? ⟨Bm, 0, none⟩ = some (.map (some em)) := by
    rw [← hm]
    unfold World.cell?
    rw [hold Bm hBl]
  have hM1 : EdM W1 em nn E := hM.block (hold em hel)
  refine ⟨w.heap.size + 1, [{ target := .collected w.heap.size, args := #[] }], W1, { target := .fn (.func 55) #[.pointer (some ⟨Bm, 0, none⟩)], args := #[.func (.yield (w.heap.size + 1)) #[] #[]] }, W1, 55,
    #[.func (.yield (w.heap.size + 1)) #[] #[]] ++ #[.pointer (some ⟨Bm, 0, none⟩)], W1, ?_, ?_, ?_, ?_, fun _ => h1, ?_⟩
  · rw [← hW1, hlp]; exact run_enterLoop_outer _ _ _ _ _
  · simp only [resolve, hg]
    simp [go_sem]
  · intro f' hf'; trivial
  · simp [invoke, go_sem]
  · refine (keys_iter (nn := nn) hE hN (n - 1) (w.heap.size + 1) h2
      (fun pre W => I pre W ∧ W.heap[w.heap.size + 1]? = some (.loop (lp .ready)) ∧ W.heap[w.heap.size]? = some (.deferred (some [])) ∧ w.heap.size + 2 ≤ W.heap.size)
      W1 hm1 hM1 ?_ (fun pre A h => (hIm pre A h.1).trans (hold em hel).symm) ?_ ⟨hI1, hL1, hK1, by omega⟩).mono ?_
    · rintro pre A B ⟨k1, k2, k3, k4⟩ ht
      have e1 := ht.block (w.heap.size + 1) (by omega) (by omega)
      have e0 := ht.block w.heap.size (by omega) (by omega)
      exact ⟨hI _ _ _ (by omega) k1 (ht.mono (fun k _ e => ⟨by omega, by omega⟩)), e1.trans k2, e0.trans k3, Nat.le_trans k4 ht.size⟩
    · rintro pre x A hlen ⟨k1, k2, k3, k4⟩ hlt
      have hy := run_yield (P := Try.prog) (args := #[pv2 x]) k2 (by rw [hlp]; rfl)
      rw [hlp] at hy
      refine ⟨fn, _, assign, body, hy, roundIn_of_wpIn hfn ?_⟩
      have hAa : (A.alloc (cell59 x)).heap.size = A.heap.size + 1 := by simp
      have k2a : (A.alloc (cell59 x)).heap[w.heap.size + 1]? = some (.loop (lp .ready)) := (Below.heap_alloc _ _ _ (by omega)).trans k2
      have k3a : (A.alloc (cell59 x)).heap[w.heap.size]? = some (.deferred (some [])) := (Below.heap_alloc _ _ _ (by omega)).trans k3
      have k1a : I pre (A.alloc (cell59 x)) := hI _ _ _ (by omega) k1 (alloc_turns _ _ _)
      have t59 : Two (A.alloc (cell59 x)) A.heap.size (.int .i64 x.1) (.int .i64 x.2) 59 := two_new A _ _ 59
      have hl2 : ∀ o, ((A.alloc (cell59 x)).putObj (w.heap.size + 1) o).heap[w.heap.size + 1]? = some o := fun o => World.putObj_heap_same (by omega)
      have hne : ∀ (B : World) (o : Obj) k, k ≠ w.heap.size + 1 → (B.putObj (w.heap.size + 1) o).heap[k]? = B.heap[k]? := fun B o k hk => World.putObj_heap_other hk
      have hz : ∀ (T : Array Value) (u : Value), Array.foldl (fun tmps (x : Tmp × Value) => match x with | (t, a) => tmps.setIfInBounds t a) T ((#[p] : Array Tmp).zip #[u]) = T.setIfInBounds p u := fun T u => by rw [List.zip_toArray]; simp
      have hsA : ∀ (B : World) (o : Obj), B.heap.size ≤ (B.putObj (w.heap.size + 1) o).heap.size := fun B o => (grownBy_putObj' B (w.heap.size + 1) o).size
      simp only [hz]
      refine hassign _ x A _ ?_
      refine ⟨_, run_beginRound k2a (by rw [hlp]), ?_⟩
      refine wpIn_mono (hbody _ pre x A.heap.size _ hlen (by omega) ((hne _ _ _ (by omega)).trans t59) (hI _ _ _ (by omega) k1a (putT _ _))) ?_
      rintro e a3 W3 hp
      cases e with
      | normal =>
        obtain ⟨q1, q2, q3⟩ := hp
        have hl3 : W3.heap[w.heap.size + 1]? = some (.loop { lp .ready with state := .busy }) := (q1 _ ⟨by omega, by omega⟩).trans (hl2 _)
        have hk3 : W3.heap[w.heap.size]? = some (.deferred (some [])) := (q1 _ ⟨by omega, by omega⟩).trans ((hne _ _ _ (by omega)).trans k3a)
        have hsz3 : w.heap.size + 2 ≤ W3.heap.size := Nat.le_trans (Nat.le_trans (by omega) (hsA (A.alloc (cell59 x)) _)) q2
        have hend := run_endRound (P := Try.prog) none hl3
        rw [hlp] at hend
        refine ⟨_, _, hend, rfl, ⟨hI _ _ _ (by omega) q3 (putT _ _), ?_, ?_, ?_⟩, ?_⟩
        · rw [hlp]
          exact World.putObj_heap_same (by omega)
        · exact (hne _ _ _ (by omega)).trans hk3
        · have := (grownBy_putObj' W3 (w.heap.size + 1) (.loop (lp .ready))).size
          rw [hlp] at this
          exact Nat.le_trans hsz3 this
        · rw [hz1]
          refine (hne _ _ _ (by omega)).trans ((q1 _ ⟨by omega, by omega⟩).trans ((hne _ _ _ (by omega)).trans (Below.heap_alloc _ _ _ (by omega))))
      | ret => exact hp.elim
      | exit id => exact hp.elim
      | goto t => exact hp.elim
      | panic ch => exact hp.elim
      | outgrown => exact hp.elim
    · rintro e W2 ⟨⟨v, rfl⟩, ss, hcoll, hi, hl, hk, hz⟩
      refine ⟨none, _, by have := run_endLoop (P := Try.prog) hl (by rw [hlp]; simp); rw [hlp] at this; exact this, hdone _ _ ss rfl hcoll (hI _ _ _ (by omega) hi (putT _ _)) ((World.putObj_heap_other (by omega)).trans hk)⟩
end Go.Proofs.Ytfdlndljpmamgaa

namespace Go.Proofs.Ytfdlndljpmamgaa
set_option maxRecDepth 8000
open Go.RowKit Go.Maps Go.Shelf
attribute [local go_sem] Oper.semAt_some
structure CI (w w0 : World) (em : Nat) (pre : List Pair) (W : World) : Prop where
  box : ∃ v, One W w.heap.size v 40 ∧ W.ownsRow w.heap.size 59 2 v pre.length (flat pre) ∧ ∀ g, v.ownBlock = some g → ¬ Own3 w0.heap.size g
  below : Below w.heap.size w W
theorem own_some {w : World} {base : Nat} {t : TypeId} {sz : Nat} {v : Value} {n : Nat} {xs : List Value} (h : w.ownsRow base t sz v (n + 1) xs) : ∃ g c, v = .slice (some ⟨g, 0, none⟩) (n + 1) c := by
  rcases h.2 with ⟨_, h0⟩ | ⟨g, cap, cur, rfl, _⟩
  · omega
  · exact ⟨g, cap, rfl⟩
set_option maxRecDepth 100000 in
set_option maxHeartbeats 4000000 in
theorem appendSeq_call {E : Ed} {N em nn Bm : Nat} {w : World} (hE : EdOk N E) (hN : N ≤ 100) (hm : w.cell? ⟨Bm, 0, none⟩ = some (.map (some em))) (hM : EdM w em nn E) :
    Calls Try.prog 60 #[.slice none 0 0, .func (.func 55) #[] #[ptr Bm]] w fun e w' => ∃ v ss, e = .returned v ∧ Coll E (fun _ => false) ss ∧ w'.ownsRow w.heap.size 59 2 v ss.length (flat ss) ∧ Below w.heap.size w w' := by
  refine (callsIn_wide (n := 8)).1 (callsIn_of_wp_marks Try.func60 rfl trivial ?_ rfl)
  simp only [Try.ntmps60, List.size_toArray, List.length_cons, List.length_nil, Nat.reduceAdd, Nat.reduceSub, Array.replicate_succ, Array.replicate_zero, List.push_toArray, List.append_toArray, List.nil_append, List.cons_append]
  gi_wp2
  have hBl : Bm < w.heap.size := World.block_lt_of_cell? w _ hm
  have hel := hM.lt
  have hb0 := below_alloc (Below.refl _ w) (Obj.cells #[.slice none 0 0] 40)
  have hone := one_new w (.slice none 0 0) 40
  have hsz : (w.alloc (Obj.cells #[.slice none 0 0] 40)).heap.size = w.heap.size + 1 := by simp
  obtain ⟨w0, hw0⟩ : ∃ w0, w0 = w.alloc (Obj.cells #[.slice none 0 0] 40) := ⟨_, rfl⟩
  rw [← hw0] at hb0 hone hsz ⊢
  clear hw0
  refine range_keys (E := E) (N := N) (em := em) (nn := nn) (Bm := Bm) (by decide) (by decide) hE hN rfl ((hb0.cell (by exact hBl)).trans hm) (hM.block (hb0.block _ hel)) (CI w w0 em) ?_ ?_ ?_
    (fun x b => { tmps := #[.slice none 0 0, .func (.func 55) #[] #[ptr Bm], ptr w.heap.size, undef, .slice none 0 0, ptr b, .func (.func 55) #[] #[ptr Bm], pv2 x, undef, undef, undef, undef, undef], defers := [] }) ?_ ?_ ?_
  · rintro pre A B hA ⟨⟨v, h1, h2, h3⟩, h4⟩ ht
    refine ⟨⟨v, one_turns h1 ht (fun h => by have := h.1; omega), ownsRow_blocks h2 (fun g hg => ht.block g (h2.lt g hg).2 (h3 g hg)), h3⟩, ?_⟩
    exact Turns.below h4 ht h4.size (fun k hk => by have := hk.1; omega)
  · rintro pre A ⟨_, h4⟩
    exact (h4.block em hel).trans (hb0.block em hel).symm
  · exact ⟨⟨_, hone, World.ownsRow_nil _ _ _ _, fun g hg => by cases hg⟩, hb0⟩
  · intro l x W K hK
    gi_wp2
    exact hK
  · rintro l pre x b W hlen hbb h59 ⟨⟨v, h1, h2, h3⟩, h4⟩
    obtain ⟨i0, hi, hz0, hz1, hz2⟩ := info_parts Try.info59
    have hsz2 := h4.size
    have hbl := lt_of_block h59
    have c0 := box_cell h1 (i := 0) rfl
    have f0 := one_free h1
    obtain ⟨d0, d1⟩ := cell_two h59
    have hvb : ∀ g, v.ownBlock = some g → g ≠ w.heap.size := fun g hg e => by
      obtain ⟨cur, hc⟩ := own_cells h2 hg
      rw [e, h1] at hc; cases hc
    have H2 := hid h2
    have H3 := hid h3
    have HVB := hid hvb
    have H1 := hid h1
    have H4 := hid h4
    have HZ : Hid (pre.length < 100000 ∧ w0.heap.size + 3 ≤ b ∧ w0.heap.size = w.heap.size + 1 ∧ b < W.heap.size) := ⟨hlen, hbb, hsz, hbl⟩
    clear h1 h2 h3 h4 hvb h59 hlen hbb hsz2 hbl
    gi_wp2_with (first
      | (gi_at_builtin; refine wpListIn_append_own_at _ rfl _ _ 40 rfl w.heap.size 59 i0 (.agg #[.int .i64 0, .int .i64 0]) 2 16 Try.underlying40 hi hz0 hz1 hz2 rfl (by decide) _ _ _ rfl (H2.out.alloc _) ⟨W.heap.size, 0, none⟩ 1 1 [.int .i64 x.1, .int .i64 x.2] rfl rfl ?n1 ?n2 ?n3 ?n4 ?n5 ?_; rotate_left 5; intro v' w3 hown' hg3 _ hat; obtain ⟨g', c', rfl⟩ := own_some hown'; have hT3 := grown_turns hg3; have hb3 := one_turns H1.out hT3 (fun e => HVB.out _ e rfl); have e0 := box_cell hb3 (i := 0) rfl; have g0 := one_free hb3)
      | gi_in)
    · have hT4 := setCell_turns w3 w.heap.size 0 (.slice (some ⟨g', 0, none⟩) (pre.length + 1) c')
      have hsz3 := hT3.size
      have hgb : g' ≠ w.heap.size := fun e => by
        obtain ⟨cur, hc⟩ := own_cells hown' (g := g') rfl
        rw [e, hb3] at hc; cases hc
      have hgo : ¬ Own3 w0.heap.size g' := by
        rcases hat with e | e
        · have e : some g' = v.ownBlock := e
          exact H3.out g' e.symm
        · injection e with e
          have e : g' = (W.alloc (cell59 x)).heap.size := e
          have := HZ.out.2.1; have := HZ.out.2.2.2
          simp at e
          intro h
          have := h.2
          omega
      refine ⟨fun k hk => ?_, ?_, ⟨_, box_set hb3 0 _, ?_, ?_⟩, ?_⟩
      · have hk1 := hk.1
        have hk2 := hk.2
        have := HZ.out.2.1; have := HZ.out.2.2.1; have := HZ.out.2.2.2
        rw [hT4.block k (by omega) (by omega)]
        exact hT3.block k (by omega) (fun e => H3.out k e hk)
      · exact Nat.le_trans hsz3 hT4.size
      · rw [List.length_append, List.length_singleton, flat_snoc]
        exact ownsRow_blocks hown' (fun q hq => hT4.block q (hown'.lt q hq).2 (by rw [own_slice hq]; exact hgb))
      · intro q hq
        rw [own_slice hq]
        exact hgo
      · refine Turns.below H4.out ((hT3.mono (M' := fun k => v.ownBlock = some k ∨ k = w.heap.size) fun k _ e => Or.inl e).trans (hT4.mono fun k _ e => Or.inr e)) H4.out.size (fun k hk => ?_)
        rcases hk with hk | hk
        · exact (H2.out.lt k hk).1
        · omega
    case n1 =>
      intro j u hj
      match j, hj with
      | 0, hj => simp at hj; subst hj; exact (cell_two (two_new W _ _ 59)).1
      | 1, hj => simp at hj; subst hj; exact (cell_two (two_new W _ _ 59)).2
    case n2 => intro u hu; simp at hu; rcases hu with rfl | rfl <;> rfl
    case n3 => have := HZ.out.1; unfold maxLen; omega
    case n4 => have := HZ.out.1; omega
    case n5 => have := H4.out.size; simp; omega
  · intro D W ss hD hcoll ⟨⟨v, h1, h2, h3⟩, h4⟩ hK
    have c0 := box_cell h1 (i := 0) rfl
    have H1 := hid h1
    have H2 := hid h2
    have H4 := hid h4
    have HC := hid hcoll
    subst hD
    clear h1 h2 h4 hcoll
    gi_wp2
    refine ⟨by simp, .inl ⟨_, _, rfl, run_takeDeferred hK, ?_⟩⟩
    refine ⟨_, results_tmp rfl _ _ _, v, ss, rfl, HC.out, ?_, ?_⟩
    · exact ownsRow_blocks H2.out (fun g hg => World.putObj_heap_other (fun e => h3 g hg ⟨by omega, by omega⟩))
    · have hb := grownBy_putObj' W w0.heap.size (.deferred none)
      exact Turns.below H4.out (Turns.of_grown hb) H4.out.size (fun k e => by cases e; omega)
theorem enter60 (args : Array Value) (w : World) : (callFunc 60 args).run Try.prog w = .ok (.enter 60 args) w := enters_of Try.func60 (by kernel_rfl) rfl args w
set_option maxHeartbeats 1000000 in
theorem collect_call {E : Ed} {N em nn Bm : Nat} {w : World} (hE : EdOk N E) (hN : N ≤ 100) (hm : w.cell? ⟨Bm, 0, none⟩ = some (.map (some em))) (hM : EdM w em nn E) :
    Calls Try.prog 53 #[.func (.func 55) #[] #[ptr Bm]] w fun e w' => ∃ v ss, e = .returned v ∧ Coll E (fun _ => false) ss ∧ w'.ownsRow w.heap.size 59 2 v ss.length (flat ss) ∧ Below w.heap.size w w' := by
  have HA := hid (appendSeq_call hE hN hm hM)
  clear hm hM hE hN
  go_enter Try.func53, Try.ntmps53
  go_wp2_with (first | (go_at_call 60; refine Calls.mono HA.out ?_; rintro e w2 ⟨v, ss, rfl, h1, h2, h3⟩) | go_in)
  go_ret
  exact ⟨v, ss, rfl, h1, h2, h3⟩
theorem keysF_call (em : Nat) (w : World) : Calls Try.prog 42 #[.map (some em)] w fun e w' => e = .returned (.func (.func 55) #[] #[ptr w.heap.size]) ∧ w' = w.alloc (Obj.cells #[.map (some em)] 62) := by
  have hmf : ∀ (fn : Fn) (first cap : Array Value) (w : World), (Instr.makeFunc fn first cap).run Try.prog w = .ok (.func fn first cap) w := fun _ _ _ _ => rfl
  go_enter Try.func42, Try.ntmps42
  go_wp2
  go_ret
  exact ⟨rfl, rfl⟩
end Go.Proofs.Ytfdlndljpmamgaa
