/- rising: a range over the nodes of a set, as they rise. -/
import Derived.RangeFuncNested
import Derived.RangeFuncBound
import Derived.RangeFuncCalls
import Derived.RangeFuncLeaves
import Derived.Shelf.Abstract
import Derived.Shelf.RegionOpen
import Derived.WalkKit
import Derived.OwnWalkIn
import Derived.TacticsInMore
import Derived.LoopNIn
import Derived.LoopIn
import Derived.Test.YtekokjechbibdaaDoorGrowW
namespace Go.Proofs.YtekokjechbibdaaDoor
set_option maxRecDepth 8000
open Go.RowKit Go.Maps Go.Shelf
attribute [local go_sem] Oper.semAt_some
theorem sbox_count {w : World} {b s : Nat} (h : SBox w b s) : boxCount w b = countS s := by
  obtain ⟨h0, h1⟩ := cell_two h
  unfold boxCount numAt
  rw [h0, h1, count_two]
  simp
theorem elems_zero : elems 0 = [] := by decide
set_option maxRecDepth 100000 in
set_option maxHeartbeats 2000000 in
theorem rising_in {s : Nat} (hs : s < 2 ^ 128) (n l : Nat) (hn : 1 ≤ n) (J : List Nat → World → Prop) (W : World)
    (hJ : ∀ pre A B, J pre A → Turns (fun k => k = W.heap.size) A B → J pre B) (hT : ∀ pre A, J pre A → T64 A)
    (hY : ∀ (pre : List Nat) (x : Nat) (post : List Nat) (A : World), elems s = pre ++ x :: post → J pre A → W.heap.size < A.heap.size → YieldAt Fence.wide (n - 1) Tryd.prog l #[.int .i64 (x : Int)] A fun e A' => e = .returned (.bool true) ∧ J (pre ++ [x]) A' ∧ A'.heap[W.heap.size]? = A.heap[W.heap.size]?)
    (h0 : J [] W) : CallsIn Fence.wide n Tryd.prog 47 #[sv s, .func (.yield l) #[] #[]] W fun e W' => (∃ v, e = .returned v) ∧ J (elems s) W' := by
  have HJ : Hid _ := hJ
  have HT : Hid _ := hT
  have HY : Hid _ := hY
  clear hJ hT hY
  obtain ⟨bS, hbS⟩ : ∃ b, b = W.heap.size := ⟨_, rfl⟩
  have hW1 : SBox (W.alloc (Obj.cells #[.int .u64 (lo64 s : Int), .int .u64 (hi64 s : Int)] 76)) bS s := by rw [hbS]; exact heap_alloc_new _ _
  have hJ1 : J [] (W.alloc (Obj.cells #[.int .u64 (lo64 s : Int), .int .u64 (hi64 s : Int)] 76)) := HJ.out _ _ _ h0 (alloc_turns _ _ _)
  refine callsIn_of_wp Tryd.func47 rfl trivial ?_ rfl
  simp only [Tryd.ntmps47, List.size_toArray, List.length_cons, List.length_nil, Nat.reduceAdd, Nat.reduceSub, Array.replicate_succ, Array.replicate_zero, List.push_toArray, List.append_toArray, List.nil_append, List.cons_append]
  gi_wp2
  rw [← hbS] at HJ HY ⊢
  generalize W.alloc (Obj.cells #[.int .u64 (lo64 s : Int), .int .u64 (hi64 s : Int)] 76) = W1 at *
  clear hbS h0
  have F64 : Fence.wide.fn 64 := trivial
  have F65 : Fence.wide.fn 65 := trivial
  have F66 : Fence.wide.fn 66 := trivial
  gi_loopw [] (fun wz => ∃ pre t, SBox wz bS t ∧ t < 2 ^ 128 ∧ elems s = pre ++ elems t ∧ J pre wz) (fun wz => boxCount wz bS)
  case atStart => exact ⟨[], s, hW1, hs, rfl, hJ1⟩
  case round =>
    obtain ⟨pre, t, hb, ht, he, hj⟩ := hrel
    obtain ⟨d0, d1⟩ := cell_two hb
    have hlt : bS < wr.heap.size := lt_of_block hb
    have C64 : Hid (Calls Tryd.prog 64 #[sv t] wr fun e w' => e = .returned (.bool (t == 0)) ∧ Below wr.heap.size wr w') := isEmpty_call ht
    by_cases h0t : t = 0
    · subst h0t
      rw [show ((0 : Nat) == 0) = true from rfl] at C64
      rw [elems_zero, List.append_nil] at he
      have HE : Hid _ := he
      clear he hb ht
      gi_wp2_with (first | (gi_at_call 64; refine (callsIn_wide.2 C64.out).mono ?_; rintro e w4 ⟨rfl, h4⟩; have hj4 := HJ.out _ _ _ hj (Turns.of_below h4 _)))
      go_end0
      exact ⟨⟨_, rfl⟩, by rw [HE.out]; exact hj4⟩
    · rw [show (t == 0) = false by simpa using h0t] at C64
      have hv := first_lt ht h0t
      have hst := elems_step ht h0t
      have C65 : Hid (∀ A, T64 A → Calls Tryd.prog 65 #[sv t] A fun e w' => e = .returned (.int .i64 (firstS t : Int)) ∧ Below A.heap.size A w') := fun A hA => first_call ht h0t hA
      have hcnt : countS t = countS (sDrop t (firstS t)) + 1 := by unfold countS; rw [hst]; simp
      have HC : Hid (boxCount wr bS = countS (sDrop t (firstS t)) + 1) := (sbox_count hb).trans hcnt
      rw [hst] at he
      generalize firstS t = v at *
      have C66 : Hid (∀ A, SBox A bS t → Calls Tryd.prog 66 #[.pointer (some ⟨bS, 0, none⟩), .int .i64 (v : Int)] A fun e w' => e = .returned (.tuple #[]) ∧ SBox w' bS (sDrop t v) ∧ Turns (fun k => k = bS) A w') := fun A hA => drop_sbox ht hv hA
      have HE : Hid (elems s = pre ++ v :: elems (sDrop t v)) := he
      have HB : Hid (SBox wr bS t) := hb
      have HD : Hid (sDrop t v < 2 ^ 128) := less_lt ht
      clear he hb hst hcnt h0t
      gi_wp2_with (first
        | (gi_at_call 64; refine (callsIn_wide.2 C64.out).mono ?_; rintro e w4 ⟨rfl, h4⟩; have hj4 := HJ.out _ _ _ hj (Turns.of_below h4 _); have hb4 : SBox w4 bS t := (h4.block bS hlt).trans HB.out; obtain ⟨e0, e1⟩ := cell_two hb4)
        | (gi_at_call 65; refine (callsIn_wide.2 (C65.out _ (HT.out _ _ hj4))).mono ?_; rintro e w5 ⟨rfl, h5⟩; have hj5 := HJ.out _ _ _ hj4 (Turns.of_below h5 _); have hb5 : SBox w5 bS t := (h5.block bS (lt_of_block hb4)).trans hb4)
        | (gi_at_call 66; refine (callsIn_wide.2 (C66.out _ hb5)).mono ?_; rintro e w6 ⟨rfl, h6, t6⟩; have hj6 := HJ.out _ _ _ hj5 t6; obtain ⟨fn, tmps, assign, body, hy, hR⟩ := HY.out _ _ _ _ HE.out hj6 (lt_of_block h6)))
      refine hR.mono ?_
      rintro e w7 ⟨rfl, hj7, hk7⟩
      have hb7 : SBox w7 bS (sDrop t v) := hk7.trans h6
      have HB7 : Hid _ := hb7
      have HJ7 : Hid _ := hj7
      clear hb7 hj7
      gi_wp2
      go_roundw
      case rel => exact ⟨pre ++ [v], sDrop t v, HB7.out, HD.out, by rw [HE.out]; simp, HJ7.out⟩
      case measure =>
        have h1 := sbox_count HB7.out
        have h2 := HC.out
        omega
theorem enter47 (args : Array Value) (w : World) : (callFunc 47 args).run Tryd.prog w = .ok (.enter 47 args) w := enters_of Tryd.func47 (by kernel_rfl) rfl args w
/-- The three blocks that a range over rising makes for itself. -/
def Own3 (n : Nat) (k : Nat) : Prop := n ≤ k ∧ k < n + 3
/-- What a round leaves: the three blocks, and what holds behind it. -/
def roundEnd (n : Nat) (W : World) (R : World → Prop) : Exit → Act → World → Prop
  | .normal, _, W' => (∀ k, Own3 n k → W'.heap[k]? = W.heap[k]?) ∧ W.heap.size ≤ W'.heap.size ∧ R W'
  | _, _, _ => False
set_option maxHeartbeats 1000000 in
/-- A range over the nodes of a set, whose rounds all go on. -/
theorem range_rising {g : Operand} {p : Tmp} {assign body : Code} {Q : Exit → Act → World → Prop} {a : Act} {w : World} {n s : Nat} (h1 : 1 ≤ n) (h2 : 1 ≤ n - 1) (hs : s < 2 ^ 128) (hg : a.eval g = .func (.func 47) #[sv s] #[])
    (I : List Nat → World → Prop) (hI : ∀ pre A B, w.heap.size ≤ A.heap.size → I pre A → Turns (Own3 w.heap.size) A B → I pre B) (hT : ∀ pre A, I pre A → T64 A) (h0 : I [] w) (a₁ : Nat → Act)
    (hassign : ∀ (l : Nat) (x : Nat) (W : World) (K : Act → World → Prop), K (a₁ x) W → assign.wpIn (Fence.wide.inRound l) (n - 1 - 1) Tryd.prog (Exit.then K (fun _ _ _ => False)) { tmps := a.tmps.setIfInBounds p (.int .i64 (x : Int)), defers := [] } W)
    (hbody : ∀ (l : Nat) (pre : List Nat) (x : Nat) (post : List Nat) (W : World), elems s = pre ++ x :: post → w.heap.size + 3 ≤ W.heap.size → I pre W → body.wpIn (Fence.wide.inRound l) (n - 1 - 1) Tryd.prog (roundEnd w.heap.size W (I (pre ++ [x]))) (a₁ x) W)
    (hdone : ∀ (D : Nat) (W : World), D = w.heap.size → I (elems s) W → W.heap[D]? = some (.deferred (some [])) → Q .normal { a with defers := { target := .collected D, args := #[] } :: a.defers } W) :
    (Code.rangeFunc g #[p] assign body).wpIn Fence.wide n Tryd.prog Q a w := by
  refine wpIn_rangeFunc ?_
  intro fn hfn
  obtain ⟨lp, hlp⟩ : ∃ lp : LoopState → Loop, lp = fun st => { state := st, pending := none, fn, tmps := a.tmps, params := #[p], assign, body, defers := w.heap.size } := ⟨_, rfl⟩
  obtain ⟨W1, hW1⟩ : ∃ W1, (w.alloc (.deferred (some []))).alloc (.loop (lp .ready)) = W1 := ⟨_, rfl⟩
  have hz1 : W1.heap.size = w.heap.size + 2 := by rw [← hW1]; simp
  have hL1 : W1.heap[w.heap.size + 1]? = some (.loop (lp .ready)) := by
    rw [← hW1]
    have := World.alloc_heap_new (w.alloc (.deferred (some []))) (.loop (lp .ready))
    rwa [World.size_alloc] at this
  have hK1 : W1.heap[w.heap.size]? = some (.deferred (some [])) := by
    rw [← hW1]; exact (Below.heap_alloc _ _ _ (by simp)).trans (World.alloc_heap_new w _)
  have hI1 : I [] W1 := by
    rw [← hW1]
    exact hI _ _ _ (by simp) (hI _ _ _ (Nat.le_refl _) h0 (alloc_turns _ _ _)) (alloc_turns _ _ _)
  have putT : ∀ (A : World) (o : Obj), Turns (Own3 w.heap.size) A (A.putObj (w.heap.size + 1) o) := fun A o => by
    have hb := grownBy_putObj' A (w.heap.size + 1) o
    exact ⟨hb.os, hb.tape, hb.output, hb.size, fun k hk hm => hb.block k hk (fun e => hm (by cases e; exact ⟨by omega, by omega⟩))⟩
  refine ⟨w.heap.size + 1, [{ target := .collected w.heap.size, args := #[] }], W1, { target := .fn (.func 47) #[], args := #[sv s, .func (.yield (w.heap.size + 1)) #[] #[]] }, W1, 47,
    #[sv s, .func (.yield (w.heap.size + 1)) #[] #[]], W1, ?_, ?_, ?_, ?_, fun _ => h1, ?_⟩
  · rw [← hW1, hlp]; exact run_enterLoop_outer _ _ _ _ _
  · simp only [resolve, hg]
    simp [go_sem]
  · intro f' hf'; trivial
  · simp [invoke, go_sem]
  · refine (rising_in hs (n - 1) (w.heap.size + 1) h2
      (fun pre W => I pre W ∧ W.heap[w.heap.size + 1]? = some (.loop (lp .ready)) ∧ W.heap[w.heap.size]? = some (.deferred (some [])) ∧ w.heap.size + 2 ≤ W.heap.size)
      W1 ?_ (fun pre A h => hT pre A h.1) ?_ ⟨hI1, hL1, hK1, by omega⟩).mono ?_
    · rintro pre A B ⟨k1, k2, k3, k4⟩ ht
      have e1 := ht.block (w.heap.size + 1) (by omega) (by omega)
      have e0 := ht.block w.heap.size (by omega) (by omega)
      exact ⟨hI _ _ _ (by omega) k1 (ht.mono (fun k _ e => ⟨by omega, by omega⟩)), e1.trans k2, e0.trans k3, Nat.le_trans k4 ht.size⟩
    · rintro pre x post A he ⟨k1, k2, k3, k4⟩ hlt
      have hy := run_yield (P := Tryd.prog) (args := #[.int .i64 (x : Int)]) k2 (by rw [hlp]; rfl)
      rw [hlp] at hy
      refine ⟨fn, _, assign, body, hy, roundIn_of_wpIn hfn ?_⟩
      have hl2 : ∀ o, (A.putObj (w.heap.size + 1) o).heap[w.heap.size + 1]? = some o := fun o => World.putObj_heap_same (by omega)
      have hne : ∀ (B : World) (o : Obj) k, k ≠ w.heap.size + 1 → (B.putObj (w.heap.size + 1) o).heap[k]? = B.heap[k]? := fun B o k hk => World.putObj_heap_other hk
      have hz : ∀ (T : Array Value) (u : Value), Array.foldl (fun tmps (x : Tmp × Value) => match x with | (t, a) => tmps.setIfInBounds t a) T ((#[p] : Array Tmp).zip #[u]) = T.setIfInBounds p u := fun T u => by rw [List.zip_toArray]; simp
      have hsA : ∀ (B : World) (o : Obj), B.heap.size ≤ (B.putObj (w.heap.size + 1) o).heap.size := fun B o => (grownBy_putObj' B (w.heap.size + 1) o).size
      simp only [hz]
      refine hassign _ x A _ ?_
      refine ⟨_, run_beginRound k2 (by rw [hlp]), ?_⟩
      refine wpIn_mono (hbody _ pre x post _ he (Nat.le_trans (by omega) (hsA _ _)) (hI _ _ _ (by omega) k1 (putT _ _))) ?_
      rintro e a3 W3 hp
      cases e with
      | normal =>
        obtain ⟨q1, q2, q3⟩ := hp
        have hl3 : W3.heap[w.heap.size + 1]? = some (.loop { lp .ready with state := .busy }) := (q1 _ ⟨by omega, by omega⟩).trans (hl2 _)
        have hk3 : W3.heap[w.heap.size]? = some (.deferred (some [])) := (q1 _ ⟨by omega, by omega⟩).trans ((hne _ _ _ (by omega)).trans k3)
        have hsz3 : w.heap.size + 2 ≤ W3.heap.size := Nat.le_trans (Nat.le_trans k4 (hsA _ _)) q2
        have hend := run_endRound (P := Tryd.prog) none hl3
        rw [hlp] at hend
        refine ⟨_, _, hend, rfl, ⟨hI _ _ _ (by omega) q3 (putT _ _), ?_, ?_, ?_⟩, ?_⟩
        · rw [hlp]
          exact World.putObj_heap_same (by omega)
        · exact (hne _ _ _ (by omega)).trans hk3
        · have := (grownBy_putObj' W3 (w.heap.size + 1) (.loop (lp .ready))).size
          rw [hlp] at this
          exact Nat.le_trans hsz3 this
        · rw [hz1]
          refine (hne _ _ _ (by omega)).trans ((q1 _ ⟨by omega, by omega⟩).trans (hne _ _ _ (by omega)))
      | ret => exact hp.elim
      | exit id => exact hp.elim
      | goto t => exact hp.elim
      | panic ch => exact hp.elim
      | outgrown => exact hp.elim
    · rintro e W2 ⟨⟨v, rfl⟩, hi, hl, hk, hz⟩
      refine ⟨none, _, by have := run_endLoop (P := Tryd.prog) hl (by rw [hlp]; simp); rw [hlp] at this; exact this, hdone _ _ rfl (hI _ _ _ (by omega) hi (putT _ _)) ((World.putObj_heap_other (by omega)).trans hk)⟩
end Go.Proofs.YtekokjechbibdaaDoor
