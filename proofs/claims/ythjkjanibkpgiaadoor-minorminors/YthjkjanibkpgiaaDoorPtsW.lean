/- set.parts: a range over all sets of nodes of a set. -/
import Derived.RangeFuncNested
import Derived.RangeFuncBound
import Derived.RangeFuncCalls
import Derived.RangeFuncLeaves
import Derived.Shelf.Abstract
import Derived.Shelf.RegionOpen
import Derived.WalkKit
import Derived.OwnWalkIn
import Derived.TacticsInMore
import Derived.LoopNIn
import Derived.LoopIn
import Derived.Test.YthjkjanibkpgiaaDoorSubM
import Derived.Test.YthjkjanibkpgiaaDoorPrtW
namespace Go.Proofs.YthjkjanibkpgiaaDoor
set_option maxRecDepth 8000
open Go.RowKit Go.Maps Go.Shelf
attribute [local go_sem] Oper.semAt_some
set_option maxRecDepth 100000 in
set_option maxHeartbeats 2000000 in
theorem parts_in {S bp : Nat} (hS : S < 1024) (n l : Nat) (hn : 1 ≤ n) (J : List Nat → World → Prop) (Jx : World → Prop) (W : World)
    (hJ : ∀ pre A, J pre A → A.cell? ⟨bp, 0, none⟩ = some (.int .u32 (S : Int)))
    (hY : ∀ (pre : List Nat) (x : Nat) (post : List Nat) (A : World), subsR 10 S = pre ++ x :: post → J pre A → YieldAt Fence.wide (n - 1) Tryd.prog l #[.int .u32 (x : Int)] A fun e A' => (e = .returned (.bool true) ∧ J (pre ++ [x]) A') ∨ (e = .returned (.bool false) ∧ Jx A'))
    (h0 : J [] W) : CallsIn Fence.wide n Tryd.prog 50 #[.func (.yield l) #[] #[], ptr bp] W fun e W' => (∃ v, e = .returned v) ∧ (J (subsR 10 S) W' ∨ Jx W') := by
  have HJ : Hid _ := hJ
  have HY : Hid _ := hY
  obtain ⟨post0, hp0⟩ := subs_head hS
  have HP0 : Hid _ := hp0
  clear hJ hY hp0
  refine callsIn_of_wp Tryd.func50 rfl trivial ?_ rfl
  simp only [Tryd.ntmps50, List.size_toArray, List.length_cons, List.length_nil, Nat.reduceAdd, Nat.reduceSub, Array.replicate_succ, Array.replicate_zero, List.push_toArray, List.append_toArray, List.nil_append, List.cons_append]
  gi_wp2
  gi_loopw [3] (fun i wz => ∃ pre x post, i = .int .u32 ((x : Nat) : Int) ∧ Hid (subsR 10 S = pre ++ x :: post) ∧ J pre wz) (fun i _ => 1024 - (numOf i).toNat)
  case atStart => exact ⟨[], 0, post0, rfl, HP0.out, h0⟩
  case round =>
    obtain ⟨pre, x, post, rfl, hp, hj⟩ := hrel
    have hxl : x < 1024 := sub_lt hS (by rw [hp.out]; simp)
    obtain ⟨fn, tmps, assign, body, hy, hR⟩ := HY.out _ _ _ _ hp.out hj
    have HE := subs_at hS hp.out
    rcases HE with ⟨rfl, rfl⟩ | ⟨hne, post', rfl, hlt⟩
    · have HP : Hid (subsR 10 x = pre ++ [x]) := hp.out
      clear hp hj
      gi_wp2
      refine hR.mono ?_
      rintro e w7 (⟨rfl, hj7⟩ | ⟨rfl, hx7⟩)
      · have c7 := HJ.out _ _ hj7
        rw [← HP.out] at hj7
        have hj8 : Hid _ := hj7
        clear hj7
        gi_wp2
        go_end0
        exact ⟨⟨_, rfl⟩, Or.inl hj8.out⟩
      · have hj8 : Hid _ := hx7
        clear hx7
        gi_wp2
        go_end0
        exact ⟨⟨_, rfl⟩, Or.inr hj8.out⟩
    · obtain ⟨u, hu⟩ : ∃ u, u = (x + 4294967296 - S) % 4294967296 := ⟨_, rfl⟩
      have hu1 : ((x : Int) - (S : Int)) % 4294967296 = (u : Int) := by omega
      have hul : u < 4294967296 := by omega
      obtain ⟨y, hyy⟩ : ∃ y, y = u &&& S := ⟨_, rfl⟩
      have a1 := and_u32 (a := u) (b := S) hul (by omega)
      rw [← hyy] at a1
      have hye : nxt S x = y := by rw [hyy, hu]; rfl
      rw [hye] at hlt hp
      have k1 : ((x : Int) != (S : Int)) = true := by simp; omega
      have k2 : ¬ (x : Int) = (S : Int) := by omega
      have HP : Hid _ := hp
      have HL : Hid (x < y) := hlt
      clear hp hj hye hyy hu hne hlt
      gi_wp2
      refine hR.mono ?_
      rintro e w7 (⟨rfl, hj7⟩ | ⟨rfl, hx7⟩)
      · have c7 := HJ.out _ _ hj7
        have hj8 : Hid _ := hj7
        clear hj7
        gi_wp2
        go_roundw
        case rel => exact ⟨pre ++ [x], y, post', rfl, by show _ = _; rw [HP.out]; simp, hj8.out⟩
        case measure => have := HL.out; simp [numOf]; omega
      · have hj8 : Hid _ := hx7
        clear hx7
        gi_wp2
        go_end0
        exact ⟨⟨_, rfl⟩, Or.inr hj8.out⟩
theorem enter50 (args : Array Value) (w : World) : (callFunc 50 args).run Tryd.prog w = .ok (.enter 50 args) w := enters_of Tryd.func50 (by kernel_rfl) rfl args w
/-- The two blocks that a range over parts makes for itself. -/
def Own2 (n : Nat) (k : Nat) : Prop := n ≤ k ∧ k < n + 2
/-- What a round leaves: the two blocks, and what holds behind it. -/
def roundE (n : Nat) (W : World) (R Rx : World → Prop) : Exit → Act → World → Prop
  | .normal, _, W' => (∀ k, Own2 n k → W'.heap[k]? = W.heap[k]?) ∧ W.heap.size ≤ W'.heap.size ∧ R W'
  | .ret, _, W' => (∀ k, Own2 n k → W'.heap[k]? = W.heap[k]?) ∧ W.heap.size ≤ W'.heap.size ∧ Rx W'
  | _, _, _ => False
set_option maxHeartbeats 1000000 in
/-- A range over the parts of a set, whose rounds go on or return. -/
theorem range_parts {g : Operand} {p : Tmp} {assign body : Code} {Q : Exit → Act → World → Prop} {a : Act} {w : World} {n S bp : Nat} (h1 : 1 ≤ n) (h2 : 1 ≤ n - 1) (hS : S < 1024) (hg : a.eval g = .func (.func 50) #[] #[ptr bp])
    (I : List Nat → World → Prop) (Ix : World → Prop) (hI : ∀ pre A B, w.heap.size ≤ A.heap.size → I pre A → Turns (Own2 w.heap.size) A B → I pre B) (hIx : ∀ A B, w.heap.size + 2 ≤ A.heap.size → Ix A → Turns (Own2 w.heap.size) A B → Ix B)
    (hc : ∀ pre A, I pre A → A.cell? ⟨bp, 0, none⟩ = some (.int .u32 (S : Int))) (h0 : I [] w) (a₁ : Nat → Act)
    (hassign : ∀ (l : Nat) (x : Nat) (W : World) (K : Act → World → Prop), K (a₁ x) W → assign.wpIn (Fence.wide.inRound l) (n - 1 - 1) Tryd.prog (Exit.then K (fun _ _ _ => False)) { tmps := a.tmps.setIfInBounds p (.int .u32 (x : Int)), defers := [] } W)
    (hbody : ∀ (l : Nat) (pre : List Nat) (x : Nat) (post : List Nat) (W : World), subsR 10 S = pre ++ x :: post → w.heap.size + 2 ≤ W.heap.size → I pre W → body.wpIn (Fence.wide.inRound l) (n - 1 - 1) Tryd.prog (roundE w.heap.size W (I (pre ++ [x])) Ix) (a₁ x) W)
    (hdone : ∀ (D : Nat) (W : World), D = w.heap.size → I (subsR 10 S) W → W.heap[D]? = some (.deferred (some [])) → Q .normal { a with defers := { target := .collected D, args := #[] } :: a.defers } W)
    (hstop : ∀ (D : Nat) (W : World), D = w.heap.size → Ix W → W.heap[D]? = some (.deferred (some [])) → Q .ret { a with defers := { target := .collected D, args := #[] } :: a.defers } W) :
    (Code.rangeFunc g #[p] assign body).wpIn Fence.wide n Tryd.prog Q a w := by
  refine wpIn_rangeFunc ?_
  intro fn hfn
  obtain ⟨lp, hlp⟩ : ∃ lp : LoopState → Option Code → Loop, lp = fun st pe => { state := st, pending := pe, fn, tmps := a.tmps, params := #[p], assign, body, defers := w.heap.size } := ⟨_, rfl⟩
  obtain ⟨W1, hW1⟩ : ∃ W1, (w.alloc (.deferred (some []))).alloc (.loop (lp .ready none)) = W1 := ⟨_, rfl⟩
  have hz1 : W1.heap.size = w.heap.size + 2 := by rw [← hW1]; simp
  have hL1 : W1.heap[w.heap.size + 1]? = some (.loop (lp .ready none)) := by
    rw [← hW1]
    have := World.alloc_heap_new (w.alloc (.deferred (some []))) (.loop (lp .ready none))
    rwa [World.size_alloc] at this
  have hK1 : W1.heap[w.heap.size]? = some (.deferred (some [])) := by
    rw [← hW1]; exact (Below.heap_alloc _ _ _ (by simp)).trans (World.alloc_heap_new w _)
  have hI1 : I [] W1 := by
    rw [← hW1]
    exact hI _ _ _ (by simp) (hI _ _ _ (Nat.le_refl _) h0 (alloc_turns _ _ _)) (alloc_turns _ _ _)
  have putT : ∀ (A : World) (o : Obj), Turns (Own2 w.heap.size) A (A.putObj (w.heap.size + 1) o) := fun A o => by
    have hb := grownBy_putObj' A (w.heap.size + 1) o
    exact ⟨hb.os, hb.tape, hb.output, hb.size, fun k hk hm => hb.block k hk (fun e => hm (by cases e; exact ⟨by omega, by omega⟩))⟩
  refine ⟨w.heap.size + 1, [{ target := .collected w.heap.size, args := #[] }], W1, { target := .fn (.func 50) #[ptr bp], args := #[.func (.yield (w.heap.size + 1)) #[] #[]] }, W1, 50,
    #[.func (.yield (w.heap.size + 1)) #[] #[]] ++ #[ptr bp], W1, ?_, ?_, ?_, ?_, fun _ => h1, ?_⟩
  · rw [← hW1, hlp]; exact run_enterLoop_outer _ _ _ _ _
  · simp only [resolve, hg]
    simp [go_sem]
  · intro f' hf'; trivial
  · simp [invoke, go_sem]
  · refine (parts_in hS (n - 1) (w.heap.size + 1) h2
      (fun pre W => I pre W ∧ W.heap[w.heap.size + 1]? = some (.loop (lp .ready none)) ∧ W.heap[w.heap.size]? = some (.deferred (some [])) ∧ w.heap.size + 2 ≤ W.heap.size)
      (fun W => Ix W ∧ W.heap[w.heap.size + 1]? = some (.loop (lp .done (some .ret))) ∧ W.heap[w.heap.size]? = some (.deferred (some [])) ∧ w.heap.size + 2 ≤ W.heap.size)
      W1 (fun pre A h => hc pre A h.1) ?_ ⟨hI1, hL1, hK1, by omega⟩).mono ?_
    · rintro pre x post A he ⟨k1, k2, k3, k4⟩
      have hy := run_yield (P := Tryd.prog) (args := #[.int .u32 (x : Int)]) k2 (by rw [hlp]; rfl)
      rw [hlp] at hy
      refine ⟨fn, _, assign, body, hy, roundIn_of_wpIn hfn ?_⟩
      have hl2 : ∀ o, (A.putObj (w.heap.size + 1) o).heap[w.heap.size + 1]? = some o := fun o => World.putObj_heap_same (by omega)
      have hne : ∀ (B : World) (o : Obj) k, k ≠ w.heap.size + 1 → (B.putObj (w.heap.size + 1) o).heap[k]? = B.heap[k]? := fun B o k hk => World.putObj_heap_other hk
      have hz : ∀ (T : Array Value) (u : Value), Array.foldl (fun tmps (x : Tmp × Value) => match x with | (t, a) => tmps.setIfInBounds t a) T ((#[p] : Array Tmp).zip #[u]) = T.setIfInBounds p u := fun T u => by rw [List.zip_toArray]; simp
      have hsA : ∀ (B : World) (o : Obj), B.heap.size ≤ (B.putObj (w.heap.size + 1) o).heap.size := fun B o => (grownBy_putObj' B (w.heap.size + 1) o).size
      simp only [hz]
      refine hassign _ x A _ ?_
      refine ⟨_, run_beginRound k2 (by rw [hlp]), ?_⟩
      refine wpIn_mono (hbody _ pre x post _ he (Nat.le_trans (by omega) (hsA _ _)) (hI _ _ _ (by omega) k1 (putT _ _))) ?_
      rintro e a3 W3 hp
      have fin : ∀ (q1 : ∀ k, Own2 w.heap.size k → W3.heap[k]? = (A.putObj (w.heap.size + 1) (.loop { lp .ready none with state := .busy })).heap[k]?), (A.putObj (w.heap.size + 1) (.loop { lp .ready none with state := .busy })).heap.size ≤ W3.heap.size →
          W3.heap[w.heap.size + 1]? = some (.loop { lp .ready none with state := .busy }) ∧ W3.heap[w.heap.size]? = some (.deferred (some [])) ∧ w.heap.size + 2 ≤ W3.heap.size := fun q1 q2 =>
        ⟨(q1 _ ⟨by omega, by omega⟩).trans (hl2 _), (q1 _ ⟨by omega, by omega⟩).trans ((hne _ _ _ (by omega)).trans k3), Nat.le_trans (Nat.le_trans k4 (hsA _ _)) q2⟩
      cases e with
      | normal =>
        obtain ⟨q1, q2, q3⟩ := hp
        obtain ⟨hl3, hk3, hsz3⟩ := fin q1 q2
        have hend := run_endRound (P := Tryd.prog) none hl3
        rw [hlp] at hend
        refine ⟨_, _, hend, Or.inl ⟨rfl, hI _ _ _ (by omega) q3 (putT _ _), ?_, ?_, ?_⟩⟩
        · rw [hlp]
          exact World.putObj_heap_same (by omega)
        · exact (hne _ _ _ (by omega)).trans hk3
        · have := (grownBy_putObj' W3 (w.heap.size + 1) (.loop (lp .ready none))).size
          rw [hlp] at this
          exact Nat.le_trans hsz3 this
      | ret =>
        obtain ⟨q1, q2, q3⟩ := hp
        obtain ⟨hl3, hk3, hsz3⟩ := fin q1 q2
        have hend := run_endRound (P := Tryd.prog) (some .ret) hl3
        rw [hlp] at hend
        refine ⟨_, _, hend, Or.inr ⟨rfl, hIx _ _ (by omega) q3 (putT _ _), ?_, ?_, ?_⟩⟩
        · rw [hlp]
          exact World.putObj_heap_same (by omega)
        · exact (hne _ _ _ (by omega)).trans hk3
        · have := (grownBy_putObj' W3 (w.heap.size + 1) (.loop (lp .done (some .ret)))).size
          rw [hlp] at this
          exact Nat.le_trans hsz3 this
      | exit id => exact hp.elim
      | goto t => exact hp.elim
      | panic ch => exact hp.elim
      | outgrown => exact hp.elim
    · rintro e W2 ⟨⟨v, rfl⟩, ⟨hi, hl, hk, hz⟩ | ⟨hi, hl, hk, hz⟩⟩
      · refine ⟨none, _, by have := run_endLoop (P := Tryd.prog) hl (by rw [hlp]; simp); rw [hlp] at this; exact this, hdone _ _ rfl (hI _ _ _ (by omega) hi (putT _ _)) ((World.putObj_heap_other (by omega)).trans hk)⟩
      · refine ⟨some .ret, _, by have := run_endLoop (P := Tryd.prog) hl (by rw [hlp]; simp); rw [hlp] at this; exact this, wpIn_ret (hstop _ _ rfl (hIx _ _ (by omega) hi (putT _ _)) ((World.putObj_heap_other (by omega)).trans hk))⟩
end Go.Proofs.YthjkjanibkpgiaaDoor
