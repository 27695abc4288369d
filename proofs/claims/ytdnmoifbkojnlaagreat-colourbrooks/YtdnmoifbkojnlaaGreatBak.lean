/- slices.Backward over a row of numbers, as a range over a function goes through it. A region that draws its order, by what each operation keeps. A region that draws its order, in the round of a range over a function: by what each operation keeps. -/
import Derived.RangeFuncNested
import Derived.RangeFuncBound
import Derived.RangeFuncCalls
import Derived.RangeFuncLeaves
import Derived.Shelf.Abstract
import Derived.Shelf.RegionOpen
import Derived.WalkKit
import Derived.OwnWalkIn
import Derived.TacticsInMore
import Derived.LoopNIn
import Derived.LoopIn
import Derived.Test.YtdnmoifbkojnlaaGreatReachW
import Derived.Test.YtdnmoifbkojnlaaGreatKitC
namespace Go.Proofs.YtdnmoifbkojnlaaGreat
open Go.RowKit Go.Shelf
attribute [local go_sem] Oper.semAt_some
/-- What a round must leave alone: the row and the box of its value. -/
def KpZ (Bs b : Nat) (W W' : World) : Prop := W'.heap[Bs]? = W.heap[Bs]? ∧ W'.heap[b]? = W.heap[b]?
theorem KpZ.trans {Bs b : Nat} {A B C : World} (h : KpZ Bs b A B) (k : KpZ Bs b B C) : KpZ Bs b A C := ⟨k.1.trans h.1, k.2.trans h.2⟩
theorem cell_heap {W W' : World} {x i : Nat} (h : W'.heap[x]? = W.heap[x]?) : W'.cell? ⟨x, i, none⟩ = W.cell? ⟨x, i, none⟩ := by
  unfold World.cell?
  simp only [h]
/-- A place and a node. -/
abbrev PlN (N : Nat) := { x : Nat × Nat // x.2 < N }
/-- What has come behind k rounds. -/
def uptoZ {α : Type} (f : Nat → α) (k : Nat) : List α := (List.range k).map f
theorem uptoZ_succ {α : Type} (f : Nat → α) (k : Nat) : uptoZ f (k + 1) = uptoZ f k ++ [f k] := by simp [uptoZ, List.range_succ]
theorem uptoZ_length {α : Type} (f : Nat → α) (k : Nat) : (uptoZ f k).length = k := by simp [uptoZ]
set_option maxRecDepth 100000 in
set_option maxHeartbeats 2000000 in
theorem back1_in {N : Nat} (F : Fence) (n : Nat) (h81 : F.fn 81) (hro : F.round = none) (hn : 1 ≤ n) (l Bs b off len cap : Nat) (f : Nat → PlN N) (hreach : len ≤ 1000) (J Jx : List (PlN N) → World → Prop)
    (hY : ∀ pre x W, J pre W → pre.length < len → YieldAt F (n - 1) Tryz.prog l #[.int .i64 (x.1.1 : Int), .int .i64 (x.1.2 : Int)] W fun e W' =>
      (e = .returned (.bool true) ∧ J (pre ++ [x]) W' ∧ KpZ Bs b W W') ∨ (e = .returned (.bool false) ∧ Jx (pre ++ [x]) W'))
    (W : World) (hBs : W.cell? ⟨Bs, 0, none⟩ = some (.slice (some ⟨b, off, none⟩) len cap)) (hc : ∀ j, j < len → (f j).1.1 = len - 1 - j ∧ W.cell? ⟨b, off + (len - 1 - j), none⟩ = some (.int .i64 ((f j).1.2 : Int))) (h0 : J [] W) :
    CallsIn F n Tryz.prog 81 #[.func (.yield l) #[] #[], .pointer (some ⟨Bs, 0, none⟩)] W fun e W' => (∃ v, e = .returned v) ∧
      ((∃ ys, ys = uptoZ f len ∧ J ys W') ∨ (∃ pre, (∃ k, k ≤ len ∧ pre = uptoZ f k) ∧ Jx pre W')) := by
  refine callsIn_of_wp Tryz.func81 rfl h81 ?_ hro
  simp only [Tryz.ntmps81, List.size_toArray, List.length_cons, List.length_nil, Nat.reduceAdd, Nat.reduceSub, Array.replicate_succ, Array.replicate_zero, List.push_toArray, List.append_toArray, List.nil_append, List.cons_append]
  gi_wp2
  gi_loopw [3] (fun i wr => ∃ k : Nat, k ≤ len ∧ i = .int .i64 ((len : Int) - 1 - k) ∧ J (uptoZ f k) wr ∧ KpZ Bs b W wr)
    (fun i _ => (numOf i + 1).toNat)
  case atStart => exact ⟨0, Nat.zero_le _, by simp; try omega, h0, rfl, rfl⟩
  case round =>
    obtain ⟨k, hk, rfl, hJs, hnx⟩ := hrel
    have hbx := (cell_heap hnx.1).trans hBs
    by_cases hlt : k < len
    · obtain ⟨fn, tmps, assign, body, hy, hR⟩ := hY _ (f k) wr hJs (by rw [uptoZ_length]; exact hlt)
      obtain ⟨m, hm⟩ : ∃ m, m = len - 1 - k := ⟨_, rfl⟩
      have hmi : (len : Int) - 1 - k = (m : Int) := by omega
      obtain ⟨hf1, hcc⟩ := hc k hlt
      have hcx : wr.cell? ⟨b, off + m, none⟩ = some (.int .i64 ((f k).1.2 : Int)) := by rw [hm]; exact (cell_heap hnx.2).trans hcc
      rw [hf1, ← hm] at hy
      rw [hmi]
      have i0 : (m : Int) ≥ 0 := by omega
      have i1 : (0 : Int) ≤ (m : Int) := by omega
      have i2 : (m : Int) < (len : Int) := by omega
      have HMI : Hid ((len : Int) - 1 - k = (m : Int)) := hmi
      clear hc hcc hf1 hm hmi
      gi_wp2
      refine hR.mono ?_
      rintro e W3 (⟨rfl, hJ3, hk3⟩ | ⟨rfl, hJx3⟩)
      · gi_wp2
        go_roundw
        case rel => exact ⟨k + 1, by omega, by have := HMI.out; simp; omega, by rw [uptoZ_succ]; exact hJ3, hnx.trans hk3⟩
        case measure => have := HMI.out; simp [numOf]
      · gi_wp2
        refine bodyPost_ret (results_none rfl _ _ _) rfl ?_
        exact ⟨⟨_, rfl⟩, .inr ⟨_, ⟨k + 1, by omega, (uptoZ_succ _ _).symm⟩, hJx3⟩⟩
    · obtain rfl : k = len := by omega
      have hmi : (k : Int) - 1 - k = -1 := by omega
      rw [hmi]
      gi_wp2
      go_end0
      exact ⟨⟨_, rfl⟩, .inl ⟨_, rfl, hJs⟩⟩
set_option maxHeartbeats 1000000 in
/-- Backward itself: the row's value lies in a box, which the function that comes back holds. -/
theorem back_in (F : Fence) (n : Nat) (h61 : F.fn 61) (hro : F.round = none) (a : Option Addr) (len cap : Nat) (w : World) :
    CallsIn F n Tryz.prog 61 #[.slice a len cap] w fun e w' => e = .returned (.func (.func 81) #[] #[.pointer (some ⟨w.heap.size, 0, none⟩)]) ∧ w' = w.alloc (.cells #[.slice a len cap] 29) := by
  refine callsIn_of_wp Tryz.func61 rfl h61 ?_ hro
  simp only [Tryz.ntmps61, List.size_toArray, List.length_cons, List.length_nil, Nat.reduceAdd, Nat.reduceSub, Array.replicate_succ, Array.replicate_zero, List.push_toArray, List.append_toArray, List.nil_append, List.cons_append]
  gi_wp2
  go_ret
  exact ⟨rfl, rfl⟩
theorem back_stops {N : Nat} (F : Fence) (n : Nat) (h81 : F.fn 81) (hro : F.round = none) (hn : 1 ≤ n) (Bs b off len cap : Nat) (f : Nat → PlN N) (hreach : len ≤ 1000) (w : World) (hb : b < w.heap.size) (hBs : Bs < w.heap.size)
    (hc : w.cell? ⟨Bs, 0, none⟩ = some (.slice (some ⟨b, off, none⟩) len cap)) (hI : ∀ j, j < len → (f j).1.1 = len - 1 - j ∧ w.cell? ⟨b, off + (len - 1 - j), none⟩ = some (.int .i64 ((f j).1.2 : Int))) :
    SeqStopsK F n Tryz.prog 81 #[.pointer (some ⟨Bs, 0, none⟩)] (fun x : PlN N => #[Value.int .i64 (x.1.1 : Int), Value.int .i64 (x.1.2 : Int)]) (KpZ Bs b) (fun ys => ys = uptoZ f len)
      (fun pre => ∃ k, k ≤ len ∧ pre = uptoZ f k) len w := fun l J Jx W hW _ _ hY h0 =>
  back1_in F n h81 hro hn l Bs b off len cap f hreach J Jx hY W ((hW.cell (p := ⟨Bs, 0, none⟩) hBs).trans hc) (fun j hj => ⟨(hI j hj).1, (hW.cell (p := ⟨b, _, none⟩) hb).trans (hI j hj).2⟩) h0
end Go.Proofs.YtdnmoifbkojnlaaGreat

namespace Go.Proofs.YtdnmoifbkojnlaaGreat
open Go.RowKit Go.Maps

section
variable {P : Program} {ops : Array Oper} {Q : Exit → Act → World → Prop}
/-- Each operation waits for earlier ones alone, as far as it must. -/
def lowB (ops : Array Oper) : Bool := (List.range ops.size).all fun i => ((ops[i]?).map fun o => o.after.all fun e => decide (e.on < i) || !Region.binds .any e).getD true
theorem low_of {ops : Array Oper} (h : lowB ops = true) {i : Nat} {o : Oper} (hi : ops[i]? = some o) : ∀ e ∈ o.after, Region.binds .any e = true → e.on < i := fun e he hb => by
  have hlt : i < ops.size := (Array.getElem?_eq_some_iff.1 hi).1
  have := List.all_eq_true.1 h i (List.mem_range.2 hlt)
  simp only [hi, Option.map_some, Option.getD_some, Array.all_eq_true_iff_forall_mem] at this
  have := this e he
  rw [hb] at this
  simpa using this
theorem getD_false {listed : Array Bool} {i : Nat} : listed.getD i true = false ↔ i < listed.size ∧ listed.getD i false = false := by
  by_cases h : i < listed.size <;> simp [Array.getD, h]
theorem ready_none {listed : Array Bool} (hlow : lowB ops = true) (hs : listed.size = ops.size) (h : Region.ready .any ops listed = []) : ∀ i, i < ops.size → listed.getD i false = true := by
  intro i
  induction i using Nat.strongRecOn with
  | _ i ih =>
    intro hi
    have ho : ops[i]? = some ops[i] := by simp [hi]
    cases hl : listed.getD i false with
    | true => rfl
    | false =>
      have : i ∈ Region.ready .any ops listed := mem_ready.2 ⟨getD_false.2 ⟨by omega, hl⟩, _, ho, fun e he hb => by
        have h1 := low_of hlow ho e he hb
        exact ih e.on h1 (by omega)⟩
      rw [h] at this; cases this
theorem count_set {l : List Bool} : ∀ {i : Nat}, l[i]? = some false → (l.set i true).count false + 1 = l.count false := by
  induction l with
  | nil => intro i h; simp at h
  | cons x l ih =>
    intro i h
    cases i with
    | zero => simp at h; subst h; simp
    | succ i =>
      simp at h
      have := ih (i := i) (by simpa using h)
      cases x <;> simp_all <;> omega
theorem wpAny_inv {I : Array Bool → Act → World → Prop} (hlow : lowB ops = true)
    (hstep : ∀ listed a w i, listed.size = ops.size → I listed a w → i ∈ Region.ready .any ops listed → wpOp P ops Q i (I (listed.setIfInBounds i true)) a w)
    (hend : ∀ listed a w, I listed a w → (∀ i, i < ops.size → listed.getD i false = true) → Q .normal a w) :
    ∀ fuel listed a w, listed.size = ops.size → listed.toList.count false ≤ fuel → I listed a w → wpAny P .any ops Q fuel listed a w
  | 0, listed, a, w, hs, hc, hI => by
    have hr : Region.ready .any ops listed = [] := by
      refine List.eq_nil_iff_forall_not_mem.2 fun i hi => ?_
      obtain ⟨h1, h2⟩ := getD_false.1 (mem_ready.1 hi).1
      have h3 : false ∈ listed.toList := by
        rw [Array.getD, dif_pos h1] at h2
        have h2' : listed[i] = false := h2
        rw [← h2']; simp
      have := List.count_pos_iff.2 h3
      omega
    exact ⟨hr, hend _ _ _ hI (ready_none hlow hs hr)⟩
  | fuel + 1, listed, a, w, hs, hc, hI => by
    refine ⟨fun hr => hend _ _ _ hI (ready_none hlow hs hr), fun i hi => ?_⟩
    refine wpOp_mono (fun a' w' h' => ?_) (hstep listed a w i hs hI hi)
    refine wpAny_inv hlow hstep hend fuel _ a' w' (by simpa using hs) ?_ h'
    obtain ⟨h1, h2⟩ := getD_false.1 (mem_ready.1 hi).1
    have h3 : listed.toList[i]? = some false := by
      rw [Array.getD, dif_pos h1] at h2
      have h2' : listed[i] = false := h2
      simp [h1, h2']
    have := count_set h3
    rw [Array.toList_setIfInBounds]
    omega
/-- What has been done, and i. -/
def also (L : Nat → Bool) (i : Nat) : Nat → Bool := fun j => j == i || L j
theorem also_self (L : Nat → Bool) (i : Nat) : also L i i = true := by simp [also]
theorem also_of {L : Nat → Bool} {j : Nat} (h : L j = true) (i : Nat) : also L i j = true := by simp [also, h]
theorem also_ne {L : Nat → Bool} {i j : Nat} (h : also L i j = true) (hne : j ≠ i) : L j = true := by simpa [also, hne] using h
/-- A region that draws: what holds at its start and is kept by each operation, whatever has been done, holds at its end. -/
theorem region_inv {id : Nat} {a : Act} {w : World} {J : (Nat → Bool) → Act → World → Prop} (hm : P.follows .mixedOrders = true) (hlow : lowB ops = true)
    (h0 : J (fun _ => false) a w.drew)
    (hstep : ∀ i o, ops[i]? = some o → ∀ L a w, J L a w → L i = false → (∀ e ∈ o.after, Region.binds .any e = true → L e.on = true) → wpOp P ops Q i (J (also L i)) a w)
    (hend : ∀ L a w, J L a w → (∀ i, i < ops.size → L i = true) → Q .normal a w) : (Code.region id ops true).wp P Q a w := by
  refine wp_region_any hm (wpAny_inv (I := fun listed a w => J (fun i => listed.getD i false) a w) hlow (fun listed a w i hs hJ hi => ?_) (fun listed a w hJ hall => hend _ a w hJ hall) _ _ _ _ (by simp) ?_ ?_)
  · obtain ⟨h1, o, ho, hall⟩ := mem_ready.1 hi
    obtain ⟨h2, h3⟩ := getD_false.1 h1
    refine wpOp_mono (fun a' w' h' => ?_) (hstep i o ho _ a w hJ h3 hall)
    have e : (fun j => (listed.setIfInBounds i true).getD j false) = also (fun j => listed.getD j false) i := by
      funext j
      unfold also
      by_cases hj : j = i
      · subst hj; simp [Array.getD, h2]
      · have : (j == i) = false := by simp [hj]
        rw [this, Bool.false_or]
        simp only [Array.getD, Array.size_setIfInBounds]
        by_cases h : j < listed.size
        · simp only [h, dif_pos]
          exact Array.getElem_setIfInBounds_ne h (fun e => hj e.symm)
        · simp [h]
    rw [e]; exact h'
  · refine Nat.le_trans (List.count_le_length) (by simp)
  · have e : (fun i => (Array.replicate ops.size false).getD i false) = fun _ => false := by
      funext j
      simp [Array.getD]
    rw [e]; exact h0
theorem wpOp_value {i : Nat} {o : Oper} {a : Act} {w w' : World} {v : Value} {K : Act → World → Prop} (hi : ops[i]? = some o) (hw : Region.wanted o (yielded ops a.tmps) = true)
    (hr : (execOp a.eval o).run P w = .ok (.value v) w') (h : K (a.put o.dst v) w') : wpOp P ops Q i K a w := by
  unfold wpOp
  simp only [hi, hw, if_true, Oper.wp, hr, Oper.upon]
  exact .inl h
theorem wpOp_skip {i : Nat} {o : Oper} {a : Act} {w w' : World} {K : Act → World → Prop} (hi : ops[i]? = some o) (hw : Region.wanted o (yielded ops a.tmps) = true)
    (hr : (execOp a.eval o).run P w = .ok .skip w') (h : K (a.put o.dst undef) w') : wpOp P ops Q i K a w := by
  unfold wpOp
  simp only [hi, hw, if_true, Oper.wp, hr, Oper.upon]
  exact .inl h
theorem wpOp_call {i : Nat} {o : Oper} {a : Act} {w w' : World} {f : FuncId} {args : Array Value} {K : Act → World → Prop} (hi : ops[i]? = some o) (hw : Region.wanted o (yielded ops a.tmps) = true)
    (hr : (execOp a.eval o).run P w = .ok (.enter f args) w') (h : Calls P f args w' fun e w'' => ∃ v, e = .returned v ∧ K (a.put o.dst v) w'') : wpOp P ops Q i K a w := by
  unfold wpOp
  simp only [hi, hw, if_true, Oper.wp, hr, Oper.upon]
  refine .inl (h.mono ?_)
  rintro e w'' ⟨v, rfl, hk⟩
  exact hk
end
end Go.Proofs.YtdnmoifbkojnlaaGreat

namespace Go.Proofs.YtdnmoifbkojnlaaGreat
open Go.RowKit Go.Maps
section
variable {F : Fence} {n : Nat} {P : Program} {ops : Array Oper} {Q : Exit → Act → World → Prop}
theorem wpAnyIn_inv {I : Array Bool → Act → World → Prop} (hlow : lowB ops = true)
    (hstep : ∀ listed a w i, listed.size = ops.size → I listed a w → i ∈ Region.ready .any ops listed → wpOpIn F n P ops Q i (I (listed.setIfInBounds i true)) a w)
    (hend : ∀ listed a w, I listed a w → (∀ i, i < ops.size → listed.getD i false = true) → Q .normal a w) :
    ∀ fuel listed a w, listed.size = ops.size → listed.toList.count false ≤ fuel → I listed a w → wpAnyIn F n P .any ops Q fuel listed a w
  | 0, listed, a, w, hs, hc, hI => by
    have hr : Region.ready .any ops listed = [] := by
      refine List.eq_nil_iff_forall_not_mem.2 fun i hi => ?_
      obtain ⟨h1, h2⟩ := getD_false.1 (mem_ready.1 hi).1
      have h3 : false ∈ listed.toList := by
        rw [Array.getD, dif_pos h1] at h2
        have h2' : listed[i] = false := h2
        rw [← h2']; simp
      have := List.count_pos_iff.2 h3
      omega
    exact ⟨hr, hend _ _ _ hI (ready_none hlow hs hr)⟩
  | fuel + 1, listed, a, w, hs, hc, hI => by
    refine ⟨fun hr => hend _ _ _ hI (ready_none hlow hs hr), fun i hi => ?_⟩
    refine wpOpIn_mono (fun a' w' h' => ?_) (hstep listed a w i hs hI hi)
    refine wpAnyIn_inv hlow hstep hend fuel _ a' w' (by simpa using hs) ?_ h'
    obtain ⟨h1, h2⟩ := getD_false.1 (mem_ready.1 hi).1
    have h3 : listed.toList[i]? = some false := by
      rw [Array.getD, dif_pos h1] at h2
      have h2' : listed[i] = false := h2
      simp [h1, h2']
    have := count_set h3
    rw [Array.toList_setIfInBounds]
    omega
theorem region_invIn {id : Nat} {a : Act} {w : World} {J : Act → (Nat → Bool) → Act → World → Prop} (hm : P.follows .mixedOrders = true) (hlow : lowB ops = true)
    (h0 : J a (fun _ => false) a w.drew)
    (hstep : ∀ i o, ops[i]? = some o → ∀ L a' w, J a L a' w → L i = false → (∀ e ∈ o.after, Region.binds .any e = true → L e.on = true) → wpOpIn F n P ops Q i (J a (also L i)) a' w)
    (hend : ∀ L a' w, J a L a' w → (∀ i, i < ops.size → L i = true) → Q .normal a' w) : (Code.region id ops true).wpIn F n P Q a w := by
  refine wpIn_region_any hm (wpAnyIn_inv (I := fun listed a' w => J a (fun i => listed.getD i false) a' w) hlow (fun listed a w i hs hJ hi => ?_) (fun listed a w hJ hall => hend _ a w hJ hall) _ _ _ _ (by simp) ?_ ?_)
  · obtain ⟨h1, o, ho, hall⟩ := mem_ready.1 hi
    obtain ⟨h2, h3⟩ := getD_false.1 h1
    refine wpOpIn_mono (fun a' w' h' => ?_) (hstep i o ho _ a w hJ h3 hall)
    have e : (fun j => (listed.setIfInBounds i true).getD j false) = also (fun j => listed.getD j false) i := by
      funext j
      unfold also
      by_cases hj : j = i
      · subst hj; simp [Array.getD, h2]
      · have : (j == i) = false := by simp [hj]
        rw [this, Bool.false_or]
        simp only [Array.getD, Array.size_setIfInBounds]
        by_cases h : j < listed.size
        · simp only [h, dif_pos]
          exact Array.getElem_setIfInBounds_ne h (fun e => hj e.symm)
        · simp [h]
    rw [e]; exact h'
  · refine Nat.le_trans (List.count_le_length) (by simp)
  · have e : (fun i => (Array.replicate ops.size false).getD i false) = fun _ => false := by
      funext j
      simp [Array.getD]
    rw [e]; exact h0
/-- An operation that is no call. -/
def plainO (o : Oper) : Prop := (∀ c, o.op ≠ .defer c) ∧ ∀ c, o.op ≠ .call c
theorem about_plain {o : Oper} (h : plainO o) (w : World) (ρ : Operand → Value) : o.about P w ρ = none := by
  unfold Oper.about
  cases ho : o.op <;> first | rfl | exact absurd ho (h.2 _)
theorem wpOpIn_value {i : Nat} {o : Oper} {a : Act} {w w' : World} {v : Value} {K : Act → World → Prop} (hp : plainO o) (hi : ops[i]? = some o) (hw : Region.wanted o (yielded ops a.tmps) = true)
    (hr : (execOp a.eval o).run P w = .ok (.value v) w') (h : K (a.put o.dst v) w') : wpOpIn F n P ops Q i K a w := by
  unfold wpOpIn
  simp only [hi, hw, if_true, Oper.wpIn, Oper.semAt_eq _ _ _ hp.1, hr, Oper.uponIn, about_plain hp]
  exact ⟨(fun f hf => nomatch hf), h⟩
theorem wpOpIn_skip {i : Nat} {o : Oper} {a : Act} {w w' : World} {K : Act → World → Prop} (hp : plainO o) (hi : ops[i]? = some o) (hw : Region.wanted o (yielded ops a.tmps) = true)
    (hr : (execOp a.eval o).run P w = .ok .skip w') (h : K (a.put o.dst undef) w') : wpOpIn F n P ops Q i K a w := by
  unfold wpOpIn
  simp only [hi, hw, if_true, Oper.wpIn, Oper.semAt_eq _ _ _ hp.1, hr, Oper.uponIn, about_plain hp]
  exact ⟨(fun f hf => nomatch hf), h⟩
theorem wpOpIn_call {i : Nat} {o : Oper} {a : Act} {w w' : World} {f : FuncId} {args : Array Value} {K : Act → World → Prop} (hF : ∀ f, F.fn f) (hdp : F.depth = none) (hd : ∀ c, o.op ≠ .defer c) (hi : ops[i]? = some o) (hw : Region.wanted o (yielded ops a.tmps) = true)
    (hr : (execOp a.eval o).run P w = .ok (.enter f args) w') (h : CallsIn F (n - 1) P f args w' fun e w'' => ∃ v, e = .returned v ∧ K (a.put o.dst v) w'') : wpOpIn F n P ops Q i K a w := by
  unfold wpOpIn
  simp only [hi, hw, if_true, Oper.wpIn, Oper.semAt_eq _ _ _ hd, hr, Oper.uponIn]
  refine ⟨fun f _ => hF f, (fun hs => by rw [hdp] at hs; cases hs), h.mono ?_⟩
  rintro e w'' ⟨v, rfl, hk⟩
  exact hk
end
end Go.Proofs.YtdnmoifbkojnlaaGreat
