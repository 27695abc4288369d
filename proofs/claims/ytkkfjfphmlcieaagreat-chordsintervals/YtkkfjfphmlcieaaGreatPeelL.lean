/- What peel calls: slices.Delete of one number, slices.IndexFunc, its literal. -/
import Derived.Test.YtkkfjfphmlcieaaGreatPartC
import Derived.Shelf.Slices.Delete
import Derived.Lib.OwnBridge
import Derived.Lib.AppendIntMem
namespace Go.Proofs
open Go.Shelf
def Tryz.del40_ren : Go.Shelf.Ren := ⟨fun | 23 => 55 | n => n, fun | 22 => 45 | n => n, fun | n => n⟩
theorem Tryz.del40 : Go.Proofs.Lays2.n23 Tryz.prog Tryz.del40_ren := {
  mixed := by kernel_rfl
  f23 := Tryz.func55.trans (congrArg some (by kernel_rfl))
  t0 := Tryz.underlying0
  a0 := Tryz.isAgg0
  z0 := Tryz.sizeOf0
  v0 := Tryz.zeroValue0
  t3 := Tryz.underlying3
  a3 := Tryz.isAgg3
  z3 := Tryz.sizeOf3
  v3 := Tryz.zeroValue3
  t4 := Tryz.underlying4
  a4 := Tryz.isAgg4
  z4 := Tryz.sizeOf4
  v4 := Tryz.zeroValue4
  t22 := Tryz.underlying45
  a22 := Tryz.isAgg45
  z22 := Tryz.sizeOf45
  v22 := Tryz.zeroValue45
  i3 := by kernel_rfl }
end Go.Proofs
namespace Go.Proofs.YtkkfjfphmlcieaaGreat
set_option maxRecDepth 4000
open Go.RowKit Go.Maps Go.Sort Go.Shelf
attribute [local go_sem ↓] Go.wp_at_zero Go.wp_at_succ
theorem qv_intsC (l : List Nat) : qv l = (l.map fun (k : Nat) => (k : Int)).map (Value.int .i64) := by
  unfold qv; rw [List.map_map]; rfl
theorem turns_putRow {w : World} {g q : Nat} {d : Array Int} : Turns (fun k => k = g) w (putRow (Value.int .i64) (Sort.ahead w q) g 0 d) :=
  ⟨rfl, rfl, rfl, by simp [putRow, mapBlock, Sort.ahead], fun k _ hk => by simp [putRow, mapBlock, Sort.ahead, Array.getElem?_modify, show g ≠ k from fun e => hk e.symm]⟩
theorem del_own {w : World} {base : Nat} {so : Option Addr} {sc i : Nat} {l : List Nat} (h : w.ownsRow base 3 1 (.slice so l.length sc) l.length (qv l)) (hi : i < l.length) (hl : l.length ≤ 1000000) :
    Calls Tryz.prog 55 #[.slice so l.length sc, .int .i64 (i : Int), .int .i64 ((i + 1 : Nat) : Int)] w fun e w' => e = .returned (.slice so (l.eraseIdx i).length sc) ∧ w'.ownsRow base 3 1 (.slice so (l.eraseIdx i).length sc) (l.eraseIdx i).length (qv (l.eraseIdx i)) ∧ Turns (fun k => some k = (Value.slice so l.length sc).ownBlock) w w' := by
  rw [qv_intsC] at h
  have hne : Value.slice so l.length sc ≠ .slice none 0 0 := fun e => by
    injection e with _ e2 _
    omega
  obtain ⟨g, cap, hv, hbg, hg, hn, hm, hl2, hH⟩ := Lib.holds_of_ownsRow h hne
  injection hv with e1 _ e3
  subst e1; subst e3
  have hc := Any.slices_Delete_int Tryz.del40 g 0 sc i (i + 1) (l.map fun (k : Nat) => (k : Int)) w hH (by simpa using hn) (by unfold maxLen at hm; omega) (by omega) (by simp; omega)
  rw [List.length_map] at hc
  refine Calls.mono hc ?_
  rintro e w' ⟨rfl, q, rfl⟩
  have hle : (l.eraseIdx i).length = l.length - 1 := by rw [List.length_eraseIdx]; simp [hi]
  have hd : l.eraseIdx i = l.take i ++ l.drop (i + 1) := List.eraseIdx_eq_take_drop_succ ..
  have ho := Lib.ownsRow_putRow (enc := Value.int .i64) (q := q) (k := l.length - 1) (ys := (l.map fun (k : Nat) => (k : Int)).take i ++ (l.map fun (k : Nat) => (k : Int)).drop (i + 1) ++ List.replicate (i + 1 - i) 0) h (by simp; omega) (by omega)
  have ht : (((l.map fun (k : Nat) => (k : Int)).take i ++ (l.map fun (k : Nat) => (k : Int)).drop (i + 1) ++ List.replicate (i + 1 - i) 0).take (l.length - 1)) = (l.eraseIdx i).map fun (k : Nat) => (k : Int) := by
    rw [List.take_append_of_le_length (by simp; omega), List.take_of_length_le (by simp; omega), hd, List.map_append, List.map_take, List.map_drop]
  rw [ht, ← qv_intsC, ← hle] at ho
  refine ⟨?_, ho, turns_putRow.mono (fun k _ e => by subst e; rfl)⟩
  rw [hle]
  have : l.length - (i + 1 - i) = l.length - 1 := by omega
  rw [this]
/-- What IndexFunc answers: the first place with f, or -1. -/
def IdxF (l : List Nat) (f : Nat → Bool) (m : Int) : Prop := (m = -1 ∧ ∀ x ∈ l, f x = false) ∨ ∃ j : Nat, m = j ∧ j < l.length ∧ f (l.getD j 0) = true
set_option maxHeartbeats 1000000 in
theorem indexB_call {w : World} {vo : Option Addr} {vc : Nat} {l : List Nat} (hrow : NumsAt w vo l) (hl : l.length ≤ 1000) (F : FuncId) (caps : Array Value) (hF : ∀ args w', (callFunc F args).run Tryz.prog w' = .ok (.enter F args) w')
    (f : Nat → Bool) (hf : ∀ W, Below w.heap.size w W → ∀ x, x ∈ l → Calls Tryz.prog F (#[.int .i64 (x : Int)] ++ caps) W fun e w'' => e = .returned (.bool (f x)) ∧ Below W.heap.size W w'') :
    Calls Tryz.prog 52 #[.slice vo l.length vc, .func (.func F) #[] caps] w fun e w' => (∃ m, e = .returned (.int .i64 m) ∧ IdxF l f m) ∧ Below w.heap.size w w' := by
  have HF : Hid (∀ W, Below w.heap.size w W → ∀ x, x ∈ l → Calls Tryz.prog F (#[.int .i64 (x : Int)] ++ caps) W fun e w'' => e = .returned (.bool (f x)) ∧ Below W.heap.size W w'') := hf
  have HR : Hid (NumsAt w vo l) := hrow
  clear hf hrow
  go_enter Tryz.func52, Tryz.ntmps52
  go_wp2
  go_loopw [8] (fun i wr => ∃ j : Nat, j ≤ l.length ∧ i = .int .i64 (j : Int) ∧ (∀ i, i < j → f (l.getD i 0) = false) ∧ Below w.heap.size w wr) (fun i _ => l.length - (numOf i).toNat)
  case atStart => exact ⟨0, Nat.zero_le _, rfl, fun i hi => by omega, Below.refl _ _⟩
  case round =>
    obtain ⟨j, hj, rfl, hno, hB⟩ := hrel
    have HNO : Hid (∀ i, i < j → f (l.getD i 0) = false) := hno
    clear hno
    by_cases hlt : j < l.length
    · obtain ⟨x, hx⟩ : ∃ x, x = l.getD j 0 := ⟨_, rfl⟩
      have hget : l[j]? = some x := by rw [hx]; simp [List.getD, List.getElem?_eq_getElem hlt]
      obtain ⟨b, e, cx⟩ := (HR.out.below hB) j x hget
      subst e
      have hcall := HF.out wr hB x (List.mem_of_getElem? hget)
      have i1 : (0 : Int) ≤ (j : Int) := by omega
      have i2 : (j : Int) < (l.length : Int) := by omega
      obtain ⟨fx, hfx⟩ : ∃ fx, fx = f x := ⟨_, rfl⟩
      rw [← hfx] at hcall
      have HFX : Hid (fx = f (l.getD j 0)) := by show fx = _; rw [hfx, hx]
      clear hfx hx hget
      have HC : Hid (Calls Tryz.prog F (#[.int .i64 (x : Int)] ++ caps) wr fun e w'' => e = .returned (.bool fx) ∧ Below wr.heap.size wr w'') := hcall
      clear hcall
      cases fx with
      | true =>
        go_wp2_with (first | (refine Calls.mono HC.out ?_; rintro r wa ⟨rfl, hba⟩) | go_in)
        go_ret
        exact ⟨⟨(j : Int), rfl, Or.inr ⟨j, rfl, hlt, HFX.out.symm⟩⟩, below_next hB hba⟩
      | false =>
        go_wp2_with (first | (refine Calls.mono HC.out ?_; rintro r wa ⟨rfl, hba⟩) | go_in)
        go_roundw
        case rel => exact ⟨j + 1, by omega, by go_num, fun i hi => by
          by_cases e : i = j
          · subst e; exact HFX.out.symm
          · exact HNO.out i (by omega), below_next hB hba⟩
        case measure => simp [numOf]; omega
    · have i2 : ¬ (j : Int) < (l.length : Int) := by omega
      have hje : j = l.length := by omega
      go_wp2
      go_ret
      exact ⟨⟨-1, rfl, Or.inl ⟨rfl, fun x hx => by
        obtain ⟨i, hi, rfl⟩ := List.getElem_of_mem hx
        have := HNO.out i (by omega)
        simpa [List.getD, List.getElem?_eq_getElem hi] using this⟩⟩, hB⟩
set_option maxHeartbeats 1000000 in
/-- The literal: whether the nodes near one are a clique. -/
theorem peel1_call {w : World} {ao : Option Addr} {cap N : Nat} {bl : Nat → Nat} {e : Nat → Nat → Bool} (h : NearsAt w ao N bl e) (hN : N ≤ 1000) {bn v : Nat} (cn : w.cell? ⟨bn, 0, none⟩ = some (.slice ao N cap)) (hv : v < N) :
    Calls Tryz.prog 53 #[.int .i64 (v : Int), ptr bn] w fun r w' => r = .returned (.bool (clqB N e (e v))) ∧ Below w.heap.size w w' := by
  obtain ⟨g, rfl, c1⟩ := h.row v hv
  have i1 : (0 : Int) ≤ (v : Int) := by omega
  have i2 : (v : Int) < (N : Int) := by omega
  have h38 := isClique_call (cap := cap) (h.below (drewN_below w 1)) hN ((h.below (drewN_below w 1)).sets v hv)
  obtain ⟨b, hb⟩ : ∃ b, b = clqB N e (e v) := ⟨_, rfl⟩
  rw [← hb] at h38 ⊢
  have H38 : Hid (Calls Tryz.prog 54 #[.slice (some ⟨g, 0, none⟩) N cap, .map (some (bl v))] (w.drewN 1) fun r w' => r = .returned (.bool b) ∧ Below (w.drewN 1).heap.size (w.drewN 1) w') := h38
  clear h h38 hb
  go_enter Tryz.func53, Tryz.ntmps53
  go_upto_region 1 with (fail)
  go_region_with (first | (go_at_call 54; refine Calls.mono H38.out ?_; rintro e' w9 ⟨rfl, hB9⟩))
  all_goals
    go_wp2
    go_ret
    exact ⟨rfl, below_next (drewN_below w 1) hB9⟩
end Go.Proofs.YtkkfjfphmlcieaaGreat
