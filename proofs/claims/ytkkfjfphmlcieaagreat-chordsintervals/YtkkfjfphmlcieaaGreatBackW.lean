/- goBack, and the literals of findHole. -/
import Derived.Test.YtkkfjfphmlcieaaGreatPartC
import Derived.Test.YtkkfjfphmlcieaaGreatHoleMN
namespace Go.Proofs.YtkkfjfphmlcieaaGreat
set_option maxRecDepth 4000
open Go.RowKit Go.Maps
attribute [local go_sem ↓] Go.wp_at_zero Go.wp_at_succ
def iv (f : Nat → Int) : Nat → Value := fun i => .int .i64 (f i)
def lenS : Value → Nat
  | .slice _ n _ => n
  | _ => 0
set_option maxHeartbeats 2000000 in
theorem goBack_call {w : World} {gb N v : Nat} {bk : Nat → Int} {W : List Nat} (hrow : RowV w gb 3 N (iv bk)) (hW : Chain bk v W) (hlt : ∀ x ∈ W, x < N) (hl : W.length ≤ 2000) :
    Calls Tryz.prog 77 #[sl gb N, .int .i64 (v : Int)] w fun r w' => ∃ po pc, r = .returned (.slice po W.length pc) ∧ w'.ownsRow w.heap.size 3 1 (.slice po W.length pc) W.length (qv W) ∧ Below w.heap.size w w' := by
  have HR : Hid (RowV w gb 3 N (iv bk)) := hrow
  have HLT : Hid (∀ x ∈ W, x < N) := hlt
  have HW : Hid (Chain bk v W) := hW
  clear hrow hlt hW
  go_enter Tryz.func77, Tryz.ntmps77
  go_wp2
  go_loopw [1, 5] (fun sv sq wr => ∃ (z : Nat) (A B : List Nat) (po : Option Addr) (pc : Nat), sv = .int .i64 (z : Int) ∧ sq = .slice po (A ++ [z]).length pc ∧ W = A ++ B ∧ Chain bk z B ∧ wr.ownsRow w.heap.size 3 1 (.slice po (A ++ [z]).length pc) (A ++ [z]).length (qv (A ++ [z])) ∧ Below w.heap.size w wr) (fun _ sq _ => W.length - lenS sq)
  case atStart => exact ⟨v, [], W, _, _, rfl, rfl, rfl, HW.out, ownsRow_one w _ _ 3 (Nat.le_refl _), below_alloc (Below.refl _ w) _⟩
  case round =>
    obtain ⟨z, A, B, po, pc, rfl, rfl, hAB, hch, hown, hB⟩ := hrel
    clear HW
    have hzW : z ∈ W := by
      obtain ⟨l, e⟩ := chain_head hch
      rw [hAB, e]; simp
    have hzN := HLT.out z hzW
    have i1 : (0 : Int) ≤ (z : Int) := by omega
    have i2 : (z : Int) < (N : Int) := by omega
    have cz : wr.cell? ⟨gb, z, none⟩ = some (.int .i64 (bk z)) := (HR.out.block (hB.block _ HR.out.lt)).cell hzN
    cases hch with
    | one h1 =>
      rw [h1] at cz
      have HO : Hid (wr.ownsRow w.heap.size 3 1 (.slice po (A ++ [z]).length pc) (A ++ [z]).length (qv (A ++ [z]))) := hown
      have HAB : Hid (W = A ++ [z]) := hAB
      clear hown hAB
      go_wp2
      go_ret
      exact ⟨po, pc, by rw [HAB.out]; rfl, by rw [HAB.out]; exact HO.out, hB⟩
    | @cons _ p l h1 h2 h3 =>
      rw [h1] at cz
      have k1 : ((p : Int) != (z : Int)) = true := by simp; omega
      have HO : Hid (wr.ownsRow w.heap.size 3 1 (.slice po (A ++ [z]).length pc) (A ++ [z]).length (qv (A ++ [z]))) := hown
      have HAB : Hid (W = A ++ z :: l) := hAB
      have HCH : Hid (Chain bk p l) := h3
      have hAl : (A ++ [z]).length ≤ 2000 := by
        have := congrArg List.length HAB.out
        simp at this ⊢
        omega
      have hsz := hB.size
      clear hown hAB h1 h2 h3
      go_wp2_with (first | (at_builtin; refine wpList_pushA (x := p) rfl _ _ rfl rfl rfl HO.out (by omega) hsz ?_; intro g1 c1 w2 hown1 hgr1 hat1) | go_in)
      have T1 := (alloc_turns wr (Obj.cells #[.int .i64 (p : Int)] 3) (fun x => some x = (Value.slice po (A ++ [z]).length pc).ownBlock)).trans (Turns.of_grown hgr1)
      have hB1 : Below w.heap.size w w2 := Turns.below hB T1 hsz (fun x hx => (HO.out.lt x hx.symm).1)
      go_roundw
      case rel => exact ⟨p, A ++ [z], l, some ⟨g1, 0, none⟩, c1, rfl, by simp, by rw [HAB.out]; simp, HCH.out, by simpa using hown1, hB1⟩
      case measure =>
        have := congrArg List.length HAB.out
        obtain ⟨l', e⟩ := chain_head HCH.out
        rw [e] at this
        simp [lenS] at this ⊢
        omega
set_option maxHeartbeats 800000 in
/-- far: not v, and not near it. -/
theorem far_call {w : World} {ao : Option Addr} {cap N : Nat} {bl : Nat → Nat} {e : Nat → Nat → Bool} (h : NearsAt w ao N bl e) (hN : N ≤ 1000) {bv bn v u : Nat} (cv : w.cell? ⟨bv, 0, none⟩ = some (.int .i64 (v : Int))) (cn : w.cell? ⟨bn, 0, none⟩ = some (.slice ao N cap)) (hv : v < N) (hu : u < N) :
    Calls Tryz.prog 56 #[.int .i64 (u : Int), ptr bv, ptr bn] w fun r w' => r = .returned (.bool (u != v && !e v u)) ∧ Below w.heap.size w w' := by
  obtain ⟨g, rfl, c1⟩ := h.row v hv
  have i1 : (0 : Int) ≤ (v : Int) := by omega
  have i2 : (v : Int) < (N : Int) := by omega
  have h42 := has_call (h.sets v hv) (show N ≤ 1000000 by omega) hu
  by_cases huv : u = v
  · have k1 : ((u : Int) != (v : Int)) = false := by simp [huv]
    have e1 : (u != v && !e v u) = false := by simp [huv]
    rw [e1]
    clear huv h42 e1
    go_enter Tryz.func56, Tryz.ntmps56
    go_wp2
    go_ret
    exact ⟨rfl, Below.refl _ _⟩
  · have k1 : ((u : Int) != (v : Int)) = true := by simp; omega
    have e1 : (u != v && !e v u) = !e v u := by simp [huv]
    rw [e1]
    obtain ⟨b, hb⟩ : ∃ b, b = e v u := ⟨_, rfl⟩
    rw [← hb] at h42 ⊢
    have H42 : Hid (Calls Tryz.prog 42 #[.map (some (bl v)), .int .i64 (u : Int)] w fun e w' => e = .returned (.bool b) ∧ Below w.heap.size w w') := h42
    clear huv h42 e1 hb
    go_enter Tryz.func56, Tryz.ntmps56
    go_wp2_with (first | (go_at_call 42; refine Calls.mono H42.out ?_; rintro e' w9 ⟨rfl, hB9⟩) | go_in)
    go_ret
    exact ⟨rfl, hB9⟩
set_option maxHeartbeats 800000 in
/-- last: near v, and not near a. -/
theorem last_call {w : World} {ao : Option Addr} {cap N : Nat} {bl : Nat → Nat} {e : Nat → Nat → Bool} (h : NearsAt w ao N bl e) (hN : N ≤ 1000) {bv bn ba v a u : Nat} (cn : w.cell? ⟨bn, 0, none⟩ = some (.slice ao N cap)) (cv : w.cell? ⟨bv, 0, none⟩ = some (.int .i64 (v : Int))) (ca : w.cell? ⟨ba, 0, none⟩ = some (.int .i64 (a : Int))) (hv : v < N) (ha : a < N) (hu : u < N) :
    Calls Tryz.prog 57 #[.int .i64 (u : Int), ptr bn, ptr bv, ptr ba] w fun r w' => r = .returned (.bool (e v u && !e a u)) ∧ Below w.heap.size w w' := by
  have hN6 : N ≤ 1000000 := by omega
  obtain ⟨g, rfl, c1⟩ := h.row v hv
  have i1 : (0 : Int) ≤ (v : Int) := by omega
  have i2 : (v : Int) < (N : Int) := by omega
  have j1 : (0 : Int) ≤ (a : Int) := by omega
  have j2 : (a : Int) < (N : Int) := by omega
  have h42 := has_call (h.sets v hv) hN6 hu
  have H : Hid (∀ w', Below w.heap.size w w' → w'.cell? ⟨bn, 0, none⟩ = some (.slice (some ⟨g, 0, none⟩) N cap) ∧ w'.cell? ⟨ba, 0, none⟩ = some (.int .i64 (a : Int)) ∧ w'.cell? ⟨g, a, none⟩ = some (.map (some (bl a))) ∧ Calls Tryz.prog 42 #[.map (some (bl a)), .int .i64 (u : Int)] w' fun r w'' => r = .returned (.bool (e a u)) ∧ Below w'.heap.size w' w'') := fun w' hb => by
    obtain ⟨g', e', c2⟩ := (h.below hb).row a ha
    cases e'
    exact ⟨(hb.cell (World.block_lt_of_cell? _ _ cn)).trans cn, (hb.cell (World.block_lt_of_cell? _ _ ca)).trans ca, c2, has_call ((h.below hb).sets a ha) hN6 hu⟩
  cases hb : e v u with
  | false =>
    rw [hb] at h42
    have H42 : Hid (Calls Tryz.prog 42 #[.map (some (bl v)), .int .i64 (u : Int)] w fun e w' => e = .returned (.bool false) ∧ Below w.heap.size w w') := h42
    clear h42 h H
    go_enter Tryz.func57, Tryz.ntmps57
    go_wp2_with (first | (go_at_call 42; refine Calls.mono H42.out ?_; rintro e' w9 ⟨rfl, hB9⟩) | go_in)
    go_ret
    exact ⟨rfl, hB9⟩
  | true =>
    rw [hb] at h42
    obtain ⟨b, hb2⟩ : ∃ b, b = e a u := ⟨_, rfl⟩
    rw [← hb2] at H ⊢
    have H42 : Hid (Calls Tryz.prog 42 #[.map (some (bl v)), .int .i64 (u : Int)] w fun e w' => e = .returned (.bool true) ∧ Below w.heap.size w w') := h42
    clear h42 h hb2
    have e1 : (true && !b) = !b := by simp
    rw [e1]
    clear e1
    go_enter Tryz.func57, Tryz.ntmps57
    go_wp2_with (first | (go_at_call 42; refine Calls.mono d4.out ?_; rintro e' wx ⟨rfl, hBx⟩) | (go_at_call 42; refine Calls.mono H42.out ?_; rintro e' w9 ⟨rfl, hB9⟩; obtain ⟨d1, d2, d3, d4'⟩ := H.out w9 hB9; have d4 : Hid (Calls Tryz.prog 42 #[.map (some (bl a)), .int .i64 (u : Int)] w9 fun r w'' => r = .returned (.bool b) ∧ Below w9.heap.size w9 w'') := d4'; clear c1 cn cv ca d4' H42) | go_in)
    go_ret
    exact ⟨rfl, below_next hB9 hBx⟩
end Go.Proofs.YtkkfjfphmlcieaaGreat
