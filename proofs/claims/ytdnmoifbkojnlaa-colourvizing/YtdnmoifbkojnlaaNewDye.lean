/- newDye: no edge has a colour yet. -/
import Derived.Test.YtdnmoifbkojnlaaFanW
import Derived.Test.YtdnmoifbkojnlaaRepeat
namespace Go.Proofs.Ytdnmoifbkojnlaa
open Go.RowKit Go.Maps
attribute [local go_sem ↓] Go.wp_at_zero Go.wp_at_succ

theorem make69 (N : Nat) (hN : N ≤ 1000) (w : World) : (Instr.makeSlice 69 (.int .i64 (N : Int)) (.int .i64 (N : Int))).run Try.prog w = .ok (.slice (some ⟨w.heap.size, 0, none⟩) N N) (w.alloc (.cells (rep N (.slice none 0 0)) 29)) := by
  obtain ⟨i3, hi3, hy0, hy1, hy2⟩ := info_parts Try.info29
  have hr := run_make (P := Try.prog) w 69 29 i3 (.slice none 0 0) Try.underlying69 hi3 hy0 .i64 .i64 N N (by omega) (Int.le_refl _) (by rw [hy2]; omega) (by omega)
  simpa [hy1, Value.cells] using hr
/-- The table as it grows. -/
structure Pl (w : World) (b0 t n k m : Nat) (B : Nat → Nat) : Prop where
  top : RowV w t 29 n (fun v => if v < m then sl (B v) k else .slice none 0 0)
  row : ∀ v, v < m → RowV w (B v) 3 k (fun _ => .int .i64 (-1))
  inj : ∀ v v', v < m → v' < m → B v = B v' → v = v'
  ge : ∀ v, v < m → b0 ≤ B v
theorem Pl.next {w w' : World} {b0 t n k m b : Nat} {B : Nat → Nat} (h : Pl w b0 t n k m B) (hb : w.heap.size ≤ b) (hb0 : b0 ≤ w.heap.size) (hB : Below w.heap.size w w') (hr : RowV w' b 3 k (fun _ => .int .i64 (-1))) : Pl (w'.setCell ⟨t, m, none⟩ (sl b k)) b0 t n k (m + 1) (fun v => if v = m then b else B v) := by
  have ht := h.top.lt
  have hbt : b ≠ t := by omega
  have T := setCell_turns w' t m (sl b k)
  have h1 : RowV w' t 29 n _ := h.top.block (hB.block _ ht)
  refine ⟨(h1.set m (sl b k)).congr (fun j _ => ?_), fun v hv => ?_, fun v v' hv hv' e => ?_, fun v hv => ?_⟩
  · by_cases e : j = m
    · subst e; simp
    · by_cases e2 : j < m
      · simp [e, e2, show j < m + 1 by omega]
      · simp [e, e2, show ¬ j < m + 1 by omega]
  · by_cases e : v = m
    · subst e; simp only [if_true]; exact hr.turns T (fun e => hbt e)
    · simp only [if_neg e]
      have h2 := h.row v (by omega)
      have hne : B v ≠ t := fun e => by
        obtain ⟨c1, q1, _⟩ := h2
        obtain ⟨c2, q2, _⟩ := h.top
        rw [e, q2] at q1
        simp at q1
      exact (h2.block (hB.block _ h2.lt)).turns T (fun e => hne e)
  · by_cases e1 : v = m
    · by_cases e2 : v' = m
      · rw [e1, e2]
      · exfalso
        simp only [e1, if_true, if_neg e2] at e
        have := (h.row v' (by omega)).lt
        omega
    · by_cases e2 : v' = m
      · exfalso
        simp only [e2, if_true, if_neg e1] at e
        have := (h.row v (by omega)).lt
        omega
      · simp only [if_neg e1, if_neg e2] at e
        exact h.inj v v' (by omega) (by omega) e
  · by_cases e : v = m
    · simp only [e, if_true]; omega
    · simp only [if_neg e]; exact h.ge v (by omega)
/-- What newDye leaves. -/
def NewEnd (w : World) (n k p : Nat) (w' : World) : Prop := ∃ t B, DyeAt w' p t n k B (fun _ _ => -1) ∧ (∀ v, v < n → w.heap.size ≤ B v) ∧ Below w.heap.size w w'
set_option maxRecDepth 4000 in
set_option maxHeartbeats 3000000 in
theorem newDye_call (w : World) {n k : Nat} (hn : n ≤ 1000) (hk : k ≤ 1000) :
    Calls Try.prog 35 #[.int .i64 (n : Int), .int .i64 (k : Int)] w fun e w' => ∃ p, e = .returned (ptr p) ∧ NewEnd w n k p w' := by
  have hmk := make69 n hn
  have hrep : ∀ (W : World) (g0 c0 : Nat), W.cell? ⟨g0, 0, none⟩ = some (.int .i64 (-1)) → Calls Try.prog 48 #[.slice (some ⟨g0, 0, none⟩) 1 c0, .int .i64 (k : Int)] W fun r w' => ∃ b, r = .returned (sl b k) ∧ W.heap.size ≤ b ∧ RowV w' b 3 k (fun _ => .int .i64 (-1)) ∧ Below W.heap.size W w' := fun W g0 c0 h => repeat_call h hk
  have HREP : Hid (∀ (W : World) (g0 c0 : Nat), W.cell? ⟨g0, 0, none⟩ = some (.int .i64 (-1)) → Calls Try.prog 48 #[.slice (some ⟨g0, 0, none⟩) 1 c0, .int .i64 (k : Int)] W fun r w' => ∃ b, r = .returned (sl b k) ∧ W.heap.size ≤ b ∧ RowV w' b 3 k (fun _ => .int .i64 (-1)) ∧ Below W.heap.size W w') := hrep
  clear hrep
  go_enter Try.func35, Try.ntmps35
  go_upto_region 2 with (fail)
  have e1 := heap_alloc_new w (Obj.cells (rep n (.slice none 0 0)) 29)
  have hB1 := below_alloc (Below.refl _ w) (Obj.cells (rep n (.slice none 0 0)) 29)
  have hs1 : (w.alloc (Obj.cells (rep n (.slice none 0 0)) 29)).heap.size = w.heap.size + 1 := by simp
  generalize w.alloc (Obj.cells (rep n (.slice none 0 0)) 29) = W1 at e1 hB1 hs1 ⊢
  have e2 := heap_alloc_new W1 (Obj.cells #[sl w.heap.size n] 84)
  have hB2a := below_alloc (Below.refl _ W1) (Obj.cells #[sl w.heap.size n] 84)
  have hB2 := below_alloc hB1 (Obj.cells #[sl w.heap.size n] 84)
  rw [← hs1]
  obtain ⟨t, ht⟩ : ∃ t, t = w.heap.size := ⟨_, rfl⟩
  obtain ⟨p, hp⟩ : ∃ p, p = W1.heap.size := ⟨_, rfl⟩
  rw [← ht] at e1 e2 ⊢
  rw [← hp] at e2 ⊢
  have htop0 : RowV (W1.alloc (Obj.cells #[sl t n] 84)) t 29 n (fun _ => .slice none 0 0) := (rowV_rep e1).block (Below.heap_alloc _ _ _ (lt_of_block e1))
  rw [← ht] at hB2
  generalize W1.alloc (Obj.cells #[sl t n] 84) = W2 at e2 htop0 hB2 ⊢
  have HT0 : Hid (RowV W2 t 29 n (fun _ => .slice none 0 0)) := htop0
  have HP0 : Hid (Box W2 p #[sl t n] 84) := e2
  have HB2 : Hid (Below t w W2) := hB2
  have HTW : Hid (t = w.heap.size) := ht
  have hpl := lt_of_block e2
  have c0 : W2.cell? ⟨p, 0, none⟩ = some (sl t n) := box_cell HP0.out rfl
  clear hmk e1 hB1 hB2a e2 htop0 hB2 hs1 ht hp
  go_wp2
  clear c0
  go_loopw [16] (fun i wr => ∃ (m : Nat) (B : Nat → Nat), m ≤ n ∧ i = .int .i64 (m : Int) ∧ Pl wr t t n k m B ∧ Box wr p #[sl t n] 84 ∧ Below t w wr ∧ t ≤ wr.heap.size) (fun i _ => n - (numOf i).toNat)
  case atStart => exact ⟨0, fun _ => 0, Nat.zero_le _, rfl, ⟨HT0.out.congr (fun j _ => by simp), fun v hv => by omega, fun v v' hv => by omega, fun v hv => by omega⟩, HP0.out, HB2.out, by have := HTW.out; have := HB2.out.size; omega⟩
  case round =>
    clear HT0 HP0 HB2 hpl
    obtain ⟨m, B, hm, rfl, hpl, hbx, hB, htl⟩ := hrel
    by_cases hlt : m < n
    · have HPL : Hid (Pl wr t t n k m B) := hpl
      have HBX : Hid (Box wr p #[sl t n] 84) := hbx
      have c1 : wr.cell? ⟨p, 0, none⟩ = some (sl t n) := box_cell hbx rfl
      have c2 := hpl.top.cell hlt
      have f2 := hpl.top.free m
      have c1a := all_alloc c1
      have hpl2 := lt_of_block hbx
      have htl2 := hpl.top.lt
      have i1 : (0 : Int) ≤ (m : Int) := by omega
      have i2 : (m : Int) < (n : Int) := by omega
      have hstay : ∀ W : World, Below wr.heap.size wr W → W.cell? ⟨p, 0, none⟩ = some (sl t n) ∧ W.frozen? ⟨t, m, none⟩ = false ∧ ∃ x, W.cell? ⟨t, m, none⟩ = some x := fun W hW => by
        have h1 : Box W p #[sl t n] 84 := (hW.block _ hpl2).trans HBX.out
        have h2 := HPL.out.top.block (hW.block _ htl2)
        exact ⟨box_cell h1 rfl, h2.free m, _, h2.cell hlt⟩
      have HST : Hid (∀ W : World, Below wr.heap.size wr W → W.cell? ⟨p, 0, none⟩ = some (sl t n) ∧ W.frozen? ⟨t, m, none⟩ = false ∧ ∃ x, W.cell? ⟨t, m, none⟩ = some x) := hstay
      have HB : Hid (Below t w wr) := hB
      clear hpl hbx hstay hB
      go_upto_region 5 with (fail)
      go_region_with ((go_at_call 48; refine Calls.mono (HREP.out _ _ _ (one_cell _ _ _)) ?_; rintro e Wq ⟨bq, rfl, hbq, hrq, hbq2⟩; have hBq : Below wr.heap.size wr Wq := below_next (below_alloc (Below.refl _ wr).drew _) hbq2; obtain ⟨q1, q2, qx, q3⟩ := HST.out Wq hBq; have HBQ : Hid (Below wr.heap.size wr Wq) := hBq; have HRQ : Hid (RowV Wq bq 3 k (fun _ => .int .i64 (-1))) := hrq; have hbq' : wr.heap.size ≤ bq := (by simp at hbq; omega); clear hBq hrq hbq2 hbq))
      all_goals
        have hnx := HPL.out.next (b := bq) hbq' (by omega) HBQ.out HRQ.out
        have hbn : Box (Wq.setCell ⟨t, m, none⟩ (sl bq k)) p #[sl t n] 84 := box_turns ((HBQ.out.block _ hpl2).trans HBX.out) (setCell_turns Wq t m (sl bq k)) (fun e => by
          have h1 : wr.heap[p]? = _ := HBX.out
          obtain ⟨cur, h2, _⟩ := HPL.out.top
          rw [e, h2] at h1
          simp at h1)
        have hBn : Below t w (Wq.setCell ⟨t, m, none⟩ (sl bq k)) := Turns.below (HB.out.trans (HBQ.out.mono htl)) (setCell_turns Wq t m (sl bq k)) (by have := HBQ.out.size; omega) (fun x hx => by omega)
        have hsn := hnx.top.lt
        generalize Wq.setCell ⟨t, m, none⟩ (sl bq k) = Wn at hnx hbn hBn hsn ⊢
        go_wp2
        go_roundw
        case rel => exact ⟨m + 1, _, by omega, by go_num, hnx, hbn, hBn, by omega⟩
        case measure => simp [numOf]; omega
    · have i2 : ¬ (m : Int) < (n : Int) := by omega
      have hmn : m = n := by omega
      subst hmn
      have hfin : DyeAt wr p t m k B (fun _ _ => -1) := ⟨hbx, hpl.top.congr (fun j hj => by simp [hj]), fun v hv => hpl.row v hv, hpl.inj⟩
      have hge := hpl.ge
      rw [HTW.out] at hge
      have hB' : Below w.heap.size w wr := by rw [← HTW.out]; exact hB
      have hfin2 : NewEnd w m k p wr := ⟨t, B, hfin, hge, hB'⟩
      clear hpl hbx hB hfin hge hB'
      go_wp2
      go_ret
      exact ⟨p, rfl, hfin2⟩
end Go.Proofs.Ytdnmoifbkojnlaa
