/- timesXLess and sumOfFalling. -/
import Derived.Test.YtdnmoifbkojnlaaDoorColg
namespace Go.Proofs.YtdnmoifbkojnlaaDoor
open Go.RowKit Go.Maps
attribute [local go_sem ↓] Go.wp_at_zero Go.wp_at_succ

abbrev Wr (x : Int) : Int := IntKind.i64.wrap x
/-- p times x - k, of the first m coefficients of p. -/
def txl (p : Nat → Int) (k : Nat) : Nat → Nat → Int
  | 0 => fun _ => 0
  | m + 1 => fun j => if j = m then Wr (txl p k m m - Wr ((k : Int) * p m)) else if j = m + 1 then Wr (txl p k m (m + 1) + p m) else txl p k m j
set_option maxRecDepth 4000 in
set_option maxHeartbeats 1000000 in
theorem txl_call {w : World} {b m k : Nat} {p : Nat → Int} (hr : RowV w b 3 m (iv p)) (hm : m ≤ 100) :
    Calls Tryd.prog 37 #[sl b m, .int .i64 (k : Int)] w fun e w' => ∃ g, e = .returned (sl g (m + 1)) ∧ w.heap.size ≤ g ∧ RowV w' g 3 (m + 1) (iv (txl p k m)) ∧ Below w.heap.size w w' := by
  have HR : Hid (RowV w b 3 m (iv p)) := hr
  have hmk := make29 (m + 1) (by omega)
  obtain ⟨m1, hm1⟩ : ∃ m1, m1 = m + 1 := ⟨_, rfl⟩
  have HM1 : Hid (m1 = m + 1) := hm1
  have k0 : IntKind.i64.wrap ((m : Int) + 1) = (m1 : Int) := by rw [IntKind.wrap_i64]; omega
  rw [← hm1] at hmk ⊢
  have hm2 : m < m1 := by omega
  have hm3 : m1 ≤ 101 := by omega
  clear hr hm1
  go_enter Tryd.func37, Tryd.ntmps37
  go_upto_region 2 with (fail)
  have hB0 := below_alloc (Below.refl _ w) (Obj.cells (rep m1 (.int .i64 0)) 3)
  have hr0 : RowV (w.alloc (Obj.cells (rep m1 (.int .i64 0)) 3)) w.heap.size 3 m1 (fun _ => .int .i64 0) := rowV_rep (heap_alloc_new _ _)
  obtain ⟨g, hg⟩ : ∃ g, g = w.heap.size := ⟨_, rfl⟩
  have hbg : b ≠ g := by have := HR.out.lt; omega
  rw [← hg] at hr0
  rw [← hg]
  have hgl : w.heap.size ≤ g := by omega
  have hrb := rowV_next HR.out hB0
  generalize w.alloc (Obj.cells (rep m1 (.int .i64 0)) 3) = W0 at hB0 hr0 hrb ⊢
  have HR0 : Hid (RowV W0 g 3 m1 (fun _ => .int .i64 0)) := hr0
  have HRB : Hid (RowV W0 b 3 m (iv p)) := hrb
  clear hg hmk hr0 hrb
  go_wp2
  go_loopw [14] (fun i wr => ∃ q : Nat, q ≤ m ∧ i = .int .i64 (q : Int) ∧ RowV wr g 3 m1 (iv (txl p k q)) ∧ Turns (fun x => x = g) W0 wr) (fun i _ => m - (numOf i).toNat)
  case atStart => exact ⟨0, by omega, rfl, HR0.out, Turns.refl _ _⟩
  case round =>
    clear HR0
    obtain ⟨q, hq, rfl, hrow, ht⟩ := hrel
    by_cases hlt : q < m
    · have i1 : (0 : Int) ≤ (q : Int) := by omega
      have i2 : (q : Int) < (m : Int) := by omega
      have i3 : (q : Int) + 1 < (m1 : Int) := by omega
      have i4 : (q : Int) < (m1 : Int) := by omega
      have i5 : (0 : Int) ≤ (q : Int) + 1 := by omega
      have i6 : ((q : Int) + 1).toNat = q + 1 := by omega
      have i7 : IntKind.i64.wrap ((q : Int) + 1) = (q : Int) + 1 := by rw [IntKind.wrap_i64]; omega
      have cp := (HRB.out.turns ht hbg).cell hlt
      have c1 := hrow.cell (j := q + 1) (by omega)
      have c2 := hrow.cell (j := q) (by omega)
      have f1 := hrow.free (q + 1)
      have f2 := hrow.free q
      unfold iv at cp c1 c2
      obtain ⟨x, hx⟩ : ∃ x, x = p q := ⟨_, rfl⟩
      obtain ⟨y1, hy1⟩ : ∃ y, y = txl p k q (q + 1) := ⟨_, rfl⟩
      obtain ⟨y2, hy2⟩ : ∃ y, y = txl p k q q := ⟨_, rfl⟩
      rw [← hx] at cp
      rw [← hy1] at c1
      rw [← hy2] at c2
      obtain ⟨z1, hz1⟩ : ∃ z, IntKind.i64.wrap (y1 + x) = z := ⟨_, rfl⟩
      obtain ⟨z3, hz3⟩ : ∃ z, IntKind.i64.wrap ((k : Int) * x) = z := ⟨_, rfl⟩
      obtain ⟨z2, hz2⟩ : ∃ z, IntKind.i64.wrap (y2 - z3) = z := ⟨_, rfl⟩
      have hr2 := ((hrow.set (q + 1) (.int .i64 z1)).set q (.int .i64 z2)).congr (g := iv (txl p k (q + 1))) (fun j hj => by
        unfold iv
        show _ = Value.int .i64 (if j = q then Wr (txl p k q q - Wr ((k : Int) * p q)) else if j = q + 1 then Wr (txl p k q (q + 1) + p q) else txl p k q j)
        rw [← hx, ← hy1, ← hy2]
        unfold Wr
        rw [hz3, hz2, hz1]
        by_cases e1 : j = q
        · subst e1; simp
        · by_cases e2 : j = q + 1
          · subst e2; simp
          · simp [e1, e2])
      have HR2 : Hid (RowV ((wr.setCell ⟨g, q + 1, none⟩ (.int .i64 z1)).setCell ⟨g, q, none⟩ (.int .i64 z2)) g 3 m1 (iv (txl p k (q + 1)))) := hr2
      have ht2 : Turns (fun x => x = g) W0 ((wr.setCell ⟨g, q + 1, none⟩ (.int .i64 z1)).setCell ⟨g, q, none⟩ (.int .i64 z2)) := (ht.trans (setCell_turns wr g (q + 1) _)).trans (setCell_turns _ g q _)
      have c2' := ((hrow.set (q + 1) (.int .i64 z1)).cell (j := q) (by omega))
      have hne : ¬ q = q + 1 := by omega
      rw [if_neg hne] at c2'
      unfold iv at c2'
      rw [← hy2] at c2'
      have f2' := (hrow.set (q + 1) (.int .i64 z1)).free q
      clear hrow hx hy1 hy2 hr2
      go_upto_region 6 with (fail)
      clear c1 c2 f1 f2
      generalize wr.setCell ⟨g, q + 1, none⟩ (.int .i64 z1) = WA at HR2 ht2 c2' f2' ⊢
      go_wp2
      go_roundw
      case rel => exact ⟨q + 1, by omega, by go_num, HR2.out, ht2⟩
      case measure => simp [numOf]; omega
    · have i2 : ¬ (q : Int) < (m : Int) := by omega
      have hqm : q = m := by omega
      have HRZ : Hid (RowV wr g 3 m1 (iv (txl p k m))) := by rw [hqm] at hrow; exact hrow
      clear hrow hqm
      go_wp2
      go_ret
      exact ⟨g, rfl, hgl, HRZ.out, Turns.below hB0 ht hB0.size (fun x hx => by omega)⟩
/-- x (x - 1) .. (x - k + 1). -/
def fal : Nat → Nat → Int
  | 0 => fun _ => 1
  | k + 1 => txl (fal k) k (k + 1)
/-- many times f added, of the first m coefficients. -/
def addF (S : Nat → Int) (many : Int) (f : Nat → Int) : Nat → Nat → Int
  | 0 => S
  | m + 1 => fun j => if j = m then Wr (addF S many f m m + Wr (many * f m)) else addF S many f m j
def sumF (ways : Nat → Int) : Nat → Nat → Int
  | 0 => fun _ => 0
  | k + 1 => addF (sumF ways k) (ways k) (fal k) (k + 1)
set_option maxRecDepth 4000 in
set_option maxHeartbeats 2000000 in
theorem sumOfFalling_call {w : World} {b m : Nat} {ways : Nat → Int} (hr : RowV w b 3 m (iv ways)) (hm : m ≤ 44) :
    Calls Tryd.prog 30 #[sl b m] w fun e w' => ∃ g, e = .returned (sl g m) ∧ w.heap.size ≤ g ∧ RowV w' g 3 m (iv (sumF ways m)) ∧ Below w.heap.size w w' := by
  have HR : Hid (RowV w b 3 m (iv ways)) := hr
  have hmk := make29 m (by omega)
  clear hr
  go_enter Tryd.func30, Tryd.ntmps30
  go_upto_region 3 with (fail)
  have hB0 : Below w.heap.size w ((w.alloc (Obj.cells (rep m (.int .i64 0)) 3)).alloc (Obj.cells #[.int .i64 1] 3)) := below2 _ _
  have hr0 : RowV ((w.alloc (Obj.cells (rep m (.int .i64 0)) 3)).alloc (Obj.cells #[.int .i64 1] 3)) w.heap.size 3 m (fun _ => .int .i64 0) := rowV_rep (box_up (heap_alloc_new _ _) _)
  have hf0 : RowV ((w.alloc (Obj.cells (rep m (.int .i64 0)) 3)).alloc (Obj.cells #[.int .i64 1] 3)) (w.heap.size + 1) 3 1 (iv (fal 0)) := by
    have h := atk (w := w.alloc (Obj.cells (rep m (.int .i64 0)) 3)) (cs := #[.int .i64 1]) (t := 3) (b := w.heap.size + 1) (by simp)
    exact ⟨_, h, rfl, fun j hj => by
      have : j = 0 := by omega
      subst this
      rfl⟩
  obtain ⟨g, hg⟩ : ∃ g, g = w.heap.size := ⟨_, rfl⟩
  obtain ⟨gf, hgf⟩ : ∃ g, g = w.heap.size + 1 := ⟨_, rfl⟩
  have hbg : b ≠ g := by have := HR.out.lt; omega
  rw [← hg] at hr0
  rw [← hgf] at hf0
  rw [← hgf, ← hg]
  have hgl : w.heap.size ≤ g ∧ g ≠ gf := by omega
  have hrb := rowV_next HR.out hB0
  generalize ((w.alloc (Obj.cells (rep m (.int .i64 0)) 3)).alloc (Obj.cells #[.int .i64 1] 3)) = W0 at hB0 hr0 hrb hf0 ⊢
  have HR0 : Hid (RowV W0 g 3 m (fun _ => .int .i64 0)) := hr0
  have HF0 : Hid (RowV W0 gf 3 1 (iv (fal 0))) := hf0
  have HRB : Hid (RowV W0 b 3 m (iv ways)) := hrb
  have hg0 := hr0.lt
  clear hg hgf hmk hr0 hrb hf0
  go_wp2
  go_loopw [4, 15] (fun fv i wr => ∃ q : Nat, q ≤ m ∧ i = .int .i64 (q : Int) ∧ (∃ gf, fv = sl gf (q + 1) ∧ g ≠ gf ∧ RowV wr gf 3 (q + 1) (iv (fal q))) ∧ RowV wr g 3 m (iv (sumF ways q)) ∧ Turns (fun x => x = g) W0 wr) (fun _ i _ => m - (numOf i).toNat)
  case atStart => exact ⟨0, by omega, rfl, ⟨gf, rfl, hgl.2, HF0.out⟩, HR0.out, Turns.refl _ _⟩
  case round =>
    clear HR0 HF0
    obtain ⟨q, hq, rfl, ⟨gf, rfl, hgf, hrf⟩, hrow, ht⟩ := hrel
    by_cases hlt : q < m
    · have i1 : (0 : Int) ≤ (q : Int) := by omega
      have i2 : (q : Int) < (m : Int) := by omega
      have cp := (HRB.out.turns ht hbg).cell hlt
      unfold iv at cp
      obtain ⟨x, hx⟩ : ∃ x, x = ways q := ⟨_, rfl⟩
      rw [← hx] at cp
      obtain ⟨q1, hq1⟩ : ∃ q1, q1 = q + 1 := ⟨_, rfl⟩
      rw [← hq1] at hrf ⊢
      have HQ1 : Hid (q1 = q + 1) := hq1
      have hq2 : q1 ≤ m := by omega
      have HRF : Hid (RowV wr gf 3 q1 (iv (fal q))) := hrf
      have HX : Hid (x = ways q) := hx
      have HRW : Hid (RowV wr g 3 m (iv (sumF ways q))) := hrow
      clear hrf hx hrow hq1
      go_upto_region 6 with (fail)
      go_wp2
      clear cp
      generalize hwo : wr = WO at HRF HRW ht ⊢
      clear hwo
      go_loopw [22] (fun i wr => ∃ z : Nat, z ≤ q1 ∧ i = .int .i64 (z : Int) ∧ RowV wr g 3 m (iv (addF (sumF ways q) x (fal q) z)) ∧ Turns (fun x => x = g) WO wr) (fun i _ => q1 - (numOf i).toNat)
      case atStart => exact ⟨0, Nat.zero_le _, rfl, HRW.out, Turns.refl _ _⟩
      case round =>
        clear HRW
        obtain ⟨z, hz, rfl, hrow, ht2⟩ := hrel
        by_cases hltz : z < q1
        · have j1 : (0 : Int) ≤ (z : Int) := by omega
          have j2 : (z : Int) < (q1 : Int) := by omega
          have j3 : (z : Int) < (m : Int) := by omega
          have cf := (HRF.out.turns ht2 (fun e => hgf e.symm)).cell hltz
          have c2 := hrow.cell (j := z) (by omega)
          have f2 := hrow.free z
          unfold iv at cf c2
          obtain ⟨y, hy⟩ : ∃ y, y = fal q z := ⟨_, rfl⟩
          obtain ⟨y2, hy2⟩ : ∃ y, y = addF (sumF ways q) x (fal q) z z := ⟨_, rfl⟩
          rw [← hy] at cf
          rw [← hy2] at c2
          obtain ⟨z3, hz3⟩ : ∃ z, IntKind.i64.wrap (x * y) = z := ⟨_, rfl⟩
          obtain ⟨z2, hz2⟩ : ∃ z, IntKind.i64.wrap (y2 + z3) = z := ⟨_, rfl⟩
          have HR2 : Hid (RowV (wr.setCell ⟨g, z, none⟩ (.int .i64 z2)) g 3 m (iv (addF (sumF ways q) x (fal q) (z + 1)))) := (hrow.set z (.int .i64 z2)).congr (fun j _ => by
            unfold iv
            show _ = Value.int .i64 (if j = z then Wr (addF (sumF ways q) x (fal q) z z + Wr (x * fal q z)) else addF (sumF ways q) x (fal q) z j)
            rw [← hy, ← hy2]
            unfold Wr
            rw [hz3, hz2]
            by_cases e1 : j = z
            · subst e1; simp
            · simp [e1])
          have ht3 := ht2.trans (setCell_turns wr g z (.int .i64 z2))
          clear hrow hy hy2
          go_wp2
          go_roundw
          case rel => exact ⟨z + 1, by omega, by go_num, HR2.out, ht3⟩
          case measure => simp [numOf]; omega
        · have j2 : ¬ (z : Int) < (q1 : Int) := by omega
          have hzq : z = q1 := by omega
          have HR2 : Hid (RowV wr g 3 m (iv (sumF ways (q + 1)))) := by
            rw [hzq] at hrow
            show RowV wr g 3 m (iv (addF (sumF ways q) (ways q) (fal q) (q + 1)))
            rw [← HX.out, ← HQ1.out]; exact hrow
          have h44 := txl_call (k := q) (HRF.out.turns ht2 (fun e => hgf e.symm)) (by omega)
          have H44 : Hid (Calls Tryd.prog 37 #[sl gf q1, .int .i64 (q : Int)] wr fun e w' => ∃ g, e = .returned (sl g (q1 + 1)) ∧ wr.heap.size ≤ g ∧ RowV w' g 3 (q1 + 1) (iv (txl (fal q) q q1)) ∧ Below wr.heap.size wr w') := h44
          have hTT := ht.trans ht2
          clear hrow h44 hzq
          go_wp2_with (first | (go_at_call 37; refine Calls.mono H44.out ?_; rintro e W5 ⟨g5, rfl, hg5, hr5, hb5⟩) | go_in)
          have HR5 : Hid (RowV W5 g5 3 (q1 + 1) (iv (fal (q + 1)))) := by
            show RowV W5 g5 3 (q1 + 1) (iv (txl (fal q) q (q + 1)))
            rw [← HQ1.out]; exact hr5
          have hgl5 := HR2.out.lt
          have hR6 := rowV_next HR2.out hb5
          have HR6 : Hid (RowV W5 g 3 m (iv (sumF ways (q + 1)))) := hR6
          clear hr5 hR6
          go_roundw
          case rel => exact ⟨q + 1, by omega, by go_num, ⟨g5, by rw [HQ1.out], by omega, by have := HR5.out; rwa [HQ1.out] at this⟩, HR6.out, hTT.trans (Turns.of_below hb5 _)⟩
          case measure => simp [numOf]; omega
    · have i2 : ¬ (q : Int) < (m : Int) := by omega
      have hqm : q = m := by omega
      have HRZ : Hid (RowV wr g 3 m (iv (sumF ways m))) := by rw [hqm] at hrow; exact hrow
      clear hrow hqm hrf
      go_wp2
      go_ret
      exact ⟨g, rfl, hgl.1, HRZ.out, Turns.below hB0 ht hB0.size (fun x hx => by omega)⟩
end Go.Proofs.YtdnmoifbkojnlaaDoor
