/- timesXLess and sumOfFalling. partings and Poly. Poly, and colourBegun. -/
import Derived.Test.YtdnmoifbkojnlaaGreatTri
namespace Go.Proofs.YtdnmoifbkojnlaaGreat
open Go.RowKit Go.Maps
attribute [local go_sem ↓] Go.wp_at_zero Go.wp_at_succ

abbrev Wr (x : Int) : Int := IntKind.i64.wrap x
/-- p times x - k, of the first m coefficients of p. -/
def txl (p : Nat → Int) (k : Nat) : Nat → Nat → Int
  | 0 => fun _ => 0
  | m + 1 => fun j => if j = m then Wr (txl p k m m - Wr ((k : Int) * p m)) else if j = m + 1 then Wr (txl p k m (m + 1) + p m) else txl p k m j
set_option maxRecDepth 4000 in
set_option maxHeartbeats 1000000 in
theorem txl_call {w : World} {b m k : Nat} {p : Nat → Int} (hr : RowV w b 3 m (iv p)) (hm : m ≤ 100) :
    Calls Tryz.prog 74 #[sl b m, .int .i64 (k : Int)] w fun e w' => ∃ g, e = .returned (sl g (m + 1)) ∧ w.heap.size ≤ g ∧ RowV w' g 3 (m + 1) (iv (txl p k m)) ∧ Below w.heap.size w w' := by
  have HR : Hid (RowV w b 3 m (iv p)) := hr
  have hmk := make29 (m + 1) (by omega)
  obtain ⟨m1, hm1⟩ : ∃ m1, m1 = m + 1 := ⟨_, rfl⟩
  have HM1 : Hid (m1 = m + 1) := hm1
  have k0 : IntKind.i64.wrap ((m : Int) + 1) = (m1 : Int) := by rw [IntKind.wrap_i64]; omega
  rw [← hm1] at hmk ⊢
  have hm2 : m < m1 := by omega
  have hm3 : m1 ≤ 101 := by omega
  clear hr hm1
  go_enter Tryz.func74, Tryz.ntmps74
  go_upto_region 2 with (fail)
  have hB0 := below_alloc (Below.refl _ w) (Obj.cells (rep m1 (.int .i64 0)) 3)
  have hr0 : RowV (w.alloc (Obj.cells (rep m1 (.int .i64 0)) 3)) w.heap.size 3 m1 (fun _ => .int .i64 0) := rowV_rep (heap_alloc_new _ _)
  obtain ⟨g, hg⟩ : ∃ g, g = w.heap.size := ⟨_, rfl⟩
  have hbg : b ≠ g := by have := HR.out.lt; omega
  rw [← hg] at hr0
  rw [← hg]
  have hgl : w.heap.size ≤ g := by omega
  have hrb := rowV_next HR.out hB0
  generalize w.alloc (Obj.cells (rep m1 (.int .i64 0)) 3) = W0 at hB0 hr0 hrb ⊢
  have HR0 : Hid (RowV W0 g 3 m1 (fun _ => .int .i64 0)) := hr0
  have HRB : Hid (RowV W0 b 3 m (iv p)) := hrb
  clear hg hmk hr0 hrb
  go_wp2
  go_loopw [14] (fun i wr => ∃ q : Nat, q ≤ m ∧ i = .int .i64 (q : Int) ∧ RowV wr g 3 m1 (iv (txl p k q)) ∧ Turns (fun x => x = g) W0 wr) (fun i _ => m - (numOf i).toNat)
  case atStart => exact ⟨0, by omega, rfl, HR0.out, Turns.refl _ _⟩
  case round =>
    clear HR0
    obtain ⟨q, hq, rfl, hrow, ht⟩ := hrel
    by_cases hlt : q < m
    · have i1 : (0 : Int) ≤ (q : Int) := by omega
      have i2 : (q : Int) < (m : Int) := by omega
      have i3 : (q : Int) + 1 < (m1 : Int) := by omega
      have i4 : (q : Int) < (m1 : Int) := by omega
      have i5 : (0 : Int) ≤ (q : Int) + 1 := by omega
      have i6 : ((q : Int) + 1).toNat = q + 1 := by omega
      have i7 : IntKind.i64.wrap ((q : Int) + 1) = (q : Int) + 1 := by rw [IntKind.wrap_i64]; omega
      have cp := (HRB.out.turns ht hbg).cell hlt
      have c1 := hrow.cell (j := q + 1) (by omega)
      have c2 := hrow.cell (j := q) (by omega)
      have f1 := hrow.free (q + 1)
      have f2 := hrow.free q
      unfold iv at cp c1 c2
      obtain ⟨x, hx⟩ : ∃ x, x = p q := ⟨_, rfl⟩
      obtain ⟨y1, hy1⟩ : ∃ y, y = txl p k q (q + 1) := ⟨_, rfl⟩
      obtain ⟨y2, hy2⟩ : ∃ y, y = txl p k q q := ⟨_, rfl⟩
      rw [← hx] at cp
      rw [← hy1] at c1
      rw [← hy2] at c2
      obtain ⟨z1, hz1⟩ : ∃ z, IntKind.i64.wrap (y1 + x) = z := ⟨_, rfl⟩
      obtain ⟨z3, hz3⟩ : ∃ z, IntKind.i64.wrap ((k : Int) * x) = z := ⟨_, rfl⟩
      obtain ⟨z2, hz2⟩ : ∃ z, IntKind.i64.wrap (y2 - z3) = z := ⟨_, rfl⟩
      have hr2 := ((hrow.set (q + 1) (.int .i64 z1)).set q (.int .i64 z2)).congr (g := iv (txl p k (q + 1))) (fun j hj => by
        unfold iv
        show _ = Value.int .i64 (if j = q then Wr (txl p k q q - Wr ((k : Int) * p q)) else if j = q + 1 then Wr (txl p k q (q + 1) + p q) else txl p k q j)
        rw [← hx, ← hy1, ← hy2]
        unfold Wr
        rw [hz3, hz2, hz1]
        by_cases e1 : j = q
        · subst e1; simp
        · by_cases e2 : j = q + 1
          · subst e2; simp
          · simp [e1, e2])
      have HR2 : Hid (RowV ((wr.setCell ⟨g, q + 1, none⟩ (.int .i64 z1)).setCell ⟨g, q, none⟩ (.int .i64 z2)) g 3 m1 (iv (txl p k (q + 1)))) := hr2
      have ht2 : Turns (fun x => x = g) W0 ((wr.setCell ⟨g, q + 1, none⟩ (.int .i64 z1)).setCell ⟨g, q, none⟩ (.int .i64 z2)) := (ht.trans (setCell_turns wr g (q + 1) _)).trans (setCell_turns _ g q _)
      have c2' := ((hrow.set (q + 1) (.int .i64 z1)).cell (j := q) (by omega))
      have hne : ¬ q = q + 1 := by omega
      rw [if_neg hne] at c2'
      unfold iv at c2'
      rw [← hy2] at c2'
      have f2' := (hrow.set (q + 1) (.int .i64 z1)).free q
      clear hrow hx hy1 hy2 hr2
      go_upto_region 6 with (fail)
      clear c1 c2 f1 f2
      generalize wr.setCell ⟨g, q + 1, none⟩ (.int .i64 z1) = WA at HR2 ht2 c2' f2' ⊢
      go_wp2
      go_roundw
      case rel => exact ⟨q + 1, by omega, by go_num, HR2.out, ht2⟩
      case measure => simp [numOf]; omega
    · have i2 : ¬ (q : Int) < (m : Int) := by omega
      have hqm : q = m := by omega
      have HRZ : Hid (RowV wr g 3 m1 (iv (txl p k m))) := by rw [hqm] at hrow; exact hrow
      clear hrow hqm
      go_wp2
      go_ret
      exact ⟨g, rfl, hgl, HRZ.out, Turns.below hB0 ht hB0.size (fun x hx => by omega)⟩
/-- x (x - 1) .. (x - k + 1). -/
def fal : Nat → Nat → Int
  | 0 => fun _ => 1
  | k + 1 => txl (fal k) k (k + 1)
/-- many times f added, of the first m coefficients. -/
def addF (S : Nat → Int) (many : Int) (f : Nat → Int) : Nat → Nat → Int
  | 0 => S
  | m + 1 => fun j => if j = m then Wr (addF S many f m m + Wr (many * f m)) else addF S many f m j
def sumF (ways : Nat → Int) : Nat → Nat → Int
  | 0 => fun _ => 0
  | k + 1 => addF (sumF ways k) (ways k) (fal k) (k + 1)
set_option maxRecDepth 4000 in
set_option maxHeartbeats 2000000 in
theorem sumOfFalling_call {w : World} {b m : Nat} {ways : Nat → Int} (hr : RowV w b 3 m (iv ways)) (hm : m ≤ 83) :
    Calls Tryz.prog 46 #[sl b m] w fun e w' => ∃ g, e = .returned (sl g m) ∧ w.heap.size ≤ g ∧ RowV w' g 3 m (iv (sumF ways m)) ∧ Below w.heap.size w w' := by
  have HR : Hid (RowV w b 3 m (iv ways)) := hr
  have hmk := make29 m (by omega)
  clear hr
  go_enter Tryz.func46, Tryz.ntmps46
  go_upto_region 3 with (fail)
  have hB0 : Below w.heap.size w ((w.alloc (Obj.cells (rep m (.int .i64 0)) 3)).alloc (Obj.cells #[.int .i64 1] 3)) := below2 _ _
  have hr0 : RowV ((w.alloc (Obj.cells (rep m (.int .i64 0)) 3)).alloc (Obj.cells #[.int .i64 1] 3)) w.heap.size 3 m (fun _ => .int .i64 0) := rowV_rep (box_up (heap_alloc_new _ _) _)
  have hf0 : RowV ((w.alloc (Obj.cells (rep m (.int .i64 0)) 3)).alloc (Obj.cells #[.int .i64 1] 3)) (w.heap.size + 1) 3 1 (iv (fal 0)) := by
    have h := atk (w := w.alloc (Obj.cells (rep m (.int .i64 0)) 3)) (cs := #[.int .i64 1]) (t := 3) (b := w.heap.size + 1) (by simp)
    exact ⟨_, h, rfl, fun j hj => by
      have : j = 0 := by omega
      subst this
      rfl⟩
  obtain ⟨g, hg⟩ : ∃ g, g = w.heap.size := ⟨_, rfl⟩
  obtain ⟨gf, hgf⟩ : ∃ g, g = w.heap.size + 1 := ⟨_, rfl⟩
  have hbg : b ≠ g := by have := HR.out.lt; omega
  rw [← hg] at hr0
  rw [← hgf] at hf0
  rw [← hgf, ← hg]
  have hgl : w.heap.size ≤ g ∧ g ≠ gf := by omega
  have hrb := rowV_next HR.out hB0
  generalize ((w.alloc (Obj.cells (rep m (.int .i64 0)) 3)).alloc (Obj.cells #[.int .i64 1] 3)) = W0 at hB0 hr0 hrb hf0 ⊢
  have HR0 : Hid (RowV W0 g 3 m (fun _ => .int .i64 0)) := hr0
  have HF0 : Hid (RowV W0 gf 3 1 (iv (fal 0))) := hf0
  have HRB : Hid (RowV W0 b 3 m (iv ways)) := hrb
  have hg0 := hr0.lt
  clear hg hgf hmk hr0 hrb hf0
  go_wp2
  go_loopw [4, 15] (fun fv i wr => ∃ q : Nat, q ≤ m ∧ i = .int .i64 (q : Int) ∧ (∃ gf, fv = sl gf (q + 1) ∧ g ≠ gf ∧ RowV wr gf 3 (q + 1) (iv (fal q))) ∧ RowV wr g 3 m (iv (sumF ways q)) ∧ Turns (fun x => x = g) W0 wr) (fun _ i _ => m - (numOf i).toNat)
  case atStart => exact ⟨0, by omega, rfl, ⟨gf, rfl, hgl.2, HF0.out⟩, HR0.out, Turns.refl _ _⟩
  case round =>
    clear HR0 HF0
    obtain ⟨q, hq, rfl, ⟨gf, rfl, hgf, hrf⟩, hrow, ht⟩ := hrel
    by_cases hlt : q < m
    · have i1 : (0 : Int) ≤ (q : Int) := by omega
      have i2 : (q : Int) < (m : Int) := by omega
      have cp := (HRB.out.turns ht hbg).cell hlt
      unfold iv at cp
      obtain ⟨x, hx⟩ : ∃ x, x = ways q := ⟨_, rfl⟩
      rw [← hx] at cp
      obtain ⟨q1, hq1⟩ : ∃ q1, q1 = q + 1 := ⟨_, rfl⟩
      rw [← hq1] at hrf ⊢
      have HQ1 : Hid (q1 = q + 1) := hq1
      have hq2 : q1 ≤ m := by omega
      have HRF : Hid (RowV wr gf 3 q1 (iv (fal q))) := hrf
      have HX : Hid (x = ways q) := hx
      have HRW : Hid (RowV wr g 3 m (iv (sumF ways q))) := hrow
      clear hrf hx hrow hq1
      go_upto_region 6 with (fail)
      go_wp2
      clear cp
      generalize hwo : wr = WO at HRF HRW ht ⊢
      clear hwo
      go_loopw [22] (fun i wr => ∃ z : Nat, z ≤ q1 ∧ i = .int .i64 (z : Int) ∧ RowV wr g 3 m (iv (addF (sumF ways q) x (fal q) z)) ∧ Turns (fun x => x = g) WO wr) (fun i _ => q1 - (numOf i).toNat)
      case atStart => exact ⟨0, Nat.zero_le _, rfl, HRW.out, Turns.refl _ _⟩
      case round =>
        clear HRW
        obtain ⟨z, hz, rfl, hrow, ht2⟩ := hrel
        by_cases hltz : z < q1
        · have j1 : (0 : Int) ≤ (z : Int) := by omega
          have j2 : (z : Int) < (q1 : Int) := by omega
          have j3 : (z : Int) < (m : Int) := by omega
          have cf := (HRF.out.turns ht2 (fun e => hgf e.symm)).cell hltz
          have c2 := hrow.cell (j := z) (by omega)
          have f2 := hrow.free z
          unfold iv at cf c2
          obtain ⟨y, hy⟩ : ∃ y, y = fal q z := ⟨_, rfl⟩
          obtain ⟨y2, hy2⟩ : ∃ y, y = addF (sumF ways q) x (fal q) z z := ⟨_, rfl⟩
          rw [← hy] at cf
          rw [← hy2] at c2
          obtain ⟨z3, hz3⟩ : ∃ z, IntKind.i64.wrap (x * y) = z := ⟨_, rfl⟩
          obtain ⟨z2, hz2⟩ : ∃ z, IntKind.i64.wrap (y2 + z3) = z := ⟨_, rfl⟩
          have HR2 : Hid (RowV (wr.setCell ⟨g, z, none⟩ (.int .i64 z2)) g 3 m (iv (addF (sumF ways q) x (fal q) (z + 1)))) := (hrow.set z (.int .i64 z2)).congr (fun j _ => by
            unfold iv
            show _ = Value.int .i64 (if j = z then Wr (addF (sumF ways q) x (fal q) z z + Wr (x * fal q z)) else addF (sumF ways q) x (fal q) z j)
            rw [← hy, ← hy2]
            unfold Wr
            rw [hz3, hz2]
            by_cases e1 : j = z
            · subst e1; simp
            · simp [e1])
          have ht3 := ht2.trans (setCell_turns wr g z (.int .i64 z2))
          clear hrow hy hy2
          go_wp2
          go_roundw
          case rel => exact ⟨z + 1, by omega, by go_num, HR2.out, ht3⟩
          case measure => simp [numOf]; omega
        · have j2 : ¬ (z : Int) < (q1 : Int) := by omega
          have hzq : z = q1 := by omega
          have HR2 : Hid (RowV wr g 3 m (iv (sumF ways (q + 1)))) := by
            rw [hzq] at hrow
            show RowV wr g 3 m (iv (addF (sumF ways q) (ways q) (fal q) (q + 1)))
            rw [← HX.out, ← HQ1.out]; exact hrow
          have h44 := txl_call (k := q) (HRF.out.turns ht2 (fun e => hgf e.symm)) (by omega)
          have H44 : Hid (Calls Tryz.prog 74 #[sl gf q1, .int .i64 (q : Int)] wr fun e w' => ∃ g, e = .returned (sl g (q1 + 1)) ∧ wr.heap.size ≤ g ∧ RowV w' g 3 (q1 + 1) (iv (txl (fal q) q q1)) ∧ Below wr.heap.size wr w') := h44
          have hTT := ht.trans ht2
          clear hrow h44 hzq
          go_wp2_with (first | (go_at_call 74; refine Calls.mono H44.out ?_; rintro e W5 ⟨g5, rfl, hg5, hr5, hb5⟩) | go_in)
          have HR5 : Hid (RowV W5 g5 3 (q1 + 1) (iv (fal (q + 1)))) := by
            show RowV W5 g5 3 (q1 + 1) (iv (txl (fal q) q (q + 1)))
            rw [← HQ1.out]; exact hr5
          have hgl5 := HR2.out.lt
          have hR6 := rowV_next HR2.out hb5
          have HR6 : Hid (RowV W5 g 3 m (iv (sumF ways (q + 1)))) := hR6
          clear hr5 hR6
          go_roundw
          case rel => exact ⟨q + 1, by omega, by go_num, ⟨g5, by rw [HQ1.out], by omega, by have := HR5.out; rwa [HQ1.out] at this⟩, HR6.out, hTT.trans (Turns.of_below hb5 _)⟩
          case measure => simp [numOf]; omega
    · have i2 : ¬ (q : Int) < (m : Int) := by omega
      have hqm : q = m := by omega
      have HRZ : Hid (RowV wr g 3 m (iv (sumF ways m))) := by rw [hqm] at hrow; exact hrow
      clear hrow hqm hrf
      go_wp2
      go_ret
      exact ⟨g, rfl, hgl.1, HRZ.out, Turns.below hB0 ht hB0.size (fun x hx => by omega)⟩
end Go.Proofs.YtdnmoifbkojnlaaGreat

namespace Go.Proofs.YtdnmoifbkojnlaaGreat
open Go.RowKit Go.Maps
attribute [local go_sem ↓] Go.wp_at_zero Go.wp_at_succ

theorem enter76 (args : Array Value) (w : World) : (callFunc 76 args).run Tryz.prog w = .ok (.enter 76 args) w := by
  simp [callFunc, Tryz.func76, go_sem]
  rw [if_neg (of_decide_eq_true (by kernel_rfl)), if_neg (by intro h; have : Tryz.f76.body.isSome = true := (by kernel_rfl); rw [h] at this; cases this)]
/-- One more with so many colours. -/
def stepW : List Nat → Nat → (Nat → Int) → Bool × (Nat → Int) := fun _ u s => (false, fun j => if j = u then Wr (s j + 1) else s j)
def InvW (b g n1 : Nat) (_ : Tc) (W : World) (s : Nat → Int) : Prop := Box W b #[sl g n1] 29 ∧ RowV W g 3 n1 (iv s)
set_option maxHeartbeats 1000000 in
theorem see45 {w : World} {gn n k b g : Nat} {mask : Nat → Nat} (hb : b < w.heap.size) (hg : g < w.heap.size) (hgg : g ≠ gn) (hbg : b ≠ g) : ∀ c, TcOk c w gn n k 76 #[ptr b] mask → See c stepW (InvW b g (n + 1) c) (fun x => x = g) (fun _ _ => True) := fun c hc => by
  have hge := hc.ge
  refine ⟨fun args w' => by rw [hc.F]; exact enter76 args w', fun W L used s hl hu hI hC hR => ?_, fun W W' s hI ht => ?_, fun L used s _ => trivial, fun x hx => ?_, hc.own⟩
  · rw [hc.F, hc.caps]
    have hun : used < n + 1 := by have := hc.n; omega
    show Calls Tryz.prog 76 #[sl c.gc c.n, .int .i64 (used : Int), ptr b] W _
    have q0 := box_cell (i := 0) hI.1 rfl
    have q1 := hI.2.cell hun
    have f1 := hI.2.free used
    unfold iv at q1
    obtain ⟨y, hy⟩ : ∃ y, y = s used := ⟨_, rfl⟩
    rw [← hy] at q1
    obtain ⟨z, hz⟩ : ∃ z, IntKind.i64.wrap (y + 1) = z := ⟨_, rfl⟩
    obtain ⟨n1, hn1⟩ : ∃ n1, n1 = n + 1 := ⟨_, rfl⟩
    rw [← hn1] at q0 hun
    have i1 : (0 : Int) ≤ (used : Int) := by omega
    have i2 : (used : Int) < (n1 : Int) := by omega
    have HP : Hid (InvW b g (n + 1) c (W.setCell ⟨g, used, none⟩ (.int .i64 z)) (stepW L used s).2) := by
      refine ⟨box_turns hI.1 (setCell_turns W g used _) hbg, (hI.2.set used (.int .i64 z)).congr (fun j _ => ?_)⟩
      unfold iv
      show _ = Value.int .i64 (if j = used then Wr (s j + 1) else s j)
      by_cases e : j = used
      · subst e; rw [← hy]; unfold Wr; rw [hz]; simp
      · simp [e]
    clear hI hC hR hge hy hn1
    go_enter Tryz.func76, Tryz.ntmps76
    go_wp2
    go_ret
    exact ⟨rfl, HP.out, setCell_turns _ _ _ _⟩
  · exact ⟨box_turns hI.1 ht (fun e => by omega), hI.2.turns ht (fun e => by omega)⟩
  · subst hx
    refine ⟨?_, by omega, by omega⟩
    unfold Tc.own
    have := hc.gn
    omega
theorem stepW_false (k n : Nat) (adj : Nat → Nat → Bool) : ∀ (r : Nat) (L : List Nat) (used : Nat) (s : Nat → Int), (trC k adj stepW r L used s).1 = false
  | 0, _, _, _ => rfl
  | r + 1, L, used, s => by
    unfold trC
    generalize List.range (min (used + 1) k) = cs
    induction cs generalizing s with
    | nil => rfl
    | cons c cs ih =>
      unfold lpC
      split
      · rw [stepW_false k n adj r]
        exact ih _
      · exact ih _
/-- In how many ways nodes can be parted. -/
def waysE (N : Nat) (es : List Pair) : Nat → Int := (trC N (adjE es) stepW N [] 0 (fun _ => 0)).2
set_option maxRecDepth 4000 in
set_option maxHeartbeats 2000000 in
theorem partings_call {w : World} {gn N : Nat} {es : List Pair} (hn : N ≤ 12) (hrow : RowV w gn 115 N (fun v => .int .u32 ((nearN es v : Nat) : Int))) (hg : ∀ e ∈ es, (0 ≤ e.1 ∧ e.1 < (N : Int) ∧ 0 ≤ e.2 ∧ e.2 < (N : Int)) ∧ e.1 ≠ e.2) :
    Calls Tryz.prog 47 #[sl gn N] w fun e w' => ∃ g, e = .returned (sl g (N + 1)) ∧ w.heap.size ≤ g ∧ RowV w' g 3 (N + 1) (iv (waysE N es)) ∧ Below w.heap.size w w' := by
  have HR : Hid (RowV w gn 115 N (fun v => .int .u32 ((nearN es v : Nat) : Int))) := hrow
  have HADJ : Hid (∀ v z, v < N → (nearN es v).testBit z = adjE es v z) := fun v z _ => nearN_bit v es hg z
  have HMASK : Hid (∀ v, v < N → nearN es v < 4294967296) := fun v _ => by
    have h1 := nearN_lt v hg
    have h2 : 2 ^ N ≤ 2 ^ 12 := Nat.pow_le_pow_right (by omega) hn
    have e : (2 : Nat) ^ 12 = 4096 := rfl
    omega
  have HWF : Hid ((trC N (adjE es) stepW N [] 0 (fun _ => 0)).1 = false) := stepW_false N N (adjE es) N [] 0 _
  have hmk := make29 (N + 1) (by omega)
  obtain ⟨n1, hn1⟩ : ∃ n1, n1 = N + 1 := ⟨_, rfl⟩
  have k0 : IntKind.i64.wrap ((N : Int) + 1) = (n1 : Int) := by rw [IntKind.wrap_i64]; omega
  rw [← hn1] at hmk ⊢
  have HN1 : Hid (n1 = N + 1) := hn1
  clear hrow hg hn1
  go_enter Tryz.func47, Tryz.ntmps47
  go_upto_region 2 with (fail)
  have hB0 : Below w.heap.size w ((w.alloc (Obj.cells (rep n1 (.int .i64 0)) 3)).alloc (Obj.cells #[sl w.heap.size n1] 29)) := below2 _ _
  have hr0 : RowV ((w.alloc (Obj.cells (rep n1 (.int .i64 0)) 3)).alloc (Obj.cells #[sl w.heap.size n1] 29)) w.heap.size 3 n1 (fun _ => .int .i64 0) := rowV_rep (box_up (heap_alloc_new _ _) _)
  have hx0 : Box ((w.alloc (Obj.cells (rep n1 (.int .i64 0)) 3)).alloc (Obj.cells #[sl w.heap.size n1] 29)) (w.heap.size + 1) #[sl w.heap.size n1] 29 := atk (by simp)
  obtain ⟨g, hg⟩ : ∃ g, g = w.heap.size := ⟨_, rfl⟩
  obtain ⟨b, hb⟩ : ∃ g, g = w.heap.size + 1 := ⟨_, rfl⟩
  have hgg : g ≠ gn := by have := HR.out.lt; omega
  rw [← hg] at hr0
  rw [← hb, ← hg] at hx0
  rw [← hb, ← hg]
  have hrb := rowV_next HR.out hB0
  rw [← hg] at hrb hB0
  generalize ((w.alloc (Obj.cells (rep n1 (.int .i64 0)) 3)).alloc (Obj.cells #[sl g n1] 29)) = W0 at hB0 hr0 hrb hx0 ⊢
  rw [hg] at hB0
  have hgl : w.heap.size ≤ g ∧ b ≠ g := by omega
  have h42 := try_call (step := stepW) (Inv := InvW b g (N + 1)) (Ms := fun x => x = g) (Fin := fun _ _ => True) (s0 := fun _ => 0) (adj := adjE es) (k := N) (by omega) (by omega) hrb (see45 (box_lt hx0) hr0.lt hgg hgl.2) (fun c _ W hW => ⟨by rw [← HN1.out]; exact (hW.block _ (box_lt hx0)).trans hx0, by rw [← HN1.out]; exact rowV_next hr0 hW⟩) HADJ.out HMASK.out
  have H42 : Hid (Calls Tryz.prog 75 #[sl gn N, .int .i64 (N : Int), .func (.func 76) #[] #[ptr b]] W0 fun e w' => ∃ c, TcOk c W0 gn N N 76 #[ptr b] (nearN es) ∧ ∃ W1, Below W0.heap.size W0 W1 ∧ Found c (InvW b g (N + 1) c) (fun x => x = g) (fun _ _ => True) [] (trC N (adjE es) stepW N [] 0 (fun _ => 0)) W1 e w') := h42
  clear h42 hg hb hgg hx0 hr0 hrb hmk
  go_upto_region 3 with (first | (go_at_call 75; refine Calls.mono H42.out ?_; rintro e W2 ⟨c, hok, W1, hb1, rfl, hi, ht, _, _⟩) | go_in)
  have hge := hok.ge
  have hB2 : Below w.heap.size w W2 := by
    refine Turns.below (below_next hB0 hb1) ht (below_next hB0 hb1).size (fun x hx => ?_)
    have := hB0.size
    rcases hx with rfl | rfl | hx
    · omega
    · omega
    · have : x = g := hx
      omega
  have HI : Hid (RowV W2 g 3 n1 (iv (waysE N es))) := by have := hi.2; rw [← HN1.out] at this; exact this
  have q0 := box_cell (i := 0) hi.1 rfl
  rw [← HN1.out] at q0
  clear hi ht hb1 hok hge H42
  go_wp2
  go_ret
  exact ⟨g, rfl, hgl.1, HI.out, hB2⟩
end Go.Proofs.YtdnmoifbkojnlaaGreat

namespace Go.Proofs.YtdnmoifbkojnlaaGreat
open Go.RowKit Go.Maps
attribute [local go_sem ↓] Go.wp_at_zero Go.wp_at_succ

/-- The coefficients that Poly answers. -/
def polyE (N : Nat) (es : List Pair) : Nat → Int := sumF (waysE N es) (N + 1)
set_option maxRecDepth 4000 in
set_option maxHeartbeats 2000000 in
theorem poly_ok {w : World} {v : Value} {N : Nat} {es : List Pair} (hE : EdgesAt w v es) (hs : (chk N es).1 = 0) (hN : N ≤ 12) :
    Calls Tryz.prog 23 #[.agg #[.int .i64 (N : Int), v]] w fun e w' => ∃ g, e = .returned (.tuple #[sl g (N + 1), .agg #[.int .i64 0, .int .i64 0]]) ∧ w.heap.size ≤ g ∧ RowV w' g 3 (N + 1) (iv (polyE N es)) ∧ Below w.heap.size w w' := by
  obtain ⟨vo, vc, rfl⟩ := hE.form
  obtain ⟨_, _, _, _, hg⟩ := chk_good hs
  have HG : Hid (∀ e ∈ es, (0 ≤ e.1 ∧ e.1 < (N : Int) ∧ 0 ≤ e.2 ∧ e.2 < (N : Int)) ∧ e.1 ≠ e.2) := hg
  have H23 : Hid (∀ W, Below w.heap.size w W → Calls Tryz.prog 45 #[.agg #[.int .i64 (N : Int), .slice vo es.length vc], .int .i64 12] W fun e w' => ∃ gn, e = .returned (.tuple #[sl gn N, .agg #[.int .i64 0, .int .i64 0]]) ∧ W.heap.size ≤ gn ∧ RowV w' gn 115 N (fun i => .int .u32 ((nearN es i : Nat) : Int)) ∧ Below W.heap.size W w') := fun W hW => openSmall_ok (most := 12) (hE.below hW) hs hN (by omega)
  obtain ⟨n1, hn1⟩ : ∃ n1, n1 = N + 1 := ⟨_, rfl⟩
  have HN1 : Hid (n1 = N + 1) := hn1
  rw [← hn1]
  clear hE hs hg hn1
  go_enter Tryz.func23, Tryz.ntmps23
  go_upto_region 1 with (fail)
  have t1 : Two ((w.alloc (Obj.cells #[.int .i64 (N : Int), .slice vo es.length vc] 24)).alloc (Obj.cells #[.int .i64 0, .int .i64 0] 27)) w.heap.size (.int .i64 (N : Int)) (.slice vo es.length vc) 24 := two_alloc (two_new w _ _ _) _
  have t4 : Two ((w.alloc (Obj.cells #[.int .i64 (N : Int), .slice vo es.length vc] 24)).alloc (Obj.cells #[.int .i64 0, .int .i64 0] 27)) (w.heap.size + 1) (.int .i64 0) (.int .i64 0) 27 := two_nxt _ _ _ _ _
  have hB0 : Below w.heap.size w ((w.alloc (Obj.cells #[.int .i64 (N : Int), .slice vo es.length vc] 24)).alloc (Obj.cells #[.int .i64 0, .int .i64 0] 27)) := below2 _ _
  obtain ⟨b1, hb1⟩ : ∃ b, b = w.heap.size := ⟨_, rfl⟩
  obtain ⟨b3, hb3⟩ : ∃ b, b = w.heap.size + 1 := ⟨_, rfl⟩
  rw [← hb1] at t1
  rw [← hb3] at t4
  rw [← hb3, ← hb1]
  generalize ((w.alloc (Obj.cells #[.int .i64 (N : Int), .slice vo es.length vc] 24)).alloc (Obj.cells #[.int .i64 0, .int .i64 0] 27)) = W0 at t1 t4 hB0 ⊢
  have hlow : w.heap.size ≤ b3 := by omega
  have HT3 : Hid (Two W0 b3 (.int .i64 0) (.int .i64 0) 27) := t4
  obtain ⟨q0, q1⟩ := cell_two t1
  clear hb1 hb3 t4
  go_upto_region 2 with (first | (go_at_call 45; refine (H23.out _ hB0).mono ?_; rintro e W1 ⟨gn, rfl, hgn, hrg, hbb⟩) | go_in)
  have hb1a := below_alloc hbb (Obj.cells #[.int .i64 0, .int .i64 0] 27)
  have t5 := two_new W1 (.int .i64 0) (.int .i64 0) 27
  have t31 := two_next HT3.out hb1a
  have hr1 := rowV_next hrg (below_alloc (Below.refl _ W1) (Obj.cells #[.int .i64 0, .int .i64 0] 27))
  have hB1 := below_next hB0 hb1a
  obtain ⟨b5, hb5⟩ : ∃ b, b = W1.heap.size := ⟨_, rfl⟩
  rw [← hb5] at t5 ⊢
  generalize W1.alloc (Obj.cells #[.int .i64 0, .int .i64 0] 27) = W2 at t5 t31 hr1 hB1 ⊢
  obtain ⟨q2, q3⟩ := cell_two t5
  have HT31 : Hid (Two W2 b3 (.int .i64 0) (.int .i64 0) 27) := t31
  have hb32 := lt_of_block t31
  have h30 := partings_call hN hr1 HG.out
  have H30 : Hid (Calls Tryz.prog 47 #[sl gn N] W2 fun e w' => ∃ g, e = .returned (sl g (N + 1)) ∧ W2.heap.size ≤ g ∧ RowV w' g 3 (N + 1) (iv (waysE N es)) ∧ Below W2.heap.size W2 w') := h30
  have H29 : Hid (∀ (W : World) (g : Nat), RowV W g 3 (N + 1) (iv (waysE N es)) → Calls Tryz.prog 46 #[sl g (N + 1)] W fun e w' => ∃ g', e = .returned (sl g' (N + 1)) ∧ W.heap.size ≤ g' ∧ RowV w' g' 3 (N + 1) (iv (polyE N es)) ∧ Below W.heap.size W w') := fun W g h => sumOfFalling_call h (by omega)
  rw [← HN1.out] at H30 H29
  clear q0 q1 t1 HT3 H23 hb1a hbb hrg hr1 hb5 h30 t31 HG
  go_upto_region 4 with (fail)
  clear q2 q3 t5
  go_wp2_with (first | (go_at_call 47; refine Calls.mono H30.out ?_; rintro e W3 ⟨g3, rfl, hg3, hr3, hb3⟩; have HR3 : Hid (RowV W3 g3 3 n1 (iv (waysE N es))) := hr3; clear hr3) | (go_at_call 46; refine Calls.mono (H29.out _ _ HR3.out) ?_; rintro e W4 ⟨g4, rfl, hg4, hr4, hb4⟩; have t34 := two_next HT31.out (below_next hb3 hb4); have ff := free_two t34; obtain ⟨q2, q3⟩ := cell_two t34; have HR4 : Hid (RowV W4 g4 3 n1 (iv (polyE N es))) := hr4; clear hr4) | go_in)
  have hB4 := below_next hB1 (below_next hb3 hb4)
  have x9 := two_setN (x' := .int .i64 0) (y' := .int .i64 0) t34
  have hB9 := (hB4.setCell (p := ⟨b3, 0, none⟩) hlow (.int .i64 0)).setCell (p := ⟨b3, 1, none⟩) hlow (.int .i64 0)
  have T9 := (setCell_turns W4 b3 0 (.int .i64 0)).trans (setCell_turns (W4.setCell ⟨b3, 0, none⟩ (.int .i64 0)) b3 1 (.int .i64 0))
  have hz1 := hb3.size
  have hz2 := hB1.size
  have r9 := HR4.out.turns T9 (fun e => by omega)
  clear T9
  generalize ((W4.setCell ⟨b3, 0, none⟩ (.int .i64 0)).setCell ⟨b3, 1, none⟩ (.int .i64 0)) = W9 at x9 hB9 r9 ⊢
  obtain ⟨n8, n81⟩ := cell_two x9
  refine bodyPost_ret (v := .tuple #[sl g4 n1, .agg #[.int .i64 0, .int .i64 0]]) ?_ rfl ⟨g4, rfl, by omega, r9, hB9⟩
  simp [results, Tryz.results23, go_sem, n8, n81]
def ring5 : List Pair := [(0, 1), (1, 2), (2, 3), (3, 4), (0, 4)]
theorem ring5_ok : (chk ((5 : Nat) : Int) ring5).1 = 0 := by decide +kernel
theorem ring5_poly : polyE 5 ring5 0 = 0 ∧ polyE 5 ring5 1 = 4 ∧ polyE 5 ring5 2 = -10 ∧ polyE 5 ring5 3 = 10 ∧ polyE 5 ring5 4 = -5 ∧ polyE 5 ring5 5 = 1 := by decide +kernel
theorem edges5 {w : World} {b : Nat} (h : Box w b #[.int .i64 0, .int .i64 1, .int .i64 1, .int .i64 2, .int .i64 2, .int .i64 3, .int .i64 3, .int .i64 4, .int .i64 0, .int .i64 4] 42) : EdgesAt w (.slice (some ⟨b, 0, none⟩) 5 5) ring5 := by
  refine ⟨_, 5, rfl, by simp [ring5], fun e he => ?_, fun k hk => ⟨b, 0, rfl, ?_⟩⟩
  · simp [ring5] at he
    rcases he with rfl | rfl | rfl | rfl | rfl <;> exact ⟨I64.mk (by omega) (by omega), I64.mk (by omega) (by omega)⟩
  · match k, hk with
    | 0, _ => exact ⟨box_cell h rfl, box_cell h rfl⟩
    | 1, _ => exact ⟨box_cell h rfl, box_cell h rfl⟩
    | 2, _ => exact ⟨box_cell h rfl, box_cell h rfl⟩
    | 3, _ => exact ⟨box_cell h rfl, box_cell h rfl⟩
    | 4, _ => exact ⟨box_cell h rfl, box_cell h rfl⟩
set_option maxHeartbeats 1000000 in
theorem five_call (w : World) : Calls Tryz.prog 24 #[] w fun e w' => ∃ v, e = .returned (.agg #[.int .i64 5, v]) ∧ EdgesAt w' v ring5 ∧ Below w.heap.size w w' := by
  go_enter Tryz.func24, Tryz.ntmps24
  go_wp2
  have hx : Box ((w.alloc (Obj.cells #[.int .i64 5, .slice (some ⟨w.heap.size + 1, 0, none⟩) 5 5] 24)).alloc (Obj.cells #[.int .i64 0, .int .i64 1, .int .i64 1, .int .i64 2, .int .i64 2, .int .i64 3, .int .i64 3, .int .i64 4, .int .i64 0, .int .i64 4] 42)) (w.heap.size + 1) #[.int .i64 0, .int .i64 1, .int .i64 1, .int .i64 2, .int .i64 2, .int .i64 3, .int .i64 3, .int .i64 4, .int .i64 0, .int .i64 4] 42 := atk (by simp)
  have t0 : Two ((w.alloc (Obj.cells #[.int .i64 5, .slice (some ⟨w.heap.size + 1, 0, none⟩) 5 5] 24)).alloc (Obj.cells #[.int .i64 0, .int .i64 1, .int .i64 1, .int .i64 2, .int .i64 2, .int .i64 3, .int .i64 3, .int .i64 4, .int .i64 0, .int .i64 4] 42)) w.heap.size (.int .i64 5) (.slice (some ⟨w.heap.size + 1, 0, none⟩) 5 5) 24 := two_alloc (two_new _ _ _ _) _
  have hB : Below w.heap.size w ((w.alloc (Obj.cells #[.int .i64 5, .slice (some ⟨w.heap.size + 1, 0, none⟩) 5 5] 24)).alloc (Obj.cells #[.int .i64 0, .int .i64 1, .int .i64 1, .int .i64 2, .int .i64 2, .int .i64 3, .int .i64 3, .int .i64 4, .int .i64 0, .int .i64 4] 42)) := below2 _ _
  generalize ((w.alloc (Obj.cells #[.int .i64 5, .slice (some ⟨w.heap.size + 1, 0, none⟩) 5 5] 24)).alloc (Obj.cells #[.int .i64 0, .int .i64 1, .int .i64 1, .int .i64 2, .int .i64 2, .int .i64 3, .int .i64 3, .int .i64 4, .int .i64 0, .int .i64 4] 42)) = W9 at hx t0 hB ⊢
  obtain ⟨n8, n81⟩ := cell_two t0
  refine bodyPost_ret (v := .agg #[.int .i64 5, .slice (some ⟨w.heap.size + 1, 0, none⟩) 5 5]) ?_ rfl ⟨_, rfl, edges5 hx, hB⟩
  simp [results, Tryz.results24, go_sem, n8, n81]
theorem row6_ints {w : World} {b : Nat} {f : Nat → Int} (h : RowV w b 3 6 (iv f)) (h0 : f 0 = 0) (h1 : f 1 = 4) (h2 : f 2 = -10) (h3 : f 3 = 10) (h4 : f 4 = -5) (h5 : f 5 = 1) : IntsAt w (sl b 6) [0, 4, -10, 10, -5, 1] := by
  refine ⟨_, 6, rfl, by simp, fun z hz => ?_, fun k hk => ⟨b, 0, rfl, ?_⟩⟩
  · simp at hz
    rcases hz with rfl | rfl | rfl | rfl | rfl | rfl <;> exact I64.mk (by omega) (by omega)
  · have hc := h.cell (j := k) hk
    unfold iv at hc
    rw [Nat.zero_add]
    match k, hk with
    | 0, _ => rw [hc, h0]; rfl
    | 1, _ => rw [hc, h1]; rfl
    | 2, _ => rw [hc, h2]; rfl
    | 3, _ => rw [hc, h3]; rfl
    | 4, _ => rw [hc, h4]; rfl
    | 5, _ => rw [hc, h5]; rfl
theorem box6_ints {w : World} {b : Nat} (h : Box w b #[.int .i64 0, .int .i64 4, .int .i64 (-10), .int .i64 10, .int .i64 (-5), .int .i64 1] 3) : IntsAt w (sl b 6) [0, 4, -10, 10, -5, 1] := by
  refine ⟨_, 6, rfl, by simp, fun z hz => ?_, fun k hk => ⟨b, 0, rfl, ?_⟩⟩
  · simp at hz
    rcases hz with rfl | rfl | rfl | rfl | rfl | rfl <;> exact I64.mk (by omega) (by omega)
  · rw [Nat.zero_add]
    match k, hk with
    | 0, _ => exact box_cell h rfl
    | 1, _ => exact box_cell h rfl
    | 2, _ => exact box_cell h rfl
    | 3, _ => exact box_cell h rfl
    | 4, _ => exact box_cell h rfl
    | 5, _ => exact box_cell h rfl
set_option maxRecDepth 4000 in
set_option maxHeartbeats 1000000 in
theorem begun_call (w : World) : Calls Tryz.prog 7 #[] w fun e w' => e = .returned (.bool true) ∧ Below w.heap.size w w' := by
  have H14 : Hid (∀ (W : World) (v : Value), EdgesAt W v ring5 → Calls Tryz.prog 23 #[.agg #[.int .i64 5, v]] W fun e w' => ∃ g, e = .returned (.tuple #[sl g 6, .agg #[.int .i64 0, .int .i64 0]]) ∧ IntsAt w' (sl g 6) [0, 4, -10, 10, -5, 1] ∧ Below W.heap.size W w') := fun W v h => by
    refine (poly_ok (N := 5) h ring5_ok (by omega)).mono ?_
    rintro e w' ⟨g, rfl, _, hr, hb⟩
    obtain ⟨h0, h1, h2, h3, h4, h5⟩ := ring5_poly
    exact ⟨g, rfl, row6_ints hr h0 h1 h2 h3 h4 h5, hb⟩
  go_enter Tryz.func7, Tryz.ntmps7
  go_upto_region 2 with (first | (go_at_call 24; refine Calls.mono (five_call _) ?_; rintro e W1 ⟨v, rfl, hE, hb1⟩; have HE : Hid (EdgesAt W1 v ring5) := hE; clear hE) | (go_at_call 23; refine Calls.mono (H14.out _ _ HE.out) ?_; rintro e W2 ⟨g, rfl, hi, hb2⟩; have HI : Hid (IntsAt W2 (sl g 6) [0, 4, -10, 10, -5, 1]) := hi; clear hi) | go_in)
  have hB2 := below_next hb1 hb2
  have t2 := two_new W2 (.int .i64 0) (.int .i64 0) 27
  have hb3 := below_alloc (Below.refl _ W2) (Obj.cells #[.int .i64 0, .int .i64 0] 27)
  have HI3 : Hid (IntsAt (W2.alloc (Obj.cells #[.int .i64 0, .int .i64 0] 27)) (sl g 6) [0, 4, -10, 10, -5, 1]) := HI.out.below hb3
  have hB3 := below_next hB2 hb3
  obtain ⟨b2, hb2'⟩ : ∃ b, b = W2.heap.size := ⟨_, rfl⟩
  rw [← hb2'] at t2 ⊢
  generalize W2.alloc (Obj.cells #[.int .i64 0, .int .i64 0] 27) = W3 at t2 HI3 hB3 ⊢
  obtain ⟨q0, q1⟩ := cell_two t2
  have h26 := ints_true (sl g 6) (sl W3.heap.size 6) [0, 4, -10, 10, -5, 1] (W3.alloc (Obj.cells #[.int .i64 0, .int .i64 4, .int .i64 (-10), .int .i64 10, .int .i64 (-5), .int .i64 1] 3)) (HI3.out.below (below_alloc (Below.refl _ W3) _)) (box6_ints (heap_alloc_new _ _))
  have H26 : Hid (Calls Tryz.prog 25 #[sl g 6, sl W3.heap.size 6] (W3.alloc (Obj.cells #[.int .i64 0, .int .i64 4, .int .i64 (-10), .int .i64 10, .int .i64 (-5), .int .i64 1] 3)) fun e w' => e = .returned (.bool true) ∧ Below (W3.alloc (Obj.cells #[.int .i64 0, .int .i64 4, .int .i64 (-10), .int .i64 10, .int .i64 (-5), .int .i64 1] 3)).heap.size (W3.alloc (Obj.cells #[.int .i64 0, .int .i64 4, .int .i64 (-10), .int .i64 10, .int .i64 (-5), .int .i64 1] 3)) w') := h26
  clear h26 HI HI3 H14 hb1 hb2 hb3 hB2 hb2' t2
  go_wp2_with (first | (go_at_call 25; refine Calls.mono H26.out ?_; rintro e W9 ⟨rfl, hb9⟩) | go_in)
  go_ret
  exact ⟨rfl, below_next (below_alloc hB3 _) hb9⟩
end Go.Proofs.YtdnmoifbkojnlaaGreat
