/- partings and Poly. -/
import Derived.Test.YtdnmoifbkojnlaaDoorTxl
import Derived.Test.YtdnmoifbkojnlaaDoorNum
namespace Go.Proofs.YtdnmoifbkojnlaaDoor
open Go.RowKit Go.Maps
attribute [local go_sem ↓] Go.wp_at_zero Go.wp_at_succ

theorem enter38 (args : Array Value) (w : World) : (callFunc 38 args).run Tryd.prog w = .ok (.enter 38 args) w := by
  simp [callFunc, Tryd.func38, go_sem]
  rw [if_neg (of_decide_eq_true (by kernel_rfl)), if_neg (by intro h; have : Tryd.f38.body.isSome = true := (by kernel_rfl); rw [h] at this; cases this)]
/-- One more with so many colours. -/
def stepW : List Nat → Nat → (Nat → Int) → Bool × (Nat → Int) := fun _ u s => (false, fun j => if j = u then Wr (s j + 1) else s j)
def InvW (b g n1 : Nat) (_ : Tc) (W : World) (s : Nat → Int) : Prop := Box W b #[sl g n1] 29 ∧ RowV W g 3 n1 (iv s)
set_option maxHeartbeats 1000000 in
theorem see45 {w : World} {gn n k b g : Nat} {mask : Nat → Nat} (hb : b < w.heap.size) (hg : g < w.heap.size) (hgg : g ≠ gn) (hbg : b ≠ g) : ∀ c, TcOk c w gn n k 38 #[ptr b] mask → See c stepW (InvW b g (n + 1) c) (fun x => x = g) (fun _ _ => True) := fun c hc => by
  have hge := hc.ge
  refine ⟨fun args w' => by rw [hc.F]; exact enter38 args w', fun W L used s hl hu hI hC hR => ?_, fun W W' s hI ht => ?_, fun L used s _ => trivial, fun x hx => ?_, hc.own⟩
  · rw [hc.F, hc.caps]
    have hun : used < n + 1 := by have := hc.n; omega
    show Calls Tryd.prog 38 #[sl c.gc c.n, .int .i64 (used : Int), ptr b] W _
    have q0 := box_cell (i := 0) hI.1 rfl
    have q1 := hI.2.cell hun
    have f1 := hI.2.free used
    unfold iv at q1
    obtain ⟨y, hy⟩ : ∃ y, y = s used := ⟨_, rfl⟩
    rw [← hy] at q1
    obtain ⟨z, hz⟩ : ∃ z, IntKind.i64.wrap (y + 1) = z := ⟨_, rfl⟩
    obtain ⟨n1, hn1⟩ : ∃ n1, n1 = n + 1 := ⟨_, rfl⟩
    rw [← hn1] at q0 hun
    have i1 : (0 : Int) ≤ (used : Int) := by omega
    have i2 : (used : Int) < (n1 : Int) := by omega
    have HP : Hid (InvW b g (n + 1) c (W.setCell ⟨g, used, none⟩ (.int .i64 z)) (stepW L used s).2) := by
      refine ⟨box_turns hI.1 (setCell_turns W g used _) hbg, (hI.2.set used (.int .i64 z)).congr (fun j _ => ?_)⟩
      unfold iv
      show _ = Value.int .i64 (if j = used then Wr (s j + 1) else s j)
      by_cases e : j = used
      · subst e; rw [← hy]; unfold Wr; rw [hz]; simp
      · simp [e]
    clear hI hC hR hge hy hn1
    go_enter Tryd.func38, Tryd.ntmps38
    go_wp2
    go_ret
    exact ⟨rfl, HP.out, setCell_turns _ _ _ _⟩
  · exact ⟨box_turns hI.1 ht (fun e => by omega), hI.2.turns ht (fun e => by omega)⟩
  · subst hx
    refine ⟨?_, by omega, by omega⟩
    unfold Tc.own
    have := hc.gn
    omega
theorem stepW_false (k n : Nat) (adj : Nat → Nat → Bool) : ∀ (r : Nat) (L : List Nat) (used : Nat) (s : Nat → Int), (trC k adj stepW r L used s).1 = false
  | 0, _, _, _ => rfl
  | r + 1, L, used, s => by
    unfold trC
    generalize List.range (min (used + 1) k) = cs
    induction cs generalizing s with
    | nil => rfl
    | cons c cs ih =>
      unfold lpC
      split
      · rw [stepW_false k n adj r]
        exact ih _
      · exact ih _
/-- In how many ways nodes can be parted. -/
def waysE (N : Nat) (es : List Pair) : Nat → Int := (trC N (adjE es) stepW N [] 0 (fun _ => 0)).2
set_option maxRecDepth 4000 in
set_option maxHeartbeats 2000000 in
theorem partings_call {w : World} {gn N : Nat} {es : List Pair} (hn : N ≤ 12) (hrow : RowV w gn 57 N (fun v => .int .u32 ((nearN es v : Nat) : Int))) (hg : ∀ e ∈ es, (0 ≤ e.1 ∧ e.1 < (N : Int) ∧ 0 ≤ e.2 ∧ e.2 < (N : Int)) ∧ e.1 ≠ e.2) :
    Calls Tryd.prog 31 #[sl gn N] w fun e w' => ∃ g, e = .returned (sl g (N + 1)) ∧ w.heap.size ≤ g ∧ RowV w' g 3 (N + 1) (iv (waysE N es)) ∧ Below w.heap.size w w' := by
  have HR : Hid (RowV w gn 57 N (fun v => .int .u32 ((nearN es v : Nat) : Int))) := hrow
  have HADJ : Hid (∀ v z, v < N → (nearN es v).testBit z = adjE es v z) := fun v z _ => nearN_bit v es hg z
  have HMASK : Hid (∀ v, v < N → nearN es v < 4294967296) := fun v _ => by
    have h1 := nearN_lt v hg
    have h2 : 2 ^ N ≤ 2 ^ 12 := Nat.pow_le_pow_right (by omega) hn
    have e : (2 : Nat) ^ 12 = 4096 := rfl
    omega
  have HWF : Hid ((trC N (adjE es) stepW N [] 0 (fun _ => 0)).1 = false) := stepW_false N N (adjE es) N [] 0 _
  have hmk := make29 (N + 1) (by omega)
  obtain ⟨n1, hn1⟩ : ∃ n1, n1 = N + 1 := ⟨_, rfl⟩
  have k0 : IntKind.i64.wrap ((N : Int) + 1) = (n1 : Int) := by rw [IntKind.wrap_i64]; omega
  rw [← hn1] at hmk ⊢
  have HN1 : Hid (n1 = N + 1) := hn1
  clear hrow hg hn1
  go_enter Tryd.func31, Tryd.ntmps31
  go_upto_region 2 with (fail)
  have hB0 : Below w.heap.size w ((w.alloc (Obj.cells (rep n1 (.int .i64 0)) 3)).alloc (Obj.cells #[sl w.heap.size n1] 29)) := below2 _ _
  have hr0 : RowV ((w.alloc (Obj.cells (rep n1 (.int .i64 0)) 3)).alloc (Obj.cells #[sl w.heap.size n1] 29)) w.heap.size 3 n1 (fun _ => .int .i64 0) := rowV_rep (box_up (heap_alloc_new _ _) _)
  have hx0 : Box ((w.alloc (Obj.cells (rep n1 (.int .i64 0)) 3)).alloc (Obj.cells #[sl w.heap.size n1] 29)) (w.heap.size + 1) #[sl w.heap.size n1] 29 := atk (by simp)
  obtain ⟨g, hg⟩ : ∃ g, g = w.heap.size := ⟨_, rfl⟩
  obtain ⟨b, hb⟩ : ∃ g, g = w.heap.size + 1 := ⟨_, rfl⟩
  have hgg : g ≠ gn := by have := HR.out.lt; omega
  rw [← hg] at hr0
  rw [← hb, ← hg] at hx0
  rw [← hb, ← hg]
  have hrb := rowV_next HR.out hB0
  rw [← hg] at hrb hB0
  generalize ((w.alloc (Obj.cells (rep n1 (.int .i64 0)) 3)).alloc (Obj.cells #[sl g n1] 29)) = W0 at hB0 hr0 hrb hx0 ⊢
  rw [hg] at hB0
  have hgl : w.heap.size ≤ g ∧ b ≠ g := by omega
  have h42 := try_call (step := stepW) (Inv := InvW b g (N + 1)) (Ms := fun x => x = g) (Fin := fun _ _ => True) (s0 := fun _ => 0) (adj := adjE es) (k := N) (by omega) (by omega) hrb (see45 (box_lt hx0) hr0.lt hgg hgl.2) (fun c _ W hW => ⟨by rw [← HN1.out]; exact (hW.block _ (box_lt hx0)).trans hx0, by rw [← HN1.out]; exact rowV_next hr0 hW⟩) HADJ.out HMASK.out
  have H42 : Hid (Calls Tryd.prog 32 #[sl gn N, .int .i64 (N : Int), .func (.func 38) #[] #[ptr b]] W0 fun e w' => ∃ c, TcOk c W0 gn N N 38 #[ptr b] (nearN es) ∧ ∃ W1, Below W0.heap.size W0 W1 ∧ Found c (InvW b g (N + 1) c) (fun x => x = g) (fun _ _ => True) [] (trC N (adjE es) stepW N [] 0 (fun _ => 0)) W1 e w') := h42
  clear h42 hg hb hgg hx0 hr0 hrb hmk
  go_upto_region 3 with (first | (go_at_call 32; refine Calls.mono H42.out ?_; rintro e W2 ⟨c, hok, W1, hb1, rfl, hi, ht, _, _⟩) | go_in)
  have hge := hok.ge
  have hB2 : Below w.heap.size w W2 := by
    refine Turns.below (below_next hB0 hb1) ht (below_next hB0 hb1).size (fun x hx => ?_)
    have := hB0.size
    rcases hx with rfl | rfl | hx
    · omega
    · omega
    · have : x = g := hx
      omega
  have HI : Hid (RowV W2 g 3 n1 (iv (waysE N es))) := by have := hi.2; rw [← HN1.out] at this; exact this
  have q0 := box_cell (i := 0) hi.1 rfl
  rw [← HN1.out] at q0
  clear hi ht hb1 hok hge H42
  go_wp2
  go_ret
  exact ⟨g, rfl, hgl.1, HI.out, hB2⟩
end Go.Proofs.YtdnmoifbkojnlaaDoor
