/- try and colouring. -/
import Derived.Test.YtdnmoifbkojnlaaDoorTries
namespace Go.Proofs.YtdnmoifbkojnlaaDoor
open Go.RowKit Go.Maps
attribute [local go_sem ↓] Go.wp_at_zero Go.wp_at_succ

/-- A search that lies where it should: its own blocks are new. -/
structure TcOk (c : Tc) (w : World) (gn n k : Nat) (F : FuncId) (caps : Array Value) (mask : Nat → Nat) : Prop where
  gn : c.gn = gn
  n : c.n = n
  k : c.k = k
  F : c.F = F
  caps : c.caps = caps
  mask : c.mask = mask
  ge : w.heap.size ≤ c.nb ∧ w.heap.size ≤ c.sb ∧ w.heap.size ≤ c.cb ∧ w.heap.size ≤ c.lb ∧ w.heap.size ≤ c.wb ∧ w.heap.size ≤ c.fb ∧ w.heap.size ≤ c.gc ∧ w.heap.size ≤ c.gw
  own : ¬ c.own c.gc ∧ ¬ c.own c.gw ∧ c.gc ≠ c.gw
theorem atk {w : World} {cs : Array Value} {t : TypeId} {b : Nat} (h : w.heap.size = b) : Box (w.alloc (Obj.cells cs t)) b cs t := by
  subst h; exact heap_alloc_new _ _
theorem box_up {w : World} {b : Nat} {cs : Array Value} {t : TypeId} (h : Box w b cs t) (o : Obj) : Box (w.alloc o) b cs t := (Below.heap_alloc _ _ _ (Array.getElem?_eq_some_iff.1 h).1).trans h
/-- What try lays. -/
def tcOf (w : World) (gn n k : Nat) (F : FuncId) (caps : Array Value) (mask : Nat → Nat) : Tc :=
  ⟨w.heap.size, w.heap.size + 1 + 1, w.heap.size + 1 + 1 + 1 + 1, w.heap.size + 1, w.heap.size + 1 + 1 + 1 + 1 + 1 + 1, w.heap.size + 1 + 1 + 1 + 1 + 1 + 1 + 1, gn, w.heap.size + 1 + 1 + 1, w.heap.size + 1 + 1 + 1 + 1 + 1, n, k, F, caps, mask⟩
theorem tcOf_ok {w : World} {gn n k : Nat} {F : FuncId} {caps : Array Value} {mask : Nat → Nat} (hg : gn < w.heap.size) : TcOk (tcOf w gn n k F caps mask) w gn n k F caps mask where
  gn := rfl
  n := rfl
  k := rfl
  F := rfl
  caps := rfl
  mask := rfl
  ge := by unfold tcOf; simp only; omega
  own := by unfold Tc.own tcOf; simp only; omega
theorem try_laid {w : World} {gn n k : Nat} {F : FuncId} {caps : Array Value} {mask : Nat → Nat} (hrow : RowV w gn 57 n (fun v => .int .u32 ((mask v : Nat) : Int))) :
    TC (tcOf w gn n k F caps mask) ((((((((w.alloc (Obj.cells #[sl gn n] 44)).alloc (Obj.cells #[.int .i64 (k : Int)] 3)).alloc (Obj.cells #[.func (.func F) #[] caps] 63)).alloc (Obj.cells (rep n (.int .i64 0)) 3)).alloc (Obj.cells #[sl (w.heap.size + 1 + 1 + 1) n] 29)).alloc (Obj.cells (rep k (.int .u32 0)) 57)).alloc (Obj.cells #[sl (w.heap.size + 1 + 1 + 1 + 1 + 1) k] 44)).alloc (Obj.cells #[.func (.func 39) #[] #[ptr w.heap.size, ptr (w.heap.size + 1 + 1), ptr (w.heap.size + 1 + 1 + 1 + 1), ptr (w.heap.size + 1), ptr (w.heap.size + 1 + 1 + 1 + 1 + 1 + 1), ptr (w.heap.size + 1 + 1 + 1 + 1 + 1 + 1 + 1)]] 64)) ∧ TR (tcOf w gn n k F caps mask) ((((((((w.alloc (Obj.cells #[sl gn n] 44)).alloc (Obj.cells #[.int .i64 (k : Int)] 3)).alloc (Obj.cells #[.func (.func F) #[] caps] 63)).alloc (Obj.cells (rep n (.int .i64 0)) 3)).alloc (Obj.cells #[sl (w.heap.size + 1 + 1 + 1) n] 29)).alloc (Obj.cells (rep k (.int .u32 0)) 57)).alloc (Obj.cells #[sl (w.heap.size + 1 + 1 + 1 + 1 + 1) k] 44)).alloc (Obj.cells #[.func (.func 39) #[] #[ptr w.heap.size, ptr (w.heap.size + 1 + 1), ptr (w.heap.size + 1 + 1 + 1 + 1), ptr (w.heap.size + 1), ptr (w.heap.size + 1 + 1 + 1 + 1 + 1 + 1), ptr (w.heap.size + 1 + 1 + 1 + 1 + 1 + 1 + 1)]] 64)) [] ∧ Below w.heap.size w ((((((((w.alloc (Obj.cells #[sl gn n] 44)).alloc (Obj.cells #[.int .i64 (k : Int)] 3)).alloc (Obj.cells #[.func (.func F) #[] caps] 63)).alloc (Obj.cells (rep n (.int .i64 0)) 3)).alloc (Obj.cells #[sl (w.heap.size + 1 + 1 + 1) n] 29)).alloc (Obj.cells (rep k (.int .u32 0)) 57)).alloc (Obj.cells #[sl (w.heap.size + 1 + 1 + 1 + 1 + 1) k] 44)).alloc (Obj.cells #[.func (.func 39) #[] #[ptr w.heap.size, ptr (w.heap.size + 1 + 1), ptr (w.heap.size + 1 + 1 + 1 + 1), ptr (w.heap.size + 1), ptr (w.heap.size + 1 + 1 + 1 + 1 + 1 + 1), ptr (w.heap.size + 1 + 1 + 1 + 1 + 1 + 1 + 1)]] 64)) := by
  have hB : Below w.heap.size w ((((((((w.alloc (Obj.cells #[sl gn n] 44)).alloc (Obj.cells #[.int .i64 (k : Int)] 3)).alloc (Obj.cells #[.func (.func F) #[] caps] 63)).alloc (Obj.cells (rep n (.int .i64 0)) 3)).alloc (Obj.cells #[sl (w.heap.size + 1 + 1 + 1) n] 29)).alloc (Obj.cells (rep k (.int .u32 0)) 57)).alloc (Obj.cells #[sl (w.heap.size + 1 + 1 + 1 + 1 + 1) k] 44)).alloc (Obj.cells #[.func (.func 39) #[] #[ptr w.heap.size, ptr (w.heap.size + 1 + 1), ptr (w.heap.size + 1 + 1 + 1 + 1), ptr (w.heap.size + 1), ptr (w.heap.size + 1 + 1 + 1 + 1 + 1 + 1), ptr (w.heap.size + 1 + 1 + 1 + 1 + 1 + 1 + 1)]] 64)) := below_alloc (below_alloc (below_alloc (below_alloc (below_alloc (below_alloc (below_alloc (below_alloc (Below.refl _ w) _) _) _) _) _) _) _) _
  refine ⟨⟨?_, ?_, ?_, ?_, ?_, ?_, hrow.block (hB.block _ hrow.lt)⟩, ⟨⟨fun _ => 0, ?_, fun i hi => absurd hi (Nat.not_lt_zero _)⟩, ?_⟩, hB⟩
  · exact box_up (box_up (box_up (box_up (box_up (box_up (box_up (atk rfl) _) _) _) _) _) _) _
  · exact box_up (box_up (box_up (box_up (box_up (atk (by simp [tcOf])) _) _) _) _) _
  · exact box_up (box_up (box_up (atk (by simp [tcOf])) _) _) _
  · exact box_up (box_up (box_up (box_up (box_up (box_up (atk (by simp [tcOf])) _) _) _) _) _) _
  · exact box_up (atk (by simp [tcOf])) _
  · exact atk (by simp [tcOf])
  · exact rowV_rep (box_up (box_up (box_up (box_up (atk (cs := rep n (.int .i64 0)) (t := 3) (by simp [tcOf])) _) _) _) _)
  · refine (rowV_rep (box_up (box_up (atk (cs := rep k (.int .u32 0)) (t := 57) (by simp [tcOf])) _) _)).congr (fun j _ => ?_)
    simp [wm, wmTo]
section
variable {σ : Type} {step : List Nat → Nat → σ → Bool × σ} {Inv : Tc → World → σ → Prop} {Ms : Nat → Prop} {Fin : List Nat → σ → Prop} {adj : Nat → Nat → Bool}
set_option maxRecDepth 4000 in
set_option maxHeartbeats 4000000 in
theorem try_call {w : World} {gn n k : Nat} {F : FuncId} {caps : Array Value} {mask : Nat → Nat} {s0 : σ} (hn : n ≤ 24) (hk : k ≤ 24) (hrow : RowV w gn 57 n (fun v => .int .u32 ((mask v : Nat) : Int)))
    (hS : ∀ c, TcOk c w gn n k F caps mask → See c step (Inv c) Ms Fin) (h0 : ∀ c, TcOk c w gn n k F caps mask → ∀ W, Below w.heap.size w W → Inv c W s0) (hadj : ∀ v z, v < n → (mask v).testBit z = adj v z) (hmask : ∀ v, v < n → mask v < 4294967296) :
    Calls Tryd.prog 32 #[sl gn n, .int .i64 (k : Int), .func (.func F) #[] caps] w fun e w' => ∃ c, TcOk c w gn n k F caps mask ∧ ∃ W1, Below w.heap.size w W1 ∧ Found c (Inv c) Ms Fin [] (trC k adj step n [] 0 s0) W1 e w' := by
  have HR : Hid (RowV w gn 57 n (fun v => .int .u32 ((mask v : Nat) : Int))) := hrow
  have HS : Hid (∀ c, TcOk c w gn n k F caps mask → See c step (Inv c) Ms Fin) := hS
  have H0 : Hid (∀ c, TcOk c w gn n k F caps mask → ∀ W, Below w.heap.size w W → Inv c W s0) := h0
  have HADJ : Hid (∀ v z, v < n → (mask v).testBit z = adj v z) := hadj
  have HMASK : Hid (∀ v, v < n → mask v < 4294967296) := hmask
  have hm1 := make29 n (by omega)
  have hm2 := make44 k (by omega)
  have hF57 := enter39
  clear hrow hS h0 hadj hmask
  go_enter Tryd.func32, Tryd.ntmps32
  go_upto_region 5 with (fail)
  obtain ⟨hc, ht, hB⟩ := try_laid (k := k) (F := F) (caps := caps) HR.out
  have hok : TcOk (tcOf w gn n k F caps mask) w gn n k F caps mask := tcOf_ok HR.out.lt
  have h57 := from_call (adj := adj) (c := tcOf w gn n k F caps mask) hn hk (HS.out _ hok) HADJ.out HMASK.out n [] 0 s0 _ (by simp [tcOf]) (Nat.zero_le _) hc ht (H0.out _ hok _ hB)
  have HOK : Hid (TcOk (tcOf w gn n k F caps mask) w gn n k F caps mask) := hok
  have H57 : Hid (Calls Tryd.prog 39 #[.int .i64 0, .int .i64 0, ptr w.heap.size, ptr (w.heap.size + 1 + 1), ptr (w.heap.size + 1 + 1 + 1 + 1), ptr (w.heap.size + 1), ptr (w.heap.size + 1 + 1 + 1 + 1 + 1 + 1), ptr (w.heap.size + 1 + 1 + 1 + 1 + 1 + 1 + 1)] ((((((((w.alloc (Obj.cells #[sl gn n] 44)).alloc (Obj.cells #[.int .i64 (k : Int)] 3)).alloc (Obj.cells #[.func (.func F) #[] caps] 63)).alloc (Obj.cells (rep n (.int .i64 0)) 3)).alloc (Obj.cells #[sl (w.heap.size + 1 + 1 + 1) n] 29)).alloc (Obj.cells (rep k (.int .u32 0)) 57)).alloc (Obj.cells #[sl (w.heap.size + 1 + 1 + 1 + 1 + 1) k] 44)).alloc (Obj.cells #[.func (.func 39) #[] #[ptr w.heap.size, ptr (w.heap.size + 1 + 1), ptr (w.heap.size + 1 + 1 + 1 + 1), ptr (w.heap.size + 1), ptr (w.heap.size + 1 + 1 + 1 + 1 + 1 + 1), ptr (w.heap.size + 1 + 1 + 1 + 1 + 1 + 1 + 1)]] 64)) (Found (tcOf w gn n k F caps mask) (Inv (tcOf w gn n k F caps mask)) Ms Fin [] (trC k adj step n [] 0 s0) ((((((((w.alloc (Obj.cells #[sl gn n] 44)).alloc (Obj.cells #[.int .i64 (k : Int)] 3)).alloc (Obj.cells #[.func (.func F) #[] caps] 63)).alloc (Obj.cells (rep n (.int .i64 0)) 3)).alloc (Obj.cells #[sl (w.heap.size + 1 + 1 + 1) n] 29)).alloc (Obj.cells (rep k (.int .u32 0)) 57)).alloc (Obj.cells #[sl (w.heap.size + 1 + 1 + 1 + 1 + 1) k] 44)).alloc (Obj.cells #[.func (.func 39) #[] #[ptr w.heap.size, ptr (w.heap.size + 1 + 1), ptr (w.heap.size + 1 + 1 + 1 + 1), ptr (w.heap.size + 1), ptr (w.heap.size + 1 + 1 + 1 + 1 + 1 + 1), ptr (w.heap.size + 1 + 1 + 1 + 1 + 1 + 1 + 1)]] 64)))) := h57
  have q9 := box_cell (i := 0) hc.bf rfl
  unfold Tc.me tcOf at q9
  simp only at q9
  have HB : Hid (Below w.heap.size w ((((((((w.alloc (Obj.cells #[sl gn n] 44)).alloc (Obj.cells #[.int .i64 (k : Int)] 3)).alloc (Obj.cells #[.func (.func F) #[] caps] 63)).alloc (Obj.cells (rep n (.int .i64 0)) 3)).alloc (Obj.cells #[sl (w.heap.size + 1 + 1 + 1) n] 29)).alloc (Obj.cells (rep k (.int .u32 0)) 57)).alloc (Obj.cells #[sl (w.heap.size + 1 + 1 + 1 + 1 + 1) k] 44)).alloc (Obj.cells #[.func (.func 39) #[] #[ptr w.heap.size, ptr (w.heap.size + 1 + 1), ptr (w.heap.size + 1 + 1 + 1 + 1), ptr (w.heap.size + 1), ptr (w.heap.size + 1 + 1 + 1 + 1 + 1 + 1), ptr (w.heap.size + 1 + 1 + 1 + 1 + 1 + 1 + 1)]] 64))) := hB
  clear hc ht hB hok h57 hm1 hm2
  generalize ((((((((w.alloc (Obj.cells #[sl gn n] 44)).alloc (Obj.cells #[.int .i64 (k : Int)] 3)).alloc (Obj.cells #[.func (.func F) #[] caps] 63)).alloc (Obj.cells (rep n (.int .i64 0)) 3)).alloc (Obj.cells #[sl (w.heap.size + 1 + 1 + 1) n] 29)).alloc (Obj.cells (rep k (.int .u32 0)) 57)).alloc (Obj.cells #[sl (w.heap.size + 1 + 1 + 1 + 1 + 1) k] 44)).alloc (Obj.cells #[.func (.func 39) #[] #[ptr w.heap.size, ptr (w.heap.size + 1 + 1), ptr (w.heap.size + 1 + 1 + 1 + 1), ptr (w.heap.size + 1), ptr (w.heap.size + 1 + 1 + 1 + 1 + 1 + 1), ptr (w.heap.size + 1 + 1 + 1 + 1 + 1 + 1 + 1)]] 64)) = WW at H57 q9 HB ⊢
  go_wp2_with (first | (go_at_call 39; refine Calls.mono H57.out ?_; rintro e W1 ⟨rfl, h1, h2, h3, h4⟩; have HF : Hid (Inv (tcOf w gn n k F caps mask) W1 (trC k adj step n [] 0 s0).2 ∧ Turns (Mall (tcOf w gn n k F caps mask) Ms) WW W1 ∧ ((trC k adj step n [] 0 s0).1 = false → TR (tcOf w gn n k F caps mask) W1 []) ∧ ((trC k adj step n [] 0 s0).1 = true → ∃ M, Cols (tcOf w gn n k F caps mask) W1 M ∧ Fin M (trC k adj step n [] 0 s0).2)) := ⟨h1, h2, h3, h4⟩; clear h1 h2 h3 h4) | go_in)
  go_ret
  exact ⟨_, HOK.out, _, HB.out, rfl, HF.out⟩
end
end Go.Proofs.YtdnmoifbkojnlaaDoor
