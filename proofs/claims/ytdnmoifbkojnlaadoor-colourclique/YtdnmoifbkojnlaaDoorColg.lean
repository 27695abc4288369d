/- colouring. -/
import Derived.Test.YtdnmoifbkojnlaaDoorTryC
namespace Go.Proofs.YtdnmoifbkojnlaaDoor
open Go.RowKit Go.Maps
attribute [local go_sem ↓] Go.wp_at_zero Go.wp_at_succ

theorem box_lt {w : World} {b : Nat} {cs : Array Value} {t : TypeId} (h : Box w b cs t) : b < w.heap.size := (Array.getElem?_eq_some_iff.1 h).1
theorem enter33 (args : Array Value) (w : World) : (callFunc 33 args).run Tryd.prog w = .ok (.enter 33 args) w := by
  simp [callFunc, Tryd.func33, go_sem]
  rw [if_neg (of_decide_eq_true (by kernel_rfl)), if_neg (by intro h; have : Tryd.f33.body.isSome = true := (by kernel_rfl); rw [h] at this; cases this)]
/-- What found holds. -/
def InvF (b : Nat) (c : Tc) (W : World) : Option (List Nat) → Prop
  | none => Box W b #[.slice none 0 0] 29
  | some _ => Box W b #[sl c.gc c.n] 29
theorem InvF.some_box {b : Nat} {c : Tc} {W : World} {s : Option (List Nat)} (h : InvF b c W s) : ∃ v, Box W b #[v] 29 ∧ ∃ ao n cap, v = .slice ao n cap := by
  cases s with
  | none => exact ⟨_, h, _, _, _, rfl⟩
  | some M => exact ⟨_, h, _, _, _, rfl⟩
set_option maxHeartbeats 1000000 in
theorem see43 {w : World} {gn n k b : Nat} {mask : Nat → Nat} (hb : b < w.heap.size) (hbg : b ≠ gn) : ∀ c, TcOk c w gn n k 33 #[ptr b] mask → See c stepF (InvF b c) (fun x => x = b) (fun M s => s = some M) := fun c hc => by
  have hge := hc.ge
  refine ⟨fun args w' => by rw [hc.F]; exact enter33 args w', fun W L used s hl hu hI hC hR => ?_, fun W W' s hI ht => ?_, fun L used s _ => rfl, fun x hx => ?_, hc.own⟩
  · rw [hc.F, hc.caps]
    obtain ⟨v, hbx, ao, m, cap, rfl⟩ := hI.some_box
    show Calls Tryd.prog 33 #[sl c.gc c.n, .int .i64 (used : Int), ptr b] W _
    have q0 := box_cell (i := 0) hbx rfl
    have f0 := box_free hbx 0
    have HB : Hid (Box W b #[.slice ao m cap] 29) := hbx
    clear hbx hI hC hR hge
    go_enter Tryd.func33, Tryd.ntmps33
    go_wp2
    go_ret
    exact ⟨rfl, box_set HB.out 0 (sl c.gc c.n), setCell_turns _ _ _ _⟩
  · cases s with
    | none => exact box_turns hI ht (fun e => by omega)
    | some M => exact box_turns hI ht (fun e => by omega)
  · subst hx
    refine ⟨?_, by omega, by omega⟩
    unfold Tc.own
    have := hc.gn
    omega
set_option maxRecDepth 4000 in
set_option maxHeartbeats 2000000 in
theorem colouring_call {w : World} {gn n k : Nat} {mask : Nat → Nat} {adj : Nat → Nat → Bool} (hn : n ≤ 24) (hk : k ≤ 24) (hrow : RowV w gn 57 n (fun v => .int .u32 ((mask v : Nat) : Int))) (hadj : ∀ v z, v < n → (mask v).testBit z = adj v z) (hmask : ∀ v, v < n → mask v < 4294967296) :
    Calls Tryd.prog 21 #[sl gn n, .int .i64 (k : Int)] w fun e w' => ∃ v, e = .returned (.tuple #[v, .bool (trC k adj stepF n [] 0 none).1]) ∧ ((trC k adj stepF n [] 0 none).1 = true → ∃ g M, v = sl g n ∧ w.heap.size ≤ g ∧ M.length = n ∧ RowV w' g 3 n (fun i => .int .i64 (M.getD i 0 : Int)) ∧ Prop' k adj M) ∧ Below w.heap.size w w' := by
  have HR : Hid (RowV w gn 57 n (fun v => .int .u32 ((mask v : Nat) : Int))) := hrow
  have HADJ : Hid (∀ v z, v < n → (mask v).testBit z = adj v z) := hadj
  have HMASK : Hid (∀ v, v < n → mask v < 4294967296) := hmask
  have HPR : Hid ((trC k adj stepF n [] 0 none).1 = true → ∃ M, (trC k adj stepF n [] 0 none).2 = some M ∧ M.length = n ∧ Prop' k adj M) := trC_proper n [] 0 none (by simp) (prop_nil k adj)
  obtain ⟨res, hres⟩ : ∃ r, r = trC k adj stepF n [] 0 none := ⟨_, rfl⟩
  rw [← hres] at HPR ⊢
  have HRES : Hid (res = trC k adj stepF n [] 0 none) := hres
  clear hrow hadj hmask hres
  go_enter Tryd.func21, Tryd.ntmps21
  go_upto_region 1 with (fail)
  have hB0 := below_alloc (Below.refl _ w) (Obj.cells #[.slice none 0 0] 29)
  have hx0 : Box (w.alloc (Obj.cells #[.slice none 0 0] 29)) w.heap.size #[.slice none 0 0] 29 := heap_alloc_new _ _
  have hr0 := rowV_next HR.out hB0
  obtain ⟨b, hb⟩ : ∃ b, b = w.heap.size := ⟨_, rfl⟩
  have hbg : b ≠ gn := by have := HR.out.lt; omega
  rw [← hb] at hx0
  rw [← hb]
  generalize w.alloc (Obj.cells #[.slice none 0 0] 29) = W0 at hB0 hx0 hr0 ⊢
  have hbl : w.heap.size ≤ b := by omega
  have h42 := try_call (step := stepF) (Inv := InvF b) (Ms := fun x => x = b) (Fin := fun M s => s = some M) (s0 := none) (adj := adj) hn hk hr0 (see43 (box_lt hx0) hbg) (fun c _ W hW => (hW.block _ (box_lt hx0)).trans hx0) HADJ.out HMASK.out
  rw [← HRES.out] at h42
  have H42 : Hid (Calls Tryd.prog 32 #[sl gn n, .int .i64 (k : Int), .func (.func 33) #[] #[ptr b]] W0 fun e w' => ∃ c, TcOk c W0 gn n k 33 #[ptr b] mask ∧ ∃ W1, Below W0.heap.size W0 W1 ∧ Found c (InvF b c) (fun x => x = b) (fun M s => s = some M) [] res W1 e w') := h42
  have hb0 := box_lt hx0
  clear h42 hb hbg hx0 hr0
  go_upto_region 2 with (first | (go_at_call 32; refine Calls.mono H42.out ?_; rintro e W2 ⟨c, hok, W1, hb1, rfl, hi, ht, _, hfin⟩) | go_in)
  obtain ⟨v, hbx, ao, m, cap, rfl⟩ := hi.some_box
  have hset := fun (x : Value) (h : Box W2 b #[x] 29) => box_set h 0 x
  have q0 := box_cell (i := 0) hbx rfl
  have f0 := box_free hbx 0
  have HI : Hid (InvF b c W2 res.2) := hi
  have HFIN : Hid (res.1 = true → ∃ M, Cols c W2 M ∧ res.2 = some M) := hfin
  have HOK : Hid (TcOk c W0 gn n k 33 #[ptr b] mask) := hok
  have HBX : Hid (Box W2 b #[.slice ao m cap] 29) := hbx
  have hge := hok.ge
  have hB2 : Below w.heap.size w W2 := by
    refine Turns.below (below_next hB0 hb1) ht (below_next hB0 hb1).size (fun x hx => ?_)
    have := hB0.size
    rcases hx with rfl | rfl | hx
    · omega
    · omega
    · have : x = b := hx
      omega
  clear hi hfin hok hset hbx ht hb1 H42
  go_wp2
  have x9 : Box (W2.setCell ⟨b, 0, none⟩ (.slice ao m cap)) b #[.slice ao m cap] 29 := box_set HBX.out 0 (.slice ao m cap)
  have hB9 := hB2.setCell (p := ⟨b, 0, none⟩) hbl (.slice ao m cap)
  have T9 := setCell_turns W2 b 0 (.slice ao m cap)
  have n9 := box_cell (i := 0) x9 rfl
  refine bodyPost_ret (v := .tuple #[.slice ao m cap, .bool res.1]) ?_ rfl ⟨_, rfl, fun h => ?_, hB9⟩
  · simp [results, Tryd.results21, go_sem, n9]
  · obtain ⟨M, hM, hM2⟩ := HFIN.out h
    obtain ⟨M', e1, e2, e3⟩ := HPR.out h
    rw [hM2] at e1
    cases e1
    have hi := HI.out
    rw [hM2] at hi
    have hi' : Box W2 b #[sl c.gc c.n] 29 := hi
    have e4 : (Value.slice ao m cap) = sl c.gc c.n := by
      have h1 := box_cell (i := 0) hi' rfl
      have h2 := box_cell (i := 0) HBX.out rfl
      rw [h1] at h2
      exact (Option.some.inj h2).symm
    have hcn := HOK.out.n
    have := hB0.size
    refine ⟨c.gc, M, by rw [e4, hcn], by omega, e2, ?_, e3⟩
    have h5 := hM.2
    rw [hcn] at h5
    exact h5.turns T9 (fun e => by omega)
end Go.Proofs.YtdnmoifbkojnlaaDoor
