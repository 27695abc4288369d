/- All sets of nodes without an edge: the literal of tryLoose. tryLoose. -/
import Derived.Test.YtmeodnkmhakidaaDoorLsMM
import Derived.Test.YtmeodnkmhakidaaDoorMatWT
namespace Go.Proofs.YtmeodnkmhakidaaDoor
set_option maxRecDepth 8000
open Go.RowKit Go.Maps
attribute [local go_sem ↓] Go.wp_at_zero Go.wp_at_succ
theorem enter36 (args : Array Value) (w : World) : (callFunc 36 args).run Tryd.prog w = .ok (.enter 36 args) w := by
  simp [callFunc, Tryd.func36, go_sem]
  rw [if_neg (of_decide_eq_true (by kernel_rfl)), if_neg (by intro h; have : Tryd.f36.body.isSome = true := (by kernel_rfl); rw [h] at this; cases this)]
theorem sub_bits {R A : Nat} (hR : R < 4294967296) (hA : A < 4294967296) (z : Nat) : (R &&& (4294967295 - A)).testBit z = (R.testBit z && !A.testBit z) := by
  have e : 4294967295 - A = 2 ^ 32 - (A + 1) := by
    have : (2 : Nat) ^ 32 = 4294967296 := rfl
    omega
  rw [Nat.testBit_and, e, Nat.testBit_two_pow_sub_succ (by simpa using hA)]
  cases h : R.testBit z with
  | false => simp
  | true =>
    have hz : z < 32 := bit_lt (N := 32) (by simpa using hR) h
    simp [hz]
abbrev LsPost (es : List E2) (base bt N op size c : Nat) (L : List Nat) (W : World) : Ending → World → Prop := fun e w' => e = .returned (.tuple #[]) ∧ (∃ ks, LsK es N op size c ks ∧ TA w' base bt 46 (ks.foldl bump L)) ∧ Turns (FrT base bt) W w'
set_option maxHeartbeats 16000000 in
theorem ls_call {Fx : World → Prop} {bs bf bn nb bt base N : Nat} {es : List E2} (hF : FxM Fx 36 bs bf bn nb bt base N es) :
    ∀ (c op size : Nat) (L : List Nat) (W : World), crd N op.testBit ≤ c → op < 2 ^ N → size + c ≤ 24 → Fx W → TA W base bt 46 L → L.length ≤ 25 → (∀ i, L.getD i 0 + 2 ^ c ≤ 1000000000) →
      Calls Tryd.prog 36 #[.int .u32 (op : Int), .int .i64 (size : Int), ptr bs, ptr bf, ptr bn] W (LsPost es base bt N op size c L W) := by
  have HF : Hid _ := hF
  have hE36 := enter36
  have hE21 := enter21
  have hN24 := hF.hN
  have h24 : (2 : Nat) ^ N ≤ 16777216 := by
    have : (2 : Nat) ^ N ≤ 2 ^ 24 := Nat.pow_le_pow_right (by decide) hN24
    omega
  clear hF
  intro c
  induction c using Nat.strongRecOn with
  | ind c ih =>
    intro op size L W hc hl hs hFx hT hL hb
    have hl32 : op < 16777216 := Nat.lt_of_lt_of_le hl h24
    have HSEE : Hid (Calls Tryd.prog 21 #[ptr bt, .int .i64 (size : Int)] W fun e w' => e = .returned (.tuple #[]) ∧ TA w' base bt 46 (bump L size) ∧ Turns (FrT base bt) W w') := tal_call hT (by omega) (by omega) (tal_mem fun i => by have := hb i; have := Nat.two_pow_pos c; omega) (HF.out.size W hFx)
    have c2 : W.cell? ⟨bs, 0, none⟩ = some (.func (.func 21) #[ptr bt] #[]) := box_cell (i := 0) (HF.out.s W hFx) rfl
    have HC : Hid (crd N op.testBit ≤ c ∧ op < 2 ^ N ∧ Fx W ∧ L.length ≤ 25 ∧ ∀ i, L.getD i 0 + 2 ^ c ≤ 1000000000) := ⟨hc, hl, hFx, hL, hb⟩
    have HIH : Hid _ := ih
    clear hc hl hFx hT hL hb ih
    go_enter Tryd.func36, Tryd.ntmps36
    go_wp2_with (first | (go_at_call 21; refine Calls.mono HSEE.out ?_; rintro e V1 ⟨rfl, g1, g2⟩; have HG : Hid _ := And.intro g1 g2; clear g1 g2) | fail)
    clear c2 HSEE
    go_loopw [0] (fun s0 wz => ∃ o1 : Nat, s0 = .int .u32 (o1 : Int) ∧ o1 < 16777216 ∧ Hid (∃ c1 ks, LsR es N op o1 size c c1 ks ∧ crd N o1.testBit ≤ c1 ∧ c1 ≤ c ∧ TA wz base bt 46 (ks.foldl bump L) ∧ Turns (FrT base bt) W wz ∧ o1 < 2 ^ N)) (fun s0 _ => (numOf s0).toNat)
    case atStart => exact ⟨op, rfl, hl32, c, [size], lsR_one _ _ _ _ _, HC.out.1, Nat.le_refl _, HG.out.1, HG.out.2, HC.out.2.1⟩
    case round =>
      obtain ⟨o1, rfl, hO1, hJ⟩ := hrel
      obtain ⟨c1, ks, hR, hc1, hcc, hTA, hTu, hO1N⟩ := hJ.out
      by_cases hz : o1 = 0
      · subst hz
        have HE : Hid (LsR es N op 0 size c c1 ks ∧ TA wr base bt 46 (ks.foldl bump L) ∧ Turns (FrT base bt) W wr) := ⟨hR, hTA, hTu⟩
        clear hR hTA hTu hc1 hcc hO1N hJ
        go_wp2
        go_end0
        exact ⟨rfl, ⟨ks, lsR_end HE.out.1, HE.out.2.1⟩, HE.out.2.2⟩
      · have hFxr : Fx wr := HF.out.keep _ _ HC.out.2.2.1 hTu
        obtain ⟨v, hv⟩ : ∃ v, v = Lib.ctz 32 o1 := ⟨_, rfl⟩
        obtain ⟨d1, d2, d3⟩ := ctz_bits hz (by omega)
        clear d2
        rw [← hv] at d1 d3
        have hvN : v < N := bit_lt hO1N d1
        obtain ⟨p, hp⟩ : ∃ p, p = 2 ^ v := ⟨_, rfl⟩
        have hp32 : p < 4294967296 := by rw [hp]; exact Nat.pow_lt_pow_right (m := v) (n := 32) (by decide) d3
        obtain ⟨o2, ho2⟩ : ∃ o2, o2 = o1 &&& (4294967295 - p) := ⟨_, rfl⟩
        have ho2b : o2.testBit = outB o1.testBit v := by rw [ho2, hp]; exact andNot_bits (by omega) d3
        have ho2N : o2 < 2 ^ N := by rw [ho2]; exact out_lt hO1N
        have ho2l : o2 < o1 := by
          refine Nat.lt_of_le_of_ne (by rw [ho2]; exact Nat.and_le_left) (fun e => ?_)
          have := congrFun ho2b v
          rw [e, d1] at this
          simp [outB] at this
        have hcr := crd_out hvN d1
        obtain ⟨c3, hc3⟩ : ∃ c3, c1 = c3 + 1 := ⟨c1 - 1, by omega⟩
        subst hc3
        have a4 : bits BinOp.andNot IntKind.u32 (o1 : Int) (p : Int) = (o2 : Int) := by rw [u32_andNot_nat o1 p (by omega) hp32, ho2]
        obtain ⟨A, hA⟩ : ∃ A, A = nearF es v := ⟨_, rfl⟩
        have hA32 : A < 16777216 := by
          rw [hA]
          exact Nat.lt_of_lt_of_le (nearF_lt (N := N) (simp_ne HF.out.sim) HF.out.hes v) h24
        obtain ⟨o3, ho3⟩ : ∃ o3, o3 = o2 &&& (4294967295 - A) := ⟨_, rfl⟩
        have a5 : bits BinOp.andNot IntKind.u32 (o2 : Int) (A : Int) = (o3 : Int) := by rw [u32_andNot_nat o2 A (by omega) (by omega), ho3]
        have ho3b : ∀ y, o3.testBit y = (o2.testBit y && !adjE es v y) := fun y => by rw [ho3, sub_bits (by omega) (by omega), hA, nearF_bit es (simp_ne HF.out.sim)]
        have ho3N : o3 < 2 ^ N := by rw [ho3]; exact out_lt ho2N
        have ho2c : crd N o2.testBit ≤ c3 := by rw [ho2b]; omega
        have ho3c : crd N o3.testBit ≤ c3 := Nat.le_trans (ns_mono fun i _ => by
          rw [ho3b]
          by_cases h : o2.testBit i = true
          · rw [h]; simp only [Bool.true_and, if_pos]; split <;> omega
          · have : o2.testBit i = false := by simpa using h
            rw [this]; simp) ho2c
        obtain ⟨LL, hLL⟩ : ∃ LL, LL = ks.foldl bump L := ⟨_, rfl⟩
        have hLLb : ∀ i, LL.getD i 0 + 2 ^ c3 ≤ 1000000000 := fun i => by
          have h1 := fold_get ks L i
          have h2 := HC.out.2.2.2.2 i
          have h3 := hR.2.1
          have h4 : 2 ^ (c3 + 1) = 2 ^ c3 + 2 ^ c3 := by rw [Nat.pow_succ]; omega
          have h5 := Nat.two_pow_pos c3
          rw [hLL]
          omega
        have hLLl : LL.length ≤ 25 := by
          rw [hLL]
          refine fold_len HC.out.2.2.2.1 fun k hk => ?_
          have := hR.2.2 k hk; omega
        rw [← hLL] at hTA
        have C33 : Hid (Calls Tryd.prog 33 #[.int .u32 (o1 : Int)] wr fun e w' => e = .returned (.int .i64 (v : Int)) ∧ wr = w') := by rw [hv]; exact (least_call o1 (by omega) (HF.out.tab wr hFxr)).mono fun e w' ⟨h1, h2⟩ => ⟨h1, h2.symm⟩
        have C34 : Hid (Calls Tryd.prog 34 #[.int .i64 (v : Int)] wr fun e w' => e = .returned (.int .u32 (p : Int)) ∧ wr = w') := by rw [hp]; exact (only_call d3).mono fun e w' ⟨h1, h2⟩ => ⟨h1, h2.symm⟩
        have C36 : Hid (∀ B, Fx B → TA B base bt 46 LL → Calls Tryd.prog 36 #[.int .u32 (o3 : Int), .int .i64 ((size : Int) + 1), ptr bs, ptr bf, ptr bn] B (LsPost es base bt N o3 (size + 1) c3 LL B)) := fun B hB hTB => by
          have := HIH.out c3 (by omega) o3 (size + 1) LL B ho3c ho3N (by omega) hB hTB hLLl hLLb
          rw [show ((size + 1 : Nat) : Int) = (size : Int) + 1 by omega] at this
          exact this
        have HV : Hid (Fx wr ∧ TA wr base bt 46 LL) := ⟨hFxr, hTA⟩
        have c2 : wr.cell? ⟨bf, 0, none⟩ = some (.func (.func 36) #[] #[ptr bs, ptr bf, ptr bn]) := box_cell (i := 0) (HF.out.f wr hFxr) rfl
        have c5 : wr.cell? ⟨bn, 0, none⟩ = some (sl nb N) := box_cell (i := 0) (HF.out.n wr hFxr) rfl
        have c4 : wr.cell? ⟨nb, v, none⟩ = some (.int .u32 (A : Int)) := by rw [hA]; exact (HF.out.row wr hFxr).cell hvN
        have HD : Hid (LsR es N op o1 size c (c3 + 1) ks ∧ Turns (FrT base bt) W wr ∧ v < N ∧ o1.testBit v = true ∧ o2.testBit = outB o1.testBit v ∧ (∀ y, o3.testBit y = (o2.testBit y && !adjE es v y)) ∧ LL = ks.foldl bump L ∧ o2 < 2 ^ N ∧ crd N o2.testBit ≤ c3 ∧ c3 + 1 ≤ c) := ⟨hR, hTu, hvN, d1, ho2b, ho3b, hLL, ho2N, ho2c, hcc⟩
        have k2 : ((o1 : Int) != 0) = true := by simp; omega
        have s0 : (size : Int) + 1 < 9223372036854775808 := by omega
        have s1 : -9223372036854775808 ≤ (size : Int) + 1 := by omega
        have v0 : (0 : Int) ≤ (v : Int) := by omega
        have v1 : (v : Int) < (N : Int) := by omega
        clear hR hTA hTu hFxr hvN d1 ho2b ho3b hLL ho2N hJ hv hp ho2 ho3 ho3N ho2c ho3c hcr hLLb hLLl hA hc1 hcc hz hO1N
        go_upto_region 4 with (first | (go_at_call 33; refine Calls.mono C33.out ?_; rintro e V1 ⟨rfl, rfl⟩) | (go_at_call 34; refine Calls.mono C34.out ?_; rintro e V1 ⟨rfl, rfl⟩) | fail)
        have g0 := cell_growD c2
        have g1 := cell_growD c4
        have g2 := cell_growD c5
        clear c2 c4 c5 C33 C34
        refine wp_region_tailT 9 (by kernel_rfl) (by kernel_rfl) (by kernel_rfl) (by decide) ?_
        simp only [List.take_succ_cons, List.take_zero, List.drop_succ_cons, List.drop_zero]
        repeat (go_big_quiet_step (fail))
        refine wpQuiet_nil ?_
        rintro _ ⟨gp, rfl⟩
        have hB8 := growD_below wr gp
        clear g0 g1 g2
        generalize growD wr gp = W5 at *
        have hT5 : Turns (FrT base bt) wr W5 := Turns.of_below hB8 _
        have HW : Hid (Turns (FrT base bt) W W5) := HD.out.2.1.trans hT5
        have C36' : Hid _ := C36.out W5 (HF.out.keep _ _ HV.out.1 hT5) (HV.out.2.below hB8)
        clear hB8 hT5 C36
        go_wp2_with (first | (go_at_call 36; refine Calls.mono C36'.out ?_; rintro e V2 ⟨rfl, g1, g2⟩; have HG2 : Hid _ := And.intro g1 g2; clear g1 g2) | fail)
        go_round
        case measure => simp [numOf]; omega
        case rel =>
          obtain ⟨⟨k2, hk2, hT2⟩, hTu2⟩ := HG2.out
          refine ⟨o2, rfl, by omega, c3, ks ++ k2, lsR_step HD.out.1 HD.out.2.2.1 HD.out.2.2.2.1 HD.out.2.2.2.2.1 HD.out.2.2.2.2.2.1 hk2 HD.out.2.2.2.2.2.2.2.2.2, HD.out.2.2.2.2.2.2.2.2.1, by have := HD.out.2.2.2.2.2.2.2.2.2; omega, ?_, HW.out.trans hTu2, HD.out.2.2.2.2.2.2.2.1⟩
          rw [List.foldl_append, ← HD.out.2.2.2.2.2.2.1]
          exact hT2
end Go.Proofs.YtmeodnkmhakidaaDoor

namespace Go.Proofs.YtmeodnkmhakidaaDoor
set_option maxRecDepth 8000
open Go.RowKit Go.Maps
attribute [local go_sem ↓] Go.wp_at_zero Go.wp_at_succ
set_option maxHeartbeats 8000000 in
theorem loose_call {w : World} {nb bt N : Nat} {es : List E2} (hR : RowV w nb 65 N (nv (nearF es))) (hne : nb ≠ bt) (hbt0 : bt ≠ 0) (hT : T32 w) (hB : One w bt (.slice none 0 0) 46) (hes : ∀ e ∈ es, e.1 < N ∧ e.2 < N) (hS : Simp es) (hN : N ≤ 12) :
    Calls Tryd.prog 22 #[sl nb N, .func (.func 21) #[ptr bt] #[]] w fun e w' => e = .returned (.tuple #[]) ∧ (∃ ks, LsK es N (2 ^ N - 1) 0 N ks ∧ TA w' (w.heap.size + 3) bt 46 (ks.foldl bump [])) ∧ Turns (FrT w.heap.size bt) w w' := by
  have HH : Hid (RowV w nb 65 N (nv (nearF es)) ∧ nb ≠ bt ∧ bt ≠ 0 ∧ T32 w ∧ One w bt (.slice none 0 0) 46 ∧ (∀ e ∈ es, e.1 < N ∧ e.2 < N) ∧ Simp es) := ⟨hR, hne, hbt0, hT, hB, hes, hS⟩
  have hE36 := enter36
  clear hR hne hbt0 hT hB hes hS
  go_enter Tryd.func22, Tryd.ntmps22
  go_upto_region 3 with (fail)
  obtain ⟨W0, hW0⟩ : ∃ W0, W0 = (((w.alloc (Obj.cells #[sl nb N] 48)).alloc (Obj.cells #[Value.func (Fn.func 21) #[ptr bt] #[]] 50)).alloc (Obj.cells #[Value.func (Fn.func 36) #[] #[Value.pointer (some ⟨w.heap.size + 1, 0, none⟩), Value.pointer (some ⟨w.heap.size + 1 + 1, 0, none⟩), Value.pointer (some ⟨w.heap.size, 0, none⟩)]] 63)) := ⟨_, rfl⟩
  have hB0 : Below w.heap.size w W0 := by rw [hW0]; exact below_alloc (below_alloc (below_alloc (Below.refl _ w) _) _) _
  have hnb := HH.out.1.lt
  have hbt := lt_of_block HH.out.2.2.2.2.1
  have hFx : FxT 36 w.heap.size nb bt N es W0 := by
    refine ⟨?_, ?_, ?_, HH.out.1.block (hB0.block _ hnb), HH.out.2.2.2.1.below hB0, by rw [hW0]; simp⟩
    · rw [hW0]; exact one_alloc' (one_alloc' (heap_alloc_new _ _) _) _
    · rw [hW0]
      refine one_alloc' ?_ _
      have := heap_alloc_new (w.alloc (Obj.cells #[sl nb N] 48)) (Obj.cells #[Value.func (Fn.func 21) #[ptr bt] #[]] 50)
      rw [show (w.alloc (Obj.cells #[sl nb N] 48)).heap.size = w.heap.size + 1 by simp] at this
      exact this
    · rw [hW0]
      have := heap_alloc_new ((w.alloc (Obj.cells #[sl nb N] 48)).alloc (Obj.cells #[Value.func (Fn.func 21) #[ptr bt] #[]] 50)) (Obj.cells #[Value.func (Fn.func 36) #[] #[Value.pointer (some ⟨w.heap.size + 1, 0, none⟩), Value.pointer (some ⟨w.heap.size + 1 + 1, 0, none⟩), Value.pointer (some ⟨w.heap.size, 0, none⟩)]] 63)
      rw [show ((w.alloc (Obj.cells #[sl nb N] 48)).alloc (Obj.cells #[Value.func (Fn.func 21) #[ptr bt] #[]] 50)).heap.size = w.heap.size + 1 + 1 by simp] at this
      exact this
  have hTA : TA W0 (w.heap.size + 3) bt 46 [] := ⟨none, 0, (hB0.block _ hbt).trans HH.out.2.2.2.2.1, World.ownsRow_nil _ _ _ _⟩
  have hM := fxT_ok (fn := 36) hnb HH.out.2.1 hbt HH.out.2.2.1 HH.out.2.2.2.2.2.1 HH.out.2.2.2.2.2.2 (show N ≤ 24 by omega)
  rw [← hW0]
  obtain ⟨b0, hb0⟩ : ∃ b, b = w.heap.size := ⟨_, rfl⟩
  rw [← hb0] at hFx hTA hM ⊢
  obtain ⟨m, hm⟩ : ∃ m, m = 2 ^ N - 1 := ⟨_, rfl⟩
  have C35 : Hid (∀ B : World, Calls Tryd.prog 35 #[.int .i64 (N : Int)] B fun e w' => e = .returned (.int .u32 (m : Int)) ∧ Below B.heap.size B w') := fun B => by
    rw [hm]
    exact (below_call (by omega)).mono fun e w' ⟨h1, h2⟩ => ⟨h1, h2 ▸ Below.refl _ _⟩
  have hfac : 2 ^ N ≤ 4096 := (Nat.pow_le_pow_right (by decide) hN : 2 ^ N ≤ 2 ^ 12)
  have C36 : Hid (∀ B, Below W0.heap.size W0 B → Calls Tryd.prog 36 #[.int .u32 (m : Int), .int .i64 0, ptr (b0 + 1), ptr (b0 + 2), ptr b0] B (LsPost es (b0 + 3) bt N m 0 N [] B)) := fun B hB => by
    have hT5 : Turns (FrT (b0 + 3) bt) W0 B := Turns.of_below hB _
    refine ls_call hM N m 0 [] B (crd_le _ _) (by rw [hm]; have := Nat.two_pow_pos N; omega) (by omega) (hM.keep _ _ hFx hT5) (hTA.below hB) (by simp) (fun i => ?_)
    simp
    omega
  have c0 : W0.cell? ⟨b0, 0, none⟩ = some (sl nb N) := box_cell (i := 0) (hM.n W0 hFx) rfl
  have c1 : W0.cell? ⟨b0 + 1 + 1, 0, none⟩ = some (.func (.func 36) #[] #[ptr (b0 + 1), ptr (b0 + 1 + 1), ptr b0]) := box_cell (i := 0) (hM.f W0 hFx) rfl
  have g0 := cell_growD c0
  have g1 := cell_growD c1
  have HB : Hid (Below w.heap.size w W0 ∧ m = 2 ^ N - 1 ∧ b0 = w.heap.size) := ⟨hB0, hm, hb0⟩
  clear c0 c1 hTA hFx hM hB0 hW0 hm hb0 hnb hbt
  refine wp_region_tailT 4 (by kernel_rfl) (by kernel_rfl) (by kernel_rfl) (by decide) ?_
  simp only [List.take_succ_cons, List.take_zero, List.drop_succ_cons, List.drop_zero]
  repeat (go_big_quiet_step (first | (go_at_call 35; exact Calls.belowQ (fun W hW => C35.out W))))
  refine wpQuiet_nil ?_
  rintro _ ⟨gp, rfl⟩
  have hB8 := growD_below W0 gp
  clear g0 g1
  generalize growD W0 gp = W5 at *
  have C36' : Hid _ := C36.out W5 hB8
  have HB8 : Hid (Below W0.heap.size W0 W5) := hB8
  clear hB8 C36 C35
  go_wp2_with (first | (go_at_call 36; refine Calls.mono C36'.out ?_; rintro e V2 ⟨rfl, g1, g2⟩; have HG : Hid _ := And.intro g1 g2; clear g1 g2) | fail)
  go_end0
  obtain ⟨ks, h1, h2⟩ := HG.out.1
  refine ⟨rfl, ⟨ks, HB.out.2.1 ▸ h1, HB.out.2.2 ▸ h2⟩, ?_⟩
  exact (Turns.of_below (below_next HB.out.1 HB8.out) _).trans (HG.out.2.mono fun x _ h => by have := HB.out.2.2; rcases h with h | h; exact Or.inl h; exact Or.inr (by omega))
end Go.Proofs.YtmeodnkmhakidaaDoor
