/- All matchings: the literal of tryMatchings. tryMatchings. -/
import Derived.Test.YtmeodnkmhakidaaDoorMatK
import Derived.Test.YtmeodnkmhakidaaDoorNearP
import Derived.Test.YtmeodnkmhakidaaDoorTalW
namespace Go.Proofs.YtmeodnkmhakidaaDoor
set_option maxRecDepth 8000
open Go.RowKit Go.Maps
attribute [local go_sem ↓] Go.wp_at_zero Go.wp_at_succ
theorem enter32 (args : Array Value) (w : World) : (callFunc 32 args).run Tryd.prog w = .ok (.enter 32 args) w := by
  simp [callFunc, Tryd.func32, go_sem]
  rw [if_neg (of_decide_eq_true (by kernel_rfl)), if_neg (by intro h; have : Tryd.f32.body.isSome = true := (by kernel_rfl); rw [h] at this; cases this)]
theorem enter21 (args : Array Value) (w : World) : (callFunc 21 args).run Tryd.prog w = .ok (.enter 21 args) w := by
  simp [callFunc, Tryd.func21, go_sem]
  rw [if_neg (of_decide_eq_true (by kernel_rfl)), if_neg (by intro h; have : Tryd.f21.body.isSome = true := (by kernel_rfl); rw [h] at this; cases this)]
/-- What lies in memory and stays there while sets of nodes are tried. -/
structure FxM (Fx : World → Prop) (fn bs bf bn nb bt base N : Nat) (es : List E2) : Prop where
  keep : ∀ A A', Fx A → Turns (FrT base bt) A A' → Fx A'
  s : ∀ A, Fx A → One A bs (.func (.func 21) #[ptr bt] #[]) 50
  f : ∀ A, Fx A → One A bf (.func (.func fn) #[] #[ptr bs, ptr bf, ptr bn]) 63
  n : ∀ A, Fx A → One A bn (sl nb N) 48
  row : ∀ A, Fx A → RowV A nb 65 N (nv (nearF es))
  tab : ∀ A, Fx A → T32 A
  size : ∀ A, Fx A → base ≤ A.heap.size
  hes : ∀ e ∈ es, e.1 < N ∧ e.2 < N
  sim : Simp es
  hN : N ≤ 24
theorem simp_ne : ∀ {es : List E2}, Simp es → ∀ e ∈ es, e.1 ≠ e.2
  | [], _, _, h => by cases h
  | a :: l, h, e, he => by
    rcases List.mem_cons.1 he with rfl | he
    · exact h.1
    · exact simp_ne h.2.2 e he
theorem bit_lt {N x z : Nat} (h : x < 2 ^ N) (hz : x.testBit z = true) : z < N := by
  apply Classical.byContradiction
  intro hc
  have h2 : x < 2 ^ z := Nat.lt_of_lt_of_le h (Nat.pow_le_pow_right (by decide) (by omega))
  rw [Nat.testBit_lt_two_pow h2] at hz
  cases hz
theorem zero_of_bits {N x : Nat} (h : x < 2 ^ N) (hz : ∀ z, z < N → x.testBit z = false) : x = 0 := by
  refine Nat.eq_of_testBit_eq fun z => ?_
  rw [Nat.zero_testBit]
  cases hb : x.testBit z with
  | false => rfl
  | true => rw [hz z (bit_lt h hb)] at hb; cases hb
theorem out_lt {N x v : Nat} (h : x < 2 ^ N) : x &&& v < 2 ^ N := Nat.lt_of_le_of_lt Nat.and_le_left h
theorem tal_mem {L : List Nat} {b : Nat} (h : ∀ i, L.getD i 0 + 1 ≤ b) : ∀ x ∈ L, x < b := fun x hx => by
  obtain ⟨i, hi⟩ := List.getElem?_of_mem hx
  have := h i
  rw [List.getD_eq_getElem?_getD, hi] at this
  simp at this
  omega
theorem TA.below {w w' : World} {base bt : Nat} {t : TypeId} {L : List Nat} (h : TA w base bt t L) (hb : Below w.heap.size w w') : TA w' base bt t L := by
  obtain ⟨vo, vc, h1, h2⟩ := h
  exact ⟨vo, vc, (hb.block _ (lt_of_block h1)).trans h1, ownsRow_blocks h2 fun b hbk => hb.block b (h2.lt b hbk).2⟩
abbrev MatPost (es : List E2) (base bt left size c : Nat) (L : List Nat) (W : World) : Ending → World → Prop := fun e w' => e = .returned (.tuple #[]) ∧ (∃ ks, MtK es left size c ks ∧ TA w' base bt 46 (ks.foldl bump L)) ∧ Turns (FrT base bt) W w'
theorem mat_zero {Fx : World → Prop} {bs bf bn nb bt base N : Nat} {es : List E2} (hF : FxM Fx 32 bs bf bn nb bt base N es) (c size : Nat) (L : List Nat) (W : World) (hs : size + c ≤ 24) (hFx : Fx W) (hT : TA W base bt 46 L) (hL : L.length ≤ 25) (hb : ∀ i, L.getD i 0 + fac c ≤ 1000000000) :
      Calls Tryd.prog 32 #[.int .u32 ((0 : Nat) : Int), .int .i64 (size : Int), ptr bs, ptr bf, ptr bn] W (MatPost es base bt 0 size c L W) := by
  have hE21 := enter21
  have HSEE : Hid (Calls Tryd.prog 21 #[ptr bt, .int .i64 (size : Int)] W fun e w' => e = .returned (.tuple #[]) ∧ TA w' base bt 46 (bump L size) ∧ Turns (FrT base bt) W w') := tal_call hT (by omega) (by omega) (tal_mem fun i => by have := hb i; have := fac_pos c; omega) (hF.size W hFx)
  have c2 : W.cell? ⟨bs, 0, none⟩ = some (.func (.func 21) #[ptr bt] #[]) := box_cell (i := 0) (hF.s W hFx) rfl
  clear hFx hT hL hb hF
  go_enter Tryd.func32, Tryd.ntmps32
  go_wp2_with (first | (go_at_call 21; refine Calls.mono HSEE.out ?_; rintro e V1 ⟨rfl, g1, g2⟩; have HG : Hid _ := And.intro g1 g2; clear g1 g2) | fail)
  refine bodyPost_ret (v := .tuple #[]) ?_ rfl ⟨rfl, ⟨[size], mtK_zero es size c, HG.out.1⟩, HG.out.2⟩
  simp [results, Tryd.results32, go_sem]
set_option maxHeartbeats 16000000 in
theorem mat_call {Fx : World → Prop} {bs bf bn nb bt base N : Nat} {es : List E2} (hF : FxM Fx 32 bs bf bn nb bt base N es) :
    ∀ (c left size : Nat) (L : List Nat) (W : World), crd N left.testBit ≤ c → left < 2 ^ N → size + c ≤ 24 → Fx W → TA W base bt 46 L → L.length ≤ 25 → (∀ i, L.getD i 0 + fac c ≤ 1000000000) →
      Calls Tryd.prog 32 #[.int .u32 (left : Int), .int .i64 (size : Int), ptr bs, ptr bf, ptr bn] W (MatPost es base bt left size c L W) := by
  have HF : Hid _ := hF
  have hE32 := enter32
  have hN24 := hF.hN
  clear hF
  intro c
  induction c with
  | zero =>
    intro left size L W hc hl hs hFx hT hL hb
    have h0 : left = 0 := zero_of_bits hl fun z hz => crd_zero (Nat.le_zero.1 hc) z hz
    subst h0
    exact mat_zero HF.out 0 size L W hs hFx hT hL hb
  | succ c ih =>
    intro left size L W hc hl hs hFx hT hL hb
    by_cases h0 : left = 0
    · subst h0
      exact mat_zero HF.out (c + 1) size L W hs hFx hT hL hb
    have h24 : (2 : Nat) ^ N ≤ 16777216 := by
      have : (2 : Nat) ^ N ≤ 2 ^ 24 := Nat.pow_le_pow_right (by decide) hN24
      omega
    have hl32 : left < 16777216 := Nat.lt_of_lt_of_le hl h24
    obtain ⟨v, hv⟩ : ∃ v, v = Lib.ctz 32 left := ⟨_, rfl⟩
    obtain ⟨d1, d2, d3⟩ := ctz_bits h0 (by omega)
    clear d2
    rw [← hv] at d1 d3
    have hvN : v < N := bit_lt hl d1
    obtain ⟨p, hp⟩ : ∃ p, p = 2 ^ v := ⟨_, rfl⟩
    have hp32 : p < 4294967296 := by rw [hp]; exact Nat.pow_lt_pow_right (m := v) (n := 32) (by decide) d3
    obtain ⟨l1, hl1⟩ : ∃ l1, l1 = left &&& (4294967295 - p) := ⟨_, rfl⟩
    have hl1b : l1.testBit = outB left.testBit v := by rw [hl1, hp]; exact andNot_bits (by omega) d3
    have hl1N : l1 < 2 ^ N := by rw [hl1]; exact out_lt hl
    have hl1c : crd N l1.testBit ≤ c := by
      have := crd_out hvN d1
      rw [hl1b]
      omega
    have b4 : bits BinOp.andNot IntKind.u32 (left : Int) (p : Int) = (l1 : Int) := by rw [u32_andNot_nat left p (by omega) hp32, hl1]
    obtain ⟨f, hf⟩ : ∃ f, f = fac c := ⟨_, rfl⟩
    have hf1 : fac (c + 1) = c * f + f := by rw [fac, ← hf, Nat.add_mul, Nat.one_mul]
    have hf0 : 0 < f := by rw [hf]; exact fac_pos c
    have C33 : Hid (Calls Tryd.prog 33 #[.int .u32 (left : Int)] W fun e w' => e = .returned (.int .i64 (v : Int)) ∧ W = w') := by rw [hv]; exact (least_call left (by omega) (HF.out.tab W hFx)).mono fun e w' ⟨h1, h2⟩ => ⟨h1, h2.symm⟩
    have C34 : Hid (Calls Tryd.prog 34 #[.int .i64 (v : Int)] W fun e w' => e = .returned (.int .u32 (p : Int)) ∧ W = w') := by rw [hp]; exact (only_call d3).mono fun e w' ⟨h1, h2⟩ => ⟨h1, h2.symm⟩
    have C32 : Hid (Calls Tryd.prog 32 #[.int .u32 (l1 : Int), .int .i64 (size : Int), ptr bs, ptr bf, ptr bn] W (MatPost es base bt l1 size c L W)) := ih l1 size L W hl1c hl1N (by omega) hFx hT hL (fun i => by have := hb i; rw [hf1] at this; rw [← hf]; omega)
    have HC : Hid (left.testBit v = true ∧ l1.testBit = outB left.testBit v ∧ crd N l1.testBit ≤ c ∧ l1 < 2 ^ N ∧ (∀ i, L.getD i 0 + (c * f + f) ≤ 1000000000) ∧ f = fac c ∧ L.length ≤ 25 ∧ Fx W) := ⟨d1, hl1b, hl1c, hl1N, fun i => by have := hb i; rw [hf1] at this; exact this, hf, hL, hFx⟩
    have HIH : Hid _ := ih
    have c2 : W.cell? ⟨bf, 0, none⟩ = some (.func (.func 32) #[] #[ptr bs, ptr bf, ptr bn]) := box_cell (i := 0) (HF.out.f W hFx) rfl
    have k1 : ((left : Int) == 0) = false := by simp; omega
    have hl132 : l1 < 16777216 := Nat.lt_of_lt_of_le hl1N h24
    clear hc hl hFx hT hL hb d1 hv hp hl1 hl1b hl1N hl1c hf hf1 ih h0
    go_enter Tryd.func32, Tryd.ntmps32
    go_upto_region 5 with (first | (go_at_call 33; refine Calls.mono C33.out ?_; rintro e V1 ⟨rfl, rfl⟩) | (go_at_call 34; refine Calls.mono C34.out ?_; rintro e V1 ⟨rfl, rfl⟩) | (go_at_call 32; refine Calls.mono C32.out ?_; rintro e V1 ⟨rfl, g1, g2⟩; have HG : Hid _ := And.intro g1 g2; clear g1 g2) | fail)
    obtain ⟨⟨k0, hk0, hT0⟩, hTu0⟩ := HG.out
    have hFx1 : Fx V1 := HF.out.keep _ _ HC.out.2.2.2.2.2.2.2 hTu0
    obtain ⟨A, hA⟩ : ∃ A, A = nearF es v := ⟨_, rfl⟩
    have hA32 : A < 16777216 := by
      rw [hA]
      exact Nat.lt_of_lt_of_le (nearF_lt (N := N) (simp_ne HF.out.sim) HF.out.hes v) h24
    have c3 : V1.cell? ⟨bn, 0, none⟩ = some (sl nb N) := box_cell (i := 0) (HF.out.n V1 hFx1) rfl
    have c4 : V1.cell? ⟨nb, v, none⟩ = some (.int .u32 (A : Int)) := by rw [hA]; exact (HF.out.row V1 hFx1).cell hvN
    have b5 := and_u32 (a := l1) (b := A) (by omega) (by omega)
    obtain ⟨O, hO⟩ : ∃ O, O = l1 &&& A := ⟨_, rfl⟩
    rw [← hO] at b5
    have hON : O < 2 ^ N := by rw [hO]; exact out_lt HC.out.2.2.2.1
    have hObit : ∀ x, O.testBit x = (l1.testBit x && adjE es v x) := fun x => by rw [hO, Nat.testBit_and, hA, nearF_bit es (simp_ne HF.out.sim)]
    have hOc : crd N O.testBit ≤ c := Nat.le_trans (ns_mono fun i _ => by
      rw [hObit]
      by_cases h : l1.testBit i = true
      · rw [h]; simp only [Bool.true_and, if_pos]; split <;> omega
      · have : l1.testBit i = false := by simpa using h
        rw [this]; simp) HC.out.2.2.1
    have v0 : (0 : Int) ≤ (v : Int) := by omega
    have v1 : (v : Int) < (N : Int) := by omega
    have hl1' := HC.out.2.2.2.1
    have HK : Hid (MtK es l1 size c k0 ∧ TA V1 base bt 46 (k0.foldl bump L) ∧ Turns (FrT base bt) W V1 ∧ Fx V1 ∧ O < 2 ^ N ∧ (∀ x, O.testBit x = (l1.testBit x && adjE es v x)) ∧ crd N O.testBit ≤ c) := ⟨hk0, hT0, hTu0, hFx1, hON, hObit, hOc⟩
    clear hk0 hT0 hTu0 hFx1 hA hO hON hObit hOc HG C33 C34 C32 c2 hl1'
    go_wp2_with (fail)
    go_loopw [8] (fun s8 wz => ∃ O1 : Nat, s8 = .int .u32 (O1 : Int) ∧ O1 < 16777216 ∧ Hid (∃ ks, MtR es N l1 size c O O1 ks ∧ TA wz base bt 46 ((k0 ++ ks).foldl bump L) ∧ Turns (FrT base bt) W wz ∧ Fx wz ∧ O1 < 2 ^ N ∧ (∀ x, O1.testBit x = true → O.testBit x = true))) (fun s8 _ => (numOf s8).toNat)
    case atStart => exact ⟨O, rfl, Nat.lt_of_lt_of_le HK.out.2.2.2.2.1 h24, [], mtR_nil _ _ _ _ _ _, by rw [List.append_nil]; exact HK.out.2.1, HK.out.2.2.1, HK.out.2.2.2.1, HK.out.2.2.2.2.1, fun _ h => h⟩
    case round =>
      obtain ⟨O1, rfl, hO1, hJ⟩ := hrel
      obtain ⟨ks, hR, hTA, hTu, hFxr, hO1N, hsub⟩ := hJ.out
      by_cases hz : O1 = 0
      · subst hz
        have HE : Hid (MtR es N l1 size c O 0 ks ∧ TA wr base bt 46 ((k0 ++ ks).foldl bump L) ∧ Turns (FrT base bt) W wr) := ⟨hR, hTA, hTu⟩
        clear hR hTA hTu hFxr hO1N hsub hJ
        go_wp2
        go_end0
        exact ⟨rfl, ⟨k0 ++ ks, mtK_all HF.out.sim HF.out.hes HC.out.1 HC.out.2.1 HK.out.2.2.2.2.2.1 HK.out.2.2.2.2.2.2 HK.out.1 HE.out.1, HE.out.2.1⟩, HE.out.2.2⟩
      · obtain ⟨u, hu⟩ : ∃ u, u = Lib.ctz 32 O1 := ⟨_, rfl⟩
        obtain ⟨d1, d2, d3'⟩ := ctz_bits hz (by omega)
        rw [← hu] at d1 d2 d3'
        have huN : u < N := bit_lt hO1N d1
        obtain ⟨q, hq⟩ : ∃ q, q = 2 ^ u := ⟨_, rfl⟩
        have hq32 : q < 4294967296 := by rw [hq]; exact Nat.pow_lt_pow_right (m := u) (n := 32) (by decide) d3'
        obtain ⟨l2, hl2⟩ : ∃ l2, l2 = l1 &&& (4294967295 - q) := ⟨_, rfl⟩
        have hl2b : l2.testBit = outB l1.testBit u := by rw [hl2, hq]; exact andNot_bits (by omega) d3'
        have hl2N : l2 < 2 ^ N := by rw [hl2]; exact out_lt HC.out.2.2.2.1
        have hOu := hsub u d1
        have hl1u : l1.testBit u = true := by
          have := HK.out.2.2.2.2.2.1 u
          rw [hOu] at this
          simp at this
          exact this.1
        have hl2c : crd N l2.testBit + 1 ≤ c := by
          have := crd_out huN hl1u
          have := HC.out.2.2.1
          rw [hl2b]
          omega
        have a4 : bits BinOp.andNot IntKind.u32 (l1 : Int) (q : Int) = (l2 : Int) := by rw [u32_andNot_nat l1 q (by omega) hq32, hl2]
        obtain ⟨O2, hO2⟩ : ∃ O2, O2 = O1 &&& (O1 - 1) := ⟨_, rfl⟩
        rw [← hO2] at d2
        have a5 : bits BinOp.and IntKind.u32 (O1 : Int) ((O1 : Int) - 1) = (O2 : Int) := by
          have e1 : (O1 : Int) - 1 = ((O1 - 1 : Nat) : Int) := by omega
          rw [e1, and_u32 (by omega) (by omega), hO2]
        have hO2l : O2 < O1 := by
          have : O1 &&& (O1 - 1) ≤ O1 - 1 := Nat.and_le_right
          omega
        have hdn : dn N O O1 + 1 ≤ c := by
          have h1 := dn_step (N := N) huN hOu d1 d2
          have h2 := Nat.le_trans (dn_le (N := N) (O := O) (O' := O2)) HK.out.2.2.2.2.2.2
          omega
        have hkf : ks.length + f ≤ c * f := by
          have h1 := hR.2.1
          rw [← HC.out.2.2.2.2.2.1] at h1
          have h2 : (dn N O O1 + 1) * f ≤ c * f := Nat.mul_le_mul_right _ hdn
          rw [Nat.add_mul] at h2
          omega
        have hk0l : k0.length ≤ f := by rw [HC.out.2.2.2.2.2.1]; exact HK.out.1.2.1
        obtain ⟨LL, hLL⟩ : ∃ LL, LL = (k0 ++ ks).foldl bump L := ⟨_, rfl⟩
        have hLLb : ∀ i, LL.getD i 0 + fac c ≤ 1000000000 := fun i => by
          have h1 := fold_get (k0 ++ ks) L i
          have h2 := HC.out.2.2.2.2.1 i
          rw [List.length_append] at h1
          rw [hLL, ← HC.out.2.2.2.2.2.1]
          omega
        have hLLl : LL.length ≤ 25 := by
          rw [hLL]
          refine fold_len HC.out.2.2.2.2.2.2.1 fun k hk => ?_
          rcases List.mem_append.1 hk with h | h
          · have := HK.out.1.2.2 k h; omega
          · have := hR.2.2 k h; omega
        rw [← hLL] at hTA
        have C33 : Hid (∀ B, Below wr.heap.size wr B → Calls Tryd.prog 33 #[.int .u32 (O1 : Int)] B fun e w' => e = .returned (.int .i64 (u : Int)) ∧ Below B.heap.size B w') := fun B hB => by
          rw [hu]
          exact (least_call O1 (by omega) ((HF.out.tab wr hFxr).below hB)).mono fun e w' ⟨h1, h2⟩ => ⟨h1, h2 ▸ Below.refl _ _⟩
        have C34 : Hid (∀ B : World, Calls Tryd.prog 34 #[.int .i64 (u : Int)] B fun e w' => e = .returned (.int .u32 (q : Int)) ∧ Below B.heap.size B w') := fun B => by
          rw [hq]
          exact (only_call d3').mono fun e w' ⟨h1, h2⟩ => ⟨h1, h2 ▸ Below.refl _ _⟩
        have C32 : Hid (∀ B, Fx B → TA B base bt 46 LL → Calls Tryd.prog 32 #[.int .u32 (l2 : Int), .int .i64 ((size : Int) + 1), ptr bs, ptr bf, ptr bn] B (MatPost es base bt l2 (size + 1) c LL B)) := fun B hB hTB => by
          have := HIH.out l2 (size + 1) LL B (by omega) hl2N (by omega) hB hTB hLLl hLLb
          rw [show ((size + 1 : Nat) : Int) = (size : Int) + 1 by omega] at this
          exact this
        have c2 : wr.cell? ⟨bf, 0, none⟩ = some (.func (.func 32) #[] #[ptr bs, ptr bf, ptr bn]) := box_cell (i := 0) (HF.out.f wr hFxr) rfl
        have HD : Hid (MtR es N l1 size c O O1 ks ∧ TA wr base bt 46 LL ∧ Turns (FrT base bt) W wr ∧ Fx wr ∧ u < N ∧ O.testBit u = true ∧ O1.testBit u = true ∧ O2.testBit = outB O1.testBit u ∧ l2.testBit = outB l1.testBit u ∧ LL = (k0 ++ ks).foldl bump L ∧ O1 < 2 ^ N ∧ (∀ x, O1.testBit x = true → O.testBit x = true)) := ⟨hR, hTA, hTu, hFxr, huN, hOu, d1, d2, hl2b, hLL, hO1N, hsub⟩
        have k2 : ((O1 : Int) != 0) = true := by simp; omega
        have s0 : (size : Int) + 1 < 9223372036854775808 := by omega
        have s1 : -9223372036854775808 ≤ (size : Int) + 1 := by omega
        have o0 : (0 : Int) ≤ (O1 : Int) - 1 := by omega
        have o1 : (O1 : Int) - 1 < 4294967296 := by omega
        have g2 := cell_growD c2
        clear hR hTA hTu hFxr huN hOu d1 d2 hl2b hLL hO1N hsub hJ hu hq hl2 hl2N hl1u hl2c hO2 hdn hkf hk0l hLLb hLLl c2 hz
        go_upto_region 8 with (fail)
        refine wp_region_tailT 8 (by kernel_rfl) (by kernel_rfl) (by kernel_rfl) (by decide) ?_
        simp only [List.take_succ_cons, List.take_zero, List.drop_succ_cons, List.drop_zero]
        repeat (go_big_quiet_step (first | (go_at_call 33; exact Calls.belowQ (fun W hW => C33.out W hW)) | (go_at_call 34; exact Calls.belowQ (fun W hW => C34.out W))))
        refine wpQuiet_nil ?_
        rintro _ ⟨gp, rfl⟩
        have hB8 := growD_below wr gp
        clear g2
        generalize growD wr gp = W5 at *
        have hT5 : Turns (FrT base bt) wr W5 := Turns.of_below hB8 _
        have HW : Hid (Turns (FrT base bt) W W5 ∧ Fx W5 ∧ TA W5 base bt 46 LL) := ⟨HD.out.2.2.1.trans hT5, HF.out.keep _ _ HD.out.2.2.2.1 hT5, HD.out.2.1.below hB8⟩
        have C32' : Hid _ := C32.out W5 HW.out.2.1 HW.out.2.2
        clear hB8 hT5 C33 C34 C32
        go_wp2_with (first | (go_at_call 32; refine Calls.mono C32'.out ?_; rintro e V2 ⟨rfl, g1, g2⟩; have HG : Hid _ := And.intro g1 g2; clear g1 g2) | fail)
        go_round
        case measure => simp [numOf]; omega
        case rel =>
          obtain ⟨⟨k2, hk2, hT2⟩, hTu2⟩ := HG.out
          refine ⟨O2, rfl, by omega, ks ++ k2, mtR_step HD.out.1 HD.out.2.2.2.2.1 HD.out.2.2.2.2.2.1 HD.out.2.2.2.2.2.2.1 HD.out.2.2.2.2.2.2.2.1 HD.out.2.2.2.2.2.2.2.2.1 hk2, ?_, HW.out.1.trans hTu2, HF.out.keep _ _ HW.out.2.1 hTu2, Nat.lt_trans hO2l HD.out.2.2.2.2.2.2.2.2.2.2.1, fun x hx => HD.out.2.2.2.2.2.2.2.2.2.2.2 x ?_⟩
          · rw [← List.append_assoc, List.foldl_append, ← HD.out.2.2.2.2.2.2.2.2.2.1]
            exact hT2
          · rw [HD.out.2.2.2.2.2.2.2.1] at hx
            unfold outB at hx
            simp at hx
            exact hx.1
end Go.Proofs.YtmeodnkmhakidaaDoor

namespace Go.Proofs.YtmeodnkmhakidaaDoor
set_option maxRecDepth 8000
open Go.RowKit Go.Maps
attribute [local go_sem ↓] Go.wp_at_zero Go.wp_at_succ
/-- What is fixed: the boxes of near, of see and of from, the row of sets, the table. -/
def FxT (fn b0 nb bt N : Nat) (es : List E2) (A : World) : Prop := One A b0 (sl nb N) 48 ∧ One A (b0 + 1) (.func (.func 21) #[ptr bt] #[]) 50 ∧ One A (b0 + 2) (.func (.func fn) #[] #[ptr (b0 + 1), ptr (b0 + 2), ptr b0]) 63 ∧ RowV A nb 65 N (nv (nearF es)) ∧ T32 A ∧ b0 + 3 ≤ A.heap.size
theorem fxT_ok {fn b0 nb bt N : Nat} {es : List E2} (hnb : nb < b0) (hne : nb ≠ bt) (hbt : bt < b0) (hbt0 : bt ≠ 0) (hes : ∀ e ∈ es, e.1 < N ∧ e.2 < N) (hS : Simp es) (hN : N ≤ 24) : FxM (FxT fn b0 nb bt N es) fn (b0 + 1) (b0 + 2) b0 nb bt (b0 + 3) N es where
  keep := fun A A' ⟨h1, h2, h3, h4, h5, h6⟩ hT => by
    have q : ∀ x, x < b0 + 3 → x ≠ bt → A'.heap[x]? = A.heap[x]? := fun x hx hb => hT.block x (by omega) (fun h => by rcases h with h | h <;> omega)
    refine ⟨(q _ (by omega) (by omega)).trans h1, (q _ (by omega) (by omega)).trans h2, (q _ (by omega) (by omega)).trans h3, h4.block (q _ (by omega) hne), ?_, Nat.le_trans h6 hT.size⟩
    intro j hj
    refine Eq.trans ?_ (h5 j hj)
    have := q 0 (by omega) (fun h => hbt0 h.symm)
    simp [World.cell?, this]
  s := fun A h => h.2.1
  f := fun A h => h.2.2.1
  n := fun A h => h.1
  row := fun A h => h.2.2.2.1
  tab := fun A h => h.2.2.2.2.1
  size := fun A h => h.2.2.2.2.2
  hes := hes
  sim := hS
  hN := hN
theorem fac_le : ∀ {n m : Nat}, n ≤ m → fac n ≤ fac m := fun {n m} h => by
  induction m with
  | zero => have : n = 0 := by omega
            subst this; exact Nat.le_refl _
  | succ m ih =>
    by_cases e : n = m + 1
    · subst e; exact Nat.le_refl _
    · have := ih (by omega)
      rw [fac]
      have : fac m ≤ (m + 1) * fac m := Nat.le_mul_of_pos_left _ (by omega)
      omega
set_option maxHeartbeats 8000000 in
theorem mats_call {w : World} {nb bt N : Nat} {es : List E2} (hR : RowV w nb 65 N (nv (nearF es))) (hne : nb ≠ bt) (hbt0 : bt ≠ 0) (hT : T32 w) (hB : One w bt (.slice none 0 0) 46) (hes : ∀ e ∈ es, e.1 < N ∧ e.2 < N) (hS : Simp es) (hN : N ≤ 12) :
    Calls Tryd.prog 19 #[sl nb N, .func (.func 21) #[ptr bt] #[]] w fun e w' => e = .returned (.tuple #[]) ∧ (∃ ks, MtK es (2 ^ N - 1) 0 N ks ∧ TA w' (w.heap.size + 3) bt 46 (ks.foldl bump [])) ∧ Turns (FrT w.heap.size bt) w w' := by
  have HH : Hid (RowV w nb 65 N (nv (nearF es)) ∧ nb ≠ bt ∧ bt ≠ 0 ∧ T32 w ∧ One w bt (.slice none 0 0) 46 ∧ (∀ e ∈ es, e.1 < N ∧ e.2 < N) ∧ Simp es) := ⟨hR, hne, hbt0, hT, hB, hes, hS⟩
  have hE32 := enter32
  clear hR hne hbt0 hT hB hes hS
  go_enter Tryd.func19, Tryd.ntmps19
  go_upto_region 3 with (fail)
  obtain ⟨W0, hW0⟩ : ∃ W0, W0 = (((w.alloc (Obj.cells #[sl nb N] 48)).alloc (Obj.cells #[Value.func (Fn.func 21) #[ptr bt] #[]] 50)).alloc (Obj.cells #[Value.func (Fn.func 32) #[] #[Value.pointer (some ⟨w.heap.size + 1, 0, none⟩), Value.pointer (some ⟨w.heap.size + 1 + 1, 0, none⟩), Value.pointer (some ⟨w.heap.size, 0, none⟩)]] 63)) := ⟨_, rfl⟩
  have hB0 : Below w.heap.size w W0 := by rw [hW0]; exact below_alloc (below_alloc (below_alloc (Below.refl _ w) _) _) _
  have hnb := HH.out.1.lt
  have hbt := lt_of_block HH.out.2.2.2.2.1
  have hFx : FxT 32 w.heap.size nb bt N es W0 := by
    refine ⟨?_, ?_, ?_, HH.out.1.block (hB0.block _ hnb), HH.out.2.2.2.1.below hB0, by rw [hW0]; simp⟩
    · rw [hW0]; exact one_alloc' (one_alloc' (heap_alloc_new _ _) _) _
    · rw [hW0]
      refine one_alloc' ?_ _
      have := heap_alloc_new (w.alloc (Obj.cells #[sl nb N] 48)) (Obj.cells #[Value.func (Fn.func 21) #[ptr bt] #[]] 50)
      rw [show (w.alloc (Obj.cells #[sl nb N] 48)).heap.size = w.heap.size + 1 by simp] at this
      exact this
    · rw [hW0]
      have := heap_alloc_new ((w.alloc (Obj.cells #[sl nb N] 48)).alloc (Obj.cells #[Value.func (Fn.func 21) #[ptr bt] #[]] 50)) (Obj.cells #[Value.func (Fn.func 32) #[] #[Value.pointer (some ⟨w.heap.size + 1, 0, none⟩), Value.pointer (some ⟨w.heap.size + 1 + 1, 0, none⟩), Value.pointer (some ⟨w.heap.size, 0, none⟩)]] 63)
      rw [show ((w.alloc (Obj.cells #[sl nb N] 48)).alloc (Obj.cells #[Value.func (Fn.func 21) #[ptr bt] #[]] 50)).heap.size = w.heap.size + 1 + 1 by simp] at this
      exact this
  have hTA : TA W0 (w.heap.size + 3) bt 46 [] := ⟨none, 0, (hB0.block _ hbt).trans HH.out.2.2.2.2.1, World.ownsRow_nil _ _ _ _⟩
  have hM := fxT_ok (fn := 32) hnb HH.out.2.1 hbt HH.out.2.2.1 HH.out.2.2.2.2.2.1 HH.out.2.2.2.2.2.2 (show N ≤ 24 by omega)
  rw [← hW0]
  obtain ⟨b0, hb0⟩ : ∃ b, b = w.heap.size := ⟨_, rfl⟩
  rw [← hb0] at hFx hTA hM ⊢
  obtain ⟨m, hm⟩ : ∃ m, m = 2 ^ N - 1 := ⟨_, rfl⟩
  have C35 : Hid (∀ B : World, Calls Tryd.prog 35 #[.int .i64 (N : Int)] B fun e w' => e = .returned (.int .u32 (m : Int)) ∧ Below B.heap.size B w') := fun B => by
    rw [hm]
    exact (below_call (by omega)).mono fun e w' ⟨h1, h2⟩ => ⟨h1, h2 ▸ Below.refl _ _⟩
  have hfac : fac N ≤ 479001600 := Nat.le_trans (fac_le hN) (by decide)
  have C32 : Hid (∀ B, Below W0.heap.size W0 B → Calls Tryd.prog 32 #[.int .u32 (m : Int), .int .i64 0, ptr (b0 + 1), ptr (b0 + 2), ptr b0] B (MatPost es (b0 + 3) bt m 0 N [] B)) := fun B hB => by
    have hT5 : Turns (FrT (b0 + 3) bt) W0 B := Turns.of_below hB _
    refine mat_call hM N m 0 [] B (crd_le _ _) (by rw [hm]; have := Nat.two_pow_pos N; omega) (by omega) (hM.keep _ _ hFx hT5) (hTA.below hB) (by simp) (fun i => ?_)
    simp
    omega
  have c0 : W0.cell? ⟨b0, 0, none⟩ = some (sl nb N) := box_cell (i := 0) (hM.n W0 hFx) rfl
  have c1 : W0.cell? ⟨b0 + 1 + 1, 0, none⟩ = some (.func (.func 32) #[] #[ptr (b0 + 1), ptr (b0 + 1 + 1), ptr b0]) := box_cell (i := 0) (hM.f W0 hFx) rfl
  have g0 := cell_growD c0
  have g1 := cell_growD c1
  have HB : Hid (Below w.heap.size w W0 ∧ m = 2 ^ N - 1 ∧ b0 = w.heap.size) := ⟨hB0, hm, hb0⟩
  clear c0 c1 hTA hFx hM hB0 hW0 hm hb0 hnb hbt
  refine wp_region_tailT 4 (by kernel_rfl) (by kernel_rfl) (by kernel_rfl) (by decide) ?_
  simp only [List.take_succ_cons, List.take_zero, List.drop_succ_cons, List.drop_zero]
  repeat (go_big_quiet_step (first | (go_at_call 35; exact Calls.belowQ (fun W hW => C35.out W))))
  refine wpQuiet_nil ?_
  rintro _ ⟨gp, rfl⟩
  have hB8 := growD_below W0 gp
  clear g0 g1
  generalize growD W0 gp = W5 at *
  have C32' : Hid _ := C32.out W5 hB8
  have HB8 : Hid (Below W0.heap.size W0 W5) := hB8
  clear hB8 C32 C35
  go_wp2_with (first | (go_at_call 32; refine Calls.mono C32'.out ?_; rintro e V2 ⟨rfl, g1, g2⟩; have HG : Hid _ := And.intro g1 g2; clear g1 g2) | fail)
  go_end0
  obtain ⟨ks, h1, h2⟩ := HG.out.1
  refine ⟨rfl, ⟨ks, HB.out.2.1 ▸ h1, HB.out.2.2 ▸ h2⟩, ?_⟩
  exact (Turns.of_below (below_next HB.out.1 HB8.out) _).trans (HG.out.2.mono fun x _ h => by have := HB.out.2.2; rcases h with h | h; exact Or.inl h; exact Or.inr (by omega))
end Go.Proofs.YtmeodnkmhakidaaDoor
