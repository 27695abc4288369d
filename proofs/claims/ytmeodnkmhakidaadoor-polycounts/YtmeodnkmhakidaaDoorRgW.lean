/- Rings through all nodes: the literal of countRings. -/
import Derived.Test.YtmeodnkmhakidaaDoorRgM
import Derived.Test.YtmeodnkmhakidaaDoorMatWT
import Derived.Test.YtmeodnkmhakidaaDoorRegM
namespace Go.Proofs.YtmeodnkmhakidaaDoor
set_option maxRecDepth 8000
open Go.RowKit Go.Maps
attribute [local go_sem ↓] Go.wp_at_zero Go.wp_at_succ
theorem hasS_call {w : World} {A z : Nat} (hA : A < 4294967296) (hz : z < 32) : Calls Tryd.prog 38 #[.int .u32 (A : Int), .int .i64 (z : Int)] w fun e w' => e = .returned (.bool (A.testBit z)) ∧ w' = w := by
  obtain ⟨q, hq⟩ : ∃ q, q = 2 ^ z := ⟨_, rfl⟩
  have hq32 : q < 4294967296 := by rw [hq]; exact Nat.pow_lt_pow_right (m := z) (n := 32) (by decide) hz
  have C34 : Hid (Calls Tryd.prog 34 #[.int .i64 (z : Int)] w fun e w' => e = .returned (.int .u32 (q : Int)) ∧ w' = w) := by rw [hq]; exact only_call hz
  have b1 := and_u32 hA hq32
  have hb : (((A &&& q : Nat) : Int) != 0) = A.testBit z := by
    have hz : (A &&& q).testBit z = A.testBit z := by rw [Nat.testBit_and, hq, Nat.testBit_two_pow]; simp
    cases hA : A.testBit z with
    | false =>
      have : A &&& q = 0 := Nat.eq_of_testBit_eq fun i => by
        rw [Nat.zero_testBit, Nat.testBit_and, hq, Nat.testBit_two_pow]
        by_cases e : z = i
        · subst e; rw [hA]; rfl
        · simp [e]
      rw [this]; rfl
    | true =>
      rw [hA] at hz
      have : A &&& q ≠ 0 := fun e => by rw [e] at hz; simp at hz
      simp; omega
  obtain ⟨o, ho⟩ : ∃ o, o = A &&& q := ⟨_, rfl⟩
  rw [← ho] at b1 hb
  have HB : Hid (((o : Int) != 0) = A.testBit z) := hb
  clear hb ho hq
  go_enter Tryd.func38, Tryd.ntmps38
  go_wp2_with (first | (go_at_call 34; refine Calls.mono C34.out ?_; rintro e w' ⟨rfl, rfl⟩) | go_in)
  go_ret
  exact ⟨by rw [← HB.out]; rfl, rfl⟩
theorem enter37 (args : Array Value) (w : World) : (callFunc 37 args).run Tryd.prog w = .ok (.enter 37 args) w := by
  simp [callFunc, Tryd.func37, go_sem]
  rw [if_neg (of_decide_eq_true (by kernel_rfl)), if_neg (by intro h; have : Tryd.f37.body.isSome = true := (by kernel_rfl); rw [h] at this; cases this)]
/-- What lies in memory and stays there while rings are counted. -/
structure FxR (Fx : World → Prop) (bn bm bf nb mb N : Nat) (es : List E2) : Prop where
  keep : ∀ A A', Fx A → Turns (fun x => x = mb) A A' → Fx A'
  n : ∀ A, Fx A → One A bn (sl nb N) 48
  m : ∀ A, Fx A → One A bm (.map (some mb)) 69
  f : ∀ A, Fx A → One A bf (.func (.func 37) #[] #[ptr bn, ptr bm, ptr bf]) 70
  row : ∀ A, Fx A → RowV A nb 65 N (nv (nearF es))
  tab : ∀ A, Fx A → T32 A
  hes : ∀ e ∈ es, e.1 < N ∧ e.2 < N
  sim : Simp es
  hN : N ≤ 12
abbrev RgPost (es : List E2) (N mb v left c n : Nat) (W : World) : Ending → World → Prop := fun e w' => e = .returned (.int .i64 (rC N (adjE es) c v left.testBit : Int)) ∧ (∃ n' F', KnM w' mb n' F' ∧ RgF N (adjE es) F' ∧ n' ≤ n + cst c) ∧ Turns (fun x => x = mb) W w'
theorem rg_zero {Fx : World → Prop} {bn bm bf nb mb N : Nat} {es : List E2} (hF : FxR Fx bn bm bf nb mb N es) (v n : Nat) (F : Cts) (W : World) (hv : v < N) (hFx : Fx W) (hK : KnM W mb n F) (hR : RgF N (adjE es) F) :
    Calls Tryd.prog 37 #[.int .i64 (v : Int), .int .u32 ((0 : Nat) : Int), ptr bn, ptr bm, ptr bf] W (RgPost es N mb v 0 0 n W) := by
  have h24 : (2 : Nat) ^ N ≤ 4096 := (Nat.pow_le_pow_right (by decide) hF.hN : 2 ^ N ≤ 2 ^ 12)
  obtain ⟨A, hA⟩ : ∃ A, A = nearF es v := ⟨_, rfl⟩
  have hA32 : A < 4096 := by
    rw [hA]
    exact Nat.lt_of_lt_of_le (nearF_lt (N := N) (simp_ne hF.sim) hF.hes v) h24
  have c3 : W.cell? ⟨bn, 0, none⟩ = some (sl nb N) := box_cell (i := 0) (hF.n W hFx) rfl
  have c4 : W.cell? ⟨nb, v, none⟩ = some (.int .u32 (A : Int)) := by rw [hA]; exact (hF.row W hFx).cell hv
  have hbit : A.testBit 0 = adjE es v 0 := by rw [hA]; exact nearF_bit es (simp_ne hF.sim) v 0
  have C38 : Hid (Calls Tryd.prog 38 #[.int .u32 (A : Int), .int .i64 0] W fun e w' => e = .returned (.bool (adjE es v 0)) ∧ W = w') := by
    rw [← hbit]
    exact (hasS_call (z := 0) (by omega) (by decide)).mono fun e w' ⟨h1, h2⟩ => ⟨h1, h2.symm⟩
  have HK : Hid (∃ n' F', KnM W mb n' F' ∧ RgF N (adjE es) F' ∧ n' ≤ n + cst 0) := ⟨n, F, hK, hR, by simp [cst]⟩
  have v0 : (0 : Int) ≤ (v : Int) := by omega
  have v1 : (v : Int) < (N : Int) := by omega
  clear hF hFx hK hR hA hbit
  cases hadj : adjE es v 0 with
  | true =>
    rw [hadj] at C38
    have HA : Hid (adjE es v 0 = true) := hadj
    clear hadj
    go_enter Tryd.func37, Tryd.ntmps37
    go_wp2_with (first | (go_at_call 38; refine Calls.mono C38.out ?_; rintro e V1 ⟨rfl, rfl⟩) | fail)
    go_ret
    exact ⟨by rw [rC, if_pos HA.out]; rfl, HK.out, Turns.refl _ _⟩
  | false =>
    rw [hadj] at C38
    have HA : Hid (adjE es v 0 = false) := hadj
    clear hadj
    go_enter Tryd.func37, Tryd.ntmps37
    go_wp2_with (first | (go_at_call 38; refine Calls.mono C38.out ?_; rintro e V1 ⟨rfl, rfl⟩) | fail)
    go_ret
    exact ⟨by rw [rC, if_neg (by rw [HA.out]; decide)]; rfl, HK.out, Turns.refl _ _⟩
structure SM (q : Nat) (V : Nat → Value) (C0 C1 : World → Prop) (L : Nat → Bool) (xs : Nat → Value) (w : World) : Prop where
  told : ∀ i, L i = true → xs i = V i
  w0 : L q = false → C0 w
  w1 : L q = true → C1 w
theorem SM.put {q : Nat} {V : Nat → Value} {C0 C1 : World → Prop} {L : Nat → Bool} {xs : Nat → Value} {w w' : World} (h : SM q V C0 C1 L xs w) {i : Nat} (hi : i ≠ q) (h0 : C0 w → C0 w') (h1 : C1 w → C1 w') : SM q V C0 C1 (also L i) (updV xs i (V i)) w' := by
  refine ⟨fun j hj => ?_, fun hq => h0 (h.w0 (by rwa [also_at (fun e => hi e.symm)] at hq)), fun hq => h1 (h.w1 (by rwa [also_at (fun e => hi e.symm)] at hq))⟩
  by_cases e : j = i
  · subst e; exact updV_same _ _ _
  · rw [updV_ne _ _ e]; exact h.told j (by rwa [also_at e] at hj)
theorem SM.call {q : Nat} {V : Nat → Value} {C0 C1 : World → Prop} {L : Nat → Bool} {xs : Nat → Value} {w w' : World} (h : SM q V C0 C1 L xs w) (h1 : C1 w') : SM q V C0 C1 (also L q) (updV xs q (V q)) w' := by
  refine ⟨fun j hj => ?_, fun hq => (by rw [also_self] at hq; cases hq), fun _ => h1⟩
  by_cases e : j = q
  · subst e; exact updV_same _ _ _
  · rw [updV_ne _ _ e]; exact h.told j (by rwa [also_at e] at hj)
theorem SM.any {q : Nat} {V : Nat → Value} {C0 C1 : World → Prop} {L : Nat → Bool} {xs : Nat → Value} {w : World} (h : SM q V C0 C1 L xs w) : C0 w ∨ C1 w := by
  cases e : L q with
  | false => exact Or.inl (h.w0 e)
  | true => exact Or.inr (h.w1 e)
/-- The round's values. -/
def V14 (m : Nat) (ff : Value) (u left q l2 r : Nat) : Nat → Value
  | 0 => .int .i64 (m : Int)
  | 1 => ff
  | 2 => .int .i64 (u : Int)
  | 3 => .int .u32 (left : Int)
  | 4 => .int .i64 (u : Int)
  | 5 => .int .u32 (q : Int)
  | 6 => .int .u32 (l2 : Int)
  | 7 => .int .i64 (r : Int)
  | 8 => .int .i64 ((m : Int) + (r : Int))
  | _ => .int .i64 ((m : Int) + (r : Int))
/-- What lies in memory in a round. -/
def CR (Fx : World → Prop) (mb N : Nat) (es : List E2) (b8 v left x : Nat) (W w : World) : Prop := Fx w ∧ (∃ n' F', KnM w mb n' F' ∧ RgF N (adjE es) F' ∧ n' ≤ x) ∧ Two w b8 (.int .i64 (v : Int)) (.int .i64 (left : Int)) 58 ∧ Turns (fun k => k = mb) W w
theorem CR.below {Fx : World → Prop} {bn bm bf nb mb N : Nat} {es : List E2} (hF : FxR Fx bn bm bf nb mb N es) {b8 v left x : Nat} {W w w' : World} (h : CR Fx mb N es b8 v left x W w) (hb : Below w.heap.size w w') : CR Fx mb N es b8 v left x W w' := by
  obtain ⟨h1, ⟨n', F', h2, h3, h4⟩, h5, h6⟩ := h
  have ht : Turns (fun k => k = mb) w w' := Turns.of_below hb _
  exact ⟨hF.keep _ _ h1 ht, ⟨n', F', h2.under hb, h3, h4⟩, two_next h5 hb, h6.trans ht⟩
set_option maxHeartbeats 16000000 in
theorem rg_call {Fx : World → Prop} {bn bm bf nb mb N : Nat} {es : List E2} (hF : FxR Fx bn bm bf nb mb N es) :
    ∀ (c v left n : Nat) (F : Cts) (W : World), crd N left.testBit = c → left < 2 ^ N → v < N → Fx W → KnM W mb n F → RgF N (adjE es) F → n + cst c < 1000000000 →
      Calls Tryd.prog 37 #[.int .i64 (v : Int), .int .u32 (left : Int), ptr bn, ptr bm, ptr bf] W (RgPost es N mb v left c n W) := by
  have HF : Hid _ := hF
  have hE37 := enter37
  have h24 : (2 : Nat) ^ N ≤ 4096 := (Nat.pow_le_pow_right (by decide) hF.hN : 2 ^ N ≤ 2 ^ 12)
  have hN12 := hF.hN
  clear hF
  intro c
  induction c with
  | zero =>
    intro v left n F W hc hl hv hFx hK hR hn
    have h0 : left = 0 := zero_of_bits hl fun z hz => crd_zero hc z hz
    subst h0
    exact rg_zero HF.out v n F W hv hFx hK hR
  | succ c ih =>
    intro v left n F W hc hl hv hFx hK hR hn
    have h0 : left ≠ 0 := fun e => by
      subst e
      have : crd N (Nat.testBit 0) = 0 := by
        unfold crd
        rw [ns_congr (g := fun _ => 0) (fun x _ => by simp), ns_zero]
      omega
    have hl32 : left < 4096 := Nat.lt_of_lt_of_le hl h24
    have hkk : KKo (v, left) := ⟨by simp only; omega, by simp only; omega⟩
    have hget := KnM.get hK hkk
    have hB1 := below_alloc (Below.refl _ W) (Obj.cells #[.int .i64 (v : Int), .int .i64 (left : Int)] 58)
    have x8 := two_new W (.int .i64 (v : Int)) (.int .i64 (left : Int)) 58
    have hget1 := KnM.get (hK.under hB1) hkk
    have c2 : (W.alloc (Obj.cells #[.int .i64 (v : Int), .int .i64 (left : Int)] 58)).cell? ⟨bm, 0, none⟩ = some (.map (some mb)) := box_cell (i := 0) ((hB1.block _ (lt_of_block (HF.out.m W hFx))).trans (HF.out.m W hFx)) rfl
    have k1 : ((left : Int) == 0) = false := by simp; omega
    have HC : Hid (crd N left.testBit = c + 1 ∧ left < 2 ^ N ∧ v < N ∧ Fx W ∧ KnM W mb n F ∧ RgF N (adjE es) F ∧ n + cst (c + 1) < 1000000000) := ⟨hc, hl, hv, hFx, hK, hR, hn⟩
    have HIH : Hid _ := ih
    clear hc hl hFx hK hR hn ih h0 hget
    go_enter Tryd.func37, Tryd.ntmps37
    go_upto_region 6 with (fail)
    obtain ⟨b8, hb8⟩ : ∃ b, b = W.heap.size := ⟨_, rfl⟩
    rw [← hb8] at x8 ⊢
    generalize W.alloc (Obj.cells #[.int .i64 (v : Int), .int .i64 (left : Int)] 58) = W1 at *
    have hT1 : Turns (fun k => k = mb) W W1 := Turns.of_below hB1 _
    have hmb : mb < W.heap.size := HC.out.2.2.2.2.1.lt
    have HCR : Hid (CR Fx mb N es b8 v left n W W1 ∧ b8 ≠ mb) := ⟨⟨HF.out.keep _ _ HC.out.2.2.2.1 hT1, ⟨n, F, HC.out.2.2.2.2.1.under hB1, HC.out.2.2.2.2.2.1, Nat.le_refl _⟩, x8, hT1⟩, by omega⟩
    obtain ⟨e0, e1⟩ := cell_two x8
    clear hB1 hT1 hmb x8 hb8
    cases hFv : F (v, left) with
    | some d =>
      rw [hFv] at hget1
      have hd := HC.out.2.2.2.2.2.1 v left d HC.out.2.1 hFv
      rw [HC.out.1] at hd
      have HD : Hid (d = rC N (adjE es) (c + 1) v left.testBit) := hd
      have hg : (Instr.lookup 69 (.map (some mb)) (.agg #[.int .i64 (v : Int), .int .i64 (left : Int)]) true).run Tryd.prog W1 = .ok (.tuple #[.int .i64 (d : Int), .bool true]) W1 := hget1
      clear hd hFv hget1
      go_wp2
      go_ret
      obtain ⟨h1, ⟨n', F', h2, h3, h4⟩, h5, h6⟩ := HCR.out.1
      exact ⟨by rw [← HD.out]; rfl, ⟨n', F', h2, h3, by omega⟩, h6⟩
    | none =>
      rw [hFv] at hget1
      have hg : (Instr.lookup 69 (.map (some mb)) (.agg #[.int .i64 (v : Int), .int .i64 (left : Int)]) true).run Tryd.prog W1 = .ok (.tuple #[.int .i64 0, .bool false]) W1 := hget1
      clear hFv hget1
      obtain ⟨A, hA⟩ : ∃ A, A = nearF es v := ⟨_, rfl⟩
      have hA32 : A < 4096 := by
        rw [hA]
        exact Nat.lt_of_lt_of_le (nearF_lt (N := N) (simp_ne HF.out.sim) HF.out.hes v) h24
      have c3 : W1.cell? ⟨bn, 0, none⟩ = some (sl nb N) := box_cell (i := 0) (HF.out.n W1 HCR.out.1.1) rfl
      have c4 : W1.cell? ⟨nb, v, none⟩ = some (.int .u32 (A : Int)) := by rw [hA]; exact (HF.out.row W1 HCR.out.1.1).cell hv
      have b5 := and_u32 (a := left) (b := A) (by omega) (by omega)
      obtain ⟨O, hO⟩ : ∃ O, O = left &&& A := ⟨_, rfl⟩
      rw [← hO] at b5
      have hON : O < 2 ^ N := by rw [hO]; exact out_lt HC.out.2.1
      have hObit : ∀ x, O.testBit x = (left.testBit x && adjE es v x) := fun x => by rw [hO, Nat.testBit_and, hA, nearF_bit es (simp_ne HF.out.sim)]
      have hOc : crd N O.testBit ≤ c + 1 := by
        rw [← HC.out.1]
        refine ns_mono fun i _ => ?_
        rw [hObit]
        by_cases h : left.testBit i = true
        · rw [h]; simp only [Bool.true_and, if_pos]; split <;> omega
        · have : left.testBit i = false := by simpa using h
          rw [this]; simp
      have v0 : (0 : Int) ≤ (v : Int) := by omega
      have v1 : (v : Int) < (N : Int) := by omega
      have HO : Hid (O < 2 ^ N ∧ (∀ x, O.testBit x = (left.testBit x && adjE es v x)) ∧ crd N O.testBit ≤ c + 1) := ⟨hON, hObit, hOc⟩
      clear hA hO hON hObit hOc
      obtain ⟨g, hgdef⟩ : ∃ g : Nat → Nat, g = fun u => rC N (adjE es) c u (outB left.testBit u) := ⟨_, rfl⟩
      have hall : pS N O 0 g = rC N (adjE es) (c + 1) v left.testBit := by rw [hgdef]; exact pS_all HO.out.2.1
      have hc12 : c + 1 ≤ 12 := by have := crd_le N left.testBit; rw [HC.out.1] at this; omega
      have htop : rC N (adjE es) (c + 1) v left.testBit ≤ 479001600 := Nat.le_trans (rC_le (c + 1) v left.testBit HC.out.1) (Nat.le_trans (fac_le hc12) (by decide))
      have HP : Hid (g = (fun u => rC N (adjE es) c u (outB left.testBit u)) ∧ pS N O 0 g = rC N (adjE es) (c + 1) v left.testBit ∧ rC N (adjE es) (c + 1) v left.testBit ≤ 479001600) := ⟨hgdef, hall, htop⟩
      clear hgdef hall htop hc12
      go_wp2_with (fail)
      clear c2 e0 e1 hg c3 c4 b5
      go_loopw [11, 12] (fun s11 s12 wz => ∃ m O1 : Nat, s11 = .int .i64 (m : Int) ∧ s12 = .int .u32 (O1 : Int) ∧ O1 < 4096 ∧ m ≤ 479001600 ∧ Hid (m = pS N O O1 g ∧ CR Fx mb N es b8 v left (n + dn N O O1 * cst c) W wz ∧ O1 < 2 ^ N ∧ ∀ x, O1.testBit x = true → O.testBit x = true)) (fun _ s12 _ => (numOf s12).toNat)
      case atStart => 
        refine ⟨0, O, rfl, rfl, Nat.lt_of_lt_of_le HO.out.1 h24, Nat.zero_le _, (pS_self N O g).symm, ?_, HO.out.1, fun _ h => h⟩
        obtain ⟨h1, ⟨n', F', h2, h3, h4⟩, h5, h6⟩ := HCR.out.1
        exact ⟨h1, ⟨n', F', h2, h3, by omega⟩, h5, h6⟩
      case round =>
        obtain ⟨m, O1, rfl, rfl, hO1, hm, hJ⟩ := hrel
        by_cases hz : O1 = 0
        · subst hz
          obtain ⟨hmv, ⟨hFxr, ⟨n', F', hK', hR', hn'⟩, h8, hTr⟩, hO1N, hsub⟩ := hJ.out
          rw [HP.out.2.1] at hmv
          have hdn : dn N O 0 * cst c ≤ (c + 1) * cst c := Nat.mul_le_mul_right _ (Nat.le_trans dn_le HO.out.2.2)
          have hnn : n' + 1 ≤ n + cst (c + 1) := by rw [cst]; omega
          obtain ⟨w9, hst, hK9, ht9⟩ := KnM.store hK' hkk (c := m) (by omega) (by have := HC.out.2.2.2.2.2.2; omega)
          have hst' : (Instr.mapUpdate 69 (.map (some mb)) (.agg #[.int .i64 (v : Int), .int .i64 (left : Int)]) (.int .i64 (m : Int))).run Tryd.prog wr = .ok () w9 := hst
          have hR9 := RgF.upd hR' v left
          rw [HC.out.1, ← hmv] at hR9
          have HE : Hid (KnM w9 mb (n' + 1) (updC F' (v, left) m) ∧ RgF N (adjE es) (updC F' (v, left) m) ∧ n' + 1 ≤ n + cst (c + 1) ∧ Turns (fun k => k = mb) W w9 ∧ m = rC N (adjE es) (c + 1) v left.testBit) := ⟨hK9, hR9, hnn, hTr.trans (turned_turns ht9), hmv⟩
          have c2 : wr.cell? ⟨bm, 0, none⟩ = some (.map (some mb)) := box_cell (i := 0) (HF.out.m wr hFxr) rfl
          obtain ⟨e0, e1⟩ := cell_two h8
          clear hmv hFxr hK' hR' hn' h8 hTr hO1N hsub hdn hnn hst hK9 ht9 hR9 hJ
          go_wp2
          go_ret
          exact ⟨by rw [← HE.out.2.2.2.2]; rfl, ⟨n' + 1, _, HE.out.1, HE.out.2.1, HE.out.2.2.1⟩, HE.out.2.2.2.1⟩
        · have hO1N := hJ.out.2.2.1
          have hsub := hJ.out.2.2.2
          obtain ⟨u, hu⟩ : ∃ u, u = Lib.ctz 32 O1 := ⟨_, rfl⟩
          obtain ⟨d1, d2, d3'⟩ := ctz_bits hz (by omega)
          rw [← hu] at d1 d2 d3'
          have huN : u < N := bit_lt hO1N d1
          obtain ⟨q, hq⟩ : ∃ q, q = 2 ^ u := ⟨_, rfl⟩
          have hq32 : q < 4294967296 := by rw [hq]; exact Nat.pow_lt_pow_right (m := u) (n := 32) (by decide) d3'
          obtain ⟨l2, hl2⟩ : ∃ l2, l2 = left &&& (4294967295 - q) := ⟨_, rfl⟩
          have hl2b : l2.testBit = outB left.testBit u := by rw [hl2, hq]; exact andNot_bits (by omega) d3'
          have hl2N : l2 < 2 ^ N := by rw [hl2]; exact out_lt HC.out.2.1
          have hOu := hsub u d1
          have hlu : left.testBit u = true := by
            have := HO.out.2.1 u
            rw [hOu] at this
            simp at this
            exact this.1
          have hl2c : crd N l2.testBit = c := by
            have := crd_out huN hlu
            have := HC.out.1
            rw [hl2b]
            omega
          have a4 : bits BinOp.andNot IntKind.u32 (left : Int) (q : Int) = (l2 : Int) := by rw [u32_andNot_nat left q (by omega) hq32, hl2]
          obtain ⟨O2, hO2⟩ : ∃ O2, O2 = O1 &&& (O1 - 1) := ⟨_, rfl⟩
          rw [← hO2] at d2
          have a5 : bits BinOp.and IntKind.u32 (O1 : Int) ((O1 : Int) - 1) = (O2 : Int) := by
            have e1 : (O1 : Int) - 1 = ((O1 - 1 : Nat) : Int) := by omega
            rw [e1, and_u32 (by omega) (by omega), hO2]
          have hO2l : O2 < O1 := by
            have : O1 &&& (O1 - 1) ≤ O1 - 1 := Nat.and_le_right
            omega
          obtain ⟨r, hr⟩ : ∃ r, r = g u := ⟨_, rfl⟩
          have hmr : m + r = pS N O O2 g := by rw [hJ.out.1, hr]; exact (pS_step huN hOu d1 d2).symm
          have hmr2 : m + r ≤ 479001600 := by
            have h1 : pS N O O2 g ≤ pS N O 0 g := pS_le
            rw [HP.out.2.1] at h1
            have := HP.out.2.2
            omega
          have hdn := dn_step (N := N) huN hOu d1 d2
          obtain ⟨x0, hx0⟩ : ∃ x, x = n + dn N O O1 * cst c := ⟨_, rfl⟩
          have hx1 : n + dn N O O2 * cst c = x0 + cst c := by rw [hdn, Nat.add_mul, hx0]; omega
          have hxb : x0 + cst c < 1000000000 := by
            have h1 := HC.out.2.2.2.2.2.2
            have h2 : dn N O O2 * cst c ≤ (c + 1) * cst c := Nat.mul_le_mul_right _ (Nat.le_trans dn_le HO.out.2.2)
            rw [cst] at h1
            omega
          have hCR0 : CR Fx mb N es b8 v left x0 W wr := by rw [hx0]; exact hJ.out.2.1
          have C33 : Hid (Calls Tryd.prog 33 #[.int .u32 (O1 : Int)] wr fun e w' => e = .returned (.int .i64 (u : Int)) ∧ wr = w') := by rw [hu]; exact (least_call O1 (by omega) (HF.out.tab wr hCR0.1)).mono fun e w' ⟨h1, h2⟩ => ⟨h1, h2.symm⟩
          have C34 : Hid (∀ B : World, Calls Tryd.prog 34 #[.int .i64 (u : Int)] B fun e w' => e = .returned (.int .u32 (q : Int)) ∧ Below B.heap.size B w') := fun B => by
            rw [hq]
            exact (only_call d3').mono fun e w' ⟨h1, h2⟩ => ⟨h1, h2 ▸ Below.refl _ _⟩
          have C37 : Hid (∀ B, CR Fx mb N es b8 v left x0 W B → Calls Tryd.prog 37 #[.int .i64 (u : Int), .int .u32 (l2 : Int), ptr bn, ptr bm, ptr bf] B fun e w' => e = .returned (.int .i64 (r : Int)) ∧ CR Fx mb N es b8 v left (x0 + cst c) W w') := fun B hB => by
            obtain ⟨h1, ⟨n', F', h2, h3, h4⟩, h5, h6⟩ := hB
            refine (HIH.out u l2 n' F' B hl2c hl2N huN h1 h2 h3 (by omega)).mono ?_
            rintro e w' ⟨g1, ⟨n2, F2, g2, g3, g4⟩, g5⟩
            refine ⟨?_, HF.out.keep _ _ h1 g5, ⟨n2, F2, g2, g3, by omega⟩, two_turns h5 g5 (fun h => HCR.out.2 h), h6.trans g5⟩
            rw [g1, hr, HP.out.1, hl2b]
          have HD : Hid (CR Fx mb N es b8 v left x0 W wr ∧ m + r = pS N O O2 g ∧ n + dn N O O2 * cst c = x0 + cst c ∧ O2 < 2 ^ N ∧ ∀ x, O2.testBit x = true → O.testBit x = true) := ⟨hCR0, hmr, hx1, Nat.lt_trans hO2l hO1N, fun x hx => hsub x (by rw [d2] at hx; unfold outB at hx; simp at hx; exact hx.1)⟩
          have k2 : ((O1 : Int) != 0) = true := by simp; omega
          have o0 : (0 : Int) ≤ (O1 : Int) - 1 := by omega
          have o1 : (O1 : Int) - 1 < 4294967296 := by omega
          have s0 : (m : Int) + (r : Int) < 9223372036854775808 := by omega
          have s1 : -9223372036854775808 ≤ (m : Int) + (r : Int) := by omega
          clear hO1N hsub hu d1 d2 huN hq hl2 hl2b hl2N hOu hlu hl2c hO2 hr hmr hdn hx0 hx1 hxb hCR0 hJ hz
          go_upto_region 14 with (first | (go_at_call 33; refine Calls.mono C33.out ?_; rintro e V1 ⟨rfl, rfl⟩) | fail)
          refine region_ext (J := SM 7 (V14 m (.func (.func 37) #[] #[ptr bn, ptr bm, ptr bf]) u left q l2 r) (CR Fx mb N es b8 v left x0 W) (CR Fx mb N es b8 v left (x0 + cst c) W)) (by kernel_rfl) (by kernel_rfl) (by kernel_rfl) ?_ ?_ ?_
          · exact ⟨fun _ h => (by cases h), fun _ => HD.out.1.below HF.out ((Below.refl _ wr).drew), fun h => (by cases h)⟩
          · intro j o hj L xs a w1 hS hL hd hc hX
            have hfx : Fx w1 := by rcases hS.any with h | h <;> exact h.1
            have cf : w1.cell? ⟨bf, 0, none⟩ = some (.func (.func 37) #[] #[ptr bn, ptr bm, ptr bf]) := box_cell (i := 0) (HF.out.f w1 hfx) rfl
            match j, hj with
            | 0, hj =>
              cases hj
              have h9 : L 9 = false := by
                cases h : L 9 with
                | false => rfl
                | true =>
                  have := hc 9 _ rfl h ⟨0, .phase⟩ (by simp) rfl
                  rw [hL] at this
                  cases this
              have s11 := hX.old 11 (fun i o hi hd => by
                match i, hi with
                | 0, hi => cases hi; cases hd
                | 1, hi => cases hi; cases hd
                | 2, hi => cases hi; cases hd
                | 3, hi => cases hi; cases hd
                | 4, hi => cases hi; cases hd
                | 5, hi => cases hi; cases hd
                | 6, hi => cases hi; cases hd
                | 7, hi => cases hi; cases hd
                | 8, hi => cases hi; cases hd
                | 9, hi => exact h9
                | i + 10, hi => cases hi)
              refine wpOp_value rfl rfl (v := V14 m (.func (.func 37) #[] #[ptr bn, ptr bm, ptr bf]) u left q l2 r 0) (w' := w1) ?_ ⟨_, rfl, hS.put (by decide) id id⟩
              simp [go_sem, Act.eval, V14, s11]
            | 1, hj =>
              cases hj
              have s4 := hX.out (s := 4) rfl
              refine wpOp_value rfl rfl (v := V14 m (.func (.func 37) #[] #[ptr bn, ptr bm, ptr bf]) u left q l2 r 1) (w' := w1) ?_ ⟨_, rfl, hS.put (by decide) id id⟩
              simp [go_sem, Act.eval, V14, s4, cf]
            | 2, hj =>
              cases hj
              have s13 := hX.out (s := 13) rfl
              refine wpOp_value rfl rfl (v := V14 m (.func (.func 37) #[] #[ptr bn, ptr bm, ptr bf]) u left q l2 r 2) (w' := w1) ?_ ⟨_, rfl, hS.put (by decide) id id⟩
              simp [go_sem, Act.eval, V14, s13]
            | 3, hj =>
              cases hj
              have s1' := hX.out (s := 1) rfl
              refine wpOp_value rfl rfl (v := V14 m (.func (.func 37) #[] #[ptr bn, ptr bm, ptr bf]) u left q l2 r 3) (w' := w1) ?_ ⟨_, rfl, hS.put (by decide) id id⟩
              simp [go_sem, Act.eval, V14, s1']
            | 4, hj =>
              cases hj
              have s13 := hX.out (s := 13) rfl
              refine wpOp_value rfl rfl (v := V14 m (.func (.func 37) #[] #[ptr bn, ptr bm, ptr bf]) u left q l2 r 4) (w' := w1) ?_ ⟨_, rfl, hS.put (by decide) id id⟩
              simp [go_sem, Act.eval, V14, s13]
            | 5, hj =>
              cases hj
              have y4 := hd ⟨4, .data⟩ (by simp) rfl
              have r4 := (hX.rd 4 _ 51 rfl rfl y4).trans (hS.told 4 y4)
              refine wpOp_call (f := 34) (args := #[.int .i64 (u : Int)]) rfl rfl (w' := w1) ?_ ?_
              · simp [go_sem, Act.eval, V14, r4]
              · refine (C34.out w1).mono ?_
                rintro e w6 ⟨rfl, hB6⟩
                exact ⟨_, rfl, _, rfl, hS.put (by decide) (fun h => h.below HF.out hB6) (fun h => h.below HF.out hB6)⟩
            | 6, hj =>
              cases hj
              have y3 := hd ⟨3, .data⟩ (by simp) rfl
              have r3 := (hX.rd 3 _ 50 rfl rfl y3).trans (hS.told 3 y3)
              have y5 := hd ⟨5, .data⟩ (by simp) rfl
              have r5 := (hX.rd 5 _ 52 rfl rfl y5).trans (hS.told 5 y5)
              refine wpOp_value rfl rfl (v := V14 m (.func (.func 37) #[] #[ptr bn, ptr bm, ptr bf]) u left q l2 r 6) (w' := w1) ?_ ⟨_, rfl, hS.put (by decide) id id⟩
              simp [go_sem, Act.eval, V14, r3, r5, a4]
            | 7, hj =>
              cases hj
              have y1 := hd ⟨1, .data⟩ (by simp) rfl
              have r1 := (hX.rd 1 _ 48 rfl rfl y1).trans (hS.told 1 y1)
              have y2 := hd ⟨2, .data⟩ (by simp) rfl
              have r2 := (hX.rd 2 _ 49 rfl rfl y2).trans (hS.told 2 y2)
              have y6 := hd ⟨6, .data⟩ (by simp) rfl
              have r6 := (hX.rd 6 _ 53 rfl rfl y6).trans (hS.told 6 y6)
              refine wpOp_call (f := 37) (args := #[.int .i64 (u : Int), .int .u32 (l2 : Int), ptr bn, ptr bm, ptr bf]) rfl rfl (w' := w1) ?_ ?_
              · simp [go_sem, Act.eval, V14, r1, r2, r6, hE37]
              · refine (C37.out w1 (hS.w0 hL)).mono ?_
                rintro e w6 ⟨rfl, hB6⟩
                exact ⟨_, rfl, _, rfl, hS.call hB6⟩
            | 8, hj =>
              cases hj
              have y0 := hd ⟨0, .data⟩ (by simp) rfl
              have r0 := (hX.rd 0 _ 47 rfl rfl y0).trans (hS.told 0 y0)
              have y7 := hd ⟨7, .data⟩ (by simp) rfl
              have r7 := (hX.rd 7 _ 54 rfl rfl y7).trans (hS.told 7 y7)
              refine wpOp_value rfl rfl (v := V14 m (.func (.func 37) #[] #[ptr bn, ptr bm, ptr bf]) u left q l2 r 8) (w' := w1) ?_ ⟨_, rfl, hS.put (by decide) id id⟩
              have hw : IntKind.i64.wrap ((m : Int) + (r : Int)) = (m : Int) + (r : Int) := by rw [IntKind.wrap_i64]; omega
              simp [go_sem, Act.eval, V14, r0, r7, hw]
            | 9, hj =>
              cases hj
              have y8 := hd ⟨8, .data⟩ (by simp) rfl
              have r8 := (hX.rd 8 _ 55 rfl rfl y8).trans (hS.told 8 y8)
              refine wpOp_value rfl rfl (v := V14 m (.func (.func 37) #[] #[ptr bn, ptr bm, ptr bf]) u left q l2 r 9) (w' := w1) ?_ ⟨_, rfl, hS.put (by decide) id id⟩
              simp [go_sem, Act.eval, V14, r8]
            | j + 10, hj => cases hj
          · intro L xs w1 hS hall
            have e0 := hS.told 0 (hall 0 (by simp))
            have e1 := hS.told 1 (hall 1 (by simp))
            have e2 := hS.told 2 (hall 2 (by simp))
            have e3 := hS.told 3 (hall 3 (by simp))
            have e4 := hS.told 4 (hall 4 (by simp))
            have e5 := hS.told 5 (hall 5 (by simp))
            have e6 := hS.told 6 (hall 6 (by simp))
            have e7 := hS.told 7 (hall 7 (by simp))
            have e8 := hS.told 8 (hall 8 (by simp))
            have e9 := hS.told 9 (hall 9 (by simp))
            simp only [V14] at e0 e1 e2 e3 e4 e5 e6 e7 e8 e9
            simp only [puts, Act.put, e0, e1, e2, e3, e4, e5, e6, e7, e8, e9, List.setIfInBounds_toArray, List.set_cons_succ, List.set_cons_zero]
            have HG : Hid (CR Fx mb N es b8 v left (x0 + cst c) W w1) := hS.w1 (hall 7 (by simp))
            clear e0 e1 e2 e3 e4 e5 e6 e7 e8 e9 hall hS C33 C34 C37
            go_wp2
            go_round
            case measure => simp [numOf]; omega
            case rel =>
              refine ⟨m + r, O2, by go_num, rfl, by omega, hmr2, HD.out.2.1, ?_, HD.out.2.2.2.1, HD.out.2.2.2.2⟩
              rw [HD.out.2.2.1]
              exact HG.out
end Go.Proofs.YtmeodnkmhakidaaDoor
