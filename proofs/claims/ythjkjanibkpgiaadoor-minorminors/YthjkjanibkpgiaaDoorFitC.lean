/- firstFit's literal: its walk. -/
import Derived.Test.YthjkjanibkpgiaaDoorFitW
import Derived.Test.YthjkjanibkpgiaaDoorTailM
namespace Go.Proofs.YthjkjanibkpgiaaDoor
set_option maxRecDepth 8000
open Go.RowKit Go.Maps
attribute [local go_sem ↓] Go.wp_at_zero Go.wp_at_succ
theorem ctz_low {O : Nat} (h0 : O ≠ 0) (h : O < 4294967296) : ∀ x, x < Lib.ctz 32 O → O.testBit x = false := fun x hx => by
  obtain ⟨m, hm, hk⟩ := Lib.ctzFrom_spec 32 O (by omega) h
  have e : Lib.ctz 32 O = Lib.ctzFrom 32 O := by simp [Lib.ctz, h0]
  rw [e] at hx
  rw [hm, Nat.testBit_two_pow_mul]
  simp
  omega
def V6 (po : Option Addr) (m pc op u : Nat) : Nat → Value
  | 0 => .slice po m pc
  | 1 => .int .u32 (op : Int)
  | _ => .int .i64 (u : Int)
set_option maxHeartbeats 32000000 in
theorem fit_call {Fx : World → Prop} {B bt bw bn bf wb nb N M : Nat} {near wanted : Nat → Nat} (hF : FxF Fx B bt bw bn bf wb nb N M near wanted) (hbt : bt < B) :
    ∀ (c : Nat) (l : List Nat) (left : Nat) (A : World), l.length + c = M → Fx A → TA A B bt 39 l → (∀ x ∈ l, x < N) → left < 2 ^ N → (∀ x, x < N → left.testBit x = !(l.contains x)) →
      Calls Tryd.prog 41 #[.int .u32 (left : Int), ptr bt, ptr bw, ptr bn, ptr bf] A fun e w' => FitP B bt (fitL N (gB near) (hB wanted) c l) l e w' ∧ Turns (FrT B bt) A w' := by
  have HF : Hid (FxF Fx B bt bw bn bf wb nb N M near wanted) := hF
  have hE41 := enter41
  have h24 : (2 : Nat) ^ N ≤ 4096 := (Nat.pow_le_pow_right (by decide) hF.hN : 2 ^ N ≤ 2 ^ 12)
  have h25 : (2 : Nat) ^ M ≤ 4096 := (Nat.pow_le_pow_right (by decide) hF.hM : 2 ^ M ≤ 2 ^ 12)
  have hN12 := hF.hN
  have hM12 := hF.hM
  have HP24 : Hid ((2 : Nat) ^ N ≤ 4096 ∧ (2 : Nat) ^ M ≤ 4096) := ⟨h24, h25⟩
  clear hF h24 h25
  intro c
  induction c with
  | zero =>
    intro l left A hlen hFx hTA _ _ _
    obtain ⟨m, hm⟩ : ∃ m, m = l.length := ⟨_, rfl⟩
    obtain ⟨vo, vc, h1, h2⟩ := id hTA
    rw [← hm] at h1 hlen
    have hlen' : M = m := by omega
    have k1 : ((m : Int) == (M : Int)) = true := by simp; omega
    have c0 := box_cell h1 (i := 0) rfl
    have c1 : A.cell? ⟨bw, 0, none⟩ = some (sl wb M) := box_cell (HF.out.w A hFx) (i := 0) rfl
    have HT : Hid (TA A B bt 39 l) := hTA
    clear hTA h1 h2 hlen hm hlen'
    go_enter Tryd.func41, Tryd.ntmps41
    go_wp2
    go_ret
    exact ⟨⟨rfl, HT.out⟩, Turns.refl _ _⟩
  | succ c ih =>
    intro l left A hlen hFx hTA hlN hleft hbits
    obtain ⟨m, hm⟩ : ∃ m, m = l.length := ⟨_, rfl⟩
    obtain ⟨vo, vc, h1, h2⟩ := id hTA
    rw [← hm] at h1 h2 hlen
    have k1 : ((m : Int) == (M : Int)) = false := by simp; omega
    have hmM : m < M := by omega
    have c0 := box_cell h1 (i := 0) rfl
    have c1 : A.cell? ⟨bw, 0, none⟩ = some (sl wb M) := box_cell (HF.out.w A hFx) (i := 0) rfl
    have c2 : A.cell? ⟨wb, m, none⟩ = some (.int .u32 (wanted m : Int)) := (HF.out.wr A hFx).cell hmM
    obtain ⟨Wm, hWm⟩ : ∃ x, x = wanted m := ⟨_, rfl⟩
    rw [← hWm] at c2
    have hWl : Wm < 4096 := by rw [hWm]; exact Nat.lt_of_lt_of_le (HF.out.wl m) HP24.out.2
    obtain ⟨Bm, hBm⟩ : ∃ x, x = 2 ^ m - 1 := ⟨_, rfl⟩
    have hBl : Bm < 4096 := by
      have : (2 : Nat) ^ m ≤ 2 ^ M := Nat.pow_le_pow_right (by decide) (by omega)
      have := HP24.out.2
      have := Nat.two_pow_pos m
      omega
    obtain ⟨W0, hW0⟩ : ∃ x, x = Wm &&& Bm := ⟨_, rfl⟩
    have a1 := and_u32 (a := Wm) (b := Bm) (by omega) (by omega)
    rw [← hW0] at a1
    have C35 : Hid (∀ A : World, Calls Tryd.prog 35 #[.int .i64 (m : Int)] A fun e w' => e = .returned (.int .u32 (Bm : Int)) ∧ Below A.heap.size A w') := fun A => by
      rw [hBm]
      exact (below_call (by omega)).mono fun e w' ⟨h1, h2⟩ => ⟨h1, h2 ▸ Below.refl _ _⟩
    have hW0b : ∀ i, W0.testBit i = true → i < m := fun i hi => by
      rw [hW0, Nat.testBit_and, hBm, Nat.testBit_two_pow_sub_one] at hi
      simp at hi
      exact hi.2
    have hW0e : W0 = wanted l.length &&& (2 ^ l.length - 1) := by rw [hW0, hWm, hBm, hm]
    have hW0l : W0 < 4096 := by rw [hW0]; exact Nat.lt_of_le_of_lt Nat.and_le_left hWl
    have hlf : left < 4096 := Nat.lt_of_lt_of_le hleft HP24.out.1
    obtain ⟨F, hFd⟩ : ∃ F : Nat → Option (List Nat), F = fun v => if fitsAt (gB near) (hB wanted) l v = true then fitL N (gB near) (hB wanted) c (l ++ [v]) else none := ⟨_, rfl⟩
    obtain ⟨R, hR⟩ : ∃ R, R = fitL N (gB near) (hB wanted) (c + 1) l := ⟨_, rfl⟩
    have HR : Hid (R = firstSome F N 0 ∧ ∀ v, F v = if fitsAt (gB near) (hB wanted) l v = true then fitL N (gB near) (hB wanted) c (l ++ [v]) else none) := ⟨by rw [hR, fitL, hFd], fun v => by rw [hFd]⟩
    have HC : Hid (Fx A ∧ TA A B bt 39 l ∧ (∀ x ∈ l, x < N) ∧ left < 2 ^ N ∧ (∀ x, x < N → left.testBit x = !(l.contains x)) ∧ m = l.length ∧ m + (c + 1) = M ∧ (∀ i, W0.testBit i = true → i < m) ∧ W0 = wanted l.length &&& (2 ^ l.length - 1)) := ⟨hFx, hTA, hlN, hleft, hbits, hm, hlen, hW0b, hW0e⟩
    have HIH : Hid _ := ih
    rw [← hR]
    have m0 : (0 : Int) ≤ (m : Int) := by omega
    have m1 : (m : Int) < (M : Int) := by omega
    have g0 := cell_growD c1
    have g1 := cell_growD c2
    have hT0 : Turns (FrT B bt) A A := Turns.refl _ _
    clear hFx hTA hlN hleft hbits h1 h2 hlen hm hWm hBm hW0 hW0b hW0e hFd hR ih c2
    go_enter Tryd.func41, Tryd.ntmps41
    go_upto_region 5 with (fail)
    refine wp_region_below (by kernel_rfl) (by kernel_rfl) ?_
    repeat (go_big_quiet_step (first | (go_at_call 35; exact Calls.belowQ (fun W hW => C35.out W))))
    refine wpQuiet_nil ?_
    rintro _ ⟨gp, rfl⟩
    have HB5 : Hid (Below A.heap.size A (growD A gp)) := growD_below A gp
    clear g0 g1 c0 c1 a1 C35 hT0
    generalize growD A gp = A5 at *
    go_upto_region 6 with (fail)
    go_loopw [8, 9] (fun s8 s9 wz => ∃ op ah : Nat, s8 = .int .u32 (op : Int) ∧ s9 = .int .u32 (ah : Int) ∧ op < 4096 ∧ ah < 4096 ∧ Hid ((∀ x, op.testBit x = opn near left W0 ah l x) ∧ (∀ i, ah.testBit i = true → W0.testBit i = true) ∧ Below A.heap.size A wz)) (fun _ s9 _ => (numOf s9).toNat)
    case atStart => exact ⟨left, W0, rfl, rfl, hlf, hW0l, fun x => (opn_start near left W0 l x).symm, fun i h => h, HB5.out⟩
    case round =>
      obtain ⟨op, ah, rfl, rfl, hop, hah, hJ⟩ := hrel
      have hFr : Fx wr := HF.out.keep _ _ HC.out.1 (Turns.of_below hJ.out.2.2 _)
      by_cases hz : ah = 0
      · have k2 : ((ah : Int) != 0) = false := by simp; omega
        have hfit : ∀ x, op.testBit x = true → x < N ∧ fitsAt (gB near) (hB wanted) l x = true := fun x hx => by
          have h1 := hJ.out.1 x
          rw [hx, hz] at h1
          have hxN : x < N := by
            unfold opn at h1
            have : left.testBit x = true := by
              cases hb : left.testBit x with
              | true => rfl
              | false => rw [hb] at h1; cases h1
            exact bit_lt HC.out.2.2.2.1 this
          refine ⟨hxN, ?_⟩
          rw [HC.out.2.2.2.2.2.2.2.2, opn_end (HC.out.2.2.2.2.1 x hxN)] at h1
          exact h1.symm
        have hno : ∀ x, x < N → op.testBit x = false → F x = none := fun x hxN hx => by
          have h1 := hJ.out.1 x
          rw [hz, hx, HC.out.2.2.2.2.2.2.2.2, opn_end (HC.out.2.2.2.2.1 x hxN)] at h1
          rw [HR.out.2, if_neg (by rw [← h1]; decide)]
        have HST : Hid ((∀ x, op.testBit x = true → x < N ∧ fitsAt (gB near) (hB wanted) l x = true) ∧ (∀ x, x < N → op.testBit x = false → F x = none) ∧ TA wr B bt 39 l ∧ Turns (FrT B bt) A wr) := ⟨hfit, hno, HC.out.2.1.below hJ.out.2.2, Turns.of_below hJ.out.2.2 _⟩
        clear hfit hno hJ hFr hz
        go_upto_region 9 with (fail)
        go_loopw [8] (fun s8 wz => ∃ op : Nat, s8 = .int .u32 (op : Int) ∧ op < 4096 ∧ Hid ((∀ x, op.testBit x = true → x < N ∧ fitsAt (gB near) (hB wanted) l x = true) ∧ (∀ x, x < N → op.testBit x = false → F x = none) ∧ TA wz B bt 39 l ∧ Turns (FrT B bt) A wz)) (fun s8 _ => (numOf s8).toNat)
        case atStart => exact ⟨op, rfl, hop, HST.out⟩
        case round =>
          clear HST hop
          obtain ⟨op, rfl, hop, hK⟩ := hrel
          by_cases hz : op = 0
          · subst hz
            have k3 : (((0 : Nat) : Int) != 0) = false := by simp
            have HN : Hid (R = none) := by
              show R = none
              rw [HR.out.1]
              exact firstSome_none fun x _ hx => hK.out.2.1 x (by omega) (Nat.zero_testBit x)
            go_wp2
            go_ret
            refine ⟨?_, hK.out.2.2.2⟩
            rw [HN.out]
            exact ⟨rfl, hK.out.2.2.1⟩
          · obtain ⟨u, hu⟩ : ∃ u, u = Lib.ctz 32 op := ⟨_, rfl⟩
            obtain ⟨d1, d2, d3⟩ := ctz_bits hz (by omega)
            have d4 := ctz_low hz (show op < 4294967296 by omega)
            rw [← hu] at d1 d2 d3 d4
            obtain ⟨huN, hfit⟩ := hK.out.1 u d1
            have hml := HC.out.2.2.2.2.2.1
            have hFr : Fx wr := HF.out.keep _ _ HC.out.1 hK.out.2.2.2
            obtain ⟨vo', vc', t1, t2⟩ := hK.out.2.2.1
            rw [← hml] at t1
            obtain ⟨q, hq⟩ : ∃ q, q = 2 ^ u := ⟨_, rfl⟩
            have hq32 : q < 4294967296 := by rw [hq]; exact Nat.pow_lt_pow_right (m := u) (n := 32) (by decide) d3
            obtain ⟨l2, hl2⟩ : ∃ l2, l2 = left &&& (4294967295 - q) := ⟨_, rfl⟩
            have hl2b : l2.testBit = outB left.testBit u := by rw [hl2, hq]; exact andNot_bits (by omega) d3
            have hl2N : l2 < 2 ^ N := by rw [hl2]; exact Nat.lt_of_le_of_lt Nat.and_le_left HC.out.2.2.2.1
            have a4 : bits BinOp.andNot IntKind.u32 (left : Int) (q : Int) = (l2 : Int) := by rw [u32_andNot_nat left q (by omega) hq32, hl2]
            obtain ⟨op2, hop2⟩ : ∃ q, q = op &&& (op - 1) := ⟨_, rfl⟩
            rw [← hop2] at d2
            have a5 : bits BinOp.and IntKind.u32 (op : Int) ((op : Int) - 1) = (op2 : Int) := by
              have e1 : (op : Int) - 1 = ((op - 1 : Nat) : Int) := by omega
              rw [e1, and_u32 (by omega) (by omega), hop2]
            have hop2l : op2 < op := by
              have : op &&& (op - 1) ≤ op - 1 := Nat.and_le_right
              omega
            obtain ⟨r, hr⟩ : ∃ r, r = fitL N (gB near) (hB wanted) c (l ++ [u]) := ⟨_, rfl⟩
            have hFu : F u = r := by rw [HR.out.2, if_pos hfit, hr]
            have hlu : l.contains u = false := by
              unfold fitsAt at hfit
              revert hfit
              cases l.contains u <;> simp
            have C39 : Hid (∀ D, T32 D → Calls Tryd.prog 39 #[.int .u32 (op : Int)] D fun e w' => e = .returned (.int .i64 (u : Int)) ∧ Below D.heap.size D w') := fun D hD => by
              rw [hu]
              exact (least_call op (by omega) hD).mono fun e w' ⟨h1, h2⟩ => ⟨h1, h2 ▸ Below.refl _ _⟩
            have C34 : Hid (∀ D : World, Calls Tryd.prog 34 #[.int .i64 (u : Int)] D fun e w' => e = .returned (.int .u32 (q : Int)) ∧ Below D.heap.size D w') := fun D => by
              rw [hq]
              exact (only_call d3).mono fun e w' ⟨h1, h2⟩ => ⟨h1, h2 ▸ Below.refl _ _⟩
            have C41 : Hid (∀ D, Fx D → TA D B bt 39 (l ++ [u]) → Calls Tryd.prog 41 #[.int .u32 (l2 : Int), ptr bt, ptr bw, ptr bn, ptr bf] D fun e w' => FitP B bt r (l ++ [u]) e w' ∧ Turns (FrT B bt) D w') := fun D hD hT => by
              rw [hr]
              refine HIH.out (l ++ [u]) l2 D (by have := HC.out.2.2.2.2.2.2.1; simp; omega) hD hT (fun x hx => ?_) hl2N (fun x hx => ?_)
              · rcases List.mem_append.1 hx with h1 | h1
                · exact HC.out.2.2.1 x h1
                · simp at h1; omega
              · rw [hl2b]
                unfold outB
                rw [HC.out.2.2.2.2.1 x hx]
                by_cases e : x = u
                · subst e; simp
                · by_cases hmem : x ∈ l <;> simp [e, hmem]
            have HRS : Hid (∀ l', r = some l' → R = some l') := fun l' e => by
              rw [HR.out.1]
              have h1 := firstSome_skip (f := F) u (N - u) 0 (fun x _ hx => hK.out.2.1 x (by omega) (d4 x (by omega)))
              rw [show u + (N - u) = N by omega, Nat.zero_add] at h1
              rw [h1, show N - u = (N - (u + 1)) + 1 by omega, firstSome_or, hFu, e]
              rfl
            have HNX : Hid (r = none → (∀ x, op2.testBit x = true → x < N ∧ fitsAt (gB near) (hB wanted) l x = true) ∧ (∀ x, x < N → op2.testBit x = false → F x = none)) := fun e => by
              refine ⟨fun x hx => hK.out.1 x (by rw [d2] at hx; unfold outB at hx; simp at hx; exact hx.1), fun x hxN hx => ?_⟩
              by_cases ex : x = u
              · subst ex; rw [hFu, e]
              · refine hK.out.2.1 x hxN ?_
                rw [d2] at hx
                unfold outB at hx
                have ex' : (x == u) = false := by simpa using ex
                rw [ex'] at hx
                simpa using hx
            have k3 : ((op : Int) != 0) = true := by simp; omega
            have o0 : (0 : Int) ≤ (op : Int) - 1 := by omega
            have o1 : (op : Int) - 1 < 4294967296 := by omega
            have HW : Hid (Fx wr ∧ One wr bt (.slice vo' m vc') 39 ∧ wr.ownsRow B 3 1 (.slice vo' l.length vc') l.length (qv l) ∧ Turns (FrT B bt) A wr) := ⟨hFr, t1, t2, hK.out.2.2.2⟩
            clear hu d1 d2 d4 hfit hFr t1 t2 hq hl2 hl2b hl2N hop2 hr hFu hlu hK hz hml
            go_upto_region 11 with (fail)
            refine region_ext (J := S6 wr (V6 vo' m vc' op u) u (fun x w => ∃ g c, x = .slice (some ⟨g, 0, none⟩) (m + 1) c ∧ w.ownsRow B 3 1 (.slice (some ⟨g, 0, none⟩) (m + 1) c) (m + 1) (qv (l ++ [u])) ∧ One w bt (.slice vo' m vc') 39 ∧ Turns (FrT B bt) wr w) (fun w => TA w B bt 39 (l ++ [u]) ∧ Turns (FrT B bt) wr w)) (by kernel_rfl) (by kernel_rfl) (by kernel_rfl) S6.start ?_ ?_
            · intro i o hi L xs a w1 hS hL hd hcl hX
              match i, hi with
              | 0, hi =>
                cases hi
                have s1 := hX.out (s := 1) rfl
                have hb := hS.c0 (hS.open_ hL (by omega)).1
                have y0 := box_cell ((hb.block _ (lt_of_block HW.out.2.1)).trans HW.out.2.1) (i := 0) rfl
                refine wpOp_value rfl rfl (v := .slice vo' m vc') (w' := w1) ?_ ⟨_, rfl, hS.put hL (by omega) rfl (Below.refl _ _)⟩
                simp [go_sem, Act.eval, s1, y0]
              | 1, hi =>
                cases hi
                have s1 := hX.out (s := 8) rfl
                refine wpOp_value rfl rfl (v := .int .u32 (op : Int)) (w' := w1) ?_ ⟨_, rfl, hS.put hL (by omega) rfl (Below.refl _ _)⟩
                simp [go_sem, Act.eval, s1]
              | 2, hi =>
                cases hi
                have l1 := hd ⟨1, .data⟩ (by simp) rfl
                have e1 : xs 1 = .int .u32 (op : Int) := hS.told 1 (by omega) l1
                have r1 := (hX.rd 1 _ 47 rfl rfl l1).trans e1
                have hb := hS.c0 (hS.open_ hL (by omega)).1
                refine wpOp_call rfl rfl (f := 39) (args := #[.int .u32 (op : Int)]) (w' := w1) ?_ ?_
                · simp [go_sem, Act.eval, r1]
                · refine Calls.mono (C39.out _ ((HF.out.tab wr HW.out.1).below hb)) ?_
                  rintro e w2 ⟨rfl, hB'⟩
                  exact ⟨_, rfl, _, rfl, hS.put hL (by omega) rfl hB'⟩
              | 3, hi =>
                cases hi
                have l2' := hd ⟨2, .data⟩ (by simp) rfl
                have e1 : xs 2 = .int .i64 (u : Int) := hS.told 2 (by omega) l2'
                have r1 := (hX.rd 2 _ 48 rfl rfl l2').trans e1
                simp only [Array.getD_eq_getD_getElem?] at r1
                refine wpOp_value rfl rfl (v := .slice (some ⟨w1.heap.size, 0, none⟩) 1 1) (w' := w1.alloc (Obj.cells #[.int .i64 (u : Int)] 3)) ?_ ⟨_, rfl, hS.put3 hL⟩
                simp [go_sem, Act.eval, r1]
              | 4, hi =>
                cases hi
                have l0 := hd ⟨0, .data⟩ (by simp) rfl
                have l3 := hd ⟨3, .data⟩ (by simp) rfl
                have l2' := hcl 3 _ rfl l3 ⟨2, .data⟩ (by simp) rfl
                have l1 := hcl 2 _ rfl l2' ⟨1, .data⟩ (by simp) rfl
                have hall : ∀ j, j < 4 → L j = true := fun j hj => by
                  have : j = 0 ∨ j = 1 ∨ j = 2 ∨ j = 3 := by omega
                  rcases this with rfl | rfl | rfl | rfl <;> assumption
                have e0 : xs 0 = .slice vo' m vc' := hS.told 0 (by omega) l0
                have r0 := (hX.rd 0 _ 46 rfl rfl l0).trans e0
                obtain ⟨bq, e3, c3⟩ := hS.t3 hL l3
                have r3 := (hX.rd 3 _ 49 rfl rfl l3).trans e3
                have hb := hS.c0 hL
                have hml := HC.out.2.2.2.2.2.1
                have ho : w1.ownsRow B 3 1 (.slice vo' l.length vc') l.length (qv l) := ownsRow_blocks HW.out.2.2.1 fun b hv => hb.block b (HW.out.2.2.1.lt b hv).2
                obtain ⟨g, cc, w', hrun, h1, h2⟩ := run_pushQ (ty := 39) ho c3 (by omega) (Nat.le_trans (HF.out.sz wr HW.out.1) hb.size)
                rw [← hml] at hrun h2
                rw [show (l ++ [u]).length = m + 1 by simp [hml]] at hrun h1
                refine wpOp_value rfl rfl (v := .slice (some ⟨g, 0, none⟩) (m + 1) cc) (w' := w') (exec_append rfl r0 r3 hrun) ⟨_, rfl, hS.put4 hL hall ⟨g, cc, rfl, h1, ?_, ?_⟩⟩
                · have o1 : One w1 bt (.slice vo' m vc') 39 := (hb.block _ (lt_of_block HW.out.2.1)).trans HW.out.2.1
                  refine (h2.block bt (lt_of_block o1) (fun e => ?_)).trans o1
                  have hv : (Value.slice vo' l.length vc').ownBlock = some bt := by rw [← hml]; exact e.symm
                  exact ta_own ho o1 (by decide) hv rfl
                · refine (Turns.of_below hb _).trans ⟨h2.os, h2.tape, h2.output, h2.size, fun b hbl hM => h2.block b hbl (fun e => hM (Or.inr ?_))⟩
                  have hv : (Value.slice vo' l.length vc').ownBlock = some b := by rw [← hml]; exact e.symm
                  exact (ho.lt b hv).1
              | 5, hi =>
                cases hi
                have l4 := hd ⟨4, .data⟩ (by simp) rfl
                obtain ⟨g, cc, e4, h1, o1, ht⟩ := hS.c1 l4 hL
                have r4 := (hX.rd 4 _ 50 rfl rfl l4).trans e4
                have s1 := hX.out (s := 1) rfl
                have hml := HC.out.2.2.2.2.2.1
                have y0 := box_cell o1 (i := 0) rfl
                have y1 := one_free o1
                have hne : g ≠ bt := fun e => by
                  subst e
                  obtain ⟨cur, hc⟩ := own_cells h1 rfl
                  have h2 : w1.heap[g]? = _ := o1
                  rw [hc] at h2
                  cases h2
                refine wpOp_skip rfl rfl (w' := w1.setCell ⟨bt, 0, none⟩ (.slice (some ⟨g, 0, none⟩) (m + 1) cc)) ?_ ⟨undef, rfl, hS.put5 l4 undef ⟨⟨some ⟨g, 0, none⟩, cc, ?_, ?_⟩, ht.trans ((setCell_turns _ _ _ _).mono fun x _ e => Or.inl e)⟩⟩
                · simp [go_sem, Act.eval, r4, s1, y0, y1]
                · rw [show (l ++ [u]).length = m + 1 by simp [hml]]
                  exact box_set (cs := #[.slice vo' m vc']) o1 0 _
                · rw [show (l ++ [u]).length = m + 1 by simp [hml]]
                  refine ownsRow_blocks h1 fun b hv => Below.heap_setCell _ _ _ _ (fun e => ?_)
                  cases hv
                  exact hne e
              | m + 6, hi => cases hi
            · intro L0 xv w3 hS hall
              obtain ⟨hTA3, ht3⟩ := hS.c2 (hall 5 (by simp))
              simp only [puts, Act.put, List.setIfInBounds_toArray, List.set_cons_succ, List.set_cons_zero]
              have HW3 : Hid (Fx w3 ∧ TA w3 B bt 39 (l ++ [u]) ∧ Turns (FrT B bt) A w3) := ⟨HF.out.keep _ _ HW.out.1 ht3, hTA3, HW.out.2.2.2.trans ht3⟩
              clear hS hall hTA3 ht3 HW
              generalize xv 0 = z0
              generalize xv 1 = z1
              generalize xv 2 = z2
              generalize xv 3 = z3
              generalize xv 4 = z4
              have c4 : w3.cell? ⟨bf, 0, none⟩ = some (.func (.func 41) #[] #[ptr bt, ptr bw, ptr bn, ptr bf]) := box_cell (HF.out.f w3 HW3.out.1) (i := 0) rfl
              have g0 := cell_growD c4
              clear c4
              go_upto_region 12 with (fail)
              refine wp_region_tailT 6 (by kernel_rfl) (by kernel_rfl) (by kernel_rfl) (by decide) ?_
              simp only [List.take_succ_cons, List.take_zero, List.drop_succ_cons, List.drop_zero]
              repeat (go_big_quiet_step (first | (go_at_call 39; exact Calls.belowQ (fun W hW => C39.out W ((HF.out.tab w3 HW3.out.1).below hW))) | (go_at_call 34; exact Calls.belowQ (fun W hW => C34.out W))))
              refine wpQuiet_nil ?_
              rintro _ ⟨gp, rfl⟩
              have hB8 := growD_below w3 gp
              clear g0
              generalize growD w3 gp = W5 at *
              have HW5 : Hid (Fx W5 ∧ TA W5 B bt 39 (l ++ [u]) ∧ Turns (FrT B bt) A W5) := ⟨HF.out.keep _ _ HW3.out.1 (Turns.of_below hB8 _), HW3.out.2.1.below hB8, HW3.out.2.2.trans (Turns.of_below hB8 _)⟩
              have C41' : Hid _ := C41.out W5 HW5.out.1 HW5.out.2.1
              clear hB8 HW3 C41 C39 C34
              cases r with
              | some l' =>
                have HRR : Hid (R = some l') := HRS.out l' rfl
                go_wp2_with (first | (go_at_call 41; refine Calls.mono C41'.out ?_; rintro e V2 ⟨⟨rfl, hT⟩, ht⟩; have HV2 : Hid (TA V2 B bt 39 l' ∧ Turns (FrT B bt) A V2) := ⟨hT, HW5.out.2.2.trans ht⟩; clear hT ht) | fail)
                go_ret
                refine ⟨?_, HV2.out.2⟩
                rw [HRR.out]
                exact ⟨rfl, HV2.out.1⟩
              | none =>
                have HNX2 : Hid _ := HNX.out rfl
                go_upto_region 14 with (first | (go_at_call 41; refine Calls.mono C41'.out ?_; rintro e V2 ⟨⟨rfl, hT⟩, ht⟩; have HV2 : Hid (TA V2 B bt 39 (l ++ [u]) ∧ Turns (FrT B bt) A V2) := ⟨hT, HW5.out.2.2.trans ht⟩; clear hT ht) | fail)
                clear C41' HW5
                have hml := HC.out.2.2.2.2.2.1
                obtain ⟨yo, yc, y1, y2⟩ := HV2.out.1
                rw [show (l ++ [u]).length = m + 1 by simp [hml]] at y1 y2
                obtain ⟨gg, hyo, hle⟩ : ∃ gg, yo = some ⟨gg, 0, none⟩ ∧ m + 1 ≤ yc := by
                  rcases y2.2 with ⟨h0, hl0⟩ | ⟨g, cap, cur, e, _, _, hle, _⟩
                  · omega
                  · injection e with e1 e2 e3
                    exact ⟨g, e1, by rw [e3]; exact hle⟩
                subst hyo
                have p0 := box_cell y1 (i := 0) rfl
                have p1 := one_free y1
                have hne : gg ≠ bt := fun e => by
                  subst e
                  obtain ⟨cur, hc⟩ := own_cells y2 rfl
                  have h2 : V2.heap[gg]? = _ := y1
                  rw [hc] at h2
                  cases h2
                have hsh := own_short (n := m + 1) (by simp [hml]) y2
                have HY : Hid (One V2 bt (.slice (some ⟨gg, 0, none⟩) (m + 1) yc) 39 ∧ V2.ownsRow B 3 1 (.slice (some ⟨gg, 0, none⟩) l.length yc) l.length (qv l) ∧ gg ≠ bt) := ⟨y1, hsh, hne⟩
                have i5 : (m : Int) ≤ (yc : Int) := by omega
                have i6 : ¬ yc = 0 := by omega
                clear hml y1 y2 hsh hne hle
                go_wp2
                go_roundw
                case rel =>
                  refine ⟨op2, rfl, by omega, HNX2.out.1, HNX2.out.2, ⟨some ⟨gg, 0, none⟩, yc, ?_, ?_⟩, HV2.out.2.trans ((setCell_turns _ _ _ _).mono fun x _ e => Or.inl e)⟩
                  · rw [← HC.out.2.2.2.2.2.1]
                    exact box_set (cs := #[.slice (some ⟨gg, 0, none⟩) (m + 1) yc]) HY.out.1 0 _
                  · refine ownsRow_blocks HY.out.2.1 fun b hv => Below.heap_setCell _ _ _ _ (fun e => ?_)
                    cases hv
                    exact HY.out.2.2 e
                case measure => simp [numOf]; omega
      · have hahb := hJ.out.2.1
        obtain ⟨u, hu⟩ : ∃ u, u = Lib.ctz 32 ah := ⟨_, rfl⟩
        obtain ⟨d1, d2, d3⟩ := ctz_bits hz (by omega)
        rw [← hu] at d1 d2 d3
        have huW := hahb u d1
        have hum := HC.out.2.2.2.2.2.2.2.1 u huW
        have hml := HC.out.2.2.2.2.2.1
        obtain ⟨x, hx⟩ : ∃ x, x = l.getD u 0 := ⟨_, rfl⟩
        have hxN : x < N := by
          rw [hx]
          refine HC.out.2.2.1 _ ?_
          rw [List.getD_eq_getElem?_getD, List.getElem?_eq_getElem (show u < l.length by omega)]
          exact List.getElem_mem _
        obtain ⟨vo', vc', t1, t2⟩ := HC.out.2.1.below hJ.out.2.2
        rw [← hml] at t1
        have z0 := box_cell t1 (i := 0) rfl
        obtain ⟨g, hg, z1⟩ := qcell t2 (k := u) (u := x) (by rw [List.getElem?_eq_getElem (show u < l.length by omega), hx, List.getD_eq_getElem?_getD, List.getElem?_eq_getElem (show u < l.length by omega)]; rfl)
        subst hg
        have z2 : wr.cell? ⟨bn, 0, none⟩ = some (sl nb N) := box_cell (HF.out.n wr hFr) (i := 0) rfl
        have z3 : wr.cell? ⟨nb, x, none⟩ = some (.int .u32 (near x : Int)) := (HF.out.nr wr hFr).cell hxN
        obtain ⟨Nx, hNx⟩ : ∃ q, q = near x := ⟨_, rfl⟩
        rw [← hNx] at z3
        have hNl : Nx < 4096 := by rw [hNx]; exact Nat.lt_of_lt_of_le (HF.out.nl x) HP24.out.1
        obtain ⟨o2, ho2⟩ : ∃ q, q = op &&& Nx := ⟨_, rfl⟩
        have a2 := and_u32 (a := op) (b := Nx) (by omega) (by omega)
        rw [← ho2] at a2
        obtain ⟨a2', ha2⟩ : ∃ q, q = ah &&& (ah - 1) := ⟨_, rfl⟩
        rw [← ha2] at d2
        have a5 : bits BinOp.and IntKind.u32 (ah : Int) ((ah : Int) - 1) = (a2' : Int) := by
          have e1 : (ah : Int) - 1 = ((ah - 1 : Nat) : Int) := by omega
          rw [e1, and_u32 (by omega) (by omega), ha2]
        have ha2l : a2' < ah := by
          have : ah &&& (ah - 1) ≤ ah - 1 := Nat.and_le_right
          omega
        have C39 : Hid (∀ B, Below wr.heap.size wr B → Calls Tryd.prog 39 #[.int .u32 (ah : Int)] B fun e w' => e = .returned (.int .i64 (u : Int)) ∧ Below B.heap.size B w') := fun B hB => by
          rw [hu]
          exact (least_call ah (by omega) ((HF.out.tab wr hFr).below hB)).mono fun e w' ⟨h1, h2⟩ => ⟨h1, h2 ▸ Below.refl _ _⟩
        have HN : Hid ((∀ x, o2.testBit x = opn near left W0 a2' l x) ∧ (∀ i, a2'.testBit i = true → W0.testBit i = true)) := ⟨fun y => by
          rw [ho2, Nat.testBit_and, hJ.out.1, opn_step (by omega) huW d2 hahb, hNx, hx], fun i hi => hahb i (by rw [d2] at hi; unfold outB at hi; simp at hi; exact hi.1)⟩
        have ho2l : o2 < 4096 := by rw [ho2]; exact Nat.lt_of_le_of_lt Nat.and_le_left hop
        have k2 : ((ah : Int) != 0) = true := by simp; omega
        have n0 : (0 : Int) ≤ (u : Int) := by omega
        have n1 : (u : Int) < (m : Int) := by omega
        have n2 : (0 : Int) ≤ (x : Int) := by omega
        have n3 : (x : Int) < (N : Int) := by omega
        have o0 : (0 : Int) ≤ (ah : Int) - 1 := by omega
        have o1 : (ah : Int) - 1 < 4294967296 := by omega
        have HW : Hid (Below A.heap.size A wr) := hJ.out.2.2
        have g0 := cell_growD z0
        have g1 := cell_growD z1
        have g2 := cell_growD z2
        have g3 := cell_growD z3
        clear hahb hu d1 d2 huW hml hx t1 t2 hNx ho2 ha2 hJ z0 z1 z2 z3 hFr hz
        go_upto_region 8 with (fail)
        refine wp_region_below (by kernel_rfl) (by kernel_rfl) ?_
        repeat (go_big_quiet_step (first | (go_at_call 39; exact Calls.belowQ (fun W hW => C39.out W hW))))
        refine wpQuiet_nil ?_
        rintro _ ⟨gp, rfl⟩
        have HB8 : Hid (Below A.heap.size A (growD wr gp)) := below_next HW.out (growD_below wr gp)
        clear g0 g1 g2 g3 a2 C39
        generalize growD wr gp = w8 at *
        go_wp2
        go_roundw
        case rel => exact ⟨o2, a2', rfl, rfl, ho2l, by omega, HN.out.1, HN.out.2, HB8.out⟩
        case measure => simp [numOf]; omega
end Go.Proofs.YthjkjanibkpgiaaDoor
