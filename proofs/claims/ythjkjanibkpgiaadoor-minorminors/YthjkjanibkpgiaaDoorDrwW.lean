/- drawnTogether. -/
import Derived.Test.YthjkjanibkpgiaaDoorDrwM
namespace Go.Proofs.YthjkjanibkpgiaaDoor
set_option maxRecDepth 8000
open Go.RowKit Go.Maps
attribute [local go_sem ↓] Go.wp_at_zero Go.wp_at_succ
/-- The pieces in memory. -/
def PcA (w : World) (vo : Option Addr) (K : Nat) (ps : Nat → Nat) : Prop := ∀ j, j < K → ∃ pb, vo = some ⟨pb, 0, none⟩ ∧ w.cell? ⟨pb, j, none⟩ = some (.int .u32 (ps j : Int))
theorem PcA.below {w w' : World} {vo : Option Addr} {K : Nat} {ps : Nat → Nat} (h : PcA w vo K ps) (hb : Below w.heap.size w w') : PcA w' vo K ps := fun j hj => by
  obtain ⟨pb, e, hc⟩ := h j hj
  exact ⟨pb, e, (hb.cell (World.block_lt_of_cell? w _ hc)).trans hc⟩
set_option maxHeartbeats 16000000 in
theorem drawn_call {w : World} {nb N K pc : Nat} {vo : Option Addr} {near ps : Nat → Nat} (hn : RowV w nb 53 N (nv near)) (hp : PcA w vo K ps) (hT : T32 w) (nl : ∀ v, near v < 2 ^ N) (hps : ∀ j, j < K → ps j < 2 ^ N) (hN : N ≤ 12) (hK : K ≤ 12) :
    Calls Tryd.prog 23 #[sl nb N, .slice vo K pc] w fun e w' => (∃ b, e = .returned (sl b K) ∧ w.heap.size ≤ b ∧ RowV w' b 53 K (nv (drA near ps N K))) ∧ Below w.heap.size w w' := by
  have hmk := make47 K (by omega)
  have h24 : (2 : Nat) ^ N ≤ 4096 := (Nat.pow_le_pow_right (by decide) hN : 2 ^ N ≤ 2 ^ 12)
  have h25 : (2 : Nat) ^ K ≤ 4096 := (Nat.pow_le_pow_right (by decide) hK : 2 ^ K ≤ 2 ^ 12)
  have HH : Hid (RowV w nb 53 N (nv near) ∧ PcA w vo K ps ∧ T32 w ∧ (∀ v, near v < 2 ^ N) ∧ (∀ j, j < K → ps j < 2 ^ N) ∧ 2 ^ N ≤ 4096 ∧ 2 ^ K ≤ 4096) := ⟨hn, hp, hT, nl, hps, h24, h25⟩
  have C42 : Hid (∀ (D : World) (r : Nat), Below w.heap.size w D → r < 2 ^ N → Calls Tryd.prog 42 #[sl nb N, .int .u32 (r : Int)] D fun e w' => e = .returned (.int .u32 (anyN near N r : Nat)) ∧ Below D.heap.size D w') := fun D r hD hr => any_call (hn.block (hD.block _ hn.lt)) (hT.below hD) nl hN hr
  clear hn hp hT nl hps h24 h25
  go_enter Tryd.func23, Tryd.ntmps23
  go_upto_region 3 with (fail)
  have t3 : RowV (w.alloc (Obj.cells (rep K (.int .u32 0)) 53)) w.heap.size 53 K (nv (drT near ps N K 0 0)) := by
    refine (rowV_rep (heap_alloc_new _ _)).congr fun j _ => ?_
    have : drT near ps N K 0 0 j = 0 := by
      unfold drT
      rw [if_neg (by omega)]
      split
      · rfl
      · rfl
    simp [nv, this]
  have hB0 : Below w.heap.size w (w.alloc (Obj.cells (rep K (.int .u32 0)) 53)) := below_alloc (Below.refl _ w) _
  obtain ⟨b5, hb5⟩ : ∃ b, b = w.heap.size := ⟨_, rfl⟩
  rw [← hb5] at t3 ⊢
  generalize w.alloc (Obj.cells (rep K (.int .u32 0)) 53) = W0 at *
  have HW0 : Hid (RowV W0 b5 53 K (nv (drT near ps N K 0 0)) ∧ Below w.heap.size w W0) := ⟨t3, hB0⟩
  have HB5 : Hid (b5 = w.heap.size) := hb5
  clear t3 hB0 hb5 hmk
  go_loopw [16] (fun s16 wz => ∃ i : Nat, i ≤ K ∧ s16 = .int .i64 (i : Int) ∧ Hid (RowV wz b5 53 K (nv (drT near ps N K i 0)) ∧ Below w.heap.size w wz)) (fun s16 _ => K - (numOf s16).toNat)
  case atStart => exact ⟨0, Nat.zero_le _, rfl, HW0.out⟩
  case round =>
    obtain ⟨i, hi, rfl, hJ⟩ := hrel
    by_cases hlt : i < K
    · have k1 : decide ((i : Int) < (K : Int)) = true := by simp; omega
      obtain ⟨pb, hvo, cp⟩ := HH.out.2.1.below hJ.out.2 i hlt
      subst hvo
      have i0 : (0 : Int) ≤ (i : Int) := by omega
      have i1 : (i : Int) < (K : Int) := by omega
      obtain ⟨Z, hZ⟩ : ∃ Z, Z = anyN near N (ps i) := ⟨_, rfl⟩
      have hZl : Z < 4096 := by rw [hZ]; exact Nat.lt_of_lt_of_le (anyN_lt HH.out.2.2.2.1 _ N) HH.out.2.2.2.2.2.1
      obtain ⟨Pi, hPi⟩ : ∃ P, P = ps i := ⟨_, rfl⟩
      rw [← hPi] at cp
      have C42' : Hid (Calls Tryd.prog 42 #[sl nb N, .int .u32 (Pi : Int)] wr fun e w' => e = .returned (.int .u32 (Z : Int)) ∧ Below wr.heap.size wr w') := by rw [hZ, hPi]; exact C42.out wr (ps i) hJ.out.2 (HH.out.2.2.2.2.1 i hlt)
      have HZ : Hid (Z = anyN near N (ps i)) := hZ
      clear hZ hPi
      go_upto_region 7 with (first | (go_at_call 42; refine Calls.mono C42'.out ?_; rintro e W3 ⟨rfl, h3⟩) | fail)
      have HW3 : Hid (RowV W3 b5 53 K (nv (drT near ps N K i 0)) ∧ Below w.heap.size w W3) := ⟨hJ.out.1.block (h3.block _ hJ.out.1.lt), below_next hJ.out.2 h3⟩
      clear C42' h3 hJ cp
      generalize wr = WR at *
      go_loopw [26] (fun s26 wz => ∃ j : Nat, j ≤ K ∧ s26 = .int .i64 (j : Int) ∧ Hid (RowV wz b5 53 K (nv (drT near ps N K i j)) ∧ Below w.heap.size w wz)) (fun s26 _ => K - (numOf s26).toNat)
      case atStart => exact ⟨0, Nat.zero_le _, rfl, HW3.out⟩
      case round =>
        obtain ⟨j, hj, rfl, hL⟩ := hrel
        by_cases hjt : j < K
        · have k2 : decide ((j : Int) < (K : Int)) = true := by simp; omega
          obtain ⟨pb', hvo, cp⟩ := HH.out.2.1.below hL.out.2 j hjt
          cases hvo
          have j0 : (0 : Int) ≤ (j : Int) := by omega
          have j1 : (j : Int) < (K : Int) := by omega
          obtain ⟨Pj, hPj⟩ : ∃ P, P = ps j := ⟨_, rfl⟩
          rw [← hPj] at cp
          have hPl : Pj < 4096 := by rw [hPj]; exact Nat.lt_of_lt_of_le (HH.out.2.2.2.2.1 j hjt) HH.out.2.2.2.2.2.1
          obtain ⟨Y, hY⟩ : ∃ Y, Y = Z &&& Pj := ⟨_, rfl⟩
          have a1 := and_u32 (a := Z) (b := Pj) (by omega) (by omega)
          rw [← hY] at a1
          have hYe : Y = anyN near N (ps i) &&& ps j := by rw [hY, hPj, HZ.out]
          clear hPj hY
          by_cases hji : j = i
          · have k3 : ((j : Int) != (i : Int)) = false := by simp; omega
            have HS : Hid (drT near ps N K i (j + 1) = drT near ps N K i j) := drT_skip (fun h => h.1 hji)
            clear hji hYe
            go_wp2
            go_roundw
            case rel => exact ⟨j + 1, by omega, by simp, by rw [HS.out]; exact hL.out.1, hL.out.2⟩
            case measure => simp [numOf]; omega
          · have k3 : ((j : Int) != (i : Int)) = true := by simp; omega
            by_cases hY0 : Y = 0
            · have k4 : ((Y : Int) != 0) = false := by simp; omega
              have HS : Hid (drT near ps N K i (j + 1) = drT near ps N K i j) := drT_skip (fun h => h.2 (by rw [← hYe]; exact hY0))
              clear hji hYe hY0
              go_wp2
              go_roundw
              case rel => exact ⟨j + 1, by omega, by simp, by rw [HS.out]; exact hL.out.1, hL.out.2⟩
              case measure => simp [numOf]; omega
            · have k4 : ((Y : Int) != 0) = true := by simp; omega
              obtain ⟨A, hA⟩ : ∃ A, A = drT near ps N K i j := ⟨_, rfl⟩
              have hAl : A i < 4096 := by rw [hA]; exact Nat.lt_of_lt_of_le (drT_lt near ps hj i) HH.out.2.2.2.2.2.2
              obtain ⟨q, hq⟩ : ∃ q, q = 2 ^ j := ⟨_, rfl⟩
              have hq32 : q < 4294967296 := by rw [hq]; exact Nat.pow_lt_pow_right (m := j) (n := 32) (by decide) (by omega)
              have C34 : Hid (∀ D : World, Calls Tryd.prog 34 #[.int .i64 (j : Int)] D fun e w' => e = .returned (.int .u32 (q : Int)) ∧ Below D.heap.size D w') := fun D => by
                rw [hq]
                exact (only_call (by omega)).mono fun e w' ⟨h1, h2⟩ => ⟨h1, h2 ▸ Below.refl _ _⟩
              have HS : Hid (drT near ps N K i (j + 1) = fun v => if v = i then A i ||| q else A v) := by
                show drT near ps N K i (j + 1) = _
                rw [drT_put ⟨hji, by rw [← hYe]; exact hY0⟩, hA, hq]
              rw [← hA] at hL
              obtain ⟨a, ha⟩ : ∃ a, a = A i := ⟨_, rfl⟩
              rw [← ha] at hAl
              obtain ⟨o, ho⟩ : ∃ o, o = a ||| q := ⟨_, rfl⟩
              have o1 := or_u32 (a := a) (b := q) (by omega) hq32
              rw [← ho] at o1
              have HO : Hid (o = A i ||| q) := by show o = _; rw [ho, ha]
              have c0 : wr.cell? ⟨b5, i, none⟩ = some (.int .u32 (a : Int)) := by rw [ha]; exact hL.out.1.cell hlt
              have o2 : (0 : Int) ≤ (o : Int) := by omega
              clear hji hYe hY0 hA hq ha ho
              go_upto_region 10 with (fail)
              have g0 := cell_growD c0
              clear c0
              refine wp_region_tailT 8 (by kernel_rfl) (by kernel_rfl) (by kernel_rfl) (by decide) ?_
              simp only [List.take_succ_cons, List.take_zero, List.drop_succ_cons, List.drop_zero]
              repeat (go_big_quiet_step (first | (go_at_call 34; exact Calls.belowQ (fun W hW => C34.out W))))
              refine wpQuiet_nil ?_
              rintro _ ⟨gp, rfl⟩
              have hB8 := growD_below wr gp
              clear g0 cp
              generalize growD wr gp = W5 at *
              have hR5 := hL.out.1.block (hB8.block _ hL.out.1.lt)
              have c5 : W5.cell? ⟨b5, i, none⟩ = some (.int .u32 (A i : Int)) := hR5.cell (j := i) hlt
              have f5 := hR5.free i
              have HW6 : Hid (RowV (W5.setCell ⟨b5, i, none⟩ (.int .u32 (o : Int))) b5 53 K (nv (drT near ps N K i (j + 1))) ∧ Below w.heap.size w (W5.setCell ⟨b5, i, none⟩ (.int .u32 (o : Int)))) := by
                refine ⟨(hR5.set i _).congr fun v _ => ?_, (below_next hL.out.2 hB8).setCell (show w.heap.size ≤ b5 by have := HB5.out; omega) _⟩
                rw [HS.out]
                by_cases h : v = i
                · simp [nv, h, HO.out]
                · simp [nv, h]
              clear hB8 hR5 HS HO
              go_wp2
              go_roundw
              case rel => exact ⟨j + 1, by omega, by simp, HW6.out⟩
              case measure => simp [numOf]; omega
        · have k2 : decide ((j : Int) < (K : Int)) = false := by simp; omega
          have e : j = K := by omega
          subst e
          go_wp2
          go_roundw
          case rel => exact ⟨i + 1, by omega, by simp, (drT_next near ps N j i) ▸ hL.out.1, hL.out.2⟩
          case measure => simp [numOf]; omega
    · have k1 : decide ((i : Int) < (K : Int)) = false := by simp; omega
      have e : i = K := by omega
      go_wp2
      go_ret
      refine ⟨⟨b5, rfl, by have := HB5.out; omega, hJ.out.1.congr fun j hj => ?_⟩, hJ.out.2⟩
      have : drT near ps N K i 0 j = drA near ps N K j := by
        unfold drT drA
        rw [if_pos (by omega)]
      simp [nv, this]
end Go.Proofs.YthjkjanibkpgiaaDoor
