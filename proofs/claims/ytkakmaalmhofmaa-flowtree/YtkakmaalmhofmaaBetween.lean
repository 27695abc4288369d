/- between: the least cut on the way between two nodes of the tree. -/
import Derived.Test.YtkakmaalmhofmaaCutTree
import Derived.Test.YtkakmaalmhofmaaReach
namespace Go.Proofs.Ytkakmaalmhofmaa
open Go.RowKit Go.Maps
attribute [local go_sem ↓] Go.wp_at_zero Go.wp_at_succ

/-- z is a, or one comes to it going up. -/
def An (up : Nat → Nat) : Nat → Nat → Nat → Prop
  | 0, _, _ => False
  | n + 1, a, z => z = a ∨ (0 < a ∧ An up n (up a) z)
section
variable {N : Nat} {up : Nat → Nat}
theorem An.fuel (hlt : ∀ v, 0 < v → v < N → up v < v) : ∀ (n m a z : Nat), a < N → a < n → a < m → (An up n a z ↔ An up m a z)
  | 0, _, _, _, _, h, _ => by omega
  | _ + 1, 0, _, _, _, _, h => by omega
  | n + 1, m + 1, a, z, ha, h1, h2 => by
    show (z = a ∨ (0 < a ∧ An up n (up a) z)) ↔ (z = a ∨ (0 < a ∧ An up m (up a) z))
    by_cases h0 : 0 < a
    · have := hlt a h0 ha
      rw [An.fuel hlt n m (up a) z (by omega) (by omega) (by omega)]
    · constructor
      · rintro (h | h)
        · exact Or.inl h
        · exact absurd h.1 h0
      · rintro (h | h)
        · exact Or.inl h
        · exact absurd h.1 h0
theorem An.step (hlt : ∀ v, 0 < v → v < N → up v < v) {a z : Nat} (ha : a < N) (h0 : 0 < a) : An up N a z ↔ z = a ∨ An up N (up a) z := by
  have hu := hlt a h0 ha
  obtain ⟨n, rfl⟩ : ∃ n, N = n + 1 := ⟨N - 1, by omega⟩
  show (z = a ∨ (0 < a ∧ An up n (up a) z)) ↔ _
  rw [An.fuel hlt n (n + 1) (up a) z (by omega) (by omega) (by omega)]
  constructor
  · rintro (h | h)
    · exact Or.inl h
    · exact Or.inr h.2
  · rintro (h | h)
    · exact Or.inl h
    · exact Or.inr ⟨h0, h⟩
theorem An.low {z : Nat} (h : 0 < N) : An up N 0 z ↔ z = 0 := by
  obtain ⟨n, rfl⟩ : ∃ n, N = n + 1 := ⟨N - 1, by omega⟩
  show (z = 0 ∨ (0 < 0 ∧ An up n (up 0) z)) ↔ _
  simp
theorem An.self {a : Nat} (h : 0 < N) : An up N a a := by
  obtain ⟨n, rfl⟩ : ∃ n, N = n + 1 := ⟨N - 1, by omega⟩
  exact Or.inl rfl
theorem An.le (hlt : ∀ v, 0 < v → v < N → up v < v) : ∀ (n a z : Nat), a < n → a < N → An up N a z → z ≤ a
  | 0, _, _, h, _, _ => by omega
  | n + 1, a, z, _, ha, h => by
    by_cases h0 : 0 < a
    · rcases (An.step hlt ha h0).1 h with h | h
      · omega
      · have hu := hlt a h0 ha
        have := An.le hlt n (up a) z (by omega) (by omega) h
        omega
    · have e : a = 0 := by omega
      subst e
      have := (An.low (by omega)).1 h
      omega
theorem An.zero (hlt : ∀ v, 0 < v → v < N → up v < v) : ∀ (n a : Nat), a < n → a < N → An up N a 0
  | 0, _, h, _ => by omega
  | n + 1, a, _, ha => by
    by_cases h0 : 0 < a
    · have hu := hlt a h0 ha
      exact (An.step hlt ha h0).2 (Or.inr (An.zero hlt n (up a) (by omega) (by omega)))
    · have e : a = 0 := by omega
      subst e
      exact An.self (by omega)
end

def gF (f : Nat → Nat → Int) (big : Int) (a b : Nat) : Int := if a = b then big else f a b
section
variable {N m : Nat} {A B : Nat → Nat} {wt : Nat → Int} {f : Nat → Nat → Int} {up : Nat → Nat} {cz : Nat → Int} {big : Int}
theorem TI.down (h : TI N f N up cz) (hbig : ∀ a b, a < N → b < N → a ≠ b → f a b ≤ big) {s r : Nat} (hs : s < N) (hr : r < s) : f s r = min (cz s) (gF f big (up s) r) := by
  have hc := h.cut s (by omega) hs
  have hl := h.lt s (by omega) hs
  have hb := hbig s r hs (by omega) (by omega)
  unfold gF
  by_cases e : up s = r
  · rw [if_pos e, hc, e]
    omega
  · rw [if_neg e, hc]
    have := h.leaf s r (by omega) hs hr (fun h => e h.symm)
    omega
theorem TI.climb (h : TI N f N up cz) (hf : AllF m A B wt f) (hbig : ∀ a b, a < N → b < N → a ≠ b → f a b ≤ big) : ∀ (n a t : Nat), a < n → a < N → t < N → 0 < t → ¬ An up N a t → f a t = min (cz t) (gF f big a (up t))
  | 0, _, _, h, _, _, _, _ => by omega
  | n + 1, a, t, _, ha, ht, h0, hn => by
    have hlt := h.lt
    have hut := hlt t h0 ht
    have hat : a ≠ t := fun e => hn (by rw [e]; exact An.self (by omega))
    by_cases c : a < t
    · have h1 := h.down hbig ht c
      rw [hf.symm hat, h1]
      unfold gF
      by_cases e : up t = a
      · rw [if_pos e, if_pos e.symm]
      · rw [if_neg e, if_neg (fun h => e h.symm), hf.symm (fun h => e h.symm : a ≠ up t)]
    · have ha0 : 0 < a := by omega
      have hua := hlt a ha0 ha
      have hn2 : ¬ An up N (up a) t := fun h => hn ((An.step hlt ha ha0).2 (Or.inr h))
      have hne2 : up a ≠ t := fun e => hn2 (by rw [e]; exact An.self (by omega))
      have h1 := h.down hbig ha (by omega : t < a)
      have h2 := TI.climb h hf hbig n (up a) t (by omega) (by omega) ht h0 hn2
      have h3 := h.down hbig ha (by omega : up t < a)
      have e1 : gF f big (up a) t = f (up a) t := by unfold gF; rw [if_neg hne2]
      have e2 : gF f big a (up t) = f a (up t) := by unfold gF; rw [if_neg (by omega)]
      rw [e1] at h1
      rw [e2]
      omega
end

set_option maxRecDepth 4000 in
set_option maxHeartbeats 4000000 in
theorem between_call {N m a b bu bc : Nat} {A B : Nat → Nat} {wt : Nat → Int} {f : Nat → Nat → Int} {up : Nat → Nat} {cz : Nat → Int} {w : World} (hti : TI N f N up cz) (hf : AllF m A B wt f) (hbig : ∀ a b, a < N → b < N → a ≠ b → f a b ≤ 1000000000) (h0f : ∀ a b, a < N → b < N → a ≠ b → 0 ≤ f a b) (hN : N ≤ 100) (hru : RowV w bu 3 N (fun v => .int .i64 (upz up v))) (hrc : RowV w bc 3 N (fun v => .int .i64 (cz v))) (ha : a < N) (hb : b < N) (hab : a ≠ b) :
    Calls Try.prog 27 #[sl bu N, sl bc N, .int .i64 (a : Int), .int .i64 (b : Int)] w fun r w' => r = .returned (.int .i64 (f a b)) ∧ Below w.heap.size w w' := by
  obtain ⟨i4, hi4, hx0, hx1, hx2⟩ := info_parts Try.info4
  have hbg : ∀ a b, a < N → b < N → a ≠ b → f a b ≤ 1099511627776 := fun a b h1 h2 h3 => by have := hbig a b h1 h2 h3; omega
  have hcz : ∀ v, v < N → 0 ≤ cz v ∧ cz v ≤ 1000000000 := fun v hv => by
    by_cases e : v = 0
    · subst e; rw [hti.zero]; omega
    · have hl := hti.lt v (by omega) hv
      rw [hti.cut v (by omega) hv]
      exact ⟨h0f v (up v) hv (by omega) (by omega), hbig v (up v) hv (by omega) (by omega)⟩
  have hlt := hti.lt
  have HTI : Hid _ := hti
  have HF : Hid _ := hf
  have HBG : Hid _ := hbg
  have HCZ : Hid _ := hcz
  have HLT : Hid _ := hlt
  have HRU : Hid _ := hru
  have HRC : Hid _ := hrc
  have hN0 : 0 < N := by omega
  clear hti hf hbig h0f hbg hcz hlt hru hrc
  go_enter Try.func27, Try.ntmps27
  go_upto_region 2 with (first | (at_make; refine wpList_make_full _ rfl _ _ 36 rfl w.heap.size 4 i4 (.bool false) 1 Try.underlying36 hi4 hx0 hx1 .i64 .i64 _ _ N rfl rfl rfl rfl ?_ ?_ ?_ ?_; (rw [hx2]; omega); (unfold maxLen; omega); (omega); intro W1 hmade hg1) | go_in)
  have hrb0 := rowB_made hmade
  have hB1 : Below w.heap.size w W1 := (Below.refl _ _).grown hg1 (Nat.le_refl _) (fun k hk => by cases hk)
  clear hmade hg1
  go_wp2
  go_loopw [10] (fun vv wr => ∃ (z : Int) (M : Nat → Bool), vv = .int .i64 z ∧ -1 ≤ z ∧ z < N ∧ RowB wr w.heap.size N M ∧ (∀ y, y < N → ((M y = true ∨ (0 ≤ z ∧ An up N z.toNat y)) ↔ An up N a y)) ∧ Below w.heap.size w wr) (fun vv _ => (numOf vv + 1).toNat)
  case atStart => exact ⟨(a : Int), fun _ => false, rfl, by omega, by omega, hrb0, fun y _ => by simp, hB1⟩
  case round =>
    clear hrb0 hB1
    obtain ⟨z, M, rfl, hz1, hz2, hrb, hM, hB⟩ := hrel
    have hru := RowV.block HRU.out (hB.block _ (RowV.lt HRU.out))
    have hrc := RowV.block HRC.out (hB.block _ (RowV.lt HRC.out))
    by_cases hz0 : 0 ≤ z
    · obtain ⟨v, rfl⟩ : ∃ v : Nat, z = v := ⟨z.toNat, by omega⟩
      have hv : v < N := by omega
      have cu := hru.cell hv
      have cm := hrb.cell hv
      have fm := hrb.free v
      have lru := hru.lt
      have hne : bu ≠ w.heap.size := by have := RowV.lt HRU.out; omega
      have i2 : (v : Int) < (N : Int) := by omega
      have hrb2 := hrb.set v
      have hB2 := hB.setCell (p := ⟨w.heap.size, v, none⟩) (Nat.le_refl _) (.bool true)
      have cu2 := cell_turns cu (setCell_turns wr w.heap.size v (.bool true)) hne
      have hnx : -1 ≤ upz up v ∧ upz up v < v := by
        unfold upz
        by_cases e : v = 0
        · rw [if_pos e]; omega
        · rw [if_neg e]; have := HLT.out v (by omega) hv; omega
      have hM2 : ∀ y, y < N → (((y == v || M y) = true ∨ (0 ≤ upz up v ∧ An up N (upz up v).toNat y)) ↔ An up N a y) := fun y hy => by
        rw [← hM y hy]
        by_cases e : v = 0
        · subst e
          have e1 : upz up 0 = -1 := rfl
          rw [e1, Int.toNat_natCast, An.low hN0]
          simp
          constructor
          · rintro (h | h)
            · exact Or.inr h
            · exact Or.inl h
          · rintro (h | h)
            · exact Or.inr h
            · exact Or.inl h
        · have e1 : upz up v = (up v : Int) := by unfold upz; rw [if_neg e]
          rw [e1, Int.toNat_natCast, Int.toNat_natCast, An.step HLT.out hv (by omega)]
          simp
          constructor
          · rintro ((h | h) | h)
            · exact Or.inr (Or.inl h)
            · exact Or.inl h
            · exact Or.inr (Or.inr h)
          · rintro (h | (h | h))
            · exact Or.inl (Or.inr h)
            · exact Or.inl (Or.inl h)
            · exact Or.inr h
      have HM2 : Hid _ := hM2
      have HRB : Hid _ := hrb2
      have HB2 : Hid _ := hB2
      clear hM hM2 hrb hrb2 hB2 hru hrc
      go_upto_region 4 with (fail)
      generalize wr.setCell ⟨w.heap.size, v, none⟩ (.bool true) = W2 at HRB HB2 cu2 ⊢
      clear cu cm fm
      go_wp2
      go_roundw
      case rel => exact ⟨upz up v, _, rfl, hnx.1, by omega, HRB.out, HM2.out, HB2.out⟩
      case measure => simp [numOf]; omega
    · have hM2 : ∀ y, y < N → (M y = true ↔ An up N a y) := fun y hy => by
        rw [← hM y hy]
        constructor
        · exact fun h => Or.inl h
        · rintro (h | h)
          · exact h
          · exact absurd h.1 hz0
      have HM : Hid _ := hM2
      have HRB : Hid _ := hrb
      clear hM hM2 hrb hru hrc
      generalize wr = Wa at hB HRB ⊢
      have hRf : gF f 1099511627776 a b = f a b := by unfold gF; rw [if_neg hab]
      obtain ⟨RR, hRR⟩ : ∃ RR, RR = f a b := ⟨_, rfl⟩
      rw [← hRR] at hRf
      have hRb : RR ≤ 1099511627776 := by rw [hRR]; exact HBG.out a b ha hb hab
      have HRF : Hid _ := hRf
      have HRR : Hid _ := hRR
      clear hRf hRR
      go_wp2
      go_loopw [11, 12] (fun bv tv wr => ∃ (best : Int) (t : Nat), bv = .int .i64 best ∧ tv = .int .i64 (t : Int) ∧ t < N ∧ best ≤ 1099511627776 ∧ 0 ≤ best ∧ min best (gF f 1099511627776 a t) = RR ∧ Below Wa.heap.size Wa wr) (fun _ tv _ => (numOf tv).toNat)
      case atStart => exact ⟨1099511627776, b, rfl, rfl, hb, Int.le_refl _, by omega, by rw [HRF.out]; omega, Below.refl _ _⟩
      case round =>
        obtain ⟨best, t, rfl, rfl, ht, hb1, hb0, hmin, hBw⟩ := hrel
        have hrb := RowB.block HRB.out (hBw.block _ (RowB.lt HRB.out))
        have hB2 := below_next hB hBw
        have hru := RowV.block HRU.out (hB2.block _ (RowV.lt HRU.out))
        have hrc := RowV.block HRC.out (hB2.block _ (RowV.lt HRC.out))
        have cm := hrb.cell ht
        have cu := hru.cell ht
        have cc := hrc.cell ht
        have i1 : (0 : Int) ≤ (t : Int) := by omega
        have i2 : (t : Int) < (N : Int) := by omega
        have hmt := HM.out t ht
        cases hMt : M t
        · rw [hMt] at cm hmt
          have hnA : ¬ An up N a t := fun h => by have := hmt.2 h; simp at this
          have ht0 : 0 < t := by
            rcases Nat.eq_zero_or_pos t with e | e
            · exact absurd (by rw [e]; exact An.zero HLT.out (a + 1) a (by omega) ha) hnA
            · exact e
          have hat : a ≠ t := fun e => hnA (by rw [← e]; exact An.self hN0)
          have hcl := HTI.out.climb HF.out HBG.out (a + 1) a t (by omega) ha ht ht0 hnA
          have hut := HLT.out t ht0 ht
          have huz : upz up t = (up t : Int) := by unfold upz; rw [if_neg (by omega)]
          rw [huz] at cu
          have e1 : gF f 1099511627776 a t = f a t := by unfold gF; rw [if_neg hat]
          have hct := HCZ.out t ht
          obtain ⟨mn, hmn1, hmn2⟩ : ∃ mn, (if cz t < best then cz t else best) = mn ∧ mn = min best (cz t) := ⟨_, rfl, by split <;> omega⟩
          have hmin2 : min mn (gF f 1099511627776 a (up t)) = RR := by rw [e1, hcl] at hmin; omega
          have hmn3 : mn ≤ 1099511627776 ∧ 0 ≤ mn := by omega
          have HMI : Hid _ := hmin2
          clear hmt hMt hnA hcl e1 hmin hmin2 hmn2 huz hat
          go_wp2
          go_roundw
          case rel => exact ⟨mn, up t, rfl, rfl, by omega, hmn3.1, hmn3.2, HMI.out, hBw⟩
          case measure => simp [numOf]; omega
        · rw [hMt] at cm hmt
          have hA := hmt.1 rfl
          have HAA : Hid _ := hA
          have HMI : Hid _ := hmin
          clear hmt hMt hA hmin cu cc hru hrc hrb
          generalize wr = Wb at cm hBw hB2 ⊢
          go_wp2
          go_loopw [11, 13] (fun bv vv wr => ∃ (best : Int) (v : Nat), bv = .int .i64 best ∧ vv = .int .i64 (v : Int) ∧ v < N ∧ best ≤ 1099511627776 ∧ An up N v t ∧ min best (gF f 1099511627776 v t) = RR ∧ Below Wb.heap.size Wb wr) (fun _ vv _ => (numOf vv).toNat)
          case atStart => exact ⟨best, a, rfl, rfl, ha, hb1, HAA.out, HMI.out, Below.refl _ _⟩
          case round =>
            obtain ⟨best2, v, rfl, rfl, hv, hbb, hAv, hmin, hBx⟩ := hrel
            have hB3 := below_next hB2 hBx
            have hru := RowV.block HRU.out (hB3.block _ (RowV.lt HRU.out))
            have hrc := RowV.block HRC.out (hB3.block _ (RowV.lt HRC.out))
            have cu := hru.cell hv
            have cc := hrc.cell hv
            have j1 : (0 : Int) ≤ (v : Int) := by omega
            have j2 : (v : Int) < (N : Int) := by omega
            by_cases hvt : v = t
            · subst hvt
              have e1 : gF f 1099511627776 v v = 1099511627776 := by unfold gF; rw [if_pos rfl]
              have hfin : best2 = RR := by rw [e1] at hmin; omega
              have HFN : Hid _ := hfin
              clear hmin hAv e1 hfin cu cc
              go_wp2
              go_ret
              exact ⟨(congrArg (fun z => Ending.returned (.int .i64 z)) (HFN.out.trans HRR.out)), hB3⟩
            · have hv0 : 0 < v := by
                rcases Nat.eq_zero_or_pos v with e | e
                · subst e
                  have := (An.low hN0).1 hAv
                  omega
                · exact e
              have hAu : An up N (up v) t := by
                rcases (An.step HLT.out hv hv0).1 hAv with h | h
                · exact absurd h.symm hvt
                · exact h
              have huv := HLT.out v hv0 hv
              have htl := An.le HLT.out (up v + 1) (up v) t (by omega) (by omega) hAu
              have hdn := HTI.out.down HBG.out hv (by omega : t < v)
              have huz : upz up v = (up v : Int) := by unfold upz; rw [if_neg (by omega)]
              rw [huz] at cu
              have e1 : gF f 1099511627776 v t = f v t := by unfold gF; rw [if_neg hvt]
              obtain ⟨mn, hmn1, hmn2⟩ : ∃ mn, (if cz v < best2 then cz v else best2) = mn ∧ mn = min best2 (cz v) := ⟨_, rfl, by split <;> omega⟩
              have hmin2 : min mn (gF f 1099511627776 (up v) t) = RR := by rw [e1, hdn] at hmin; omega
              have hmn3 : mn ≤ 1099511627776 := by omega
              have HMI2 : Hid _ := hmin2
              have HAU : Hid _ := hAu
              have a1s : ¬ t = v := fun e => hvt e.symm
              have a1i : ¬ (v : Int) = (t : Int) := by omega
              have a1j : ¬ (t : Int) = (v : Int) := by omega
              have k6 : ((v : Int) == (t : Int)) = false := by rw [beq_eq_false_iff_ne]; omega
              have k6n : (v == t) = false := by rw [beq_eq_false_iff_ne]; exact hvt
              clear hmin hAv hAu hdn e1 hmin2 hmn2 huz
              go_wp2
              go_roundw
              case rel => exact ⟨mn, up v, rfl, rfl, by omega, hmn3, HAU.out, HMI2.out, hBx⟩
              case measure => simp [numOf]; omega
end Go.Proofs.Ytkakmaalmhofmaa
