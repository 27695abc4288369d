/- The document's Unpacked: its end. -/
import Derived.Test.YtbaghbodjpehpaaDoorColsForm
namespace Go.Proofs.YtbaghbodjpehpaaDoor
open Go.RowKit Go.Maps
attribute [local go_sem ↓] Go.wp_at_zero Go.wp_at_succ

theorem Tryd.under48 : Tryd.prog.underlying 48 = some (.slice 4) := Tryd.underlying48
def bitsV (s : ByteArray) (f q : Nat) : List Value := (List.range q).map fun t => .bool (bitOf s f t)
theorem bitsV_len (s : ByteArray) (f q : Nat) : (bitsV s f q).length = q := by simp [bitsV]
theorem bitsV_succ (s : ByteArray) (f q : Nat) : bitsV s f (q + 1) = bitsV s f q ++ [.bool (bitOf s f q)] := by simp [bitsV, List.range_succ]
theorem bitsV_get (s : ByteArray) (f q i : Nat) (h : i < q) : (bitsV s f q)[i]? = some (.bool (bitOf s f i)) := by simp [bitsV, h]
theorem half_num : ∀ t : Nat, t < 6 → wrap64 (((32 / 2 ^ t : Nat) : Int) / 2) = ((32 / 2 ^ (t + 1) : Nat) : Int) := by decide +kernel
theorem bit_num : ∀ C : Nat, C < 64 → ∀ t : Nat, t < 6 → ((wrap64 ((C : Int) / ((32 / 2 ^ t : Nat) : Int))).tmod 2 == 1) = decide (C / 2 ^ (5 - t) % 2 = 1) := by decide +kernel
theorem bitOf_at (s : ByteArray) (f a t : Nat) (hf : f ≤ a) (ht : t < 6) : bitOf s f (6 * (a - f) + t) = decide ((byteAt s a - 63) / 2 ^ (5 - t) % 2 = 1) := by
  unfold bitOf byteAt
  rw [show f + (6 * (a - f) + t) / 6 = a by omega, show (6 * (a - f) + t) % 6 = t by omega]

/-- The pairs that have been written when column j has come to row i. -/
def pUp (p : Nat → Bool) (j i : Nat) (a b : Nat) : Bool := decide (a < b ∧ (b < j ∨ b = j ∧ a < i)) && p (plc a b)
theorem pUp_zero (p : Nat → Bool) (a b : Nat) : false = pUp p 0 0 a b := by simp [pUp]
theorem pUp_put (p : Nat → Bool) (j i : Nat) (h : i < j) (a b : Nat) : (if a = i ∧ b = j then p (plc i j) else pUp p j i a b) = pUp p j (i + 1) a b := by
  unfold pUp
  by_cases e : a = i ∧ b = j
  · obtain ⟨rfl, rfl⟩ := e
    have : decide (a < b ∧ (b < b ∨ b = b ∧ a < a + 1)) = true := by simp; exact h
    rw [if_pos ⟨rfl, rfl⟩, this, Bool.true_and]
  · rw [if_neg e]
    have : decide (a < b ∧ (b < j ∨ b = j ∧ a < i)) = decide (a < b ∧ (b < j ∨ b = j ∧ a < i + 1)) := by
      rw [decide_eq_decide]; omega
    rw [this]
theorem pUp_col (p : Nat → Bool) (j a b : Nat) : pUp p j j a b = pUp p (j + 1) 0 a b := by
  unfold pUp
  have : decide (a < b ∧ (b < j ∨ b = j ∧ a < j)) = decide (a < b ∧ (b < j + 1 ∨ b = j + 1 ∧ a < 0)) := by
    rw [decide_eq_decide]; omega
  rw [this]
theorem pUp_all (p : Nat → Bool) (n u v : Nat) (h : u < v) (hv : v < n) : pUp p n 0 u v = p (plc u v) := by
  unfold pUp
  have : decide (u < v ∧ (v < n ∨ v = n ∧ u < 0)) = true := by simp; omega
  rw [this, Bool.true_and]

structure RS1 (w wr : World) : Prop where
  r0 : Two wr w.heap.size (.int .i64 0) (.slice none 0 0) 24
  r1 : Two wr (w.heap.size + 1) (.int .i64 0) (.int .i64 0) 27
  below : Below w.heap.size w wr
  size : w.heap.size + 2 ≤ wr.heap.size
theorem RS0.to {w W wr : World} (h : RS0 w W) (hb : Below W.heap.size W wr) : RS1 w wr := ⟨two_next h.r0 hb, two_next h.r1 hb, below_next h.below hb, by have := h.size; have := hb.size; omega⟩
theorem RS1.to {w W wr : World} (h : RS1 w W) (hb : Below W.heap.size W wr) : RS1 w wr := ⟨two_next h.r0 hb, two_next h.r1 hb, below_next h.below hb, by have := h.size; have := hb.size; omega⟩

set_option maxRecDepth 100000 in
set_option maxHeartbeats 4000000 in
theorem unpacked_end1 (s : ByteArray) (w : World) (h : s.size ≤ 20000) (hg : ∀ i (h : i < s.size), goodB s[i] = true) {x N : Nat} (hL : ShortAt s x N) (hN : N ≤ 100) (hc : s.size = 1 + nby N) {A : Ans} (hE : (∃ q, prs N ≤ q ∧ q < 6 * nby N ∧ bitOf s 1 q = true ∧ A = ⟨0, [], 7, (s.size : Int) - 1⟩) ∨ ((∀ q, prs N ≤ q → q < 6 * nby N → bitOf s 1 q = false) ∧ A = formS N (colsE (bitOf s 1) N))) : Tells 15 #[.string s] w A := by
  have h1 : ¬ (20000 : Int) < (s.size : Int) := by omega
  have HG : Hid _ := hg
  clear hg
  have HL : Hid _ := hL
  have HC : Hid _ := hc
  clear hL hc
  obtain ⟨i0, hi, hy0, hy1, hy2⟩ := info_parts Tryd.info4
  have HE : Hid _ := hE
  clear hE
  have G := rs0 w
  unfold Tells
  go_enter Tryd.func15, Tryd.ntmps15
  go_upto_region 1 with fail
  generalize (w.alloc (Obj.cells #[.int .i64 0, .slice none 0 0] 24)).alloc (Obj.cells #[.int .i64 0, .int .i64 0] 27) = W at G ⊢
  go_upto_region 4 with fail
  go_loop [4] (fun t => ∃ i : Nat, i ≤ s.size ∧ t = .int .i64 i) (fun t => s.size - (intOf t).toNat)
  case atStart => exact ⟨0, Nat.zero_le _, rfl⟩
  case round =>
    obtain ⟨i, hi, rfl⟩ := hrel
    have k0 : (0 : Int) ≤ (i : Int) := by omega
    by_cases hiK : i < s.size
    · have k1 : (i : Int) < (s.size : Int) := by omega
      obtain ⟨g0, g1⟩ := (goodB_iff _).1 (HG.out i hiK)
      have k2 : ¬ (s[i].toNat : Int) < 63 := by omega
      have k3 : ¬ (126 : Int) < (s[i].toNat : Int) := by omega
      clear g0 g1
      go_wp2
      go_round
      case rel => exact ⟨i + 1, by omega, by go_num⟩
      case measure => simp [intOf]; omega
    · have k1 : ¬ (i : Int) < (s.size : Int) := by omega
      clear hiK hi
      go_upto_region 8 with fail
      clear k0 k1
      have e0 := ne_empty HL.out.pos
      have h4 := HL.out.pos
      have e2 : (0 : Int) < (s.size : Int) := by omega
      have q0 := HL.out.h0
      obtain ⟨b1, b2⟩ := HL.out.bx
      have hx : ((x : Int) == 126) = false := by simp; omega
      have hv : (x : Int) - 63 = (N : Int) := by have := HL.out.hN; omega
      go_upto_region 11 with fail
      have l2 : ¬ (100 : Int) < (N : Int) := by omega
      go_upto_region 21 with fail
      rw [pairs_num N (by omega)]
      have hp9 := prs_le100 N hN
      have hnb : 6 * nby N < prs N + 6 ∧ prs N ≤ 6 * nby N := by unfold nby; omega
      generalize nby N = NB at hnb HC HE ⊢
      generalize hPR : prs N = PR at hnb hp9 HE ⊢
      have HPR : Hid _ := hPR
      clear hPR
      obtain ⟨nb1, nb2⟩ := hnb
      go_loop [8] (fun t => ∃ z : Nat, 1 ≤ z ∧ z ≤ 1 + NB ∧ t = .int .i64 z) (fun t => 1 + NB - (intOf t).toNat)
      case atStart => exact ⟨1, by omega, by omega, rfl⟩
      case round =>
        obtain ⟨z, hz1, hz2, rfl⟩ := hrel
        by_cases hzl : z < 1 + NB
        · have k1 : (z : Int) * 6 < 6 + (PR : Int) := by omega
          go_wp2
          go_round
          case rel => exact ⟨z + 1, by omega, by omega, by go_num⟩
          case measure => simp [intOf]; omega
        · have k1 : ¬ (z : Int) * 6 < 6 + (PR : Int) := by omega
          have hze : z = 1 + NB := by omega
          clear hzl hz1 hz2
          have hjs : s.size = z := by have := HC.out; omega
          have k2 : ¬ (s.size : Int) < (z : Int) := by omega
          have k3 : ¬ (z : Int) < (s.size : Int) := by omega
          have HZE : Hid _ := hze
          clear hze
          subst hjs
          clear k2 k3
          go_upto_region 29 with fail
          go_loopw [9, 10] (fun s9 s10 wr => ∃ a : Nat, 1 ≤ a ∧ a ≤ s.size ∧ s10 = .int .i64 a ∧ Below W.heap.size W wr ∧ wr.ownsRow W.heap.size 4 1 s9 (6 * (a - 1)) (bitsV s 1 (6 * (a - 1)))) (fun _ t _ => s.size - (intOf t).toNat)
          case atStart => exact ⟨1, Nat.le_refl _, by have := HZE.out; omega, rfl, Below.refl _ _, by rw [Nat.sub_self]; exact World.ownsRow_nil _ _ _ _⟩
          case round =>
            obtain ⟨a, ha1, ha2, rfl, hbr, hown⟩ := hrel
            obtain ⟨bo, bc, rfl⟩ := form_row hown
            by_cases haz : a < s.size
            · have m0 : (0 : Int) ≤ (a : Int) := by omega
              have m1 : (a : Int) < (s.size : Int) := by omega
              obtain ⟨g0, g1⟩ := (goodB_iff _).1 (HG.out a haz)
              have hX := byteAt_get s a haz
              rw [hX] at g0 g1
              have hba := fun t => bitOf_at s 1 a t ha1
              obtain ⟨C, hC⟩ : ∃ C, C = byteAt s a - 63 := ⟨_, rfl⟩
              have hC64 : C < 64 := by omega
              rw [← hC] at hba
              have hv : ((byteAt s a : Nat) : Int) - 63 = (C : Int) := by omega
              have HBA : Hid _ := hba
              clear hba hC
              generalize byteAt s a = X at hX g0 g1 hv
              go_upto_region 33 with fail
              go_loopw [9, 12] (fun s9 s12 wr => ∃ t : Nat, t ≤ 6 ∧ s12 = .int .i64 ((32 / 2 ^ t : Nat) : Int) ∧ Below W.heap.size W wr ∧ wr.ownsRow W.heap.size 4 1 s9 (6 * (a - 1) + t) (bitsV s 1 (6 * (a - 1) + t))) (fun _ t _ => (intOf t).toNat)
              case atStart => exact ⟨0, Nat.zero_le _, rfl, hbr, hown⟩
              case round =>
                obtain ⟨t, ht, rfl, hbq, hownq⟩ := hrel
                clear hown
                obtain ⟨bo', bc', rfl⟩ := form_row hownq
                by_cases ht6 : t < 6
                · have hh := half_num t ht6
                  have hb1 := bit_num C hC64 t ht6
                  rw [← HBA.out t ht6] at hb1
                  have hmono : 32 / 2 ^ (t + 1) < 32 / 2 ^ t ∧ 0 < 32 / 2 ^ t := by
                    have : ∀ t : Nat, t < 6 → 32 / 2 ^ (t + 1) < 32 / 2 ^ t ∧ 0 < 32 / 2 ^ t := by decide
                    exact this t ht6
                  obtain ⟨hm1, hm2⟩ := hmono
                  have HH : Hid _ := hh
                  have HB : Hid _ := hb1
                  clear hh hb1
                  generalize 32 / 2 ^ t = K at HH HB hm1 hm2 ⊢
                  generalize hK2 : 32 / 2 ^ (t + 1) = K2 at HH hm1
                  have hz7 : (0 : Int) < (K : Int) := by omega
                  have hz8 : (K : Int) ≠ 0 := by omega
                  have hn : ∀ k, Value.ownBlock (.slice bo' (6 * (a - 1) + t) bc') = some k → W.heap.size ≤ k := fun k hk => (hownq.lt k hk).1
                  have hz := hbq.size
                  go_wp2_with (at_builtin; refine wpList_append_own _ rfl _ _ 48 rfl W.heap.size 4 i0 (.bool false) 1 1 Tryd.underlying48 hi hy0 hy1 hy2 rfl (by decide) _ _ _ rfl (hownq.alloc _) ⟨wr.heap.size, 0, none⟩ 1 1 [.bool ((wrap64 ((C : Int) / (K : Int))).tmod 2 == 1)] rfl rfl ?n1 ?n2 ?n3 ?n4 ?n5 ?_)
                  case n1 =>
                    intro j x hj
                    match j, hj with
                    | 0, hj => simp at hj; subst hj; simp [Addr.add]
                  case n2 => first | rfl | (intro x hx; simp at hx; subst hx; rfl)
                  case n3 => unfold maxLen; omega
                  case n4 => omega
                  case n5 => first | omega | (simp; omega)
                  intro v' w3 hown' hgrow _
                  obtain ⟨vo', vc', rfl⟩ := form_row hown'
                  have hb3 := below_row hbq hz _ hgrow hn
                  rw [HB.out, ← bitsV_succ] at hown'
                  clear hgrow
                  go_wp2
                  go_roundw
                  case rel =>
                    rw [HH.out, ← hK2]
                    exact ⟨t + 1, by omega, rfl, hb3, hown'⟩
                  case measure =>
                    rw [HH.out]
                    show (K2 : Int).toNat < (K : Int).toNat
                    omega
                · have ht7 : t = 6 := by omega
                  subst ht7
                  rw [show 32 / 2 ^ 6 = 0 from rfl]
                  go_wp2
                  go_roundw
                  case rel =>
                    refine ⟨a + 1, by omega, by omega, by go_num, hbq, ?_⟩
                    rw [show 6 * (a + 1 - 1) = 6 * (a - 1) + 6 by omega]
                    exact hownq
                  case measure => simp [intOf]; omega
            · have haz2 : a = s.size := by omega
              subst haz2
              clear haz
              go_upto_region 37 with fail
              have hM6 : 6 * (s.size - 1) = 6 * NB := by have := HZE.out; omega
              rw [hM6] at hown ⊢
              have G2 := G.to hbr
              clear hbr
              go_loop [13] (fun t => ∃ i : Nat, PR ≤ i ∧ i ≤ 6 * NB ∧ t = .int .i64 i ∧ ∀ q, PR ≤ q → q < i → bitOf s 1 q = false) (fun t => 6 * NB - (intOf t).toNat)
              case atStart => exact ⟨PR, Nat.le_refl _, by omega, rfl, fun q h1 h2 => by omega⟩
              case round =>
                obtain ⟨i, hi1, hi2, rfl, hfree⟩ := hrel
                have HF : Hid _ := hfree
                clear hfree
                by_cases hiM : i < 6 * NB
                · obtain ⟨gb, rfl⟩ : ∃ gb, bo = some ⟨gb, 0, none⟩ := by
                    rcases hown.2 with ⟨_, h⟩ | ⟨g, cap, cur, h, _⟩
                    · exact absurd h (by omega)
                    · simp at h; exact ⟨g, h.1⟩
                  have cb : wr.cell? ⟨gb, i, none⟩ = some (.bool (bitOf s 1 i)) := by
                    rw [hown.cellAt i (by omega)]; exact bitsV_get _ _ _ _ hiM
                  have m0 : (0 : Int) ≤ (i : Int) := by omega
                  have m1 : (i : Int) < 6 * (NB : Int) := by omega
                  cases hbit : bitOf s 1 i
                  · rw [hbit] at cb
                    go_wp2
                    go_round
                    case rel =>
                      refine ⟨i + 1, by omega, by omega, by go_num, fun q h1 h2 => ?_⟩
                      by_cases e : q = i
                      · rw [e]; exact hbit
                      · exact HF.out q h1 (by omega)
                    case measure => simp [intOf]; omega
                  · rw [hbit] at cb
                    rcases HE.out with ⟨q, _, _, _, rfl⟩ | ⟨hno, _⟩
                    · have hs0 : (0 : Int) < (s.size : Int) := by have := HZE.out; omega
                      go_wp2_with (go_at_call 17; refine (refF_any _ _ _).mono ?_; rintro e w9 ⟨rfl, hb9⟩; obtain ⟨z0, z1, z2⟩ := kk (two_next G2.r0 hb9); obtain ⟨y0, y1, y2⟩ := kapart (two_next G2.r1 hb9) (show w.heap.size ≠ w.heap.size + 1 by omega))
                      obtain ⟨⟨r3, r4, r5, r6⟩, hb2⟩ := ends (two_next G2.r0 hb9) (two_next G2.r1 hb9) (below_next G2.below hb9) (.int .i64 0) (.slice none 0 0) (.int .i64 7) (.int .i64 ((s.size : Int) - 1))
                      exact bodyPost_ret (v := .tuple #[.agg #[.int .i64 0, .slice none 0 0], .agg #[.int .i64 7, .int .i64 ((s.size : Int) - 1)]]) (by simp [results, Tryd.results15, go_sem, r3, r4, r5, r6]) rfl ⟨hb2, none, 0, rfl, edgesAt_nil _, fun x h => by cases h⟩
                    · exact absurd (hno i hi1 hiM) (by rw [hbit]; decide)
                · have hiM2 : i = 6 * NB := by omega
                  subst hiM2
                  rcases HE.out with ⟨q, h1, h2, h3, _⟩ | ⟨_, hA⟩
                  · exact absurd (HF.out q h1 h2) (by rw [h3]; decide)
                  · clear HF hiM HE
                    have HA : Hid _ := hA
                    clear hA
                    obtain ⟨Wb, hWb⟩ : ∃ Wb, Wb = wr := ⟨_, rfl⟩
                    subst hWb
                    go_upto_region 44 with (go_at_call 23; refine (gridOf_empty N _ hN).mono ?_; rintro e wg ⟨to, tc, bs, rfl, hbl, hgi⟩)
                    have HO : Hid _ := hown
                    clear hown
                    have hPle : ∀ j, j ≤ N → prs j ≤ PR := fun j hj => by rw [← HPR.out]; exact prs_mono hj
                    have HPL : Hid _ := hPle
                    clear hPle
                    go_loopw [15, 16] (fun s15 s16 wx => ∃ j : Nat, j ≤ N ∧ s16 = .int .i64 j ∧ s15 = .int .i64 (prs j) ∧ GI Wb wx N (.int .i64 N) (.slice none 0 0) (.slice to N tc) bs (pUp (bitOf s 1) j 0)) (fun _ t _ => N - (intOf t).toNat)
                    case atStart => exact ⟨0, Nat.zero_le _, rfl, rfl, hgi.congr (pUp_zero _)⟩
                    case round =>
                      obtain ⟨j, hj, rfl, rfl, hgj⟩ := hrel
                      clear hgi
                      by_cases hjN : j < N
                      · have j1 : (j : Int) < (N : Int) := by omega
                        have hpj := HPL.out (j + 1) (by omega)
                        rw [prs_succ] at hpj
                        go_upto_region 47 with fail
                        go_loopw [15, 17] (fun s15 s17 wx => ∃ i : Nat, i ≤ j ∧ s17 = .int .i64 i ∧ s15 = .int .i64 ((prs j + i : Nat) : Int) ∧ GI Wb wx N (.int .i64 N) (.slice none 0 0) (.slice to N tc) bs (pUp (bitOf s 1) j i)) (fun _ t _ => j - (intOf t).toNat)
                        case atStart => exact ⟨0, Nat.zero_le _, rfl, rfl, hgj⟩
                        case round =>
                          obtain ⟨i, hi9, rfl, rfl, hgk⟩ := hrel
                          clear hgj
                          by_cases hij : i < j
                          · obtain ⟨gb, rfl⟩ : ∃ gb, bo = some ⟨gb, 0, none⟩ := by
                              rcases HO.out.2 with ⟨_, h⟩ | ⟨g, cap, cur, h, _⟩
                              · exact absurd h (by omega)
                              · simp at h; exact ⟨g, h.1⟩
                            have hrow := row_below HO.out hgk.below
                            have cb : wr.cell? ⟨gb, prs j + i, none⟩ = some (.bool (bitOf s 1 (prs j + i))) := by
                              rw [hrow.cellAt (prs j + i) (by omega)]; exact bitsV_get _ _ _ _ (by omega)
                            clear hrow
                            obtain ⟨g, rfl, hat⟩ := hgk.at (by omega)
                            have hib : i < bs.length := by omega
                            have d1 := hat i hib
                            have d2 := (hgk.rows i hib).cell (j := j) hjN
                            have e2 := (hgk.rows i hib).free j
                            have hgk2 := (hgk.put hib j (bitOf s 1 (plc i j))).congr (pUp_put (bitOf s 1) j i hij)
                            rw [show plc i j = prs j + i from rfl] at hgk2
                            generalize bs[i] = bi at d1 d2 e2 hgk2
                            have HK : Hid _ := hgk2
                            clear hat hgk2
                            generalize bitOf s 1 (prs j + i) = bb at cb HK
                            have m0 : (0 : Int) ≤ ((prs j + i : Nat) : Int) := by omega
                            have m1 : ((prs j + i : Nat) : Int) < 6 * (NB : Int) := by omega
                            have hQ : prs j + i < 5000 := by omega
                            generalize hQe : prs j + i = Q at cb m0 m1 hQ ⊢
                            have i1 : (0 : Int) ≤ (i : Int) := by omega
                            have i2 : (i : Int) < (N : Int) := by omega
                            have i3 : (i : Int) < (j : Int) := by omega
                            have j0 : (0 : Int) ≤ (j : Int) := by omega
                            go_wp2
                            go_region
                            go_wp2
                            go_roundw
                            case rel =>
                              refine ⟨i + 1, by omega, by go_num, by rw [← Nat.add_assoc, hQe]; go_num, HK.out.step ⟨rfl, rfl, rfl, Nat.le_refl _, fun _ _ => rfl⟩⟩
                            case measure => simp [intOf]; omega
                          · have hij2 : i = j := by omega
                            subst hij2
                            have i3 : ¬ (i : Int) < (i : Int) := by omega
                            go_wp2
                            go_roundw
                            case rel => exact ⟨i + 1, by omega, by go_num, by rw [prs_succ], hgk.congr (pUp_col _ i)⟩
                            case measure => simp [intOf]; omega
                      · have hjN2 : j = N := by omega
                        subst hjN2
                        clear hjN hj
                        have hgr : GridAt wr (.slice to j tc) j (fun u v : Int => pUp (bitOf s 1) j 0 u.toNat v.toNat) := GI.grid (hgj.congr (fun a b => rfl)) hbl
                        have hform := formS_cols (bitOf s 1) j hN (fun u v : Int => pUp (bitOf s 1) j 0 u.toNat v.toNat) (fun u v h1 h2 => pUp_all _ _ _ _ h1 h2)
                        have G3 := G2.to hgj.below
                        generalize (fun u v : Int => pUp (bitOf s 1) j 0 u.toNat v.toNat) = p at hgr hform
                        rw [← HA.out] at hform
                        have HFO : Hid _ := hform
                        have HGR : Hid _ := hgr
                        clear hform hgr hgj HA
                        go_upto_region 52 with (go_at_call 25; refine (ofGrid_new j _ _ p _ HGR.out hN).mono ?_; rintro e w6 ⟨hb6, oo, oc, rfl, hY, hfr⟩)
                        have tg := two_new w6 (.int .i64 j) (.slice oo (allP j p).length oc) 24
                        have q6 := below_alloc (Below.refl w6.heap.size w6) (Obj.cells #[.int .i64 j, .slice oo (allP j p).length oc] 24)
                        have G4 := G3.to (below_next hb6 q6)
                        have hY2 := hY.below q6
                        have hfr2 : ∀ x, oo = some x → w.heap.size + 2 ≤ x.block := fun x hx => Nat.le_trans G3.size (hfr x hx)
                        have hbg : w.heap.size + 2 ≤ w6.heap.size := Nat.le_trans G3.size hb6.size
                        generalize w6.heap.size = bg at tg hbg ⊢
                        generalize w6.alloc (Obj.cells #[.int .i64 j, .slice oo (allP j p).length oc] 24) = V at tg G4 hY2 ⊢
                        clear hb6 hY hfr q6
                        obtain ⟨c0, c1⟩ := cell_two tg
                        by_cases hmany : 1000 < (allP j p).length
                        · have hA2 := HFO.out
                          rw [if_pos hmany] at hA2
                          subst hA2
                          have l9 : (1000 : Int) < ((allP j p).length : Int) := by omega
                          go_wp2_with (go_at_call 17; refine (refF_any _ _ _).mono ?_; rintro e w9 ⟨rfl, hb9⟩; obtain ⟨z0, z1, z2⟩ := kk (two_next G4.r0 hb9); obtain ⟨y0, y1, y2⟩ := kapart (two_next G4.r1 hb9) (show w.heap.size ≠ w.heap.size + 1 by omega))
                          obtain ⟨⟨r3, r4, r5, r6⟩, hb2⟩ := ends (two_next G4.r0 hb9) (two_next G4.r1 hb9) (below_next G4.below hb9) (.int .i64 0) (.slice none 0 0) (.int .i64 2) (.int .i64 0)
                          exact bodyPost_ret (v := .tuple #[.agg #[.int .i64 0, .slice none 0 0], .agg #[.int .i64 2, .int .i64 0]]) (by simp [results, Tryd.results15, go_sem, r3, r4, r5, r6]) rfl ⟨hb2, none, 0, rfl, edgesAt_nil _, fun x h => by cases h⟩
                        · have hA2 := HFO.out
                          rw [if_neg hmany] at hA2
                          subst hA2
                          have l9 : ¬ (1000 : Int) < ((allP j p).length : Int) := by omega
                          obtain ⟨z0, z1, z2⟩ := kk G4.r0
                          obtain ⟨y0, y1, y2⟩ := kapart G4.r1 (show w.heap.size ≠ w.heap.size + 1 by omega)
                          go_wp2
                          obtain ⟨⟨r3, r4, r5, r6⟩, hb9⟩ := ends G4.r0 G4.r1 G4.below (.int .i64 j) (.slice oo (allP j p).length oc) (.int .i64 0) (.int .i64 0)
                          exact bodyPost_ret (v := .tuple #[.agg #[.int .i64 j, .slice oo (allP j p).length oc], .agg #[.int .i64 0, .int .i64 0]]) (by simp [results, Tryd.results15, go_sem, r3, r4, r5, r6]) rfl ⟨hb9, oo, oc, rfl, (((hY2.setCell (fun x hx => by have := hfr2 x hx; simp; omega) _).setCell (fun x hx => by have := hfr2 x hx; simp; omega) _).setCell (fun x hx => by have := hfr2 x hx; simp; omega) _).setCell (fun x hx => by have := hfr2 x hx; simp; omega) _, fun x hx => by have := hfr2 x hx; omega⟩

set_option maxRecDepth 100000 in
set_option maxHeartbeats 4000000 in
theorem unpacked_end4 (s : ByteArray) (w : World) (h : s.size ≤ 20000) (hg : ∀ i (h : i < s.size), goodB s[i] = true) {x y z N : Nat} (hL : LongAt s x y z N) (h63 : 63 ≤ N) (hN : N ≤ 100) (hc : s.size = 4 + nby N) {A : Ans} (hE : (∃ q, prs N ≤ q ∧ q < 6 * nby N ∧ bitOf s 4 q = true ∧ A = ⟨0, [], 7, (s.size : Int) - 1⟩) ∨ ((∀ q, prs N ≤ q → q < 6 * nby N → bitOf s 4 q = false) ∧ A = formS N (colsE (bitOf s 4) N))) : Tells 15 #[.string s] w A := by
  have h1 : ¬ (20000 : Int) < (s.size : Int) := by omega
  have HG : Hid _ := hg
  clear hg
  have HL : Hid _ := hL
  have HC : Hid _ := hc
  clear hL hc
  obtain ⟨i0, hi, hy0, hy1, hy2⟩ := info_parts Tryd.info4
  have HE : Hid _ := hE
  clear hE
  have G := rs0 w
  unfold Tells
  go_enter Tryd.func15, Tryd.ntmps15
  go_upto_region 1 with fail
  generalize (w.alloc (Obj.cells #[.int .i64 0, .slice none 0 0] 24)).alloc (Obj.cells #[.int .i64 0, .int .i64 0] 27) = W at G ⊢
  go_upto_region 4 with fail
  go_loop [4] (fun t => ∃ i : Nat, i ≤ s.size ∧ t = .int .i64 i) (fun t => s.size - (intOf t).toNat)
  case atStart => exact ⟨0, Nat.zero_le _, rfl⟩
  case round =>
    obtain ⟨i, hi, rfl⟩ := hrel
    have k0 : (0 : Int) ≤ (i : Int) := by omega
    by_cases hiK : i < s.size
    · have k1 : (i : Int) < (s.size : Int) := by omega
      obtain ⟨g0, g1⟩ := (goodB_iff _).1 (HG.out i hiK)
      have k2 : ¬ (s[i].toNat : Int) < 63 := by omega
      have k3 : ¬ (126 : Int) < (s[i].toNat : Int) := by omega
      clear g0 g1
      go_wp2
      go_round
      case rel => exact ⟨i + 1, by omega, by go_num⟩
      case measure => simp [intOf]; omega
    · have k1 : ¬ (i : Int) < (s.size : Int) := by omega
      clear hiK hi
      go_upto_region 8 with fail
      clear k0 k1
      have e0 := ne_empty (show 0 < s.size by have := HL.out.four; omega)
      have e1 : ¬ (s.size : Int) < 4 := by have := HL.out.four; omega
      have e2 : (0 : Int) < (s.size : Int) := by omega
      have e3 : (1 : Int) < (s.size : Int) := by omega
      have e4 : (2 : Int) < (s.size : Int) := by omega
      have e5 : (3 : Int) < (s.size : Int) := by omega
      have h4 := HL.out.four
      have q0 := HL.out.h0
      have q1 := HL.out.h1
      have q2 := HL.out.h2
      have q3 := HL.out.h3
      obtain ⟨b1, b2⟩ := HL.out.bx
      obtain ⟨b3, b4⟩ := HL.out.by_
      obtain ⟨b5, b6⟩ := HL.out.bz
      go_upto_region 13 with fail
      go_quiet (fail)
      replace G := G.drewN nq
      generalize W.drewN nq = V at G ⊢
      have hv : ((x : Int) - 63) * 4096 + ((y : Int) - 63) * 64 + (z : Int) - 63 = (N : Int) := by have := HL.out.hN; omega
      rw [hv]
      have l1 : ¬ (N : Int) < 63 := by omega
      have l2 : ¬ (100 : Int) < (N : Int) := by omega
      go_upto_region 21 with fail
      rw [pairs_num N (by omega)]
      have hp9 := prs_le100 N hN
      have hnb : 6 * nby N < prs N + 6 ∧ prs N ≤ 6 * nby N := by unfold nby; omega
      generalize nby N = NB at hnb HC HE ⊢
      generalize hPR : prs N = PR at hnb hp9 HE ⊢
      have HPR : Hid _ := hPR
      clear hPR
      obtain ⟨nb1, nb2⟩ := hnb
      go_loop [8] (fun t => ∃ z : Nat, 4 ≤ z ∧ z ≤ 4 + NB ∧ t = .int .i64 z) (fun t => 4 + NB - (intOf t).toNat)
      case atStart => exact ⟨4, by omega, by omega, rfl⟩
      case round =>
        obtain ⟨z, hz1, hz2, rfl⟩ := hrel
        by_cases hzl : z < 4 + NB
        · have k1 : (z : Int) * 6 < 24 + (PR : Int) := by omega
          go_wp2
          go_round
          case rel => exact ⟨z + 1, by omega, by omega, by go_num⟩
          case measure => simp [intOf]; omega
        · have k1 : ¬ (z : Int) * 6 < 24 + (PR : Int) := by omega
          have hze : z = 4 + NB := by omega
          clear hzl hz1 hz2
          have hjs : s.size = z := by have := HC.out; omega
          have k2 : ¬ (s.size : Int) < (z : Int) := by omega
          have k3 : ¬ (z : Int) < (s.size : Int) := by omega
          have HZE : Hid _ := hze
          clear hze
          subst hjs
          clear k2 k3
          go_upto_region 29 with fail
          go_loopw [9, 10] (fun s9 s10 wr => ∃ a : Nat, 4 ≤ a ∧ a ≤ s.size ∧ s10 = .int .i64 a ∧ Below V.heap.size V wr ∧ wr.ownsRow V.heap.size 4 1 s9 (6 * (a - 4)) (bitsV s 4 (6 * (a - 4)))) (fun _ t _ => s.size - (intOf t).toNat)
          case atStart => exact ⟨4, Nat.le_refl _, by have := HZE.out; omega, rfl, Below.refl _ _, by rw [Nat.sub_self]; exact World.ownsRow_nil _ _ _ _⟩
          case round =>
            obtain ⟨a, ha1, ha2, rfl, hbr, hown⟩ := hrel
            obtain ⟨bo, bc, rfl⟩ := form_row hown
            by_cases haz : a < s.size
            · have m0 : (0 : Int) ≤ (a : Int) := by omega
              have m1 : (a : Int) < (s.size : Int) := by omega
              obtain ⟨g0, g1⟩ := (goodB_iff _).1 (HG.out a haz)
              have hX := byteAt_get s a haz
              rw [hX] at g0 g1
              have hba := fun t => bitOf_at s 4 a t ha1
              obtain ⟨C, hC⟩ : ∃ C, C = byteAt s a - 63 := ⟨_, rfl⟩
              have hC64 : C < 64 := by omega
              rw [← hC] at hba
              have hv : ((byteAt s a : Nat) : Int) - 63 = (C : Int) := by omega
              have HBA : Hid _ := hba
              clear hba hC
              generalize byteAt s a = X at hX g0 g1 hv
              go_upto_region 33 with fail
              go_loopw [9, 12] (fun s9 s12 wr => ∃ t : Nat, t ≤ 6 ∧ s12 = .int .i64 ((32 / 2 ^ t : Nat) : Int) ∧ Below V.heap.size V wr ∧ wr.ownsRow V.heap.size 4 1 s9 (6 * (a - 4) + t) (bitsV s 4 (6 * (a - 4) + t))) (fun _ t _ => (intOf t).toNat)
              case atStart => exact ⟨0, Nat.zero_le _, rfl, hbr, hown⟩
              case round =>
                obtain ⟨t, ht, rfl, hbq, hownq⟩ := hrel
                clear hown
                obtain ⟨bo', bc', rfl⟩ := form_row hownq
                by_cases ht6 : t < 6
                · have hh := half_num t ht6
                  have hb1 := bit_num C hC64 t ht6
                  rw [← HBA.out t ht6] at hb1
                  have hmono : 32 / 2 ^ (t + 1) < 32 / 2 ^ t ∧ 0 < 32 / 2 ^ t := by
                    have : ∀ t : Nat, t < 6 → 32 / 2 ^ (t + 1) < 32 / 2 ^ t ∧ 0 < 32 / 2 ^ t := by decide
                    exact this t ht6
                  obtain ⟨hm1, hm2⟩ := hmono
                  have HH : Hid _ := hh
                  have HB : Hid _ := hb1
                  clear hh hb1
                  generalize 32 / 2 ^ t = K at HH HB hm1 hm2 ⊢
                  generalize hK2 : 32 / 2 ^ (t + 1) = K2 at HH hm1
                  have hz7 : (0 : Int) < (K : Int) := by omega
                  have hz8 : (K : Int) ≠ 0 := by omega
                  have hn : ∀ k, Value.ownBlock (.slice bo' (6 * (a - 4) + t) bc') = some k → V.heap.size ≤ k := fun k hk => (hownq.lt k hk).1
                  have hz := hbq.size
                  go_wp2_with (at_builtin; refine wpList_append_own _ rfl _ _ 48 rfl V.heap.size 4 i0 (.bool false) 1 1 Tryd.underlying48 hi hy0 hy1 hy2 rfl (by decide) _ _ _ rfl (hownq.alloc _) ⟨wr.heap.size, 0, none⟩ 1 1 [.bool ((wrap64 ((C : Int) / (K : Int))).tmod 2 == 1)] rfl rfl ?n1 ?n2 ?n3 ?n4 ?n5 ?_)
                  case n1 =>
                    intro j x hj
                    match j, hj with
                    | 0, hj => simp at hj; subst hj; simp [Addr.add]
                  case n2 => first | rfl | (intro x hx; simp at hx; subst hx; rfl)
                  case n3 => unfold maxLen; omega
                  case n4 => omega
                  case n5 => first | omega | (simp; omega)
                  intro v' w3 hown' hgrow _
                  obtain ⟨vo', vc', rfl⟩ := form_row hown'
                  have hb3 := below_row hbq hz _ hgrow hn
                  rw [HB.out, ← bitsV_succ] at hown'
                  clear hgrow
                  go_wp2
                  go_roundw
                  case rel =>
                    rw [HH.out, ← hK2]
                    exact ⟨t + 1, by omega, rfl, hb3, hown'⟩
                  case measure =>
                    rw [HH.out]
                    show (K2 : Int).toNat < (K : Int).toNat
                    omega
                · have ht7 : t = 6 := by omega
                  subst ht7
                  rw [show 32 / 2 ^ 6 = 0 from rfl]
                  go_wp2
                  go_roundw
                  case rel =>
                    refine ⟨a + 1, by omega, by omega, by go_num, hbq, ?_⟩
                    rw [show 6 * (a + 1 - 4) = 6 * (a - 4) + 6 by omega]
                    exact hownq
                  case measure => simp [intOf]; omega
            · have haz2 : a = s.size := by omega
              subst haz2
              clear haz
              go_upto_region 37 with fail
              have hM6 : 6 * (s.size - 4) = 6 * NB := by have := HZE.out; omega
              rw [hM6] at hown ⊢
              have G2 := G.to hbr
              clear hbr
              go_loop [13] (fun t => ∃ i : Nat, PR ≤ i ∧ i ≤ 6 * NB ∧ t = .int .i64 i ∧ ∀ q, PR ≤ q → q < i → bitOf s 4 q = false) (fun t => 6 * NB - (intOf t).toNat)
              case atStart => exact ⟨PR, Nat.le_refl _, by omega, rfl, fun q h1 h2 => by omega⟩
              case round =>
                obtain ⟨i, hi1, hi2, rfl, hfree⟩ := hrel
                have HF : Hid _ := hfree
                clear hfree
                by_cases hiM : i < 6 * NB
                · obtain ⟨gb, rfl⟩ : ∃ gb, bo = some ⟨gb, 0, none⟩ := by
                    rcases hown.2 with ⟨_, h⟩ | ⟨g, cap, cur, h, _⟩
                    · exact absurd h (by omega)
                    · simp at h; exact ⟨g, h.1⟩
                  have cb : wr.cell? ⟨gb, i, none⟩ = some (.bool (bitOf s 4 i)) := by
                    rw [hown.cellAt i (by omega)]; exact bitsV_get _ _ _ _ hiM
                  have m0 : (0 : Int) ≤ (i : Int) := by omega
                  have m1 : (i : Int) < 6 * (NB : Int) := by omega
                  cases hbit : bitOf s 4 i
                  · rw [hbit] at cb
                    go_wp2
                    go_round
                    case rel =>
                      refine ⟨i + 1, by omega, by omega, by go_num, fun q h1 h2 => ?_⟩
                      by_cases e : q = i
                      · rw [e]; exact hbit
                      · exact HF.out q h1 (by omega)
                    case measure => simp [intOf]; omega
                  · rw [hbit] at cb
                    rcases HE.out with ⟨q, _, _, _, rfl⟩ | ⟨hno, _⟩
                    · have hs0 : (0 : Int) < (s.size : Int) := by have := HZE.out; omega
                      go_wp2_with (go_at_call 17; refine (refF_any _ _ _).mono ?_; rintro e w9 ⟨rfl, hb9⟩; obtain ⟨z0, z1, z2⟩ := kk (two_next G2.r0 hb9); obtain ⟨y0, y1, y2⟩ := kapart (two_next G2.r1 hb9) (show w.heap.size ≠ w.heap.size + 1 by omega))
                      obtain ⟨⟨r3, r4, r5, r6⟩, hb2⟩ := ends (two_next G2.r0 hb9) (two_next G2.r1 hb9) (below_next G2.below hb9) (.int .i64 0) (.slice none 0 0) (.int .i64 7) (.int .i64 ((s.size : Int) - 1))
                      exact bodyPost_ret (v := .tuple #[.agg #[.int .i64 0, .slice none 0 0], .agg #[.int .i64 7, .int .i64 ((s.size : Int) - 1)]]) (by simp [results, Tryd.results15, go_sem, r3, r4, r5, r6]) rfl ⟨hb2, none, 0, rfl, edgesAt_nil _, fun x h => by cases h⟩
                    · exact absurd (hno i hi1 hiM) (by rw [hbit]; decide)
                · have hiM2 : i = 6 * NB := by omega
                  subst hiM2
                  rcases HE.out with ⟨q, h1, h2, h3, _⟩ | ⟨_, hA⟩
                  · exact absurd (HF.out q h1 h2) (by rw [h3]; decide)
                  · clear HF hiM HE
                    have HA : Hid _ := hA
                    clear hA
                    obtain ⟨Wb, hWb⟩ : ∃ Wb, Wb = wr := ⟨_, rfl⟩
                    subst hWb
                    go_upto_region 44 with (go_at_call 23; refine (gridOf_empty N _ hN).mono ?_; rintro e wg ⟨to, tc, bs, rfl, hbl, hgi⟩)
                    have HO : Hid _ := hown
                    clear hown
                    have hPle : ∀ j, j ≤ N → prs j ≤ PR := fun j hj => by rw [← HPR.out]; exact prs_mono hj
                    have HPL : Hid _ := hPle
                    clear hPle
                    go_loopw [15, 16] (fun s15 s16 wx => ∃ j : Nat, j ≤ N ∧ s16 = .int .i64 j ∧ s15 = .int .i64 (prs j) ∧ GI Wb wx N (.int .i64 N) (.slice none 0 0) (.slice to N tc) bs (pUp (bitOf s 4) j 0)) (fun _ t _ => N - (intOf t).toNat)
                    case atStart => exact ⟨0, Nat.zero_le _, rfl, rfl, hgi.congr (pUp_zero _)⟩
                    case round =>
                      obtain ⟨j, hj, rfl, rfl, hgj⟩ := hrel
                      clear hgi
                      by_cases hjN : j < N
                      · have j1 : (j : Int) < (N : Int) := by omega
                        have hpj := HPL.out (j + 1) (by omega)
                        rw [prs_succ] at hpj
                        go_upto_region 47 with fail
                        go_loopw [15, 17] (fun s15 s17 wx => ∃ i : Nat, i ≤ j ∧ s17 = .int .i64 i ∧ s15 = .int .i64 ((prs j + i : Nat) : Int) ∧ GI Wb wx N (.int .i64 N) (.slice none 0 0) (.slice to N tc) bs (pUp (bitOf s 4) j i)) (fun _ t _ => j - (intOf t).toNat)
                        case atStart => exact ⟨0, Nat.zero_le _, rfl, rfl, hgj⟩
                        case round =>
                          obtain ⟨i, hi9, rfl, rfl, hgk⟩ := hrel
                          clear hgj
                          by_cases hij : i < j
                          · obtain ⟨gb, rfl⟩ : ∃ gb, bo = some ⟨gb, 0, none⟩ := by
                              rcases HO.out.2 with ⟨_, h⟩ | ⟨g, cap, cur, h, _⟩
                              · exact absurd h (by omega)
                              · simp at h; exact ⟨g, h.1⟩
                            have hrow := row_below HO.out hgk.below
                            have cb : wr.cell? ⟨gb, prs j + i, none⟩ = some (.bool (bitOf s 4 (prs j + i))) := by
                              rw [hrow.cellAt (prs j + i) (by omega)]; exact bitsV_get _ _ _ _ (by omega)
                            clear hrow
                            obtain ⟨g, rfl, hat⟩ := hgk.at (by omega)
                            have hib : i < bs.length := by omega
                            have d1 := hat i hib
                            have d2 := (hgk.rows i hib).cell (j := j) hjN
                            have e2 := (hgk.rows i hib).free j
                            have hgk2 := (hgk.put hib j (bitOf s 4 (plc i j))).congr (pUp_put (bitOf s 4) j i hij)
                            rw [show plc i j = prs j + i from rfl] at hgk2
                            generalize bs[i] = bi at d1 d2 e2 hgk2
                            have HK : Hid _ := hgk2
                            clear hat hgk2
                            generalize bitOf s 4 (prs j + i) = bb at cb HK
                            have m0 : (0 : Int) ≤ ((prs j + i : Nat) : Int) := by omega
                            have m1 : ((prs j + i : Nat) : Int) < 6 * (NB : Int) := by omega
                            have hQ : prs j + i < 5000 := by omega
                            generalize hQe : prs j + i = Q at cb m0 m1 hQ ⊢
                            have i1 : (0 : Int) ≤ (i : Int) := by omega
                            have i2 : (i : Int) < (N : Int) := by omega
                            have i3 : (i : Int) < (j : Int) := by omega
                            have j0 : (0 : Int) ≤ (j : Int) := by omega
                            go_wp2
                            go_region
                            go_wp2
                            go_roundw
                            case rel =>
                              refine ⟨i + 1, by omega, by go_num, by rw [← Nat.add_assoc, hQe]; go_num, HK.out.step ⟨rfl, rfl, rfl, Nat.le_refl _, fun _ _ => rfl⟩⟩
                            case measure => simp [intOf]; omega
                          · have hij2 : i = j := by omega
                            subst hij2
                            have i3 : ¬ (i : Int) < (i : Int) := by omega
                            go_wp2
                            go_roundw
                            case rel => exact ⟨i + 1, by omega, by go_num, by rw [prs_succ], hgk.congr (pUp_col _ i)⟩
                            case measure => simp [intOf]; omega
                      · have hjN2 : j = N := by omega
                        subst hjN2
                        clear hjN hj
                        have hgr : GridAt wr (.slice to j tc) j (fun u v : Int => pUp (bitOf s 4) j 0 u.toNat v.toNat) := GI.grid (hgj.congr (fun a b => rfl)) hbl
                        have hform := formS_cols (bitOf s 4) j hN (fun u v : Int => pUp (bitOf s 4) j 0 u.toNat v.toNat) (fun u v h1 h2 => pUp_all _ _ _ _ h1 h2)
                        have G3 := G2.to hgj.below
                        generalize (fun u v : Int => pUp (bitOf s 4) j 0 u.toNat v.toNat) = p at hgr hform
                        rw [← HA.out] at hform
                        have HFO : Hid _ := hform
                        have HGR : Hid _ := hgr
                        clear hform hgr hgj HA
                        go_upto_region 52 with (go_at_call 25; refine (ofGrid_new j _ _ p _ HGR.out hN).mono ?_; rintro e w6 ⟨hb6, oo, oc, rfl, hY, hfr⟩)
                        have tg := two_new w6 (.int .i64 j) (.slice oo (allP j p).length oc) 24
                        have q6 := below_alloc (Below.refl w6.heap.size w6) (Obj.cells #[.int .i64 j, .slice oo (allP j p).length oc] 24)
                        have G4 := G3.to (below_next hb6 q6)
                        have hY2 := hY.below q6
                        have hfr2 : ∀ x, oo = some x → w.heap.size + 2 ≤ x.block := fun x hx => Nat.le_trans G3.size (hfr x hx)
                        have hbg : w.heap.size + 2 ≤ w6.heap.size := Nat.le_trans G3.size hb6.size
                        generalize w6.heap.size = bg at tg hbg ⊢
                        generalize w6.alloc (Obj.cells #[.int .i64 j, .slice oo (allP j p).length oc] 24) = U at tg G4 hY2 ⊢
                        clear hb6 hY hfr q6
                        obtain ⟨c0, c1⟩ := cell_two tg
                        by_cases hmany : 1000 < (allP j p).length
                        · have hA2 := HFO.out
                          rw [if_pos hmany] at hA2
                          subst hA2
                          have l9 : (1000 : Int) < ((allP j p).length : Int) := by omega
                          go_wp2_with (go_at_call 17; refine (refF_any _ _ _).mono ?_; rintro e w9 ⟨rfl, hb9⟩; obtain ⟨z0, z1, z2⟩ := kk (two_next G4.r0 hb9); obtain ⟨y0, y1, y2⟩ := kapart (two_next G4.r1 hb9) (show w.heap.size ≠ w.heap.size + 1 by omega))
                          obtain ⟨⟨r3, r4, r5, r6⟩, hb2⟩ := ends (two_next G4.r0 hb9) (two_next G4.r1 hb9) (below_next G4.below hb9) (.int .i64 0) (.slice none 0 0) (.int .i64 2) (.int .i64 0)
                          exact bodyPost_ret (v := .tuple #[.agg #[.int .i64 0, .slice none 0 0], .agg #[.int .i64 2, .int .i64 0]]) (by simp [results, Tryd.results15, go_sem, r3, r4, r5, r6]) rfl ⟨hb2, none, 0, rfl, edgesAt_nil _, fun x h => by cases h⟩
                        · have hA2 := HFO.out
                          rw [if_neg hmany] at hA2
                          subst hA2
                          have l9 : ¬ (1000 : Int) < ((allP j p).length : Int) := by omega
                          obtain ⟨z0, z1, z2⟩ := kk G4.r0
                          obtain ⟨y0, y1, y2⟩ := kapart G4.r1 (show w.heap.size ≠ w.heap.size + 1 by omega)
                          go_wp2
                          obtain ⟨⟨r3, r4, r5, r6⟩, hb9⟩ := ends G4.r0 G4.r1 G4.below (.int .i64 j) (.slice oo (allP j p).length oc) (.int .i64 0) (.int .i64 0)
                          exact bodyPost_ret (v := .tuple #[.agg #[.int .i64 j, .slice oo (allP j p).length oc], .agg #[.int .i64 0, .int .i64 0]]) (by simp [results, Tryd.results15, go_sem, r3, r4, r5, r6]) rfl ⟨hb9, oo, oc, rfl, (((hY2.setCell (fun x hx => by have := hfr2 x hx; simp; omega) _).setCell (fun x hx => by have := hfr2 x hx; simp; omega) _).setCell (fun x hx => by have := hfr2 x hx; simp; omega) _).setCell (fun x hx => by have := hfr2 x hx; simp; omega) _, fun x hx => by have := hfr2 x hx; omega⟩

end Go.Proofs.YtbaghbodjpehpaaDoor
