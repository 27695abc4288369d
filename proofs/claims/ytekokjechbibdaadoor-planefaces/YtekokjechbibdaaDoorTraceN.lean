/- hasEachOnce, checkRound: a list has just the nodes of a set, each once. What trace holds in memory. -/
import Derived.Test.YtekokjechbibdaaDoorRowsP
namespace Go.Proofs.YtekokjechbibdaaDoor
set_option maxRecDepth 8000
open Go.RowKit Go.Maps
attribute [local go_sem ↓] Go.wp_at_zero Go.wp_at_succ
def eachB : List Int → Nat → Nat → Bool
  | [], told, s => told == s
  | x :: l, told, s => if x < 0 ∨ 100 ≤ x ∨ told.testBit x.toNat = true then false else eachB l (sAdd told x.toNat) s
theorem eachB_bad {x : Int} {l : List Int} {told s : Nat} (h : x < 0 ∨ 100 ≤ x ∨ told.testBit x.toNat = true) : eachB (x :: l) told s = false := by rw [eachB, if_pos h]
theorem eachB_go {x : Int} {l : List Int} {told s : Nat} (h1 : ¬ x < 0) (h2 : ¬ 100 ≤ x) (h3 : told.testBit x.toNat = false) : eachB (x :: l) told s = eachB l (sAdd told x.toNat) s := by
  rw [eachB, if_neg]
  rintro (h | h | h)
  · exact h1 h
  · exact h2 h
  · rw [h3] at h; cases h
set_option maxHeartbeats 2000000 in
theorem eachOnce_call {w : World} {v : Value} {l : List Int} {s : Nat} (hv : IntsAt w v l) (hs : s < 2 ^ 128) :
    Calls Tryd.prog 50 #[v, sv s] w fun e w' => e = .returned (.bool (eachB l 0 s)) ∧ Below w.heap.size w w' := by
  obtain ⟨ao, cap, rfl, hlen, _, hcells⟩ := hv
  have HC : Hid (∀ k (h : k < l.length), ∃ b off, ao = some ⟨b, off, none⟩ ∧ w.cell? ⟨b, off + k, none⟩ = some (.int .i64 l[k])) := hcells
  obtain ⟨R, hR⟩ : ∃ R, R = eachB l 0 s := ⟨_, rfl⟩
  rw [← hR]
  have HR : Hid (R = eachB l 0 s) := hR
  obtain ⟨m, hm⟩ : ∃ m, m = l.length := ⟨_, rfl⟩
  rw [← hm] at hlen ⊢
  have HM : Hid (m = l.length) := hm
  have HS : Hid (s < 2 ^ 128) := hs
  clear hcells hR hm hs
  go_enter Tryd.func50, Tryd.ntmps50
  go_upto_region 3 with (fail)
  have x3 : SBox ((w.alloc (Obj.cells #[.int .u64 (lo64 s : Int), .int .u64 (hi64 s : Int)] 76)).alloc (Obj.cells #[.int .u64 0, .int .u64 0] 76)) w.heap.size s := two_alloc (two_new _ _ _ _) _
  have x5 : SBox ((w.alloc (Obj.cells #[.int .u64 (lo64 s : Int), .int .u64 (hi64 s : Int)] 76)).alloc (Obj.cells #[.int .u64 0, .int .u64 0] 76)) (w.heap.size + 1) 0 := sbox_zero (two_nxt _ _ _ _ _)
  have hB0 : Below w.heap.size w ((w.alloc (Obj.cells #[.int .u64 (lo64 s : Int), .int .u64 (hi64 s : Int)] 76)).alloc (Obj.cells #[.int .u64 0, .int .u64 0] 76)) := below_alloc (below_alloc (Below.refl _ w) _) _
  obtain ⟨b, hb⟩ : ∃ b, b = w.heap.size := ⟨_, rfl⟩
  rw [← hb] at x3 x5 ⊢
  generalize (w.alloc (Obj.cells #[.int .u64 (lo64 s : Int), .int .u64 (hi64 s : Int)] 76)).alloc (Obj.cells #[.int .u64 0, .int .u64 0] 76) = W1 at *
  have HX : Hid (SBox W1 b s ∧ SBox W1 (b + 1) 0 ∧ Below w.heap.size w W1 ∧ b = w.heap.size) := ⟨x3, x5, hB0, hb⟩
  clear x3 x5 hB0 hb
  go_loopw [10] (fun s10 wz => ∃ k told : Nat, k ≤ m ∧ s10 = .int .i64 (k : Int) ∧ told < 2 ^ 128 ∧ SBox wz (b + 1) told ∧ SBox wz b s ∧ Below w.heap.size w wz ∧ R = eachB (l.drop k) told s) (fun s10 _ => m - (numOf s10).toNat)
  case atStart => exact ⟨0, 0, Nat.zero_le _, rfl, by decide, HX.out.2.1, HX.out.1, HX.out.2.2.1, HR.out⟩
  case round =>
    obtain ⟨k, told, hk, rfl, htl, h5, h3, hB, hRk⟩ := hrel
    obtain ⟨c0, c1⟩ := cell_two h5
    obtain ⟨c2, c3⟩ := cell_two h3
    have HW : Hid (told < 2 ^ 128 ∧ SBox wr (b + 1) told ∧ SBox wr b s ∧ Below w.heap.size w wr) := ⟨htl, h5, h3, hB⟩
    by_cases hlt : k < m
    · have hlt' : k < l.length := by have := HM.out; omega
      obtain ⟨bb, off, rfl, cx⟩ := HC.out k hlt'
      have cx := (hB.cell (World.block_lt_of_cell? w _ cx)).trans cx
      have hdr : l.drop k = l[k] :: l.drop (k + 1) := List.drop_eq_getElem_cons hlt'
      rw [hdr] at hRk
      have HRK : Hid _ := hRk
      have i1 : (0 : Int) ≤ (k : Int) := by omega
      have i2 : (k : Int) < (m : Int) := by omega
      clear htl h5 h3 hB hdr hRk
      generalize l[k] = x at *
      by_cases hx0 : x < 0
      · have HF : Hid (R = false) := HRK.out.trans (eachB_bad (Or.inl hx0))
        go_wp2
        go_ret
        exact ⟨by rw [HF.out]; rfl, HW.out.2.2.2⟩
      · by_cases hx1 : 100 ≤ x
        · have HF : Hid (R = false) := HRK.out.trans (eachB_bad (Or.inr (Or.inl hx1)))
          go_wp2
          go_ret
          exact ⟨by rw [HF.out]; rfl, HW.out.2.2.2⟩
        · obtain ⟨u, hu⟩ : ∃ u : Nat, x = (u : Int) := ⟨x.toNat, by omega⟩
          subst hu
          have hu : u < 100 := by omega
          have C40 : Hid (Calls Tryd.prog 40 #[sv told, .int .i64 (u : Int)] wr fun e w' => e = .returned (.bool (told.testBit u)) ∧ Below wr.heap.size wr w') := has_call HW.out.1 (by omega)
          cases hbt : told.testBit u with
          | true =>
            rw [hbt] at C40
            have HF : Hid (R = false) := HRK.out.trans (eachB_bad (Or.inr (Or.inr hbt)))
            clear hbt
            go_wp2_with (first | (go_at_call 40; refine Calls.mono C40.out ?_; rintro e w2 ⟨rfl, h2⟩) | go_in)
            go_ret
            exact ⟨by rw [HF.out]; rfl, below_next HW.out.2.2.2 h2⟩
          | false =>
            rw [hbt] at C40
            have HF : Hid (R = eachB (l.drop (k + 1)) (sAdd told u) s) := HRK.out.trans (eachB_go hx0 hx1 hbt)
            have C48 : Hid (∀ A, Below wr.heap.size wr A → Calls Tryd.prog 48 #[.pointer (some ⟨b + 1, 0, none⟩), .int .i64 (u : Int)] A fun e w' => e = .returned (.tuple #[]) ∧ SBox w' (b + 1) (sAdd told u) ∧ Turns (fun k => k = b + 1) A w') := fun A hA => add_sbox HW.out.1 (by omega) (two_next HW.out.2.1 hA)
            clear hbt
            go_wp2_with (first | (go_at_call 40; refine Calls.mono C40.out ?_; rintro e w2 ⟨rfl, h2⟩) | (go_at_call 48; refine Calls.mono (C48.out _ h2) ?_; rintro e w3 ⟨rfl, h3, t3⟩) | go_in)
            go_roundw
            case rel => exact ⟨k + 1, sAdd told u, by omega, by go_num, add_lt HW.out.1 (by omega), h3, two_turns (two_next HW.out.2.2.1 h2) t3 (by omega), t3.below (below_next HW.out.2.2.2 h2) (below_next HW.out.2.2.2 h2).size (fun k e => by have := HX.out.2.2.2; omega), HF.out⟩
            case measure => simp [numOf]; omega
    · have hkm : k = m := by omega
      have i2 : ¬ (k : Int) < (m : Int) := by omega
      have HF : Hid (R = (told == s)) := by
        rw [List.drop_of_length_le (by have := HM.out; omega)] at hRk
        exact hRk
      have heq := eql76 htl HS.out
      clear htl h5 h3 hB hRk hkm
      go_wp2
      go_ret
      exact ⟨by rw [HF.out]; rfl, HW.out.2.2.2⟩
def roundBad (near : List Nat) : Nat → List (List Int) → Int × Int
  | _, [] => (0, 0)
  | v, l :: ls => if eachB l 0 (at' near v) = true then roundBad near (v + 1) ls else (7, (v : Int))
/-- What checkRound tells. -/
def roundS (near : List Nat) (ls : List (List Int)) : Int × Int := if ls.length = near.length then roundBad near 0 ls else (6, 0)
set_option maxHeartbeats 2000000 in
theorem checkRound_call {w : World} {bn : Nat} {near : List Nat} {v : Value} {ls : List (List Int)} (hn : SetsAt w bn near) (hl : near.length ≤ 100) (hv : RowsAt w v ls) :
    Calls Tryd.prog 32 #[sl bn near.length, v] w fun e w' => e = .returned (.agg #[.int .i64 (roundS near ls).1, .int .i64 (roundS near ls).2]) ∧ Below w.heap.size w w' := by
  obtain ⟨ao, cap, rfl, _, hlen, hrows⟩ := hv
  have HR : Hid (∀ i (h : i < ls.length), ∃ b off x, ao = some ⟨b, off, none⟩ ∧ w.cell? ⟨b, off + i, none⟩ = some x ∧ IntsAt w x ls[i]) := hrows
  have HN : Hid (SetsAt w bn near) := hn
  obtain ⟨R, hR⟩ : ∃ R, R = roundS near ls := ⟨_, rfl⟩
  rw [← hR]
  have HRR : Hid (R = roundS near ls) := hR
  obtain ⟨N, hN⟩ : ∃ N, N = near.length := ⟨_, rfl⟩
  obtain ⟨m, hm⟩ : ∃ m, m = ls.length := ⟨_, rfl⟩
  rw [← hN] at hl ⊢
  rw [← hm] at hlen ⊢
  have HM : Hid (m = ls.length ∧ N = near.length) := ⟨hm, hN⟩
  clear hn hrows hR hN hm
  have x4 := two_new w (.int .i64 0) (.int .i64 0) 27
  have hB0 : Below w.heap.size w (w.alloc (Obj.cells #[.int .i64 0, .int .i64 0] 27)) := below_alloc (Below.refl _ w) _
  go_enter Tryd.func32, Tryd.ntmps32
  go_upto_region 1 with (fail)
  generalize hb : w.heap.size = b at x4 ⊢
  generalize w.alloc (Obj.cells #[.int .i64 0, .int .i64 0] 27) = W1 at *
  have HX : Hid (Two W1 b (.int .i64 0) (.int .i64 0) 27 ∧ Below w.heap.size w W1 ∧ w.heap.size ≤ b) := ⟨x4, hB0, by omega⟩
  clear x4 hB0 hb
  have KS : Hid (∀ A x y, Two A b x y 27 → ∀ p q : Int, A.cell? ⟨b, 0, none⟩ = some x ∧ A.cell? ⟨b, 1, none⟩ = some y ∧ A.frozen? ⟨b, 0, none⟩ = false ∧ (A.setCell ⟨b, 0, none⟩ (.int .i64 p)).cell? ⟨b, 1, none⟩ = some y ∧ (A.setCell ⟨b, 0, none⟩ (.int .i64 p)).frozen? ⟨b, 1, none⟩ = false ∧ Two ((A.setCell ⟨b, 0, none⟩ (.int .i64 p)).setCell ⟨b, 1, none⟩ (.int .i64 q)) b (.int .i64 p) (.int .i64 q) 27) := fun A x y hA p q => by
    have bx1 := box_set hA 0 (.int .i64 p)
    exact ⟨(cell_two hA).1, (cell_two hA).2, box_free hA 0, box_cell bx1 (i := 1) rfl, box_free bx1 1, two_setN hA⟩
  by_cases hmN : m = N
  · have HF : Hid (R = roundBad near 0 ls) := by
      show R = _
      rw [HRR.out, roundS, if_pos (by have := HM.out; omega)]
    have e1 : ((m : Int) != (N : Int)) = false := by simp; omega
    have HE : Hid (m = N) := hmN
    clear hmN
    go_upto_region 4 with (fail)
    go_loopw [15] (fun s15 wz => ∃ k : Nat, k ≤ m ∧ s15 = .int .i64 (k : Int) ∧ Two wz b (.int .i64 0) (.int .i64 0) 27 ∧ Below w.heap.size w wz ∧ R = roundBad near k (ls.drop k)) (fun s15 _ => m - (numOf s15).toNat)
    case atStart => exact ⟨0, Nat.zero_le _, rfl, HX.out.1, HX.out.2.1, HF.out⟩
    case round =>
      obtain ⟨k, hk, rfl, h4, hB, hRk⟩ := hrel
      have HW : Hid (Two wr b (.int .i64 0) (.int .i64 0) 27 ∧ Below w.heap.size w wr) := ⟨h4, hB⟩
      by_cases hlt : k < m
      · have hlt' : k < ls.length := by have := HM.out; omega
        obtain ⟨bb, off, x, rfl, cx, hx⟩ := HR.out k hlt'
        have cx := (hB.cell (World.block_lt_of_cell? w _ cx)).trans cx
        have hdr : ls.drop k = ls[k] :: ls.drop (k + 1) := List.drop_eq_getElem_cons hlt'
        rw [hdr] at hRk
        have hso : near[k]? = some (at' near k) := at_some (by have := HM.out; have := HE.out; omega)
        have hal := at_lt HN.out.lt k
        obtain ⟨n0, n1⟩ := (HN.out.under hB).cell hso
        have C50 : Hid (Calls Tryd.prog 50 #[x, sv (at' near k)] wr fun e w' => e = .returned (.bool (eachB ls[k] 0 (at' near k))) ∧ Below wr.heap.size wr w') := eachOnce_call (hx.below hB) hal
        have i1 : (0 : Int) ≤ (k : Int) := by omega
        have i2 : (k : Int) < (m : Int) := by omega
        have i3 : (k : Int) < (N : Int) := by have := HE.out; omega
        have HRK : Hid (R = if eachB ls[k] 0 (at' near k) = true then roundBad near (k + 1) (ls.drop (k + 1)) else (7, (k : Int))) := hRk
        clear h4 hB hdr hRk hal hso
        generalize eachB ls[k] 0 (at' near k) = eb at *
        generalize at' near k = ak at *
        obtain ⟨xo, xc, hxe, h9⟩ := hx
        clear h9
        generalize ls[k].length = xl at hxe
        subst hxe
        cases eb with
        | true =>
          go_wp2_with (first | (go_at_call 50; refine Calls.mono C50.out ?_; rintro e w2 ⟨rfl, h2⟩) | go_in)
          go_roundw
          case rel => exact ⟨k + 1, by omega, by go_num, two_next HW.out.1 h2, below_next HW.out.2 h2, by have := HRK.out; simpa using this⟩
          case measure => simp [numOf]; omega
        | false =>
          have HF2 : Hid (R = (7, (k : Int))) := by
            show R = _
            have := HRK.out
            simpa using this
          go_wp2_with (first | (go_at_call 50; refine Calls.mono C50.out ?_; rintro e w2 ⟨rfl, h2⟩; obtain ⟨q1, q2, q3, q4, q5, q6⟩ := KS.out w2 _ _ (two_next HW.out.1 h2) 7 (k : Int)) | go_in)
          refine bodyPost_ret (v := .agg #[.int .i64 7, .int .i64 (k : Int)]) ?_ rfl ?_
          · obtain ⟨l0, l1⟩ := cell_two q6
            simp [results, Tryd.results32, go_sem, l0, l1]
          · rw [HF2.out]
            exact ⟨rfl, ((below_next HW.out.2 h2).setCell HX.out.2.2 _).setCell HX.out.2.2 _⟩
      · have i2 : ¬ (k : Int) < (m : Int) := by omega
        have HF2 : Hid (R = (0, 0)) := by
          rw [List.drop_of_length_le (by have := HM.out; omega)] at hRk
          exact hRk
        obtain ⟨q1, q2, q3, q4, q5, q6⟩ := KS.out wr _ _ h4 0 0
        clear h4 hB hRk
        go_wp2
        refine bodyPost_ret (v := .agg #[.int .i64 0, .int .i64 0]) ?_ rfl ?_
        · obtain ⟨l0, l1⟩ := cell_two q6
          simp [results, Tryd.results32, go_sem, l0, l1]
        · rw [HF2.out]
          exact ⟨rfl, (HW.out.2.setCell HX.out.2.2 _).setCell HX.out.2.2 _⟩
  · have HF : Hid (R = (6, 0)) := by
      show R = _
      rw [HRR.out, roundS, if_neg (by have := HM.out; omega)]
    have e1 : ((m : Int) != (N : Int)) = true := by simp; omega
    obtain ⟨q1, q2, q3, q4, q5, q6⟩ := KS.out W1 _ _ HX.out.1 6 0
    clear hmN
    go_wp2
    refine bodyPost_ret (v := .agg #[.int .i64 6, .int .i64 0]) ?_ rfl ?_
    · obtain ⟨l0, l1⟩ := cell_two q6
      simp [results, Tryd.results32, go_sem, l0, l1]
    · rw [HF.out]
      exact ⟨rfl, (HX.out.2.1.setCell HX.out.2.2 _).setCell HX.out.2.2 _⟩
end Go.Proofs.YtekokjechbibdaaDoor

namespace Go.Proofs.YtekokjechbibdaaDoor
set_option maxRecDepth 8000
open Go.RowKit Go.Maps
def castL (l : List Nat) : List Int := l.map fun (x : Nat) => (x : Int)
def castR (rs : List (List Nat)) : List (List Int) := rs.map castL
theorem castL_len (l : List Nat) : (castL l).length = l.length := by simp [castL]
theorem castR_len (rs : List (List Nat)) : (castR rs).length = rs.length := by simp [castR]
/-- Numbers from wherever on. -/
def NumO (w : World) (xo : Option Addr) (l : List Nat) : Prop := ∀ k u : Nat, l[k]? = some u → ∃ b off, xo = some ⟨b, off, none⟩ ∧ w.cell? ⟨b, off + k, none⟩ = some (.int .i64 (u : Int))
theorem NumO.under {w w' : World} {xo : Option Addr} {l : List Nat} {B : Nat} (h : NumO w xo l) (hb : Below B w w') (hB : w.heap.size ≤ B) : NumO w' xo l := fun k u hk => by
  obtain ⟨b, off, e, c⟩ := h k u hk
  have hlt := World.block_lt_of_cell? w _ c
  exact ⟨b, off, e, (hb.cell (p := ⟨b, off + k, none⟩) (Nat.lt_of_lt_of_le hlt hB)).trans c⟩
theorem NumO.below {w w' : World} {xo : Option Addr} {l : List Nat} (h : NumO w xo l) (hb : Below w.heap.size w w') : NumO w' xo l := h.under hb (Nat.le_refl _)
theorem intsAt_castL {w : World} {x : Value} {l : List Nat} (h : IntsAt w x (castL l)) : ∃ xo xc, x = .slice xo l.length xc ∧ NumO w xo l := by
  obtain ⟨ao, cap, rfl, _, _, hc⟩ := h
  refine ⟨ao, cap, by rw [castL_len], fun k u hk => ?_⟩
  obtain ⟨hkl, rfl⟩ := List.getElem?_eq_some_iff.1 hk
  obtain ⟨b, off, e, c⟩ := hc k (by rw [castL_len]; exact hkl)
  exact ⟨b, off, e, by simpa [castL] using c⟩
/-- Rows of numbers, as they came in. -/
theorem rowsAt_castR {w : World} {v : Value} {rs : List (List Nat)} (h : RowsAt w v (castR rs)) : ∃ ao cap, v = .slice ao rs.length cap ∧ ∀ (i : Nat) (l : List Nat), rs[i]? = some l → ∃ b off xo xc, ao = some ⟨b, off, none⟩ ∧ w.cell? ⟨b, off + i, none⟩ = some (.slice xo l.length xc) ∧ NumO w xo l := by
  obtain ⟨ao, cap, rfl, _, _, hr⟩ := h
  refine ⟨ao, cap, by rw [castR_len], fun i l hi => ?_⟩
  obtain ⟨hil, rfl⟩ := List.getElem?_eq_some_iff.1 hi
  obtain ⟨b, off, x, e, c, hx⟩ := hr i (by rw [castR_len]; exact hil)
  have hx' : IntsAt w x (castL rs[i]) := by simpa [castR] using hx
  obtain ⟨xo, xc, rfl, hn⟩ := intsAt_castL hx'
  exact ⟨b, off, xo, xc, e, c, hn⟩
/-- Which stands behind which, round node v. -/
def stepR (v : Nat) (l : List Nat) (M : Nat → Nat → Nat) (i : Nat) : Nat → Nat → Nat := upd2 M v (l.getD i 0) (l.getD ((i + 1) % l.length) 0)
def fillR (v : Nat) (l : List Nat) (k : Nat) (M : Nat → Nat → Nat) : Nat → Nat → Nat := (List.range k).foldl (stepR v l) M
theorem fillR_succ (v : Nat) (l : List Nat) (k : Nat) (M : Nat → Nat → Nat) : fillR v l (k + 1) M = stepR v l (fillR v l k M) k := by unfold fillR; rw [List.range_succ, List.foldl_append]; rfl
def turnsR (rs : List (List Nat)) : Nat → Nat → Nat → Nat
  | 0 => fun _ _ => 0
  | k + 1 => fillR k (rs.getD k []) (rs.getD k []).length (turnsR rs k)
/-- From dart to dart, as long as they are new. -/
def dartL (M : Nat → Nat → Nat) : Nat → Nat → Nat → List Nat × List Nat → List Nat × List Nat
  | 0, _, _, s => s
  | f + 1, a, b, s => if (at' s.1 a).testBit b then s else dartL M f b (M b a) (s.1.set a (sAdd (at' s.1 a) b), s.2 ++ [a])
def dartStep (M : Nat → Nat → Nat) (v u : Nat) (s : List Nat × List (List Nat)) : List Nat × List (List Nat) :=
  let r := dartL M 12801 v u (s.1, [])
  (r.1, if r.2 = [] then s.2 else s.2 ++ [r.2])
def dartsAt (M : Nat → Nat → Nat) (v : Nat) (l : List Nat) (s : List Nat × List (List Nat)) : List Nat × List (List Nat) := l.foldl (fun s u => dartStep M v u s) s
def traceL (M : Nat → Nat → Nat) (near : List Nat) : Nat → List Nat × List (List Nat)
  | 0 => (List.replicate near.length 0, [])
  | v + 1 => dartsAt M v (elems (at' near v)) (traceL M near v)
/-- How many darts were seen. -/
def sumS (l : List Nat) : Nat := (l.map countS).sum
theorem sumS_set : ∀ (l : List Nat) (a t : Nat), a < l.length → countS t = countS (at' l a) + 1 → sumS (l.set a t) = sumS l + 1
  | x :: l, 0, t, _, h => by
    have : at' (x :: l) 0 = x := rfl
    rw [this] at h
    simp [sumS]; omega
  | x :: l, a + 1, t, hl, h => by
    have : at' (x :: l) (a + 1) = at' l a := rfl
    rw [this] at h
    have ih := sumS_set l a t (by simpa using hl) h
    simp [sumS] at ih ⊢
    omega
theorem sumS_le : ∀ (l : List Nat), sumS l ≤ 128 * l.length
  | [] => by simp [sumS]
  | x :: l => by
    have := sumS_le l
    have h2 := count_le x
    simp [sumS] at this ⊢
    omega
/-- A slice of slices of numbers, all of one's own, between lo and hi. -/
structure FacesAt (w : World) (lo hi q : Nat) (v : Value) (ls : List (List Nat)) (vs : List Value) : Prop where
  hl : vs.length = ls.length
  row : w.ownsRow lo 61 1 v ls.length vs
  el : ∀ (i : Nat) (x : Value) (l : List Nat), vs[i]? = some x → ls[i]? = some l → w.ownsRow lo 3 1 x l.length (qv l)
  hv : ∀ g, v.ownBlock = some g → g < hi ∧ ¬ Own3 q g
  hx : ∀ x ∈ vs, ∀ g, x.ownBlock = some g → g < hi ∧ ¬ Own3 q g
section
variable {w w' : World} {lo hi q : Nat} {v : Value} {ls : List (List Nat)} {vs : List Value}
theorem FacesAt.keep (h : FacesAt w lo hi q v ls vs) (hk : ∀ g, lo ≤ g → g < hi → ¬ Own3 q g → w'.heap[g]? = w.heap[g]?) : FacesAt w' lo hi q v ls vs :=
  ⟨h.hl, ownsRow_blocks h.row (fun g hg => hk g (h.row.lt g hg).1 (h.hv g hg).1 (h.hv g hg).2), fun i x l h1 h2 => ownsRow_blocks (h.el i x l h1 h2) (fun g hg => hk g ((h.el i x l h1 h2).lt g hg).1 (h.hx x (List.mem_of_getElem? h1) g hg).1 (h.hx x (List.mem_of_getElem? h1) g hg).2), h.hv, h.hx⟩
theorem FacesAt.turns {M : Nat → Prop} (h : FacesAt w lo hi q v ls vs) (ht : Turns M w w') (hh : hi ≤ w.heap.size) (hm : ∀ g, lo ≤ g → g < hi → ¬ Own3 q g → ¬ M g) : FacesAt w' lo hi q v ls vs :=
  h.keep (fun g h1 h2 h3 => ht.block g (by omega) (hm g h1 h2 h3))
theorem FacesAt.under (h : FacesAt w lo hi q v ls vs) (hb : Below w.heap.size w w') (hh : hi ≤ w.heap.size) : FacesAt w' lo hi q v ls vs := h.keep (fun g _ h2 _ => hb.block g (by omega))
theorem FacesAt.raise {hi' : Nat} (h : FacesAt w lo hi q v ls vs) (hh : hi ≤ hi') : FacesAt w lo hi' q v ls vs :=
  ⟨h.hl, h.row, h.el, fun g hg => ⟨by have := (h.hv g hg).1; omega, (h.hv g hg).2⟩, fun x hx g hg => ⟨by have := (h.hx x hx g hg).1; omega, (h.hx x hx g hg).2⟩⟩
theorem FacesAt.next {q' : Nat} (h : FacesAt w lo hi q v ls vs) (hh : hi ≤ q') : FacesAt w lo hi q' v ls vs :=
  ⟨h.hl, h.row, h.el, fun g hg => ⟨(h.hv g hg).1, fun e => by have := (h.hv g hg).1; have := e.1; omega⟩, fun x hx g hg => ⟨(h.hx x hx g hg).1, fun e => by have := (h.hx x hx g hg).1; have := e.1; omega⟩⟩
theorem facesAt_nil (w : World) (lo hi q : Nat) : FacesAt w lo hi q (.slice none 0 0) [] [] := ⟨rfl, World.ownsRow_nil _ _ _ _, fun i x l h => (by simp at h), fun g hg => (by cases hg), fun x hx => (by cases hx)⟩
/-- One list more. -/
theorem FacesAt.push (h : FacesAt w lo hi q v ls vs) (hh : hi ≤ w.heap.size) (hq : q + 3 ≤ hi) {x y : Value} {l : List Nat} {o : Obj} (hx : w.ownsRow hi 3 1 x l.length (qv l)) (hlo : lo ≤ hi) {w1 : World} (hg : (w.alloc o).grownBy w1 v.ownBlock) (hr : w1.ownsRow lo 61 1 y (ls.length + 1) (vs ++ [x])) (hy : y.ownBlock = v.ownBlock ∨ y.ownBlock = some (w.alloc o).heap.size) (hs : (w.alloc o).heap.size ≤ w1.heap.size) (hlt : ∀ g, y.ownBlock = some g → g < w1.heap.size) :
    FacesAt w1 lo w1.heap.size q y (ls ++ [l]) (vs ++ [x]) := by
  have hw1 : w.heap.size < w1.heap.size := by rw [World.size_alloc] at hs; omega
  have T := (alloc_turns w o (fun k => some k = v.ownBlock)).trans (Turns.of_grown hg)
  have key : ∀ {x : Value} {b n : Nat} {xs : List Value}, w.ownsRow b 3 1 x n xs → w1.ownsRow b 3 1 x n xs := by
    intro x b n xs ho
    refine ownsRow_blocks ho fun b hb => T.block b (ho.lt b hb).2 fun hmb => ?_
    obtain ⟨c1, h1⟩ := own_cells ho hb
    obtain ⟨c2, h2⟩ := own_cells h.row hmb.symm
    rw [h1] at h2; simp at h2
  refine ⟨by simp [h.hl], by simpa using hr, fun i z m hz hm => ?_, fun g hg => ⟨hlt g hg, ?_⟩, fun z hz g hgz => ?_⟩
  · by_cases hi' : i < ls.length
    · rw [List.getElem?_append_left (by rw [h.hl]; exact hi')] at hz
      rw [List.getElem?_append_left hi'] at hm
      exact key (h.el i z m hz hm)
    · rw [List.getElem?_append_right (by rw [h.hl]; omega)] at hz
      rw [List.getElem?_append_right (by omega)] at hm
      by_cases h0 : i - ls.length = 0
      · rw [h.hl, h0] at hz; rw [h0] at hm
        simp at hz hm
        subst hz; subst hm
        exact ownsRow_base (key hx) hlo
      · rw [List.getElem?_eq_none (by simp; omega)] at hm; cases hm
  · rcases hy with e | e
    · rw [e] at hg; exact (h.hv g hg).2
    · rw [e] at hg; cases hg
      intro e2
      have := e2.2
      rw [World.size_alloc] at this
      omega
  · rcases List.mem_append.1 hz with h1 | h1
    · exact ⟨by have := (h.hx z h1 g hgz).1; omega, (h.hx z h1 g hgz).2⟩
    · rw [List.mem_singleton] at h1
      subst h1
      have := hx.lt g hgz
      exact ⟨by omega, fun e => by have := e.2; omega⟩
end
/-- What lies in memory while the darts of node v are gone along. -/
structure RT (w W : World) (bm bf bs b12 q n N v : Nat) (M : Nat → Nat → Nat) (seen : List Nat) (fx : Value) (ls : List (List Nat)) (vs : List Value) (hi : Nat) : Prop where
  mp : One W (bm + 1) (.map (some bm)) 84
  tm : TurnM W bm n M
  fb : One W bf fx 29
  sb : One W (bs + 1) (sl bs N) 58
  sets : SetsAt W bs seen
  v12 : One W b12 (.int .i64 (v : Int)) 3
  fc : FacesAt W (bs + 2) hi q fx ls vs
  below : Below w.heap.size w W
  hs : hi ≤ W.heap.size
def ApT (n bm bf bs b12 q : Nat) : Prop := n ≤ bm ∧ bm + 1 < bf ∧ bf < bs ∧ bs + 1 < b12 ∧ b12 < q
section
variable {w W W' : World} {bm bf bs b12 q n N v hi : Nat} {M : Nat → Nat → Nat} {seen : List Nat} {fx : Value} {ls : List (List Nat)} {vs : List Value}
theorem RT.turns {S : Nat → Prop} (h : RT w W bm bf bs b12 q n N v M seen fx ls vs hi) (ha : ApT w.heap.size bm bf bs b12 q) (ht : Turns S W W') (hS : ∀ k, S k → q ≤ k) (hf : ∀ g, bs + 2 ≤ g → g < hi → ¬ Own3 q g → ¬ S g) : RT w W' bm bf bs b12 q n N v M seen fx ls vs hi := by
  obtain ⟨a1, a2, a3, a4, a5⟩ := ha
  exact ⟨one_turns h.mp ht (fun e => by have := hS _ e; omega), h.tm.turns ht (fun e => by have := hS _ e; omega), one_turns h.fb ht (fun e => by have := hS _ e; omega), one_turns h.sb ht (fun e => by have := hS _ e; omega), h.sets.turns ht (fun e => by have := hS _ e; omega), one_turns h.v12 ht (fun e => by have := hS _ e; omega), h.fc.turns ht h.hs hf, ht.below h.below h.below.size (fun k e => by have := hS _ e; omega), Nat.le_trans h.hs ht.size⟩
theorem RT.under (h : RT w W bm bf bs b12 q n N v M seen fx ls vs hi) (hb : Below W.heap.size W W') : RT w W' bm bf bs b12 q n N v M seen fx ls vs hi :=
  have k : ∀ {b : Nat} {cs : Array Value} {t : TypeId}, Box W b cs t → Box W' b cs t := fun h => (hb.block _ (lt_of_block h)).trans h
  ⟨k h.mp, h.tm.under hb, k h.fb, k h.sb, h.sets.under hb, k h.v12, h.fc.under hb h.hs, below_next h.below hb, Nat.le_trans h.hs hb.size⟩
theorem RT.tell {seen' : List Nat} (h : RT w W bm bf bs b12 q n N v M seen fx ls vs hi) (ha : ApT w.heap.size bm bf bs b12 q) (ht : Turns (fun k => k = bs) W W') (hs : SetsAt W' bs seen') : RT w W' bm bf bs b12 q n N v M seen' fx ls vs hi := by
  obtain ⟨a1, a2, a3, a4, a5⟩ := ha
  exact ⟨one_turns h.mp ht (by omega), h.tm.turns ht (by omega), one_turns h.fb ht (by omega), one_turns h.sb ht (by omega), hs, one_turns h.v12 ht (by omega), h.fc.turns ht h.hs (fun g h1 _ _ => by omega), ht.below h.below h.below.size (fun k e => by omega), Nat.le_trans h.hs ht.size⟩
end
/-- What the operations of a region that only reads leave. -/
structure SD (W : World) (V : Nat → Value) (L : Nat → Bool) (f : Nat → Value) (w : World) : Prop where
  told : ∀ i, L i = true → f i = V i
  b : Below W.heap.size W w
theorem SD.start {W : World} {V : Nat → Value} {f : Nat → Value} : SD W V (fun _ => false) f W.drew := ⟨fun _ h => (by cases h), (Below.refl _ W).drew⟩
theorem SD.put {W : World} {V : Nat → Value} {L : Nat → Bool} {f : Nat → Value} {w w' : World} (h : SD W V L f w) (i : Nat) (hb : Below w.heap.size w w') : SD W V (also L i) (updV f i (V i)) w' :=
  ⟨fun j hk => by
    by_cases e : j = i
    · subst e; exact updV_same _ _ _
    · rw [updV_ne _ _ e]; exact h.told j (by rwa [also_at e] at hk), below_next h.b hb⟩
end Go.Proofs.YtekokjechbibdaaDoor
